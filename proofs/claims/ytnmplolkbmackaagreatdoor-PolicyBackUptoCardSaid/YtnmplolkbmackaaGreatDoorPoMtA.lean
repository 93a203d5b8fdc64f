/- What policy.inside answers, with the place where its elements lie, and what policy.meetPaths answers: the cover of what both lists allow. -/
import Derived.Test.YtnmplolkbmackaaGreatDoorPgN
import Derived.Laws.AppendOwnNone
namespace Go.Proofs.YtnmplolkbmackaaGreatDoor
open Go.RowKit

namespace Pl
/-- What two lists allow together, as a list. -/
def metL (l m : List (List ByteArray)) : List (List ByteArray) := l.filter (insideB m) ++ m.filter (insideB l)
theorem metL_len (l m : List (List ByteArray)) : (metL l m).length ≤ l.length + m.length := by
  unfold metL
  rw [List.length_append]
  exact Nat.add_le_add (List.length_filter_le _ _) (List.length_filter_le _ _)
end Pl

theorem own_forms {w : World} {base n : Nat} {e : TypeId} {v : Value} {xs : List Value} (h : w.ownsRow base e 1 v n xs) : (v = .slice none 0 0 ∧ n = 0) ∨ ∃ g cap, v = .slice (some ⟨g, 0, none⟩) n cap := by
  rcases h.2 with ⟨hv, hn⟩ | ⟨g, cap, cur, hv, _⟩
  · exact .inl ⟨hv, hn⟩
  · exact .inr ⟨g, cap, hv⟩
/-- The values xs read as the paths l, each of which lies below n. -/
def EltsN (w : World) (n : Nat) (xs : List Value) (l : List (List ByteArray)) : Prop :=
  ∀ i (h : i < l.length), ∃ x c, xs[i]? = some (.slice x (l[i]'h).length c) ∧ Strs w x c (l[i]'h) ∧ ((l[i]'h) ≠ [] → ∀ ad, x = some ad → ad.block < n)
theorem EltsN.below {w w' : World} {n : Nat} {xs : List Value} {l : List (List ByteArray)} (h : EltsN w n xs l) (hb : Below w.heap.size w w') : EltsN w' n xs l := fun i hi => by
  obtain ⟨x, c, h1, h2, h3⟩ := h i hi
  exact ⟨x, c, h1, h2.below hb, h3⟩
theorem EltsN.elts {w : World} {n : Nat} {xs : List Value} {l : List (List ByteArray)} {row : Option Nat} (h : EltsN w n xs l) (hr : ∀ m, row = some m → n ≤ m) : Elts w row xs l := fun i hi => by
  obtain ⟨x, c, h1, h2, h3⟩ := h i hi
  refine ⟨x, c, h1, h2, fun hl ad e q => ?_⟩
  have k1 := h3 hl ad e
  have k2 := hr _ q.symm
  omega
theorem EltsN.app {w : World} {n : Nat} {xs ys : List Value} {l m : List (List ByteArray)} (hx : xs.length = l.length) (h : EltsN w n xs l) (h' : EltsN w n ys m) : EltsN w n (xs ++ ys) (l ++ m) := fun i hi => by
  by_cases k : i < l.length
  · obtain ⟨x, c, k1, k2, k3⟩ := h i k
    refine ⟨x, c, ?_, ?_, ?_⟩
    · rw [List.getElem?_append_left (by omega), k1, List.getElem_append_left k]
    · rw [List.getElem_append_left k]; exact k2
    · rw [List.getElem_append_left k]; exact k3
  · have hi2 : i - l.length < m.length := by rw [List.length_append] at hi; omega
    obtain ⟨x, c, k1, k2, k3⟩ := h' (i - l.length) hi2
    refine ⟨x, c, ?_, ?_, ?_⟩
    · rw [List.getElem?_append_right (by omega), hx, k1, List.getElem_append_right (by omega)]
    · rw [List.getElem_append_right (by omega)]; exact k2
    · rw [List.getElem_append_right (by omega)]; exact k3
theorem EltsN.grown {w w' : World} {n : Nat} {xs : List Value} {l : List (List ByteArray)} {row : Option Nat} (h : EltsN w n xs l) (hg : w.grownBy w' row) (hr : ∀ m, row = some m → n ≤ m) : EltsN w' n xs l := fun i hi => by
  obtain ⟨x, c, h1, h2, h3⟩ := h i hi
  refine ⟨x, c, h1, h2.grownO hg (fun hl ad e q => ?_), h3⟩
  have k1 := h3 hl ad e
  have k2 := hr _ q.symm
  omega
/-- A row of the call's own that reads as the paths l, each of which lies below n. -/
def PRowN (w : World) (base n : Nat) (v : Value) (l : List (List ByteArray)) : Prop := ∃ xs, w.ownsRow base 26 1 v l.length xs ∧ EltsN w n xs l
theorem PRowN.row {w : World} {base n : Nat} {v : Value} {l : List (List ByteArray)} (h : PRowN w base n v l) (hn : n ≤ base) : PRow w base v l := by
  obtain ⟨xs, h1, h2⟩ := h
  exact ⟨xs, h1, h2.elts fun m e => Nat.le_trans hn (h1.lt m e).1⟩
theorem PRowN.below {w w' : World} {base n : Nat} {v : Value} {l : List (List ByteArray)} (h : PRowN w base n v l) (hb : Below w.heap.size w w') : PRowN w' base n v l := by
  obtain ⟨xs, h1, h2⟩ := h
  exact ⟨xs, own_below h1 hb, h2.below hb⟩
theorem PRowN.empty (w : World) (base n : Nat) : PRowN w base n (.slice none 0 0) [] := ⟨[], World.ownsRow_nil _ _ _ _, fun i h => absurd h (by simp)⟩

set_option maxRecDepth 100000 in
set_option maxHeartbeats 1000000 in
theorem pinside_far (a ao : Option Addr) (cap co : Nat) (l m : List (List ByteArray)) (w0 w : World) (h : Pts w0 a cap l) (ho : Pts w0 ao co m) (hb0 : Below w0.heap.size w0 w) :
    Calls Tryz.prog 72 #[.slice a l.length cap, .slice ao m.length co] w fun e w' => ∃ v, e = .returned v ∧ PRowN w' w.heap.size w0.heap.size v (l.filter (Pl.insideB m)) ∧ Below w.heap.size w w' := by
  obtain ⟨i0, hi, hz0, hz1, hz2⟩ := info_parts Tryz.infoPath
  have hl := h.len
  have hlm := ho.len
  have hs0 := hb0.size
  go_enter Tryz.func72, Tryz.ntmps72
  go_wp2_with fail
  go_loopw [5, 7, 10] (fun v _ i wr => ∃ k : Nat, k ≤ l.length ∧ i = .int .i64 k ∧ PRowN wr w.heap.size w0.heap.size v ((l.take k).filter (Pl.insideB m)) ∧ Below w.heap.size w wr) (fun _ _ i _ => l.length - (intOf i).toNat)
  case atStart => exact ⟨0, Nat.zero_le _, rfl, PRowN.empty _ _ _, Below.refl _ _⟩
  case round =>
    obtain ⟨k, hk, rfl, hpr, hnx⟩ := hrel
    have hsz := hnx.size
    by_cases hlt : k < l.length
    · obtain ⟨b, off, x, c, rfl, hb, hc, hs⟩ := h.cells k hlt
      have hx0 : l[k] ≠ [] → ∀ ad, x = some ad → ad.block < w0.heap.size := hs.lt
      have hcw := (hb0.cell (p := ⟨b, off + k, none⟩) hb).trans hc
      have hc := (hnx.cell (p := ⟨b, off + k, none⟩) (Nat.lt_of_lt_of_le hb hs0)).trans hcw
      have hs := (hs.below hb0).below hnx
      have HY : Hid (Pl.insideB m (l[k]'hlt) = true → (l.take (k + 1)).filter (Pl.insideB m) = (l.take k).filter (Pl.insideB m) ++ [l[k]'hlt]) := Pl.filter_yes hlt
      have HN : Hid (Pl.insideB m (l[k]'hlt) = false → (l.take (k + 1)).filter (Pl.insideB m) = (l.take k).filter (Pl.insideB m)) := Pl.filter_no hlt
      have hkl : ((l.take k).filter (Pl.insideB m)).length ≤ k := Nat.le_trans (List.length_filter_le _ _) (by simp; omega)
      have hxl := hs.len
      clear hcw
      generalize l[k]'hlt = p at *
      generalize (l.take k).filter (Pl.insideB m) = t at *
      have i1 : (k : Int) < (l.length : Int) := by omega
      have HO : Hid (Pts wr ao co m) := (ho.below hb0).below hnx
      have HX : Hid (p ≠ [] → ∀ ad, x = some ad → ad.block < w0.heap.size) := hx0
      have HPR : Hid (PRowN wr w.heap.size w0.heap.size _ t) := hpr
      clear hx0 hpr
      cases hp : Pl.insideB m p
      · have HE : Hid ((l.take (k + 1)).filter (Pl.insideB m) = t) := HN.out hp
        go_wp2_with fail
        refine (inside_any _ _ _ _ m p _ HO.out hs).mono ?_
        rw [hp]
        rintro e w1 ⟨rfl, hb1⟩
        have hB1 := hnx.trans (hb1.mono hsz)
        have HR1 : Hid (PRowN w1 w.heap.size w0.heap.size _ t) := HPR.out.below hb1
        go_wp2_with fail
        go_roundw
        case rel => exact ⟨k + 1, by omega, by go_num, by rw [HE.out]; exact HR1.out, hB1⟩
        case measure => simp [intOf]; omega
      · have HE : Hid ((l.take (k + 1)).filter (Pl.insideB m) = t ++ [p]) := HY.out hp
        go_wp2_with fail
        refine (inside_any _ _ _ _ m p _ HO.out hs).mono ?_
        rw [hp]
        rintro e w1 ⟨rfl, hb1⟩
        have hB1 := hnx.trans (hb1.mono hsz)
        have hs1 := hB1.size
        obtain ⟨xs, ox, ex⟩ := HPR.out.below hb1
        have s1 := hs.below hb1
        clear hb1
        go_wp2_with (at_builtin; refine wpList_append_far _ rfl _ _ 22 rfl w.heap.size 26 i0 (.slice none 0 0) 1 24 Tryz.underlying22 hi hz0 hz1 hz2 rfl (by decide) _ _ _ rfl (ox.alloc _) ⟨w1.heap.size, 0, none⟩ 1 1 [.slice x p.length c] rfl rfl (cell_one_new _ _ _) ?c2 ?c3 ?c4 ?c5 ?_)
        case c2 => first | rfl | (intro u hu; simp at hu; subst hu; rfl)
        case c3 => unfold maxLen; omega
        case c4 => omega
        case c5 => simp; omega
        intro v3 w3 hown3 hgr3 _ hat3
        have hB3 : Below w.heap.size w w3 := (hB1.alloc hs1 _).grown hgr3 (by simp; omega) (fun g hg => (ox.lt g hg).1)
        have hpr3 : PRowN w3 w.heap.size w0.heap.size v3 (t ++ [p]) := by
          have hxl2 : xs.length = t.length := by simpa using ox.1
          have e1 : EltsN w1 w0.heap.size [.slice x p.length c] [p] := fun i hi => by
            obtain rfl : i = 0 := by simp at hi; omega
            exact ⟨x, c, rfl, s1, HX.out⟩
          exact ⟨_, by rw [List.length_append]; exact hown3, ((ex.app hxl2 e1).below ((Below.refl _ _).alloc (Nat.le_refl _) _)).grown hgr3 fun m e => Nat.le_trans hs0 (ox.lt m e).1⟩
        clear hgr3 hown3 hat3
        go_wp2
        go_roundw
        case rel => exact ⟨k + 1, by omega, by go_num, by rw [HE.out]; exact hpr3, hB3⟩
        case measure => simp [intOf]; omega
    · have e : l.take k = l := List.take_of_length_le (by omega)
      rw [e] at hpr
      have i1 : ¬ (k : Int) < (l.length : Int) := by omega
      clear e
      go_wp2
      go_ret
      exact ⟨_, rfl, hpr, hnx⟩

set_option maxRecDepth 100000 in
set_option maxHeartbeats 1000000 in
theorem meetPaths_any (a ao : Option Addr) (cap co : Nat) (l m : List (List ByteArray)) (w : World) (h : Pts w a cap l) (ho : Pts w ao co m) (hm : l.length + m.length ≤ 1000000) :
    Calls Tryz.prog 40 #[.slice a l.length cap, .slice ao m.length co] w fun e w' => ∃ c v, e = .returned v ∧ Pl.Cov (Pl.metL l m) c ∧ c.length ≤ l.length + m.length ∧ PRow w' w.heap.size v c ∧ Below w.heap.size w w' := by
  obtain ⟨i0, hi, hz0, hz1, hz2⟩ := info_parts Tryz.infoPath
  have hl := h.len
  have hlm := ho.len
  have HP : Hid (Pts w a cap l ∧ Pts w ao co m) := ⟨h, ho⟩
  clear h ho
  have hL1 : (l.filter (Pl.insideB m)).length ≤ l.length := List.length_filter_le _ _
  have hL2 : (m.filter (Pl.insideB l)).length ≤ m.length := List.length_filter_le _ _
  have C1 := pinside_far a ao cap co l m w w HP.out.1 HP.out.2 (Below.refl _ _)
  have C2 : Hid (∀ w1, Below w.heap.size w w1 → _) := fun w1 hb => pinside_far ao a co cap m l w w1 HP.out.2 HP.out.1 hb
  have HM : Hid (Pl.metL l m = l.filter (Pl.insideB m) ++ m.filter (Pl.insideB l)) := rfl
  generalize l.filter (Pl.insideB m) = L1 at *
  generalize m.filter (Pl.insideB l) = L2 at *
  go_enter Tryz.func40, Tryz.ntmps40
  go_wp2_with fail
  refine C1.mono ?_
  rintro e w1 ⟨v1, rfl, p1, hb1⟩
  have D2 := C2.out w1 hb1
  obtain ⟨a1, c1, rfl, _⟩ := (p1.row (Nat.le_refl _)).pts (by omega)
  have H1 : Hid (PRowN w1 w.heap.size w.heap.size (.slice a1 L1.length c1) L1 ∧ Below w.heap.size w w1) := ⟨p1, hb1⟩
  clear p1 hb1 C1 C2
  go_wp2_with fail
  refine D2.mono ?_
  rintro e w2 ⟨v2, rfl, p2, hb2⟩
  obtain ⟨xs, ox, ex⟩ := H1.out.1.below hb2
  have hB2 : Below w.heap.size w w2 := H1.out.2.trans (hb2.mono H1.out.2.size)
  obtain ⟨ys, oy, ey⟩ := p2
  have hxl : xs.length = L1.length := by simpa using ox.1
  have hyl : ys.length = L2.length := by simpa using oy.1
  have HX : Hid (EltsN w2 w.heap.size xs L1 ∧ EltsN w2 w.heap.size ys L2 ∧ Below w.heap.size w w2 ∧ xs.length = L1.length ∧ ys.length = L2.length) := ⟨ex, ey, hB2, hxl, hyl⟩
  have hsz := hB2.size
  clear ex ey hB2 hxl hyl H1 D2 hb2
  rcases own_forms oy with ⟨rfl, h0⟩ | ⟨gl, cl, rfl⟩
  · have HL : Hid (L2 = []) := List.eq_nil_of_length_eq_zero h0
    clear h0
    go_wp2_with (at_builtin; refine wpList_append_own_none rfl _ _ 22 rfl w.heap.size 26 i0 1 Tryz.underlying22 hi _ _ _ rfl ox rfl ?_)
    have hp : PRow w2 w.heap.size (.slice a1 L1.length c1) L1 := PRowN.row (n := w.heap.size) ⟨xs, ox, HX.out.1⟩ (Nat.le_refl _)
    obtain ⟨a3, c3, e3, q3⟩ := hp.pts (by omega)
    injection e3 with e4 _ e5
    subst e4 e5
    have CC := cover_any _ _ L1 w2 q3
    clear q3 hp oy ox
    go_wp2_with fail
    refine CC.mono ?_
    rintro e w4 ⟨c, v, rfl, k1, k2, k3, k4⟩
    have HF : Hid (Pl.Cov (Pl.metL l m) c ∧ c.length ≤ l.length + m.length ∧ PRow w4 w.heap.size v c ∧ Below w.heap.size w w4) := ⟨by rw [HM.out, HL.out, List.append_nil]; exact k1, by omega, k3.base hsz, HX.out.2.2.1.trans (k4.mono hsz)⟩
    clear k1 k2 k3 k4 CC
    go_wp2_with fail
    go_ret
    exact ⟨c, v, rfl, HF.out⟩
  · have ho : ∀ u ∈ ys, u.oneCell' = true := fun u hu => by
      obtain ⟨i, hi2, e⟩ := List.getElem_of_mem hu
      obtain ⟨x, d, k1, _⟩ := HX.out.2.1 i (by have := HX.out.2.2.2.2; omega)
      rw [List.getElem?_eq_getElem hi2, e] at k1
      injection k1 with k1
      rw [k1]; rfl
    have hc := oy.cells rfl
    have HC : Hid ((∀ u ∈ ys, u.oneCell' = true) ∧ ∀ j u, ys[j]? = some u → w2.cell? ((⟨gl, 0, none⟩ : Addr).add j) = some u) := ⟨ho, hc⟩
    clear ho hc
    go_wp2_with (at_builtin; refine wpList_append_far _ rfl _ _ 22 rfl w.heap.size 26 i0 (.slice none 0 0) 1 24 Tryz.underlying22 hi hz0 hz1 hz2 rfl (by decide) _ _ _ rfl ox ⟨gl, 0, none⟩ L2.length cl ys rfl ?c1 ?c0 ?c2 ?c3 ?c4 ?c5 ?_)
    case c0 => exact HC.out.2
    case c1 => have := HX.out.2.2.2.2; omega
    case c2 => exact HC.out.1
    case c3 => unfold maxLen; omega
    case c4 => omega
    case c5 => omega
    intro v3 w3 hown3 hgr3 _ _
    have hB3 : Below w.heap.size w w3 := HX.out.2.2.1.grown hgr3 hsz (fun g hg => (ox.lt g hg).1)
    have hp : PRow w3 w.heap.size v3 (L1 ++ L2) := PRowN.row (n := w.heap.size) ⟨xs ++ ys, by rw [List.length_append]; exact hown3, (HX.out.1.app HX.out.2.2.2.1 HX.out.2.1).grown hgr3 fun k e => (ox.lt k e).1⟩ (Nat.le_refl _)
    obtain ⟨a3, c3, rfl, q3⟩ := hp.pts (by rw [List.length_append]; omega)
    have CC := cover_any _ _ (L1 ++ L2) w3 q3
    have hsz3 := hB3.size
    have hll : (L1 ++ L2).length ≤ l.length + m.length := by rw [List.length_append]; omega
    have HB : Hid (Below w.heap.size w w3) := hB3
    clear q3 hp oy ox hown3 hgr3 HC HX hB3
    generalize L1 ++ L2 = L3 at *
    go_wp2_with fail
    refine CC.mono ?_
    rintro e w4 ⟨c, v, rfl, k1, k2, k3, k4⟩
    have HF : Hid (Pl.Cov (Pl.metL l m) c ∧ c.length ≤ l.length + m.length ∧ PRow w4 w.heap.size v c ∧ Below w.heap.size w w4) := ⟨by rw [HM.out]; exact k1, by omega, k3.base hsz3, HB.out.trans (k4.mono hsz3)⟩
    clear k1 k2 k3 k4 CC
    go_wp2_with fail
    go_ret
    exact ⟨c, v, rfl, HF.out⟩
end Go.Proofs.YtnmplolkbmackaaGreatDoor
