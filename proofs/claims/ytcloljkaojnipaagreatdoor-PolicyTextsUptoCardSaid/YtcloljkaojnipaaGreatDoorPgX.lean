/- What policy.inside answers, with the place where its elements lie, and what policy.meetPaths answers: the cover of what both lists allow. What policy.Meet answers. -/
import Derived.Test.YtcloljkaojnipaaGreatDoorPgN
import Derived.Laws.AppendOwnNone
import Derived.Deep.RegionHeld3
namespace Go.Proofs.YtcloljkaojnipaaGreatDoor
open Go.RowKit

namespace Pl
/-- What two lists allow together, as a list. -/
def metL (l m : List (List ByteArray)) : List (List ByteArray) := l.filter (insideB m) ++ m.filter (insideB l)
theorem metL_len (l m : List (List ByteArray)) : (metL l m).length ≤ l.length + m.length := by
  unfold metL
  rw [List.length_append]
  exact Nat.add_le_add (List.length_filter_le _ _) (List.length_filter_le _ _)
end Pl

theorem own_forms {w : World} {base n : Nat} {e : TypeId} {v : Value} {xs : List Value} (h : w.ownsRow base e 1 v n xs) : (v = .slice none 0 0 ∧ n = 0) ∨ ∃ g cap, v = .slice (some ⟨g, 0, none⟩) n cap := by
  rcases h.2 with ⟨hv, hn⟩ | ⟨g, cap, cur, hv, _⟩
  · exact .inl ⟨hv, hn⟩
  · exact .inr ⟨g, cap, hv⟩
/-- The values xs read as the paths l, each of which lies below n. -/
def EltsN (w : World) (n : Nat) (xs : List Value) (l : List (List ByteArray)) : Prop :=
  ∀ i (h : i < l.length), ∃ x c, xs[i]? = some (.slice x (l[i]'h).length c) ∧ Strs w x c (l[i]'h) ∧ ((l[i]'h) ≠ [] → ∀ ad, x = some ad → ad.block < n)
theorem EltsN.below {w w' : World} {n : Nat} {xs : List Value} {l : List (List ByteArray)} (h : EltsN w n xs l) (hb : Below w.heap.size w w') : EltsN w' n xs l := fun i hi => by
  obtain ⟨x, c, h1, h2, h3⟩ := h i hi
  exact ⟨x, c, h1, h2.below hb, h3⟩
theorem EltsN.elts {w : World} {n : Nat} {xs : List Value} {l : List (List ByteArray)} {row : Option Nat} (h : EltsN w n xs l) (hr : ∀ m, row = some m → n ≤ m) : Elts w row xs l := fun i hi => by
  obtain ⟨x, c, h1, h2, h3⟩ := h i hi
  refine ⟨x, c, h1, h2, fun hl ad e q => ?_⟩
  have k1 := h3 hl ad e
  have k2 := hr _ q.symm
  omega
theorem EltsN.app {w : World} {n : Nat} {xs ys : List Value} {l m : List (List ByteArray)} (hx : xs.length = l.length) (h : EltsN w n xs l) (h' : EltsN w n ys m) : EltsN w n (xs ++ ys) (l ++ m) := fun i hi => by
  by_cases k : i < l.length
  · obtain ⟨x, c, k1, k2, k3⟩ := h i k
    refine ⟨x, c, ?_, ?_, ?_⟩
    · rw [List.getElem?_append_left (by omega), k1, List.getElem_append_left k]
    · rw [List.getElem_append_left k]; exact k2
    · rw [List.getElem_append_left k]; exact k3
  · have hi2 : i - l.length < m.length := by rw [List.length_append] at hi; omega
    obtain ⟨x, c, k1, k2, k3⟩ := h' (i - l.length) hi2
    refine ⟨x, c, ?_, ?_, ?_⟩
    · rw [List.getElem?_append_right (by omega), hx, k1, List.getElem_append_right (by omega)]
    · rw [List.getElem_append_right (by omega)]; exact k2
    · rw [List.getElem_append_right (by omega)]; exact k3
theorem EltsN.grown {w w' : World} {n : Nat} {xs : List Value} {l : List (List ByteArray)} {row : Option Nat} (h : EltsN w n xs l) (hg : w.grownBy w' row) (hr : ∀ m, row = some m → n ≤ m) : EltsN w' n xs l := fun i hi => by
  obtain ⟨x, c, h1, h2, h3⟩ := h i hi
  refine ⟨x, c, h1, h2.grownO hg (fun hl ad e q => ?_), h3⟩
  have k1 := h3 hl ad e
  have k2 := hr _ q.symm
  omega
/-- A row of the call's own that reads as the paths l, each of which lies below n. -/
def PRowN (w : World) (base n : Nat) (v : Value) (l : List (List ByteArray)) : Prop := ∃ xs, w.ownsRow base 26 1 v l.length xs ∧ EltsN w n xs l
theorem PRowN.row {w : World} {base n : Nat} {v : Value} {l : List (List ByteArray)} (h : PRowN w base n v l) (hn : n ≤ base) : PRow w base v l := by
  obtain ⟨xs, h1, h2⟩ := h
  exact ⟨xs, h1, h2.elts fun m e => Nat.le_trans hn (h1.lt m e).1⟩
theorem PRowN.below {w w' : World} {base n : Nat} {v : Value} {l : List (List ByteArray)} (h : PRowN w base n v l) (hb : Below w.heap.size w w') : PRowN w' base n v l := by
  obtain ⟨xs, h1, h2⟩ := h
  exact ⟨xs, own_below h1 hb, h2.below hb⟩
theorem PRowN.empty (w : World) (base n : Nat) : PRowN w base n (.slice none 0 0) [] := ⟨[], World.ownsRow_nil _ _ _ _, fun i h => absurd h (by simp)⟩

set_option maxRecDepth 100000 in
set_option maxHeartbeats 1000000 in
theorem pinside_far (a ao : Option Addr) (cap co : Nat) (l m : List (List ByteArray)) (w0 w : World) (h : Pts w0 a cap l) (ho : Pts w0 ao co m) (hb0 : Below w0.heap.size w0 w) :
    Calls Tryz.prog 72 #[.slice a l.length cap, .slice ao m.length co] w fun e w' => ∃ v, e = .returned v ∧ PRowN w' w.heap.size w0.heap.size v (l.filter (Pl.insideB m)) ∧ Below w.heap.size w w' := by
  obtain ⟨i0, hi, hz0, hz1, hz2⟩ := info_parts Tryz.infoPath
  have hl := h.len
  have hlm := ho.len
  have hs0 := hb0.size
  go_enter Tryz.func72, Tryz.ntmps72
  go_wp2_with fail
  go_loopw [5, 7, 10] (fun v _ i wr => ∃ k : Nat, k ≤ l.length ∧ i = .int .i64 k ∧ PRowN wr w.heap.size w0.heap.size v ((l.take k).filter (Pl.insideB m)) ∧ Below w.heap.size w wr) (fun _ _ i _ => l.length - (intOf i).toNat)
  case atStart => exact ⟨0, Nat.zero_le _, rfl, PRowN.empty _ _ _, Below.refl _ _⟩
  case round =>
    obtain ⟨k, hk, rfl, hpr, hnx⟩ := hrel
    have hsz := hnx.size
    by_cases hlt : k < l.length
    · obtain ⟨b, off, x, c, rfl, hb, hc, hs⟩ := h.cells k hlt
      have hx0 : l[k] ≠ [] → ∀ ad, x = some ad → ad.block < w0.heap.size := hs.lt
      have hcw := (hb0.cell (p := ⟨b, off + k, none⟩) hb).trans hc
      have hc := (hnx.cell (p := ⟨b, off + k, none⟩) (Nat.lt_of_lt_of_le hb hs0)).trans hcw
      have hs := (hs.below hb0).below hnx
      have HY : Hid (Pl.insideB m (l[k]'hlt) = true → (l.take (k + 1)).filter (Pl.insideB m) = (l.take k).filter (Pl.insideB m) ++ [l[k]'hlt]) := Pl.filter_yes hlt
      have HN : Hid (Pl.insideB m (l[k]'hlt) = false → (l.take (k + 1)).filter (Pl.insideB m) = (l.take k).filter (Pl.insideB m)) := Pl.filter_no hlt
      have hkl : ((l.take k).filter (Pl.insideB m)).length ≤ k := Nat.le_trans (List.length_filter_le _ _) (by simp; omega)
      have hxl := hs.len
      clear hcw
      generalize l[k]'hlt = p at *
      generalize (l.take k).filter (Pl.insideB m) = t at *
      have i1 : (k : Int) < (l.length : Int) := by omega
      have HO : Hid (Pts wr ao co m) := (ho.below hb0).below hnx
      have HX : Hid (p ≠ [] → ∀ ad, x = some ad → ad.block < w0.heap.size) := hx0
      have HPR : Hid (PRowN wr w.heap.size w0.heap.size _ t) := hpr
      clear hx0 hpr
      cases hp : Pl.insideB m p
      · have HE : Hid ((l.take (k + 1)).filter (Pl.insideB m) = t) := HN.out hp
        go_wp2_with fail
        refine (inside_any _ _ _ _ m p _ HO.out hs).mono ?_
        rw [hp]
        rintro e w1 ⟨rfl, hb1⟩
        have hB1 := hnx.trans (hb1.mono hsz)
        have HR1 : Hid (PRowN w1 w.heap.size w0.heap.size _ t) := HPR.out.below hb1
        go_wp2_with fail
        go_roundw
        case rel => exact ⟨k + 1, by omega, by go_num, by rw [HE.out]; exact HR1.out, hB1⟩
        case measure => simp [intOf]; omega
      · have HE : Hid ((l.take (k + 1)).filter (Pl.insideB m) = t ++ [p]) := HY.out hp
        go_wp2_with fail
        refine (inside_any _ _ _ _ m p _ HO.out hs).mono ?_
        rw [hp]
        rintro e w1 ⟨rfl, hb1⟩
        have hB1 := hnx.trans (hb1.mono hsz)
        have hs1 := hB1.size
        obtain ⟨xs, ox, ex⟩ := HPR.out.below hb1
        have s1 := hs.below hb1
        clear hb1
        go_wp2_with (at_builtin; refine wpList_append_far _ rfl _ _ 22 rfl w.heap.size 26 i0 (.slice none 0 0) 1 24 Tryz.underlying22 hi hz0 hz1 hz2 rfl (by decide) _ _ _ rfl (ox.alloc _) ⟨w1.heap.size, 0, none⟩ 1 1 [.slice x p.length c] rfl rfl (cell_one_new _ _ _) ?c2 ?c3 ?c4 ?c5 ?_)
        case c2 => first | rfl | (intro u hu; simp at hu; subst hu; rfl)
        case c3 => unfold maxLen; omega
        case c4 => omega
        case c5 => simp; omega
        intro v3 w3 hown3 hgr3 _ hat3
        have hB3 : Below w.heap.size w w3 := (hB1.alloc hs1 _).grown hgr3 (by simp; omega) (fun g hg => (ox.lt g hg).1)
        have hpr3 : PRowN w3 w.heap.size w0.heap.size v3 (t ++ [p]) := by
          have hxl2 : xs.length = t.length := by simpa using ox.1
          have e1 : EltsN w1 w0.heap.size [.slice x p.length c] [p] := fun i hi => by
            obtain rfl : i = 0 := by simp at hi; omega
            exact ⟨x, c, rfl, s1, HX.out⟩
          exact ⟨_, by rw [List.length_append]; exact hown3, ((ex.app hxl2 e1).below ((Below.refl _ _).alloc (Nat.le_refl _) _)).grown hgr3 fun m e => Nat.le_trans hs0 (ox.lt m e).1⟩
        clear hgr3 hown3 hat3
        go_wp2
        go_roundw
        case rel => exact ⟨k + 1, by omega, by go_num, by rw [HE.out]; exact hpr3, hB3⟩
        case measure => simp [intOf]; omega
    · have e : l.take k = l := List.take_of_length_le (by omega)
      rw [e] at hpr
      have i1 : ¬ (k : Int) < (l.length : Int) := by omega
      clear e
      go_wp2
      go_ret
      exact ⟨_, rfl, hpr, hnx⟩

set_option maxRecDepth 100000 in
set_option maxHeartbeats 1000000 in
theorem meetPaths_any (a ao : Option Addr) (cap co : Nat) (l m : List (List ByteArray)) (w : World) (h : Pts w a cap l) (ho : Pts w ao co m) (hm : l.length + m.length ≤ 1000000) :
    Calls Tryz.prog 40 #[.slice a l.length cap, .slice ao m.length co] w fun e w' => ∃ c v, e = .returned v ∧ Pl.Cov (Pl.metL l m) c ∧ c.length ≤ l.length + m.length ∧ PRow w' w.heap.size v c ∧ Below w.heap.size w w' := by
  obtain ⟨i0, hi, hz0, hz1, hz2⟩ := info_parts Tryz.infoPath
  have hl := h.len
  have hlm := ho.len
  have HP : Hid (Pts w a cap l ∧ Pts w ao co m) := ⟨h, ho⟩
  clear h ho
  have hL1 : (l.filter (Pl.insideB m)).length ≤ l.length := List.length_filter_le _ _
  have hL2 : (m.filter (Pl.insideB l)).length ≤ m.length := List.length_filter_le _ _
  have C1 := pinside_far a ao cap co l m w w HP.out.1 HP.out.2 (Below.refl _ _)
  have C2 : Hid (∀ w1, Below w.heap.size w w1 → _) := fun w1 hb => pinside_far ao a co cap m l w w1 HP.out.2 HP.out.1 hb
  have HM : Hid (Pl.metL l m = l.filter (Pl.insideB m) ++ m.filter (Pl.insideB l)) := rfl
  generalize l.filter (Pl.insideB m) = L1 at *
  generalize m.filter (Pl.insideB l) = L2 at *
  go_enter Tryz.func40, Tryz.ntmps40
  go_wp2_with fail
  refine C1.mono ?_
  rintro e w1 ⟨v1, rfl, p1, hb1⟩
  have D2 := C2.out w1 hb1
  obtain ⟨a1, c1, rfl, _⟩ := (p1.row (Nat.le_refl _)).pts (by omega)
  have H1 : Hid (PRowN w1 w.heap.size w.heap.size (.slice a1 L1.length c1) L1 ∧ Below w.heap.size w w1) := ⟨p1, hb1⟩
  clear p1 hb1 C1 C2
  go_wp2_with fail
  refine D2.mono ?_
  rintro e w2 ⟨v2, rfl, p2, hb2⟩
  obtain ⟨xs, ox, ex⟩ := H1.out.1.below hb2
  have hB2 : Below w.heap.size w w2 := H1.out.2.trans (hb2.mono H1.out.2.size)
  obtain ⟨ys, oy, ey⟩ := p2
  have hxl : xs.length = L1.length := by simpa using ox.1
  have hyl : ys.length = L2.length := by simpa using oy.1
  have HX : Hid (EltsN w2 w.heap.size xs L1 ∧ EltsN w2 w.heap.size ys L2 ∧ Below w.heap.size w w2 ∧ xs.length = L1.length ∧ ys.length = L2.length) := ⟨ex, ey, hB2, hxl, hyl⟩
  have hsz := hB2.size
  clear ex ey hB2 hxl hyl H1 D2 hb2
  rcases own_forms oy with ⟨rfl, h0⟩ | ⟨gl, cl, rfl⟩
  · have HL : Hid (L2 = []) := List.eq_nil_of_length_eq_zero h0
    clear h0
    go_wp2_with (at_builtin; refine wpList_append_own_none rfl _ _ 22 rfl w.heap.size 26 i0 1 Tryz.underlying22 hi _ _ _ rfl ox rfl ?_)
    have hp : PRow w2 w.heap.size (.slice a1 L1.length c1) L1 := PRowN.row (n := w.heap.size) ⟨xs, ox, HX.out.1⟩ (Nat.le_refl _)
    obtain ⟨a3, c3, e3, q3⟩ := hp.pts (by omega)
    injection e3 with e4 _ e5
    subst e4 e5
    have CC := cover_any _ _ L1 w2 q3
    clear q3 hp oy ox
    go_wp2_with fail
    refine CC.mono ?_
    rintro e w4 ⟨c, v, rfl, k1, k2, k3, k4⟩
    have HF : Hid (Pl.Cov (Pl.metL l m) c ∧ c.length ≤ l.length + m.length ∧ PRow w4 w.heap.size v c ∧ Below w.heap.size w w4) := ⟨by rw [HM.out, HL.out, List.append_nil]; exact k1, by omega, k3.base hsz, HX.out.2.2.1.trans (k4.mono hsz)⟩
    clear k1 k2 k3 k4 CC
    go_wp2_with fail
    go_ret
    exact ⟨c, v, rfl, HF.out⟩
  · have ho : ∀ u ∈ ys, u.oneCell' = true := fun u hu => by
      obtain ⟨i, hi2, e⟩ := List.getElem_of_mem hu
      obtain ⟨x, d, k1, _⟩ := HX.out.2.1 i (by have := HX.out.2.2.2.2; omega)
      rw [List.getElem?_eq_getElem hi2, e] at k1
      injection k1 with k1
      rw [k1]; rfl
    have hc := oy.cells rfl
    have HC : Hid ((∀ u ∈ ys, u.oneCell' = true) ∧ ∀ j u, ys[j]? = some u → w2.cell? ((⟨gl, 0, none⟩ : Addr).add j) = some u) := ⟨ho, hc⟩
    clear ho hc
    go_wp2_with (at_builtin; refine wpList_append_far _ rfl _ _ 22 rfl w.heap.size 26 i0 (.slice none 0 0) 1 24 Tryz.underlying22 hi hz0 hz1 hz2 rfl (by decide) _ _ _ rfl ox ⟨gl, 0, none⟩ L2.length cl ys rfl ?c1 ?c0 ?c2 ?c3 ?c4 ?c5 ?_)
    case c0 => exact HC.out.2
    case c1 => have := HX.out.2.2.2.2; omega
    case c2 => exact HC.out.1
    case c3 => unfold maxLen; omega
    case c4 => omega
    case c5 => omega
    intro v3 w3 hown3 hgr3 _ _
    have hB3 : Below w.heap.size w w3 := HX.out.2.2.1.grown hgr3 hsz (fun g hg => (ox.lt g hg).1)
    have hp : PRow w3 w.heap.size v3 (L1 ++ L2) := PRowN.row (n := w.heap.size) ⟨xs ++ ys, by rw [List.length_append]; exact hown3, (HX.out.1.app HX.out.2.2.2.1 HX.out.2.1).grown hgr3 fun k e => (ox.lt k e).1⟩ (Nat.le_refl _)
    obtain ⟨a3, c3, rfl, q3⟩ := hp.pts (by rw [List.length_append]; omega)
    have CC := cover_any _ _ (L1 ++ L2) w3 q3
    have hsz3 := hB3.size
    have hll : (L1 ++ L2).length ≤ l.length + m.length := by rw [List.length_append]; omega
    have HB : Hid (Below w.heap.size w w3) := hB3
    clear q3 hp oy ox hown3 hgr3 HC HX hB3
    generalize L1 ++ L2 = L3 at *
    go_wp2_with fail
    refine CC.mono ?_
    rintro e w4 ⟨c, v, rfl, k1, k2, k3, k4⟩
    have HF : Hid (Pl.Cov (Pl.metL l m) c ∧ c.length ≤ l.length + m.length ∧ PRow w4 w.heap.size v c ∧ Below w.heap.size w w4) := ⟨by rw [HM.out]; exact k1, by omega, k3.base hsz3, HB.out.trans (k4.mono hsz3)⟩
    clear k1 k2 k3 k4 CC
    go_wp2_with fail
    go_ret
    exact ⟨c, v, rfl, HF.out⟩
end Go.Proofs.YtcloljkaojnipaaGreatDoor
namespace Go.Proofs.YtcloljkaojnipaaGreatDoor
open Go.RowKit

/-- What Meet leaves of two right policies. -/
def MeetE (w : World) (R1 W1 : List (List ByteArray)) (f1 m1 o1 e1 : Int) (R2 W2 : List (List ByteArray)) (f2 m2 o2 e2 : Int) (x : Ending) (w' : World) : Prop := Below w.heap.size w w' ∧ ∃ cR cW, Pl.Cov (Pl.metL R1 R2) cR ∧ Pl.Cov (Pl.metL W1 W2) cW ∧
  ((1024 < cR.length ∨ 1024 < cW.length) ∧ x = .returned (.tuple #[.agg #[.slice none 0 0, .slice none 0 0, .int .i64 0, .int .i64 0, .int .i64 0, .int .i64 0], .int .i64 3]) ∨
   (cR.length ≤ 1024 ∧ cW.length ≤ 1024) ∧ ∃ aR aW nR nW, x = .returned (.tuple #[.agg #[.slice aR cR.length nR, .slice aW cW.length nW, .int .i64 (min f1 f2), .int .i64 (min m1 m2), .int .i64 (min o1 o2), .int .i64 (min e1 e2)], .int .i64 0]) ∧ PRow w' w.heap.size (.slice aR cR.length nR) cR ∧ PRow w' w.heap.size (.slice aW cW.length nW) cW)
/-- What is known behind one meeting of two lists. -/
structure Mvd (w0 w : World) (R S : List (List ByteArray)) (c : List (List ByteArray)) (v : Value) (B : Nat) : Prop where
  cov : Pl.Cov (Pl.metL R S) c
  row : PRow w B v c
  bel : Below w0.heap.size w0 w
theorem meet_at (a ao : Option Addr) (cap co : Nat) (l m : List (List ByteArray)) (w0 W : World) (h : Pts w0 a cap l) (ho : Pts w0 ao co m) (hm : l.length + m.length ≤ 1000000) (hb : Below w0.heap.size w0 W) :
    Calls Tryz.prog 40 #[.slice a l.length cap, .slice ao m.length co] W fun e w' => ∃ (c : List (List ByteArray)) (av : Option Addr) (n : Nat), e = .returned (.slice av c.length n) ∧ Hid (Mvd w0 w' l m c (.slice av c.length n) w0.heap.size ∧ Below W.heap.size W w') ∧ c.length ≤ 1000000 := by
  refine (meetPaths_any a ao cap co l m W (h.below hb) (ho.below hb) hm).mono ?_
  rintro e w' ⟨c, v, rfl, h1, h2, h3, h4⟩
  obtain ⟨av, n, rfl, _⟩ := h3.pts (by omega)
  exact ⟨c, av, n, rfl, ⟨⟨h1, h3.base hb.size, hb.trans (h4.mono hb.size)⟩, h4⟩, by omega⟩
theorem zcells {w : World} {g : Nat} (h : w.heap[g]? = some zPol) : (w.cell? ⟨g, 0, none⟩ = some (.slice none 0 0) ∧ w.cell? ⟨g, 1, none⟩ = some (.slice none 0 0) ∧ w.cell? ⟨g, 2, none⟩ = some (.int .i64 0) ∧ w.cell? ⟨g, 3, none⟩ = some (.int .i64 0) ∧ w.cell? ⟨g, 4, none⟩ = some (.int .i64 0) ∧ w.cell? ⟨g, 5, none⟩ = some (.int .i64 0)) ∧ ∀ j, w.frozen? ⟨g, j, none⟩ = false := by
  simp only [World.cell?, h]
  exact ⟨⟨rfl, rfl, rfl, rfl, rfl, rfl⟩, fun j => frozen_of_row w _ j _ _ h⟩
theorem cells_po {w : World} {g : Nat} {x0 x1 : Value} {f m o e : Int} (h : w.heap[g]? = some (polO x0 x1 f m o e)) : (w.cell? ⟨g, 0, none⟩ = some x0 ∧ w.cell? ⟨g, 1, none⟩ = some x1 ∧ w.cell? ⟨g, 2, none⟩ = some (.int .i64 f) ∧ w.cell? ⟨g, 3, none⟩ = some (.int .i64 m) ∧ w.cell? ⟨g, 4, none⟩ = some (.int .i64 o) ∧ w.cell? ⟨g, 5, none⟩ = some (.int .i64 e)) ∧ ∀ j, w.frozen? ⟨g, j, none⟩ = false := by
  simp only [World.cell?, h]
  exact ⟨⟨rfl, rfl, rfl, rfl, rfl, rfl⟩, fun j => frozen_of_row w _ j _ _ h⟩

set_option maxRecDepth 100000 in
set_option maxHeartbeats 4000000 in
theorem pmeet_no (ar1 aw1 : Option Addr) (cr1 cw1 : Nat) (R1 W1 : List (List ByteArray)) (f1 m1 o1 e1 : Int) (ar2 aw2 : Option Addr) (cr2 cw2 : Nat) (R2 W2 : List (List ByteArray)) (f2 m2 o2 e2 : Int) (w : World) (hr1 : Pts w ar1 cr1 R1) (hw1 : Pts w aw1 cw1 W1) (hr2 : Pts w ar2 cr2 R2) (hw2 : Pts w aw2 cw2 W2) (hc : Pl.chk2 R1 W1 f1 m1 o1 e1 R2 W2 f2 m2 o2 e2 = 50) :
    Calls Tryz.prog 19 #[.agg #[.slice ar1 R1.length cr1, .slice aw1 W1.length cw1, .int .i64 f1, .int .i64 m1, .int .i64 o1, .int .i64 e1], .agg #[.slice ar2 R2.length cr2, .slice aw2 W2.length cw2, .int .i64 f2, .int .i64 m2, .int .i64 o2, .int .i64 e2]] w fun x w' => x = .returned (.tuple #[.agg #[.slice none 0 0, .slice none 0 0, .int .i64 0, .int .i64 0, .int .i64 0, .int .i64 0], .int .i64 50]) ∧ Below w.heap.size w w' := by
  obtain ⟨wa, hwa⟩ : ∃ wa, wa = ((w.alloc (.cells #[.slice ar1 R1.length cr1, .slice aw1 W1.length cw1, .int .i64 f1, .int .i64 m1, .int .i64 o1, .int .i64 e1] 24)).alloc (.cells #[.slice ar2 R2.length cr2, .slice aw2 W2.length cw2, .int .i64 f2, .int .i64 m2, .int .i64 o2, .int .i64 e2] 24)).alloc zPol := ⟨_, rfl⟩
  have hB2 : Below w.heap.size w ((w.alloc (.cells #[.slice ar1 R1.length cr1, .slice aw1 W1.length cw1, .int .i64 f1, .int .i64 m1, .int .i64 o1, .int .i64 e1] 24)).alloc (.cells #[.slice ar2 R2.length cr2, .slice aw2 W2.length cw2, .int .i64 f2, .int .i64 m2, .int .i64 o2, .int .i64 e2] 24)) := ((Below.refl _ _).alloc (Nat.le_refl _) _).alloc (by simp) _
  have hB : Below w.heap.size w wa := by rw [hwa]; exact hB2.alloc hB2.size _
  have hT : Two wa w.heap.size (w.heap.size + 1) ar1 aw1 cr1 cw1 R1 W1 f1 m1 o1 e1 ar2 aw2 cr2 cw2 R2 W2 f2 m2 o2 e2 := by rw [hwa]; exact (two_new w ar1 aw1 cr1 cw1 R1 W1 f1 m1 o1 e1 ar2 aw2 cr2 cw2 R2 W2 f2 m2 o2 e2 hr1 hw1 hr2 hw2).below ((Below.refl _ _).alloc (Nat.le_refl _) _)
  have hz : wa.heap[w.heap.size + 1 + 1]? = some zPol := by rw [hwa, show w.heap.size + 1 + 1 = ((w.alloc (.cells #[.slice ar1 R1.length cr1, .slice aw1 W1.length cw1, .int .i64 f1, .int .i64 m1, .int .i64 o1, .int .i64 e1] 24)).alloc (.cells #[.slice ar2 R2.length cr2, .slice aw2 W2.length cw2, .int .i64 f2, .int .i64 m2, .int .i64 o2, .int .i64 e2] 24)).heap.size from by simp]; exact heap_alloc_new _ _
  have HW : Hid (wa = ((w.alloc (.cells #[.slice ar1 R1.length cr1, .slice aw1 W1.length cw1, .int .i64 f1, .int .i64 m1, .int .i64 o1, .int .i64 e1] 24)).alloc (.cells #[.slice ar2 R2.length cr2, .slice aw2 W2.length cw2, .int .i64 f2, .int .i64 m2, .int .i64 o2, .int .i64 e2] 24)).alloc zPol) := hwa
  have H1 := checkBoth_any ar1 aw1 cr1 cw1 R1 W1 f1 m1 o1 e1 ar2 aw2 cr2 cw2 R2 W2 f2 m2 o2 e2 wa hT.r1 hT.w1 hT.r2 hT.w2
  rw [hc] at H1
  have hlr1 := hr1.len
  have hlw1 := hw1.len
  have hlr2 := hr2.len
  have hlw2 := hw2.len
  have HZ : Hid (Below w.heap.size w wa ∧ wa.heap[w.heap.size + 1 + 1]? = some zPol) := ⟨hB, hz⟩
  clear hwa hB hT hz hB2 hr1 hw1 hr2 hw2 hc
  simp only [zPol] at HW
  go_enter Tryz.func19, Tryz.ntmps19
  go_wp2_with fail
  rw [← HW.out]
  refine H1.mono ?_
  rintro x w1 ⟨rfl, hb1⟩
  have HZ1 : Hid (Below w.heap.size w w1 ∧ w1.heap[w.heap.size + 1 + 1]? = some zPol) := ⟨HZ.out.1.trans (hb1.mono HZ.out.1.size), (hb1.block _ (lt_of_block HZ.out.2)).trans HZ.out.2⟩
  obtain ⟨⟨p0, p1, p2, p3, p4, p5⟩, pf⟩ := zcells HZ1.out.2
  clear hb1 HZ H1 HW
  go_wp2_with fail
  obtain ⟨y0, y1⟩ := put6_at HZ1.out.2 (.slice none 0 0) (.slice none 0 0) (.int .i64 0) (.int .i64 0) (.int .i64 0) (.int .i64 0)
  refine bodyPost_ret (results_pol2 rfl _ _ (w.heap.size + 1 + 1) _ _ _ _ _ _ rfl y0) rfl ?_
  exact ⟨rfl, HZ1.out.1.trans (y1.below HZ1.out.1.size (fun k e => by omega))⟩

theorem PRow.keep2 {w w' : World} {b g : Nat} {v : Value} {l : List (List ByteArray)} (h : PRow w b v l) (hg : w.heap[g]? = some zPol) (ht : Tu (fun k => k = g) w w') : PRow w' b v l := by
  refine (h.both.far ht (fun k hk e => ?_) (fun x c p hs hp ad hx => ?_)).row
  · obtain ⟨xs, k1, _⟩ := h
    subst e
    exact Lib.ownBlock_ne k1 hg (by decide) hk
  · refine strs_far hg (fun j s q => ?_) hs hp ad hx
    rcases (show j = 0 ∨ j = 1 ∨ j = 2 ∨ j = 3 ∨ j = 4 ∨ j = 5 ∨ 6 ≤ j by omega) with rfl | rfl | rfl | rfl | rfl | rfl | hj
    · cases Option.some.inj q
    · cases Option.some.inj q
    · cases Option.some.inj q
    · cases Option.some.inj q
    · cases Option.some.inj q
    · cases Option.some.inj q
    · rw [Array.getElem?_eq_none (by simpa using hj)] at q; cases q
/-- What is known behind the region. -/
abbrev MeetF (w1 wx : World) (R1 W1 R2 W2 cR cW : List (List ByteArray)) (avR avW : Option Addr) (nR nW q : Nat) (F M O E : Int) : Prop := Hid (Pl.Cov (Pl.metL R1 R2) cR ∧ Pl.Cov (Pl.metL W1 W2) cW ∧ PRow wx w1.heap.size (.slice avR cR.length nR) cR ∧ PRow wx w1.heap.size (.slice avW cW.length nW) cW ∧ Below w1.heap.size w1 wx ∧ wx.heap[q]? = some (polO (.slice avR cR.length nR) (.slice avW cW.length nW) F M O E) ∧ w1.heap.size ≤ q)
theorem mvd_on {w1 V V' w2 w3 : World} {R S c : List (List ByteArray)} {v : Value} {B : Nat} (K : Hid (Mvd w1 w2 R S c v B ∧ Below V.heap.size V w2)) (hb : Below V'.heap.size V' w3) (he : V' = w2 ∨ ∃ o, V' = w2.alloc o) : PRow w3 B v c := by
  rcases he with rfl | ⟨o, rfl⟩
  · exact K.out.1.row.below hb
  · exact (K.out.1.row.below ((Below.refl _ _).alloc (Nat.le_refl _) o)).below hb
theorem meet_end1 {w1 V w2 w3 : World} {R1 R2 W1 W2 cR cW : List (List ByteArray)} {avR avW : Option Addr} {nR nW : Nat} (K1 : Hid (Mvd w1 w2 R1 R2 cR (.slice avR cR.length nR) w1.heap.size ∧ Below V.heap.size V w2)) (K2 : Hid (Mvd w1 w3 W1 W2 cW (.slice avW cW.length nW) w1.heap.size ∧ Below w2.heap.size w2 w3)) (F M O E : Int) :
    MeetF w1 (w3.alloc (.cells #[.slice avR cR.length nR, .slice avW cW.length nW, .int .i64 F, .int .i64 M, .int .i64 O, .int .i64 E] 24)) R1 W1 R2 W2 cR cW avR avW nR nW w3.heap.size F M O E := by
  have hb := (Below.refl w3.heap.size w3).alloc (Nat.le_refl _) (.cells #[.slice avR cR.length nR, .slice avW cW.length nW, .int .i64 F, .int .i64 M, .int .i64 O, .int .i64 E] 24)
  exact ⟨K1.out.1.cov, K2.out.1.cov, (K1.out.1.row.below K2.out.2).below hb, K2.out.1.row.below hb, K2.out.1.bel.trans (hb.mono K2.out.1.bel.size), heap_alloc_new _ _, K2.out.1.bel.size⟩
theorem put_bel {w1 w3 : World} {q : Nat} (h : Below w1.heap.size w1 w3) (hq : w1.heap.size ≤ q) (z : w3.heap[q]? = some zPol) (x0 x1 x2 x3 x4 x5 : Value) : Below w1.heap.size w1 (put6 w3 q x0 x1 x2 x3 x4 x5) := h.trans ((put6_at z x0 x1 x2 x3 x4 x5).2.below h.size (fun k e => by omega))
theorem meet_end2 {w1 w3 : World} {R1 R2 W1 W2 cR cW : List (List ByteArray)} {avR avW : Option Addr} {nR nW q : Nat} (c1 : Pl.Cov (Pl.metL R1 R2) cR) (p1 : PRow w3 w1.heap.size (.slice avR cR.length nR) cR) (K2 : Mvd w1 w3 W1 W2 cW (.slice avW cW.length nW) w1.heap.size) (hq : w1.heap.size ≤ q) (z : w3.heap[q]? = some zPol) (F M O E : Int) :
    MeetF w1 (put6 w3 q (.slice avR cR.length nR) (.slice avW cW.length nW) (.int .i64 F) (.int .i64 M) (.int .i64 O) (.int .i64 E)) R1 W1 R2 W2 cR cW avR avW nR nW q F M O E := by
  obtain ⟨y0, y1⟩ := put6_at z (.slice avR cR.length nR) (.slice avW cW.length nW) (.int .i64 F) (.int .i64 M) (.int .i64 O) (.int .i64 E)
  exact ⟨c1, K2.cov, p1.keep2 z y1, K2.row.keep2 z y1, put_bel K2.bel hq z _ _ _ _ _ _, y0, hq⟩

set_option maxRecDepth 100000 in
set_option maxHeartbeats 4000000 in
theorem pmeet_yes (ar1 aw1 : Option Addr) (cr1 cw1 : Nat) (R1 W1 : List (List ByteArray)) (f1 m1 o1 e1 : Int) (ar2 aw2 : Option Addr) (cr2 cw2 : Nat) (R2 W2 : List (List ByteArray)) (f2 m2 o2 e2 : Int) (w : World) (hr1 : Pts w ar1 cr1 R1) (hw1 : Pts w aw1 cw1 W1) (hr2 : Pts w ar2 cr2 R2) (hw2 : Pts w aw2 cw2 W2) (hc : Pl.chk2 R1 W1 f1 m1 o1 e1 R2 W2 f2 m2 o2 e2 = 0) (hR : R1.length + R2.length ≤ 1000000) (hW : W1.length + W2.length ≤ 1000000) :
    Calls Tryz.prog 19 #[.agg #[.slice ar1 R1.length cr1, .slice aw1 W1.length cw1, .int .i64 f1, .int .i64 m1, .int .i64 o1, .int .i64 e1], .agg #[.slice ar2 R2.length cr2, .slice aw2 W2.length cw2, .int .i64 f2, .int .i64 m2, .int .i64 o2, .int .i64 e2]] w (MeetE w R1 W1 f1 m1 o1 e1 R2 W2 f2 m2 o2 e2) := by
  obtain ⟨wa, hwa⟩ : ∃ wa, wa = ((w.alloc (.cells #[.slice ar1 R1.length cr1, .slice aw1 W1.length cw1, .int .i64 f1, .int .i64 m1, .int .i64 o1, .int .i64 e1] 24)).alloc (.cells #[.slice ar2 R2.length cr2, .slice aw2 W2.length cw2, .int .i64 f2, .int .i64 m2, .int .i64 o2, .int .i64 e2] 24)).alloc zPol := ⟨_, rfl⟩
  have hB2 : Below w.heap.size w ((w.alloc (.cells #[.slice ar1 R1.length cr1, .slice aw1 W1.length cw1, .int .i64 f1, .int .i64 m1, .int .i64 o1, .int .i64 e1] 24)).alloc (.cells #[.slice ar2 R2.length cr2, .slice aw2 W2.length cw2, .int .i64 f2, .int .i64 m2, .int .i64 o2, .int .i64 e2] 24)) := ((Below.refl _ _).alloc (Nat.le_refl _) _).alloc (by simp) _
  have hB : Below w.heap.size w wa := by rw [hwa]; exact hB2.alloc hB2.size _
  have hT : Two wa w.heap.size (w.heap.size + 1) ar1 aw1 cr1 cw1 R1 W1 f1 m1 o1 e1 ar2 aw2 cr2 cw2 R2 W2 f2 m2 o2 e2 := by rw [hwa]; exact (two_new w ar1 aw1 cr1 cw1 R1 W1 f1 m1 o1 e1 ar2 aw2 cr2 cw2 R2 W2 f2 m2 o2 e2 hr1 hw1 hr2 hw2).below ((Below.refl _ _).alloc (Nat.le_refl _) _)
  have hz : wa.heap[w.heap.size + 2]? = some zPol := by rw [hwa, show w.heap.size + 2 = ((w.alloc (.cells #[.slice ar1 R1.length cr1, .slice aw1 W1.length cw1, .int .i64 f1, .int .i64 m1, .int .i64 o1, .int .i64 e1] 24)).alloc (.cells #[.slice ar2 R2.length cr2, .slice aw2 W2.length cw2, .int .i64 f2, .int .i64 m2, .int .i64 o2, .int .i64 e2] 24)).heap.size from by simp]; exact heap_alloc_new _ _
  have HW : Hid (wa = ((w.alloc (.cells #[.slice ar1 R1.length cr1, .slice aw1 W1.length cw1, .int .i64 f1, .int .i64 m1, .int .i64 o1, .int .i64 e1] 24)).alloc (.cells #[.slice ar2 R2.length cr2, .slice aw2 W2.length cw2, .int .i64 f2, .int .i64 m2, .int .i64 o2, .int .i64 e2] 24)).alloc zPol) := hwa
  have H1 := checkBoth_any ar1 aw1 cr1 cw1 R1 W1 f1 m1 o1 e1 ar2 aw2 cr2 cw2 R2 W2 f2 m2 o2 e2 wa hT.r1 hT.w1 hT.r2 hT.w2
  rw [hc] at H1
  have hlr1 := hr1.len
  have hlw1 := hw1.len
  have hlr2 := hr2.len
  have hlw2 := hw2.len
  have HZ : Hid (Below w.heap.size w wa ∧ Two wa w.heap.size (w.heap.size + 1) ar1 aw1 cr1 cw1 R1 W1 f1 m1 o1 e1 ar2 aw2 cr2 cw2 R2 W2 f2 m2 o2 e2 ∧ wa.heap[w.heap.size + 2]? = some zPol) := ⟨hB, hT, hz⟩
  clear hwa hB hT hz hB2 hr1 hw1 hr2 hw2 hc
  simp only [zPol] at HW
  go_enter Tryz.func19, Tryz.ntmps19
  go_wp2_with fail
  rw [← HW.out]
  refine H1.mono ?_
  rintro x w1 ⟨rfl, hb1⟩
  have HZ1 : Hid (Below w.heap.size w w1 ∧ Two w1 w.heap.size (w.heap.size + 1) ar1 aw1 cr1 cw1 R1 W1 f1 m1 o1 e1 ar2 aw2 cr2 cw2 R2 W2 f2 m2 o2 e2 ∧ w1.heap[w.heap.size + 2]? = some zPol) := ⟨HZ.out.1.trans (hb1.mono HZ.out.1.size), HZ.out.2.1.below hb1, (hb1.block _ (lt_of_block HZ.out.2.2)).trans HZ.out.2.2⟩
  have hsz : w.heap.size + 2 < w1.heap.size := lt_of_block HZ1.out.2.2
  clear hb1 HZ H1 HW
  have HR : Hid (Pts w1 ar1 cr1 R1 ∧ Pts w1 aw1 cw1 W1 ∧ Pts w1 ar2 cr2 R2 ∧ Pts w1 aw2 cw2 W2) := ⟨HZ1.out.2.1.r1, HZ1.out.2.1.w1, HZ1.out.2.1.r2, HZ1.out.2.1.w2⟩
  have HC1 : Hid (∀ V, Below w1.heap.size w1 V → Calls Tryz.prog 40 #[.slice ar1 R1.length cr1, .slice ar2 R2.length cr2] V fun e w' => ∃ (c : List (List ByteArray)) (av : Option Addr) (n : Nat), e = .returned (.slice av c.length n) ∧ Hid (Mvd w1 w' R1 R2 c (.slice av c.length n) w1.heap.size ∧ Below V.heap.size V w') ∧ c.length ≤ 1000000) := fun V hV => meet_at _ _ _ _ R1 R2 w1 V HR.out.1 HR.out.2.2.1 hR hV
  have HC2 : Hid (∀ V, Below w1.heap.size w1 V → Calls Tryz.prog 40 #[.slice aw1 W1.length cw1, .slice aw2 W2.length cw2] V fun e w' => ∃ (c : List (List ByteArray)) (av : Option Addr) (n : Nat), e = .returned (.slice av c.length n) ∧ Hid (Mvd w1 w' W1 W2 c (.slice av c.length n) w1.heap.size ∧ Below V.heap.size V w') ∧ c.length ≤ 1000000) := fun V hV => meet_at _ _ _ _ W1 W2 w1 V HR.out.2.1 HR.out.2.2.2 hW hV
  have HS : Hid (∀ V, Below w1.heap.size w1 V → Below w1.heap.size w1 V ∧ (V.cell? ⟨w.heap.size, 0, none⟩ = some (.slice ar1 R1.length cr1) ∧ V.cell? ⟨w.heap.size, 1, none⟩ = some (.slice aw1 W1.length cw1) ∧ V.cell? ⟨w.heap.size, 2, none⟩ = some (.int .i64 f1) ∧ V.cell? ⟨w.heap.size, 3, none⟩ = some (.int .i64 m1) ∧ V.cell? ⟨w.heap.size, 4, none⟩ = some (.int .i64 o1) ∧ V.cell? ⟨w.heap.size, 5, none⟩ = some (.int .i64 e1) ∧ V.cell? ⟨w.heap.size + 1, 0, none⟩ = some (.slice ar2 R2.length cr2) ∧ V.cell? ⟨w.heap.size + 1, 1, none⟩ = some (.slice aw2 W2.length cw2) ∧ V.cell? ⟨w.heap.size + 1, 2, none⟩ = some (.int .i64 f2) ∧ V.cell? ⟨w.heap.size + 1, 3, none⟩ = some (.int .i64 m2) ∧ V.cell? ⟨w.heap.size + 1, 4, none⟩ = some (.int .i64 o2) ∧ V.cell? ⟨w.heap.size + 1, 5, none⟩ = some (.int .i64 e2))) := fun V hV => by
    have t := HZ1.out.2.1.below hV
    exact ⟨hV, t.g0, t.g1, t.g2, t.g3, t.g4, t.g5, t.h0, t.h1, t.h2, t.h3, t.h4, t.h5⟩
  have hb0 : Below w1.heap.size w1 w1.drew := (Below.refl _ w1).drew
  obtain ⟨F, hF⟩ : ∃ F, (if f2 < f1 then f2 else f1) = F := ⟨_, rfl⟩
  obtain ⟨M, hM⟩ : ∃ M, (if m2 < m1 then m2 else m1) = M := ⟨_, rfl⟩
  obtain ⟨O, hO⟩ : ∃ O, (if o2 < o1 then o2 else o1) = O := ⟨_, rfl⟩
  obtain ⟨E, hE⟩ : ∃ E, (if e2 < e1 then e2 else e1) = E := ⟨_, rfl⟩
  have HN : Hid (F = min f1 f2 ∧ M = min m1 m2 ∧ O = min o1 o2 ∧ E = min e1 e2) := by
    refine ⟨?_, ?_, ?_, ?_⟩
    · rw [← hF]; split <;> omega
    · rw [← hM]; split <;> omega
    · rw [← hO]; split <;> omega
    · rw [← hE]; split <;> omega
  clear hR hW HR
  generalize hgg : w.heap.size = g at *
  have HG : Hid (w.heap.size = g) := hgg
  clear hgg
  generalize hhh : g + 1 = h at *
  have HH : Hid (g + 1 = h) := hhh
  clear hhh
  go_upto_region 4 with fail
  go_cut [7] (fun v7 wx => ∃ (cR cW : List (List ByteArray)) (avR avW : Option Addr) (nR nW q : Nat), v7 = .pointer (some ⟨q, 0, none⟩) ∧ cR.length ≤ 1000000 ∧ cW.length ≤ 1000000 ∧ Hid (Pl.Cov (Pl.metL R1 R2) cR ∧ Pl.Cov (Pl.metL W1 W2) cW ∧ PRow wx w1.heap.size (.slice avR cR.length nR) cR ∧ PRow wx w1.heap.size (.slice avW cW.length nW) cW ∧ Below w1.heap.size w1 wx ∧ wx.heap[q]? = some (polO (.slice avR cR.length nR) (.slice avW cW.length nW) F M O E) ∧ w1.heap.size ≤ q))
  case first =>
    refine wp_region_noPanic ?_
    refine wp_region_held_drew (S := fun w' => Below w1.heap.size w1 w' ∧ (w'.cell? ⟨g, 0, none⟩ = some (.slice ar1 R1.length cr1) ∧ w'.cell? ⟨g, 1, none⟩ = some (.slice aw1 W1.length cw1) ∧ w'.cell? ⟨g, 2, none⟩ = some (.int .i64 f1) ∧ w'.cell? ⟨g, 3, none⟩ = some (.int .i64 m1) ∧ w'.cell? ⟨g, 4, none⟩ = some (.int .i64 o1) ∧ w'.cell? ⟨g, 5, none⟩ = some (.int .i64 e1) ∧ w'.cell? ⟨h, 0, none⟩ = some (.slice ar2 R2.length cr2) ∧ w'.cell? ⟨h, 1, none⟩ = some (.slice aw2 W2.length cw2) ∧ w'.cell? ⟨h, 2, none⟩ = some (.int .i64 f2) ∧ w'.cell? ⟨h, 3, none⟩ = some (.int .i64 m2) ∧ w'.cell? ⟨h, 4, none⟩ = some (.int .i64 o2) ∧ w'.cell? ⟨h, 5, none⟩ = some (.int .i64 e2))) (by kernel_rfl) (HS.out _ hb0) (fun hHeld => ?_)
    refine wpAnyH_take (i := 0) (oi := { dst := some 15, op := Op.fieldAddr 24 (Operand.tmp 2) 0, type := 0, pos := "policy.go:88", after := #[], guard := none }) (v := .pointer (some ⟨g, 0, none⟩)) rfl (by kernel_rfl) (by kernel_rfl) (by kernel_rfl) (fun _ _ _ h => h) (Or.inl ⟨by rfl, ?_⟩) (by assumption) ?_
    · intro wq hSw
      go_simp
    simp only [Act.put, List.setIfInBounds_toArray, List.set_cons_zero, List.set_cons_succ]
    refine wpAnyH_take (i := 1) (oi := { dst := some 16, op := Op.load 22 (Operand.tmp 15), type := 22, pos := "policy.go:88", after := #[{ on := 0, ground := Ground.data }], guard := none }) (v := .slice ar1 R1.length cr1) rfl (by kernel_rfl) (by kernel_rfl) (by kernel_rfl) (fun _ _ _ h => h) (Or.inl ⟨by rfl, ?_⟩) (by assumption) ?_
    · intro wq hSw
      go_simp
    simp only [Act.put, List.setIfInBounds_toArray, List.set_cons_zero, List.set_cons_succ]
    refine wpAnyH_take (i := 2) (oi := { dst := some 17, op := Op.fieldAddr 24 (Operand.tmp 3) 0, type := 0, pos := "policy.go:88", after := #[], guard := none }) (v := .pointer (some ⟨h, 0, none⟩)) rfl (by kernel_rfl) (by kernel_rfl) (by kernel_rfl) (fun _ _ _ h => h) (Or.inl ⟨by rfl, ?_⟩) (by assumption) ?_
    · intro wq hSw
      go_simp
    simp only [Act.put, List.setIfInBounds_toArray, List.set_cons_zero, List.set_cons_succ]
    refine wpAnyH_take (i := 3) (oi := { dst := some 18, op := Op.load 22 (Operand.tmp 17), type := 22, pos := "policy.go:88", after := #[{ on := 2, ground := Ground.data }], guard := none }) (v := .slice ar2 R2.length cr2) rfl (by kernel_rfl) (by kernel_rfl) (by kernel_rfl) (fun _ _ _ h => h) (Or.inl ⟨by rfl, ?_⟩) (by assumption) ?_
    · intro wq hSw
      go_simp
    simp only [Act.put, List.setIfInBounds_toArray, List.set_cons_zero, List.set_cons_succ]
    refine wpAnyH_take (i := 5) (oi := { dst := some 20, op := Op.fieldAddr 24 (Operand.tmp 2) 1, type := 0, pos := "policy.go:88", after := #[], guard := none }) (v := .pointer (some ⟨g, 1, none⟩)) rfl (by kernel_rfl) (by kernel_rfl) (by kernel_rfl) (fun _ _ _ h => h) (Or.inl ⟨by rfl, ?_⟩) (by assumption) ?_
    · intro wq hSw
      go_simp
    simp only [Act.put, List.setIfInBounds_toArray, List.set_cons_zero, List.set_cons_succ]
    refine wpAnyH_take (i := 6) (oi := { dst := some 21, op := Op.load 22 (Operand.tmp 20), type := 22, pos := "policy.go:88", after := #[{ on := 5, ground := Ground.data }], guard := none }) (v := .slice aw1 W1.length cw1) rfl (by kernel_rfl) (by kernel_rfl) (by kernel_rfl) (fun _ _ _ h => h) (Or.inl ⟨by rfl, ?_⟩) (by assumption) ?_
    · intro wq hSw
      go_simp
    simp only [Act.put, List.setIfInBounds_toArray, List.set_cons_zero, List.set_cons_succ]
    refine wpAnyH_take (i := 7) (oi := { dst := some 22, op := Op.fieldAddr 24 (Operand.tmp 3) 1, type := 0, pos := "policy.go:88", after := #[], guard := none }) (v := .pointer (some ⟨h, 1, none⟩)) rfl (by kernel_rfl) (by kernel_rfl) (by kernel_rfl) (fun _ _ _ h => h) (Or.inl ⟨by rfl, ?_⟩) (by assumption) ?_
    · intro wq hSw
      go_simp
    simp only [Act.put, List.setIfInBounds_toArray, List.set_cons_zero, List.set_cons_succ]
    refine wpAnyH_take (i := 8) (oi := { dst := some 23, op := Op.load 22 (Operand.tmp 22), type := 22, pos := "policy.go:88", after := #[{ on := 7, ground := Ground.data }], guard := none }) (v := .slice aw2 W2.length cw2) rfl (by kernel_rfl) (by kernel_rfl) (by kernel_rfl) (fun _ _ _ h => h) (Or.inl ⟨by rfl, ?_⟩) (by assumption) ?_
    · intro wq hSw
      go_simp
    simp only [Act.put, List.setIfInBounds_toArray, List.set_cons_zero, List.set_cons_succ]
    refine wpAnyH_take (i := 10) (oi := { dst := some 25, op := Op.fieldAddr 24 (Operand.tmp 2) 2, type := 0, pos := "policy.go:88", after := #[], guard := none }) (v := .pointer (some ⟨g, 2, none⟩)) rfl (by kernel_rfl) (by kernel_rfl) (by kernel_rfl) (fun _ _ _ h => h) (Or.inl ⟨by rfl, ?_⟩) (by assumption) ?_
    · intro wq hSw
      go_simp
    simp only [Act.put, List.setIfInBounds_toArray, List.set_cons_zero, List.set_cons_succ]
    refine wpAnyH_take (i := 11) (oi := { dst := some 26, op := Op.load 3 (Operand.tmp 25), type := 3, pos := "policy.go:88", after := #[{ on := 10, ground := Ground.data }], guard := none }) (v := .int .i64 f1) rfl (by kernel_rfl) (by kernel_rfl) (by kernel_rfl) (fun _ _ _ h => h) (Or.inl ⟨by rfl, ?_⟩) (by assumption) ?_
    · intro wq hSw
      go_simp
    simp only [Act.put, List.setIfInBounds_toArray, List.set_cons_zero, List.set_cons_succ]
    refine wpAnyH_take (i := 12) (oi := { dst := some 27, op := Op.fieldAddr 24 (Operand.tmp 3) 2, type := 0, pos := "policy.go:88", after := #[], guard := none }) (v := .pointer (some ⟨h, 2, none⟩)) rfl (by kernel_rfl) (by kernel_rfl) (by kernel_rfl) (fun _ _ _ h => h) (Or.inl ⟨by rfl, ?_⟩) (by assumption) ?_
    · intro wq hSw
      go_simp
    simp only [Act.put, List.setIfInBounds_toArray, List.set_cons_zero, List.set_cons_succ]
    refine wpAnyH_take (i := 13) (oi := { dst := some 28, op := Op.load 3 (Operand.tmp 27), type := 3, pos := "policy.go:88", after := #[{ on := 12, ground := Ground.data }], guard := none }) (v := .int .i64 f2) rfl (by kernel_rfl) (by kernel_rfl) (by kernel_rfl) (fun _ _ _ h => h) (Or.inl ⟨by rfl, ?_⟩) (by assumption) ?_
    · intro wq hSw
      go_simp
    simp only [Act.put, List.setIfInBounds_toArray, List.set_cons_zero, List.set_cons_succ]
    refine wpAnyH_take (i := 14) (oi := { dst := some 29, op := Op.call { callee := Callee.builtin Builtin.min, args := #[Operand.tmp 26, Operand.tmp 28], argTypes := #[3, 3] }, type := 3, pos := "policy.go:88", after := #[{ on := 11, ground := Ground.data }, { on := 13, ground := Ground.data }], guard := none }) (v := .int .i64 F) rfl (by kernel_rfl) (by kernel_rfl) (by kernel_rfl) (fun _ _ _ h => h) (Or.inl ⟨by rfl, ?_⟩) (by assumption) ?_
    · intro wq hSw
      go_simp
      exact HN.out.1.symm
    simp only [Act.put, List.setIfInBounds_toArray, List.set_cons_zero, List.set_cons_succ]
    refine wpAnyH_take (i := 15) (oi := { dst := some 30, op := Op.fieldAddr 24 (Operand.tmp 2) 3, type := 0, pos := "policy.go:88", after := #[], guard := none }) (v := .pointer (some ⟨g, 3, none⟩)) rfl (by kernel_rfl) (by kernel_rfl) (by kernel_rfl) (fun _ _ _ h => h) (Or.inl ⟨by rfl, ?_⟩) (by assumption) ?_
    · intro wq hSw
      go_simp
    simp only [Act.put, List.setIfInBounds_toArray, List.set_cons_zero, List.set_cons_succ]
    refine wpAnyH_take (i := 16) (oi := { dst := some 31, op := Op.load 3 (Operand.tmp 30), type := 3, pos := "policy.go:88", after := #[{ on := 15, ground := Ground.data }], guard := none }) (v := .int .i64 m1) rfl (by kernel_rfl) (by kernel_rfl) (by kernel_rfl) (fun _ _ _ h => h) (Or.inl ⟨by rfl, ?_⟩) (by assumption) ?_
    · intro wq hSw
      go_simp
    simp only [Act.put, List.setIfInBounds_toArray, List.set_cons_zero, List.set_cons_succ]
    refine wpAnyH_take (i := 17) (oi := { dst := some 32, op := Op.fieldAddr 24 (Operand.tmp 3) 3, type := 0, pos := "policy.go:88", after := #[], guard := none }) (v := .pointer (some ⟨h, 3, none⟩)) rfl (by kernel_rfl) (by kernel_rfl) (by kernel_rfl) (fun _ _ _ h => h) (Or.inl ⟨by rfl, ?_⟩) (by assumption) ?_
    · intro wq hSw
      go_simp
    simp only [Act.put, List.setIfInBounds_toArray, List.set_cons_zero, List.set_cons_succ]
    refine wpAnyH_take (i := 18) (oi := { dst := some 33, op := Op.load 3 (Operand.tmp 32), type := 3, pos := "policy.go:88", after := #[{ on := 17, ground := Ground.data }], guard := none }) (v := .int .i64 m2) rfl (by kernel_rfl) (by kernel_rfl) (by kernel_rfl) (fun _ _ _ h => h) (Or.inl ⟨by rfl, ?_⟩) (by assumption) ?_
    · intro wq hSw
      go_simp
    simp only [Act.put, List.setIfInBounds_toArray, List.set_cons_zero, List.set_cons_succ]
    refine wpAnyH_take (i := 19) (oi := { dst := some 34, op := Op.call { callee := Callee.builtin Builtin.min, args := #[Operand.tmp 31, Operand.tmp 33], argTypes := #[3, 3] }, type := 3, pos := "policy.go:88", after := #[{ on := 16, ground := Ground.data }, { on := 18, ground := Ground.data }], guard := none }) (v := .int .i64 M) rfl (by kernel_rfl) (by kernel_rfl) (by kernel_rfl) (fun _ _ _ h => h) (Or.inl ⟨by rfl, ?_⟩) (by assumption) ?_
    · intro wq hSw
      go_simp
      exact HN.out.2.1.symm
    simp only [Act.put, List.setIfInBounds_toArray, List.set_cons_zero, List.set_cons_succ]
    refine wpAnyH_take (i := 20) (oi := { dst := some 35, op := Op.fieldAddr 24 (Operand.tmp 2) 4, type := 0, pos := "policy.go:88", after := #[], guard := none }) (v := .pointer (some ⟨g, 4, none⟩)) rfl (by kernel_rfl) (by kernel_rfl) (by kernel_rfl) (fun _ _ _ h => h) (Or.inl ⟨by rfl, ?_⟩) (by assumption) ?_
    · intro wq hSw
      go_simp
    simp only [Act.put, List.setIfInBounds_toArray, List.set_cons_zero, List.set_cons_succ]
    refine wpAnyH_take (i := 21) (oi := { dst := some 36, op := Op.load 3 (Operand.tmp 35), type := 3, pos := "policy.go:88", after := #[{ on := 20, ground := Ground.data }], guard := none }) (v := .int .i64 o1) rfl (by kernel_rfl) (by kernel_rfl) (by kernel_rfl) (fun _ _ _ h => h) (Or.inl ⟨by rfl, ?_⟩) (by assumption) ?_
    · intro wq hSw
      go_simp
    simp only [Act.put, List.setIfInBounds_toArray, List.set_cons_zero, List.set_cons_succ]
    refine wpAnyH_take (i := 22) (oi := { dst := some 37, op := Op.fieldAddr 24 (Operand.tmp 3) 4, type := 0, pos := "policy.go:88", after := #[], guard := none }) (v := .pointer (some ⟨h, 4, none⟩)) rfl (by kernel_rfl) (by kernel_rfl) (by kernel_rfl) (fun _ _ _ h => h) (Or.inl ⟨by rfl, ?_⟩) (by assumption) ?_
    · intro wq hSw
      go_simp
    simp only [Act.put, List.setIfInBounds_toArray, List.set_cons_zero, List.set_cons_succ]
    refine wpAnyH_take (i := 23) (oi := { dst := some 38, op := Op.load 3 (Operand.tmp 37), type := 3, pos := "policy.go:88", after := #[{ on := 22, ground := Ground.data }], guard := none }) (v := .int .i64 o2) rfl (by kernel_rfl) (by kernel_rfl) (by kernel_rfl) (fun _ _ _ h => h) (Or.inl ⟨by rfl, ?_⟩) (by assumption) ?_
    · intro wq hSw
      go_simp
    simp only [Act.put, List.setIfInBounds_toArray, List.set_cons_zero, List.set_cons_succ]
    refine wpAnyH_take (i := 24) (oi := { dst := some 39, op := Op.call { callee := Callee.builtin Builtin.min, args := #[Operand.tmp 36, Operand.tmp 38], argTypes := #[3, 3] }, type := 3, pos := "policy.go:88", after := #[{ on := 21, ground := Ground.data }, { on := 23, ground := Ground.data }], guard := none }) (v := .int .i64 O) rfl (by kernel_rfl) (by kernel_rfl) (by kernel_rfl) (fun _ _ _ h => h) (Or.inl ⟨by rfl, ?_⟩) (by assumption) ?_
    · intro wq hSw
      go_simp
      exact HN.out.2.2.1.symm
    simp only [Act.put, List.setIfInBounds_toArray, List.set_cons_zero, List.set_cons_succ]
    refine wpAnyH_take (i := 25) (oi := { dst := some 40, op := Op.fieldAddr 24 (Operand.tmp 2) 5, type := 0, pos := "policy.go:88", after := #[], guard := none }) (v := .pointer (some ⟨g, 5, none⟩)) rfl (by kernel_rfl) (by kernel_rfl) (by kernel_rfl) (fun _ _ _ h => h) (Or.inl ⟨by rfl, ?_⟩) (by assumption) ?_
    · intro wq hSw
      go_simp
    simp only [Act.put, List.setIfInBounds_toArray, List.set_cons_zero, List.set_cons_succ]
    refine wpAnyH_take (i := 26) (oi := { dst := some 41, op := Op.load 3 (Operand.tmp 40), type := 3, pos := "policy.go:88", after := #[{ on := 25, ground := Ground.data }], guard := none }) (v := .int .i64 e1) rfl (by kernel_rfl) (by kernel_rfl) (by kernel_rfl) (fun _ _ _ h => h) (Or.inl ⟨by rfl, ?_⟩) (by assumption) ?_
    · intro wq hSw
      go_simp
    simp only [Act.put, List.setIfInBounds_toArray, List.set_cons_zero, List.set_cons_succ]
    refine wpAnyH_take (i := 27) (oi := { dst := some 42, op := Op.fieldAddr 24 (Operand.tmp 3) 5, type := 0, pos := "policy.go:88", after := #[], guard := none }) (v := .pointer (some ⟨h, 5, none⟩)) rfl (by kernel_rfl) (by kernel_rfl) (by kernel_rfl) (fun _ _ _ h => h) (Or.inl ⟨by rfl, ?_⟩) (by assumption) ?_
    · intro wq hSw
      go_simp
    simp only [Act.put, List.setIfInBounds_toArray, List.set_cons_zero, List.set_cons_succ]
    refine wpAnyH_take (i := 28) (oi := { dst := some 43, op := Op.load 3 (Operand.tmp 42), type := 3, pos := "policy.go:88", after := #[{ on := 27, ground := Ground.data }], guard := none }) (v := .int .i64 e2) rfl (by kernel_rfl) (by kernel_rfl) (by kernel_rfl) (fun _ _ _ h => h) (Or.inl ⟨by rfl, ?_⟩) (by assumption) ?_
    · intro wq hSw
      go_simp
    simp only [Act.put, List.setIfInBounds_toArray, List.set_cons_zero, List.set_cons_succ]
    refine wpAnyH_take (i := 29) (oi := { dst := some 44, op := Op.call { callee := Callee.builtin Builtin.min, args := #[Operand.tmp 41, Operand.tmp 43], argTypes := #[3, 3] }, type := 3, pos := "policy.go:88", after := #[{ on := 26, ground := Ground.data }, { on := 28, ground := Ground.data }], guard := none }) (v := .int .i64 E) rfl (by kernel_rfl) (by kernel_rfl) (by kernel_rfl) (fun _ _ _ h => h) (Or.inl ⟨by rfl, ?_⟩) (by assumption) ?_
    · intro wq hSw
      go_simp
      exact HN.out.2.2.2.symm
    simp only [Act.put, List.setIfInBounds_toArray, List.set_cons_zero, List.set_cons_succ]
    refine wpAnyH_ready (rs := [4, 31]) (by kernel_rfl) (by simp) ?_
    refine AllReadyH.cons (o := { dst := some 19, op := Op.call { callee := Callee.value (Operand.func 40), args := #[Operand.tmp 16, Operand.tmp 18], argTypes := #[22, 22] }, type := 22, pos := "policy.go:89", after := #[{ on := 1, ground := Ground.data }, { on := 3, ground := Ground.data }], guard := none }) rfl (fun K hK => ?_) ?_
    · skip
      go_simp
      refine (HC1.out _ hb0).mono ?_
      rintro ex w2 ⟨cR, avR, nR, rfl, K1, hcr⟩
      go_wp2_with fail
      refine hK.out _ _ (HS.out _ K1.out.1.bel) (fun hHeld => ?_)
      clear hK K
      try simp only [Act.put, List.setIfInBounds_toArray, List.set_cons_zero, List.set_cons_succ]
      refine wpAnyH_ready (rs := [9, 31]) (by kernel_rfl) (by simp) ?_
      refine AllReadyH.cons (o := { dst := some 24, op := Op.call { callee := Callee.value (Operand.func 40), args := #[Operand.tmp 21, Operand.tmp 23], argTypes := #[22, 22] }, type := 22, pos := "policy.go:90", after := #[{ on := 6, ground := Ground.data }, { on := 8, ground := Ground.data }, { on := 4, ground := Ground.chain }], guard := none }) rfl (fun K hK => ?_) ?_
      · skip
        go_simp
        refine (HC2.out _ K1.out.1.bel).mono ?_
        rintro ex w3 ⟨cW, avW, nW, rfl, K2, hcw⟩
        go_wp2_with fail
        refine hK.out _ _ (HS.out _ K2.out.1.bel) (fun hHeld => ?_)
        clear hK K
        try simp only [Act.put, List.setIfInBounds_toArray, List.set_cons_zero, List.set_cons_succ]
        refine wpAnyH_take (i := 30) (oi := { dst := some 45, op := Op.build 24 #[(0, Operand.tmp 19), (1, Operand.tmp 24), (2, Operand.tmp 29), (3, Operand.tmp 34), (4, Operand.tmp 39), (5, Operand.tmp 44)], type := 24, pos := "policy.go:88", after := #[{ on := 4, ground := Ground.data }, { on := 9, ground := Ground.data }, { on := 14, ground := Ground.data }, { on := 19, ground := Ground.data }, { on := 24, ground := Ground.data }, { on := 29, ground := Ground.data }], guard := none }) (v := .agg #[.slice avR cR.length nR, .slice avW cW.length nW, .int .i64 F, .int .i64 M, .int .i64 O, .int .i64 E]) rfl (by kernel_rfl) (by kernel_rfl) (by kernel_rfl) (fun _ _ _ h => h) (Or.inl ⟨by rfl, ?_⟩) (by assumption) ?_
        · intro wq hSw
          go_simp
        simp only [Act.put, List.setIfInBounds_toArray, List.set_cons_zero, List.set_cons_succ]
        refine wpAnyH_ready (rs := [31]) (by kernel_rfl) (by simp) ?_
        refine AllReadyH.cons (o := { dst := some 7, op := Op.alloc 24, type := 0, pos := "policy.go:88", after := #[], guard := none }) rfl (fun K hK => ?_) ?_
        · skip
          go_simp
          refine hK.out _ _ (HS.out _ (K2.out.1.bel.alloc K2.out.1.bel.size _)) (fun hHeld => ?_)
          clear hK K
          try simp only [Act.put, List.setIfInBounds_toArray, List.set_cons_zero, List.set_cons_succ]
          refine wpAnyH_ready (rs := [32]) (by kernel_rfl) (by simp) ?_
          refine AllReadyH.cons rfl (fun K hK => ?_) ?_
          · go_simp
            refine hK.out _ _ (HS.out _ (K2.out.1.bel.alloc K2.out.1.bel.size _)) (fun hHeld => ?_)
            clear hK K
            try simp only [Act.put, List.setIfInBounds_toArray, List.set_cons_zero, List.set_cons_succ]
            refine wpAnyH_done (by kernel_rfl) ?_ _
            refine NoPanic.normal ?_
            have HFn := meet_end1 K1 K2 F M O E
            clear K1 K2
            go_wp2_with fail
            go_meet
            case rel => exact ⟨cR, cW, avR, avW, nR, nW, _, rfl, hcr, hcw, HFn⟩
          · exact AllReadyH.nil
        · exact AllReadyH.nil
      · skip
        refine AllReadyH.cons (o := { dst := some 7, op := Op.alloc 24, type := 0, pos := "policy.go:88", after := #[], guard := none }) rfl (fun K hK => ?_) ?_
        · skip
          go_simp
          refine hK.out _ _ (HS.out _ (K1.out.1.bel.alloc K1.out.1.bel.size _)) (fun hHeld => ?_)
          clear hK K
          try simp only [Act.put, List.setIfInBounds_toArray, List.set_cons_zero, List.set_cons_succ]
          refine wpAnyH_ready (rs := [9]) (by kernel_rfl) (by simp) ?_
          refine AllReadyH.cons (o := { dst := some 24, op := Op.call { callee := Callee.value (Operand.func 40), args := #[Operand.tmp 21, Operand.tmp 23], argTypes := #[22, 22] }, type := 22, pos := "policy.go:90", after := #[{ on := 6, ground := Ground.data }, { on := 8, ground := Ground.data }, { on := 4, ground := Ground.chain }], guard := none }) rfl (fun K hK => ?_) ?_
          · skip
            go_simp
            refine (HC2.out _ (K1.out.1.bel.alloc K1.out.1.bel.size _)).mono ?_
            rintro ex w3 ⟨cW, avW, nW, rfl, K2, hcw⟩
            go_wp2_with fail
            refine hK.out _ _ (HS.out _ K2.out.1.bel) (fun hHeld => ?_)
            clear hK K
            try simp only [Act.put, List.setIfInBounds_toArray, List.set_cons_zero, List.set_cons_succ]
            have z2 : w3.heap[w2.heap.size]? = some zPol := (K2.out.2.block _ (by simp)).trans (heap_alloc_new w2 _)
            obtain ⟨⟨q0, q1, q2, q3, q4, q5⟩, q6⟩ := zcells z2
            refine wpAnyH_take (i := 30) (oi := { dst := some 45, op := Op.build 24 #[(0, Operand.tmp 19), (1, Operand.tmp 24), (2, Operand.tmp 29), (3, Operand.tmp 34), (4, Operand.tmp 39), (5, Operand.tmp 44)], type := 24, pos := "policy.go:88", after := #[{ on := 4, ground := Ground.data }, { on := 9, ground := Ground.data }, { on := 14, ground := Ground.data }, { on := 19, ground := Ground.data }, { on := 24, ground := Ground.data }, { on := 29, ground := Ground.data }], guard := none }) (v := .agg #[.slice avR cR.length nR, .slice avW cW.length nW, .int .i64 F, .int .i64 M, .int .i64 O, .int .i64 E]) rfl (by kernel_rfl) (by kernel_rfl) (by kernel_rfl) (fun _ _ _ h => h) (Or.inl ⟨by rfl, ?_⟩) (by assumption) ?_
            · intro wq hSw
              go_simp
            simp only [Act.put, List.setIfInBounds_toArray, List.set_cons_zero, List.set_cons_succ]
            refine wpAnyH_ready (rs := [32]) (by kernel_rfl) (by simp) ?_
            refine AllReadyH.cons rfl (fun K hK => ?_) ?_
            · go_simp
              refine hK.out _ _ (HS.out _ (put_bel K2.out.1.bel K1.out.1.bel.size z2 _ _ _ _ _ _)) (fun hHeld => ?_)
              clear hK K
              try simp only [Act.put, List.setIfInBounds_toArray, List.set_cons_zero, List.set_cons_succ]
              refine wpAnyH_done (by kernel_rfl) ?_ _
              refine NoPanic.normal ?_
              have HFn := meet_end2 K1.out.1.cov (mvd_on K1 K2.out.2 (.inr ⟨_, rfl⟩)) K2.out.1 K1.out.1.bel.size z2 F M O E
              clear K1 K2
              go_wp2_with fail
              go_meet
              case rel => exact ⟨cR, cW, avR, avW, nR, nW, _, rfl, hcr, hcw, HFn⟩
            · exact AllReadyH.nil
          · exact AllReadyH.nil
        · exact AllReadyH.nil
    · skip
      refine AllReadyH.cons (o := { dst := some 7, op := Op.alloc 24, type := 0, pos := "policy.go:88", after := #[], guard := none }) rfl (fun K hK => ?_) ?_
      · skip
        go_simp
        refine hK.out _ _ (HS.out _ (hb0.alloc hb0.size _)) (fun hHeld => ?_)
        clear hK K
        try simp only [Act.put, List.setIfInBounds_toArray, List.set_cons_zero, List.set_cons_succ]
        refine wpAnyH_ready (rs := [4]) (by kernel_rfl) (by simp) ?_
        refine AllReadyH.cons (o := { dst := some 19, op := Op.call { callee := Callee.value (Operand.func 40), args := #[Operand.tmp 16, Operand.tmp 18], argTypes := #[22, 22] }, type := 22, pos := "policy.go:89", after := #[{ on := 1, ground := Ground.data }, { on := 3, ground := Ground.data }], guard := none }) rfl (fun K hK => ?_) ?_
        · skip
          go_simp
          refine (HC1.out _ (hb0.alloc hb0.size _)).mono ?_
          rintro ex w2 ⟨cR, avR, nR, rfl, K1, hcr⟩
          go_wp2_with fail
          refine hK.out _ _ (HS.out _ K1.out.1.bel) (fun hHeld => ?_)
          clear hK K
          try simp only [Act.put, List.setIfInBounds_toArray, List.set_cons_zero, List.set_cons_succ]
          have z1 : w2.heap[w1.heap.size]? = some zPol := (K1.out.2.block _ (by simp)).trans (heap_alloc_new w1.drew _)
          refine wpAnyH_ready (rs := [9]) (by kernel_rfl) (by simp) ?_
          refine AllReadyH.cons (o := { dst := some 24, op := Op.call { callee := Callee.value (Operand.func 40), args := #[Operand.tmp 21, Operand.tmp 23], argTypes := #[22, 22] }, type := 22, pos := "policy.go:90", after := #[{ on := 6, ground := Ground.data }, { on := 8, ground := Ground.data }, { on := 4, ground := Ground.chain }], guard := none }) rfl (fun K hK => ?_) ?_
          · skip
            go_simp
            refine (HC2.out _ K1.out.1.bel).mono ?_
            rintro ex w3 ⟨cW, avW, nW, rfl, K2, hcw⟩
            go_wp2_with fail
            refine hK.out _ _ (HS.out _ K2.out.1.bel) (fun hHeld => ?_)
            clear hK K
            try simp only [Act.put, List.setIfInBounds_toArray, List.set_cons_zero, List.set_cons_succ]
            have z2 : w3.heap[w1.heap.size]? = some zPol := (K2.out.2.block _ (lt_of_block z1)).trans z1
            obtain ⟨⟨q0, q1, q2, q3, q4, q5⟩, q6⟩ := zcells z2
            refine wpAnyH_take (i := 30) (oi := { dst := some 45, op := Op.build 24 #[(0, Operand.tmp 19), (1, Operand.tmp 24), (2, Operand.tmp 29), (3, Operand.tmp 34), (4, Operand.tmp 39), (5, Operand.tmp 44)], type := 24, pos := "policy.go:88", after := #[{ on := 4, ground := Ground.data }, { on := 9, ground := Ground.data }, { on := 14, ground := Ground.data }, { on := 19, ground := Ground.data }, { on := 24, ground := Ground.data }, { on := 29, ground := Ground.data }], guard := none }) (v := .agg #[.slice avR cR.length nR, .slice avW cW.length nW, .int .i64 F, .int .i64 M, .int .i64 O, .int .i64 E]) rfl (by kernel_rfl) (by kernel_rfl) (by kernel_rfl) (fun _ _ _ h => h) (Or.inl ⟨by rfl, ?_⟩) (by assumption) ?_
            · intro wq hSw
              go_simp
            simp only [Act.put, List.setIfInBounds_toArray, List.set_cons_zero, List.set_cons_succ]
            refine wpAnyH_ready (rs := [32]) (by kernel_rfl) (by simp) ?_
            refine AllReadyH.cons rfl (fun K hK => ?_) ?_
            · go_simp
              refine hK.out _ _ (HS.out _ (put_bel K2.out.1.bel (Nat.le_refl _) z2 _ _ _ _ _ _)) (fun hHeld => ?_)
              clear hK K
              try simp only [Act.put, List.setIfInBounds_toArray, List.set_cons_zero, List.set_cons_succ]
              refine wpAnyH_done (by kernel_rfl) ?_ _
              refine NoPanic.normal ?_
              have HFn := meet_end2 K1.out.1.cov (mvd_on K1 K2.out.2 (.inl rfl)) K2.out.1 (Nat.le_refl _) z2 F M O E
              clear K1 K2
              go_wp2_with fail
              go_meet
              case rel => exact ⟨cR, cW, avR, avW, nR, nW, _, rfl, hcr, hcw, HFn⟩
            · exact AllReadyH.nil
          · exact AllReadyH.nil
        · exact AllReadyH.nil
      · exact AllReadyH.nil
  case rest =>
    obtain ⟨cR, cW, avR, avW, nR, nW, q, rfl, hcr, hcw, HFn⟩ := hcut
    have hz0 : wc.heap[h + 1]? = some zPol := by
      have e := HH.out
      rw [show h + 1 = g + 2 by omega]
      exact (HFn.out.2.2.2.2.1.block _ (by omega)).trans HZ1.out.2.2
    obtain ⟨⟨x0, x1, x2, x3, x4, x5⟩, _⟩ := cells_po HFn.out.2.2.2.2.2.1
    obtain ⟨⟨p0, p1, p2, p3, p4, p5⟩, pf⟩ := zcells hz0
    have HBl : Hid (Below w.heap.size w wc) := by
      have k := HZ1.out.1
      rw [← HG.out] at k
      exact k.trans (HFn.out.2.2.2.2.1.mono k.size)
    have HZ : Hid (wc.heap[h + 1]? = some zPol) := hz0
    have hgh : w.heap.size < h + 1 := by have e1 := HG.out; have e2 := HH.out; omega
    have hw1 : w.heap.size ≤ w1.heap.size := HZ1.out.1.size
    have hhw : h + 1 < w1.heap.size := by have e2 := HH.out; omega
    clear hz0 HZ1 HC1 HC2 HS hb0 hF hM hO hE
    by_cases hA : 1024 < cR.length
    · have hA1 : (1024 : Int) < (cR.length : Int) := by omega
      have hA2 : decide ((1024 : Int) < (cR.length : Int)) = true := by simpa using hA1
      go_wp2_with fail
      obtain ⟨y0, y1⟩ := put6_at HZ.out (.slice none 0 0) (.slice none 0 0) (.int .i64 0) (.int .i64 0) (.int .i64 0) (.int .i64 0)
      refine bodyPost_ret (results_pol2 rfl _ _ (h + 1) _ _ _ _ _ _ rfl y0) rfl ?_
      exact ⟨HBl.out.trans (y1.below HBl.out.size (fun k e => by omega)), cR, cW, HFn.out.1, HFn.out.2.1, .inl ⟨.inl hA, rfl⟩⟩
    have hA1 : ¬ (1024 : Int) < (cR.length : Int) := by omega
    have hA2 : decide ((1024 : Int) < (cR.length : Int)) = false := by simpa using hA1
    by_cases hC : 1024 < cW.length
    · have hC1 : (1024 : Int) < (cW.length : Int) := by omega
      have hC2 : decide ((1024 : Int) < (cW.length : Int)) = true := by simpa using hC1
      go_wp2_with fail
      obtain ⟨y0, y1⟩ := put6_at HZ.out (.slice none 0 0) (.slice none 0 0) (.int .i64 0) (.int .i64 0) (.int .i64 0) (.int .i64 0)
      refine bodyPost_ret (results_pol2 rfl _ _ (h + 1) _ _ _ _ _ _ rfl y0) rfl ?_
      exact ⟨HBl.out.trans (y1.below HBl.out.size (fun k e => by omega)), cR, cW, HFn.out.1, HFn.out.2.1, .inl ⟨.inr hC, rfl⟩⟩
    · have hC1 : ¬ (1024 : Int) < (cW.length : Int) := by omega
      have hC2 : decide ((1024 : Int) < (cW.length : Int)) = false := by simpa using hC1
      go_wp2_with fail
      obtain ⟨y0, y1⟩ := put6_at HZ.out (.slice avR cR.length nR) (.slice avW cW.length nW) (.int .i64 F) (.int .i64 M) (.int .i64 O) (.int .i64 E)
      refine bodyPost_ret (results_pol2 rfl _ _ (h + 1) _ _ _ _ _ _ rfl y0) rfl ?_
      obtain ⟨n1, n2, n3, n4⟩ := HN.out
      refine ⟨HBl.out.trans (y1.below HBl.out.size (fun k e => by omega)), cR, cW, HFn.out.1, HFn.out.2.1, .inr ⟨⟨by omega, by omega⟩, avR, avW, nR, nW, ?_, (HFn.out.2.2.1.keep2 HZ.out y1).base hw1, (HFn.out.2.2.2.1.keep2 HZ.out y1).base hw1⟩⟩
      rw [← n1, ← n2, ← n3, ← n4]
      rfl
end Go.Proofs.YtcloljkaojnipaaGreatDoor
