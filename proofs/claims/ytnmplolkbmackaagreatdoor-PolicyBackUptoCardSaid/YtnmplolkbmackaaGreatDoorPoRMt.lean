/- What the reference's met, Meet, inside and Within answer. -/
import Derived.Test.YtnmplolkbmackaaGreatDoorPoMt
import Derived.Test.YtnmplolkbmackaaGreatDoorPoRNm
namespace Go.Proofs.YtnmplolkbmackaaGreatDoor
open Go.RowKit

namespace Pl
theorem inn_step {l m : List (List ByteArray)} {k : Nat} (hk : k < l.length) (h : insideB m (l[k]'hk) = true) : innP (l.drop k) m = innP (l.drop (k + 1)) m := by
  unfold innP
  rw [List.drop_eq_getElem_cons hk, List.all_cons, h, Bool.true_and]
theorem inn_stop {l m : List (List ByteArray)} {k : Nat} (hk : k < l.length) (h : insideB m (l[k]'hk) = false) : innP (l.drop k) m = false := by
  unfold innP
  rw [List.drop_eq_getElem_cons hk, List.all_cons, h, Bool.false_and]
end Pl

set_option maxRecDepth 100000 in
set_option maxHeartbeats 1000000 in
theorem rinsideAll_any (a ao : Option Addr) (cap co : Nat) (l m : List (List ByteArray)) (w : World) (h : Pts w a cap l) (ho : Pts w ao co m) :
    Calls Tryz.prog 43 #[.slice a l.length cap, .slice ao m.length co] w fun e w' => e = .returned (.bool (Pl.innP l m)) ∧ Below w.heap.size w w' := by
  have hl := h.len
  have hlm := ho.len
  go_enter Tryz.func43, Tryz.ntmps43
  go_wp2_with fail
  go_loopw [9] (fun i wr => ∃ k : Nat, k ≤ l.length ∧ i = .int .i64 k ∧ Hid (Pl.innP l m = Pl.innP (l.drop k) m) ∧ Below w.heap.size w wr) (fun i _ => l.length - (intOf i).toNat)
  case atStart => exact ⟨0, Nat.zero_le _, rfl, rfl, Below.refl _ _⟩
  case round =>
    obtain ⟨k, hk, rfl, HK, hnx⟩ := hrel
    have hsz := hnx.size
    by_cases hlt : k < l.length
    · obtain ⟨b, off, x, c, rfl, hb, hc, hs⟩ := (h.below hnx).cells k hlt
      have HY : Hid (Pl.insideB m (l[k]'hlt) = true → Pl.innP l m = Pl.innP (l.drop (k + 1)) m) := fun e => HK.out.trans (Pl.inn_step hlt e)
      have HN : Hid (Pl.insideB m (l[k]'hlt) = false → Pl.innP l m = false) := fun e => HK.out.trans (Pl.inn_stop hlt e)
      have hxl := hs.len
      generalize l[k]'hlt = p at *
      have i1 : (k : Int) < (l.length : Int) := by omega
      have C := rinside_any _ _ _ _ m p _ (ho.below hnx) hs
      cases hp : Pl.insideB m p
      · have HE : Hid (Pl.innP l m = false) := HN.out hp
        rw [hp] at C
        go_wp2_with fail
        refine C.mono ?_
        rintro e w1 ⟨rfl, hb1⟩
        have hB1 := hnx.trans (hb1.mono hsz)
        go_wp2_with fail
        go_ret
        rw [HE.out]
        exact ⟨rfl, hB1⟩
      · have HE : Hid (Pl.innP l m = Pl.innP (l.drop (k + 1)) m) := HY.out hp
        rw [hp] at C
        go_wp2_with fail
        refine C.mono ?_
        rintro e w1 ⟨rfl, hb1⟩
        have hB1 := hnx.trans (hb1.mono hsz)
        go_wp2_with fail
        go_roundw
        case rel => exact ⟨k + 1, by omega, by go_num, HE, hB1⟩
        case measure => simp [intOf]; omega
    · have i1 : ¬ (k : Int) < (l.length : Int) := by omega
      have HE : Hid (Pl.innP l m = true) := HK.out.trans (by rw [List.drop_eq_nil_of_le (by omega)]; rfl)
      go_wp2_with fail
      go_ret
      rw [HE.out]
      exact ⟨rfl, hnx⟩

set_option maxRecDepth 100000 in
set_option maxHeartbeats 1000000 in
theorem rmet_any (a ao : Option Addr) (cap co : Nat) (l m : List (List ByteArray)) (w : World) (h : Pts w a cap l) (ho : Pts w ao co m) (hm : l.length + m.length ≤ 1000000) :
    Calls Tryz.prog 41 #[.slice a l.length cap, .slice ao m.length co] w fun e w' => ∃ c v, e = .returned v ∧ Pl.Cov (Pl.metL l m) c ∧ c.length ≤ l.length + m.length ∧ PRow w' w.heap.size v c ∧ Below w.heap.size w w' := by
  obtain ⟨i0, hi, hz0, hz1, hz2⟩ := info_parts Tryz.infoPath
  have hl := h.len
  have hlm := ho.len
  have hL1 : (l.filter (Pl.insideB m)).length ≤ l.length := List.length_filter_le _ _
  have hL2 : (m.filter (Pl.insideB l)).length ≤ m.length := List.length_filter_le _ _
  go_enter Tryz.func41, Tryz.ntmps41
  go_wp2_with fail
  go_loopw [5, 12] (fun v i wr => ∃ k : Nat, k ≤ l.length ∧ i = .int .i64 k ∧ PRow wr w.heap.size v ((l.take k).filter (Pl.insideB m)) ∧ Below w.heap.size w wr) (fun _ i _ => l.length - (intOf i).toNat)
  case atStart => exact ⟨0, Nat.zero_le _, rfl, PRow.empty _ _, Below.refl _ _⟩
  case round =>
    obtain ⟨k, hk, rfl, hpr, hnx⟩ := hrel
    have hsz := hnx.size
    by_cases hlt : k < l.length
    · obtain ⟨b, off, x, c, rfl, hb, hc, hs⟩ := h.cells k hlt
      have hc := (hnx.cell (p := ⟨b, off + k, none⟩) hb).trans hc
      have hx0 : l[k] ≠ [] → ∀ ad, x = some ad → ad.block < w.heap.size := hs.lt
      have hs := hs.below hnx
      have HY : Hid (Pl.insideB m (l[k]'hlt) = true → (l.take (k + 1)).filter (Pl.insideB m) = ((l.take k).filter (Pl.insideB m)) ++ [l[k]'hlt]) := fun e => by rw [Pl.filter_yes hlt e]
      have HN : Hid (Pl.insideB m (l[k]'hlt) = false → (l.take (k + 1)).filter (Pl.insideB m) = (l.take k).filter (Pl.insideB m)) := fun e => by rw [Pl.filter_no hlt e]
      have hkl : ((l.take k).filter (Pl.insideB m)).length ≤ k := Nat.le_trans (List.length_filter_le _ _) (by simp; omega)
      have hxl := hs.len
      generalize l[k]'hlt = p at *
      generalize (l.take k).filter (Pl.insideB m) = t at *
      have i1 : (k : Int) < (l.length : Int) := by omega
      have HX : Hid (p ≠ [] → ∀ ad, x = some ad → ad.block < w.heap.size) := hx0
      have HPR : Hid (PRow wr w.heap.size _ t) := hpr
      have C := rinside_any _ _ _ _ m p _ (ho.below hnx) hs
      clear hx0 hpr
      cases hp : Pl.insideB m p
      · have HE : Hid ((l.take (k + 1)).filter (Pl.insideB m) = t) := HN.out hp
        rw [hp] at C
        go_wp2_with fail
        refine C.mono ?_
        rintro e w1 ⟨rfl, hb1⟩
        have hB1 := hnx.trans (hb1.mono hsz)
        have HR1 : Hid (PRow w1 w.heap.size _ t) := HPR.out.below hb1
        go_wp2_with fail
        go_roundw
        case rel => exact ⟨k + 1, by omega, by go_num, by rw [HE.out]; exact HR1.out, hB1⟩
        case measure => simp [intOf]; omega
      · have HE : Hid ((l.take (k + 1)).filter (Pl.insideB m) = t ++ [p]) := HY.out hp
        rw [hp] at C
        go_wp2_with fail
        refine C.mono ?_
        rintro e w1 ⟨rfl, hb1⟩
        have hB1 := hnx.trans (hb1.mono hsz)
        have hs1 := hB1.size
        obtain ⟨xs, ox, ex⟩ := HPR.out.below hb1
        have s1 := hs.below hb1
        have hoff : Off x p (Value.ownBlock _) := fun hp ad e q => by
          have h1 := HX.out hp ad e
          have h2 := (ox.lt ad.block q.symm).1
          omega
        clear hb1
        go_wp2_with (at_builtin; refine wpList_append_far _ rfl _ _ 22 rfl w.heap.size 26 i0 (.slice none 0 0) 1 24 Tryz.underlying22 hi hz0 hz1 hz2 rfl (by decide) _ _ _ rfl (ox.alloc _) ⟨w1.heap.size, 0, none⟩ 1 1 [.slice x p.length c] rfl rfl (cell_one_new _ _ _) ?cl2 ?cl3 ?cl4 ?cl5 ?_)
        case cl2 => first | rfl | (intro u hu; simp at hu; subst hu; rfl)
        case cl3 => unfold maxLen; omega
        case cl4 => omega
        case cl5 => simp; omega
        intro v3 w3 hown3 hgr3 _ hat3
        have hB3 : Below w.heap.size w w3 := (hB1.alloc hs1 _).grown hgr3 (by simp; omega) (fun g hg => (ox.lt g hg).1)
        have hpr3 := prow_snoc ox ex s1 hoff hown3 hgr3 hat3 (by simp)
        clear hgr3 hown3 hat3
        go_wp2
        go_roundw
        case rel => exact ⟨k + 1, by omega, by go_num, by rw [HE.out]; exact hpr3, hB3⟩
        case measure => simp [intOf]; omega
    · have e : l.take k = l := List.take_of_length_le (by omega)
      rw [e] at hpr
      have i1 : ¬ (k : Int) < (l.length : Int) := by omega
      clear e
      go_wp2_with fail
      rename World => K
      go_loopw [5, 26] (fun v i wr => ∃ k : Nat, k ≤ m.length ∧ i = .int .i64 k ∧ PRow wr w.heap.size v (l.filter (Pl.insideB m) ++ (m.take k).filter (Pl.insideB l)) ∧ Below w.heap.size w wr) (fun _ i _ => m.length - (intOf i).toNat)
      case atStart => exact ⟨0, Nat.zero_le _, rfl, by simpa using hpr, hnx⟩
      case round =>
        obtain ⟨k, hk, rfl, hpr, hnx⟩ := hrel
        have hsz := hnx.size
        by_cases hlt : k < m.length
        · obtain ⟨b, off, x, c, rfl, hb, hc, hs⟩ := ho.cells k hlt
          have hc := (hnx.cell (p := ⟨b, off + k, none⟩) hb).trans hc
          have hx0 : m[k] ≠ [] → ∀ ad, x = some ad → ad.block < w.heap.size := hs.lt
          have hs := hs.below hnx
          have HY : Hid (Pl.insideB l (m[k]'hlt) = true → l.filter (Pl.insideB m) ++ (m.take (k + 1)).filter (Pl.insideB l) = (l.filter (Pl.insideB m) ++ (m.take k).filter (Pl.insideB l)) ++ [m[k]'hlt]) := fun e => by rw [Pl.filter_yes hlt e]; simp
          have HN : Hid (Pl.insideB l (m[k]'hlt) = false → l.filter (Pl.insideB m) ++ (m.take (k + 1)).filter (Pl.insideB l) = l.filter (Pl.insideB m) ++ (m.take k).filter (Pl.insideB l)) := fun e => by rw [Pl.filter_no hlt e]
          have hkl : (l.filter (Pl.insideB m) ++ (m.take k).filter (Pl.insideB l)).length ≤ l.length + k := by rw [List.length_append]; exact Nat.add_le_add hL1 (Nat.le_trans (List.length_filter_le _ _) (by simp; omega))
          have hxl := hs.len
          generalize m[k]'hlt = p at *
          generalize l.filter (Pl.insideB m) ++ (m.take k).filter (Pl.insideB l) = t at *
          have i1 : (k : Int) < (m.length : Int) := by omega
          have HX : Hid (p ≠ [] → ∀ ad, x = some ad → ad.block < w.heap.size) := hx0
          have HPR : Hid (PRow wr w.heap.size _ t) := hpr
          have C := rinside_any _ _ _ _ l p _ (h.below hnx) hs
          clear hx0 hpr
          cases hp : Pl.insideB l p
          · have HE : Hid (l.filter (Pl.insideB m) ++ (m.take (k + 1)).filter (Pl.insideB l) = t) := HN.out hp
            rw [hp] at C
            go_wp2_with fail
            refine C.mono ?_
            rintro e w1 ⟨rfl, hb1⟩
            have hB1 := hnx.trans (hb1.mono hsz)
            have HR1 : Hid (PRow w1 w.heap.size _ t) := HPR.out.below hb1
            go_wp2_with fail
            go_roundw
            case rel => exact ⟨k + 1, by omega, by go_num, by rw [HE.out]; exact HR1.out, hB1⟩
            case measure => simp [intOf]; omega
          · have HE : Hid (l.filter (Pl.insideB m) ++ (m.take (k + 1)).filter (Pl.insideB l) = t ++ [p]) := HY.out hp
            rw [hp] at C
            go_wp2_with fail
            refine C.mono ?_
            rintro e w1 ⟨rfl, hb1⟩
            have hB1 := hnx.trans (hb1.mono hsz)
            have hs1 := hB1.size
            obtain ⟨xs, ox, ex⟩ := HPR.out.below hb1
            have s1 := hs.below hb1
            have hoff : Off x p (Value.ownBlock _) := fun hp ad e q => by
              have h1 := HX.out hp ad e
              have h2 := (ox.lt ad.block q.symm).1
              omega
            clear hb1
            go_wp2_with (at_builtin; refine wpList_append_far _ rfl _ _ 22 rfl w.heap.size 26 i0 (.slice none 0 0) 1 24 Tryz.underlying22 hi hz0 hz1 hz2 rfl (by decide) _ _ _ rfl (ox.alloc _) ⟨w1.heap.size, 0, none⟩ 1 1 [.slice x p.length c] rfl rfl (cell_one_new _ _ _) ?cm2 ?cm3 ?cm4 ?cm5 ?_)
            case cm2 => first | rfl | (intro u hu; simp at hu; subst hu; rfl)
            case cm3 => unfold maxLen; omega
            case cm4 => omega
            case cm5 => simp; omega
            intro v3 w3 hown3 hgr3 _ hat3
            have hB3 : Below w.heap.size w w3 := (hB1.alloc hs1 _).grown hgr3 (by simp; omega) (fun g hg => (ox.lt g hg).1)
            have hpr3 := prow_snoc ox ex s1 hoff hown3 hgr3 hat3 (by simp)
            clear hgr3 hown3 hat3
            go_wp2
            go_roundw
            case rel => exact ⟨k + 1, by omega, by go_num, by rw [HE.out]; exact hpr3, hB3⟩
            case measure => simp [intOf]; omega
        · have e : m.take k = m := List.take_of_length_le (by omega)
          rw [e] at hpr
          have i1 : ¬ (k : Int) < (m.length : Int) := by omega
          clear e
          obtain ⟨a3, c3, rfl, q3⟩ := hpr.pts (by rw [List.length_append]; omega)
          have hll : (l.filter (Pl.insideB m) ++ m.filter (Pl.insideB l)).length ≤ l.length + m.length := by rw [List.length_append]; omega
          have CC := rcover_any _ _ (l.filter (Pl.insideB m) ++ m.filter (Pl.insideB l)) wr q3
          have HM : Hid (Pl.metL l m = l.filter (Pl.insideB m) ++ m.filter (Pl.insideB l)) := rfl
          have HB : Hid (Below w.heap.size w wr) := hnx
          generalize l.filter (Pl.insideB m) ++ m.filter (Pl.insideB l) = L3 at *
          clear q3 hpr hnx
          go_wp2_with fail
          refine CC.mono ?_
          rintro e w4 ⟨c, v, rfl, k1, k2, k3, k4⟩
          have HF : Hid (Pl.Cov (Pl.metL l m) c ∧ c.length ≤ l.length + m.length ∧ PRow w4 w.heap.size v c ∧ Below w.heap.size w w4) := ⟨by rw [HM.out]; exact k1, by omega, k3.base hsz, HB.out.trans (k4.mono hsz)⟩
          clear k1 k2 k3 k4 CC
          go_wp2_with fail
          go_ret
          exact ⟨c, v, rfl, HF.out⟩
end Go.Proofs.YtnmplolkbmackaaGreatDoor
