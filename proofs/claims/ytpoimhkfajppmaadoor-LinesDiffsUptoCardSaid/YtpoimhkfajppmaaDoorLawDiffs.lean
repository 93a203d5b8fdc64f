/- LinesDiffs answers true for every two texts and every list of changes that are not too long: the walk of the law over its callees' contracts. -/
import Derived.Test.YtpoimhkfajppmaaDoorLTold
import Derived.Test.YtpoimhkfajppmaaDoorLApply
import Derived.Test.YtpoimhkfajppmaaDoorLChanges
namespace Go.Proofs.YtpoimhkfajppmaaDoor
open Go.RowKit

set_option maxRecDepth 100000 in
set_option maxHeartbeats 4000000 in
theorem lawDiffs_any (s t : ByteArray) (al : Option Addr) (cl : Nat) (l : List Ln.Chg) (w : World) (TT : Tabs2 w) (hs : s.size ≤ 1048576) (ht : t.size ≤ 1048576) (hl : Chs w al cl l) (htot : Ln.tot (l.map (·.2)) ≤ 4194304) :
    Calls Tryd.prog 3 #[.string s, .string t, .slice al l.length cl] w fun e w' => e = .returned (.bool true) ∧ Below w.heap.size w w' := by
  have hB : Below w.heap.size w w := Below.refl _ _
  have hDD : (Ln.diffR (Ln.splB s) (Ln.splB t)).1.length ≤ 67108864 ∧ (∀ x ∈ (Ln.diffR (Ln.splB s) (Ln.splB t)).1, x.2.1.size ≤ 67108864) ∧ (∀ x ∈ (Ln.diffR (Ln.splB s) (Ln.splB t)).1, x.1 < 256) := by
    cases hd : Ln.diffR (Ln.splB s) (Ln.splB t) with
    | mk D dc =>
      by_cases h0 : dc = 0
      · subst h0
        obtain ⟨-, q1, q2, q3, -, -⟩ := Ln.told_of hd hs ht
        exact ⟨by simp only; omega, q3, q2⟩
      · have : D = [] := by
          unfold Ln.diffR at hd
          split at hd
          · exact (congrArg Prod.fst hd).symm
          · exact absurd (congrArg Prod.snd hd).symm h0
        subst this
        exact ⟨by simp, fun x hx => by simp at hx, fun x hx => by simp at hx⟩
  obtain ⟨hD1, hD2, hD3⟩ := hDD
  have HD2 : Hid (∀ x ∈ (Ln.diffR (Ln.splB s) (Ln.splB t)).1, x.2.1.size ≤ 67108864) := hD2
  have HD3 : Hid (∀ x ∈ (Ln.diffR (Ln.splB s) (Ln.splB t)).1, x.1 < 256) := hD3
  clear hD2 hD3
  obtain ⟨D, dc, hD⟩ : ∃ D dc, Ln.diffR (Ln.splB s) (Ln.splB t) = (D, dc) := ⟨_, _, rfl⟩
  rw [hD] at hD1 HD2 HD3
  have HD : Hid (Ln.diffR (Ln.splB s) (Ln.splB t) = (D, dc)) := hD
  clear hD
  simp only at hD1
  obtain ⟨Y, yc, hY⟩ : ∃ Y yc, Ln.applyR (Ln.splB s) l = (Y, yc) := ⟨_, _, rfl⟩
  have HY : Hid (Ln.applyR (Ln.splB s) l = (Y, yc)) := hY
  clear hY
  go_enter Tryd.func3, Tryd.ntmps3
  go_wp2_with fail
  refine (diff_any s t _ (by omega) (by omega)).mono ?_
  rw [HD.out]
  rintro e w1 ⟨v1, rfl, od, hb⟩
  obtain ⟨a1, c1, rfl, dx⟩ := own_chs od hD1 HD2.out HD3.out
  replace TT := TT.below hb; replace hl := hl.below hb; replace hB := hB.trans (hb.mono hB.size); clear hb od
  simp only
  go_wp2_with fail
  refine (rdiff_any s t _ (by omega) (by omega)).mono ?_
  rw [HD.out]
  rintro e w2 ⟨v2, rfl, od, hb⟩
  obtain ⟨a2, c2, rfl, dy⟩ := own_chs od hD1 HD2.out HD3.out
  replace TT := TT.below hb; replace hl := hl.below hb; replace dx := dx.below hb; replace hB := hB.trans (hb.mono hB.size); clear hb od
  simp only
  go_wp2_with fail
  refine (apply_any s _ _ l _ hl (by omega) (Nat.le_trans htot (by omega))).mono ?_
  rw [HY.out]
  rintro e w3 ⟨rfl, hb⟩
  replace TT := TT.below hb; replace hl := hl.below hb; replace dx := dx.below hb; replace dy := dy.below hb; replace hB := hB.trans (hb.mono hB.size); clear hb
  go_wp2_with fail
  refine (rapply_any s _ _ l _ hl (by omega) (Nat.le_trans htot (by omega))).mono ?_
  rw [HY.out]
  rintro e w4 ⟨rfl, hb⟩
  replace TT := TT.below hb; replace dx := dx.below hb; replace dy := dy.below hb; replace hB := hB.trans (hb.mono hB.size); clear hb hl
  go_wp2_with fail
  refine (told_any _ TT).mono ?_
  rintro e w5 ⟨rfl, hb⟩
  replace dx := dx.below hb; replace dy := dy.below hb; replace hB := hB.trans (hb.mono hB.size); clear hb
  go_wp2_with fail
  refine (changes_any _ _ _ _ D _ dx dy).mono ?_
  rintro e w6 ⟨rfl, hb⟩
  replace hB := hB.trans (hb.mono hB.size); clear hb
  go_wp2_with fail
  go_ret
  exact ⟨by first | rfl | exact ret_bool (by simp), hB⟩
end Go.Proofs.YtpoimhkfajppmaaDoor
