/- LinesSplits answers true for every text and every list of lines that are not too long: the walk of the law over its callees' contracts. -/
import Derived.Test.YtmbpebdceaihaaaDoorLLives
namespace Go.Proofs.YtmbpebdceaihaaaDoor
open Go.RowKit

set_option maxHeartbeats 2000000 in
theorem lawSplits_any (s : ByteArray) (al : Option Addr) (cl : Nat) (l : List (ByteArray × Bool)) (w : World) (T : Tabs w) (hs : s.size ≤ 1048576) (hl : Lns w al cl l) (ht : Ln.tot l ≤ 1048576) :
    Calls Tryd.prog 3 #[.string s, .slice al l.length cl] w fun e w' => e = .returned (.bool true) ∧ Below w.heap.size w w' := by
  have ll := hl.len
  have hB : Below w.heap.size w w := Below.refl _ _
  have T2 := T.size
  have hn := Ln.splB_len s
  have HM : Hid (∀ x ∈ Ln.splB s, x.1.size ≤ 4194304) := fun x hx => Nat.le_trans (Ln.splB_mem s x hx) (by omega)
  obtain ⟨F1, F2, F3, hF⟩ : ∃ F1 F2 F3, Ln.firstP [] s.data.toList = (F1, F2, F3) := ⟨_, _, _, rfl⟩
  have HF : Hid (Ln.firstP [] s.data.toList = (F1, F2, F3)) := hF
  obtain ⟨S, hS⟩ : ∃ S, Ln.splB s = S := ⟨_, rfl⟩
  rw [hS] at hn HM
  have HS : Hid (Ln.splB s = S) := hS
  have HE : Hid (Ln.sameL S S = true) := Ln.same_refl S
  clear hF hS
  go_enter Tryd.func3, Tryd.ntmps3
  go_wp2_with fail
  refine (first_any s _ (by omega)).mono ?_
  rw [HF.out]
  rintro e w1 ⟨rfl, n1, hw1⟩
  have hb : Below w.heap.size w w1 := by rw [hw1]; exact below_drewN (Below.refl _ _) n1
  clear hw1
  replace T := T.below T2 hb; replace hl := hl.below hb; replace hB := hB.trans (hb.mono hB.size); clear hb
  go_wp2_with fail
  refine (rfirst_any s _ (by omega)).mono ?_
  rw [HF.out]
  rintro e w2 ⟨rfl, n2, hw2⟩
  have hb : Below w1.heap.size w1 w2 := by rw [hw2]; exact below_drewN (Below.refl _ _) n2
  clear hw2
  replace T := T.below T.size hb; replace hl := hl.below hb; replace hB := hB.trans (hb.mono hB.size); clear hb
  go_wp2_with fail
  refine (lives_any _ T).mono ?_
  rintro e w3 ⟨rfl, hb⟩
  replace hl := hl.below hb; replace hB := hB.trans (hb.mono hB.size); clear hb
  go_wp2_with fail
  refine (split_any s _ (by omega)).mono ?_
  rw [HS.out]
  rintro e w4 ⟨v4, rfl, hown, hb⟩
  obtain ⟨a4, c4, rfl, s4⟩ := own_lns hown (by omega) HM.out
  replace hl := hl.below hb; replace hB := hB.trans (hb.mono hB.size); clear hb hown
  go_wp2_with fail
  refine (rsplit_any s _ (by omega)).mono ?_
  rw [HS.out]
  rintro e w5 ⟨v5, rfl, hown, hb⟩
  obtain ⟨a5, c5, rfl, s5⟩ := own_lns hown (by omega) HM.out
  replace s4 := s4.below hb; replace hl := hl.below hb; replace hB := hB.trans (hb.mono hB.size); clear hb hown
  go_wp2_with fail
  refine (lsame_b _ _ _ _ S S _ s4 s5).mono ?_
  rw [HE.out]
  rintro e w6 ⟨rfl, hb⟩
  replace hl := hl.below hb; replace hB := hB.trans (hb.mono hB.size); clear hb
  go_wp2_with fail
  refine (ljoin_any _ _ l _ hl (by omega)).mono ?_
  rintro e w7 ⟨rfl, hb⟩
  replace hl := hl.below hb; replace hB := hB.trans (hb.mono hB.size); clear hb
  go_wp2_with fail
  refine (rjoin_any _ _ l _ hl (by omega)).mono ?_
  rintro e w8 ⟨rfl, hb⟩
  replace hB := hB.trans (hb.mono hB.size); clear hb
  go_wp2_with fail
  refine (count_any s _ (by omega)).mono ?_
  rw [HS.out]
  rintro e w' ⟨rfl, rfl⟩
  go_wp2_with fail
  refine (rsplit_any s _ (by omega)).mono ?_
  rw [HS.out]
  rintro e w9 ⟨v9, rfl, hown, hb⟩
  obtain ⟨a9, c9, rfl, s9⟩ := own_lns hown (by omega) HM.out
  replace hB := hB.trans (hb.mono hB.size); clear hb hown
  go_wp2_with fail
  go_ret
  exact ⟨rfl, hB⟩
end Go.Proofs.YtmbpebdceaihaaaDoor
