/- LinesLists answers true for every two texts that are not too long and every width: the walk of the law over its callees' contracts. -/
import Derived.Test.YtmbpebdceaihaaaDoorLLives
import Derived.Test.YtmbpebdceaihaaaDoorLRList
import Derived.Test.YtmbpebdceaihaaaDoorLRUnl
namespace Go.Proofs.YtmbpebdceaihaaaDoor
open Go.RowKit

set_option maxHeartbeats 2000000 in
theorem lawLists_any (s t : ByteArray) (width : Int) (w : World) (T : Tabs w) (hs : s.size ≤ 1048576) (ht : t.size ≤ 1048576) (hw : -9223372036854775808 ≤ width) (hw2 : width ≤ 9223372036854775807) :
    Calls Tryd.prog 7 #[.string s, .int .i64 width, .string t] w fun e w' => e = .returned (.bool true) ∧ Below w.heap.size w w' := by
  have hB : Below w.heap.size w w := Below.refl _ _
  obtain ⟨U1, U2, U3, hU⟩ : ∃ a b c, Ln.unlP t = (a, b, c) := ⟨_, _, _, rfl⟩
  have HU : Hid (Ln.unlP t = (U1, U2, U3)) := hU
  obtain ⟨P1, P2, hP⟩ : ∃ a b, Ln.listP s width = (a, b) := ⟨_, _, rfl⟩
  have HP : Hid (Ln.listP s width = (P1, P2)) := hP
  obtain ⟨UB, hUB⟩ : ∃ UB, Ln.bs U1 = UB := ⟨_, rfl⟩
  have HUB : Hid (Ln.bs U1 = UB) := hUB
  clear hU hP hUB
  go_enter Tryd.func7, Tryd.ntmps7
  go_wp2_with fail
  refine (list_any s width _ T hs hw hw2).mono ?_
  rw [HP.out]
  rintro e w1 ⟨rfl, hb⟩
  replace T := T.below T.size hb; replace hB := hB.trans (hb.mono hB.size); clear hb
  go_wp2_with fail
  refine (rlist_any s width _ hs hw hw2).mono ?_
  rw [HP.out]
  rintro e w2 ⟨rfl, hb⟩
  replace T := T.below T.size hb; replace hB := hB.trans (hb.mono hB.size); clear hb
  go_wp2_with fail
  refine (unl_any t _ T ht).mono ?_
  rw [HU.out]
  simp only [UNL]
  rw [HUB.out]
  rintro e w3 ⟨rfl, hb⟩
  replace T := T.below T.size hb; replace hB := hB.trans (hb.mono hB.size); clear hb
  go_wp2_with fail
  refine (runl_any t _ ht).mono ?_
  rw [HU.out]
  simp only [UNL]
  rw [HUB.out]
  rintro e w4 ⟨rfl, hb⟩
  replace T := T.below T.size hb; replace hB := hB.trans (hb.mono hB.size); clear hb
  go_wp2_with fail
  refine (lives_any _ T).mono ?_
  rintro e w5 ⟨rfl, hb⟩
  replace hB := hB.trans (hb.mono hB.size); clear hb
  go_wp2_with fail
  go_ret
  exact ⟨rfl, hB⟩
end Go.Proofs.YtmbpebdceaihaaaDoor
