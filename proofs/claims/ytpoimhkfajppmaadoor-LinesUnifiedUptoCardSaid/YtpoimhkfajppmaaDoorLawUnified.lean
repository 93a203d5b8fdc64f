/- LinesUnified answers true for every name and every two texts that are not too long, and every number: the walk of the law over its callees' contracts. -/
import Derived.Test.YtpoimhkfajppmaaDoorLTold
import Derived.Test.YtpoimhkfajppmaaDoorLRUni
namespace Go.Proofs.YtpoimhkfajppmaaDoor
open Go.RowKit

set_option maxRecDepth 100000 in
set_option maxHeartbeats 2000000 in
theorem lawUnified_any (nm s t : ByteArray) (ar : Int) (w : World) (TT : Tabs2 w) (hnm : nm.size ≤ 1048576) (hs : s.size ≤ 1048576) (ht : t.size ≤ 1048576) :
    Calls Tryd.prog 4 #[.string nm, .string s, .string t, .int .i64 ar] w fun e w' => e = .returned (.bool true) ∧ Below w.heap.size w w' := by
  have hB : Below w.heap.size w w := Below.refl _ _
  obtain ⟨Y, yc, hY⟩ : ∃ Y yc, Ln.uniR nm s t ar = (Y, yc) := ⟨_, _, rfl⟩
  have HY : Hid (Ln.uniR nm s t ar = (Y, yc)) := hY
  clear hY
  go_enter Tryd.func4, Tryd.ntmps4
  go_wp2_with fail
  refine (uni_any nm s t ar _ TT hnm hs ht).mono ?_
  rw [HY.out]
  rintro e w3 ⟨rfl, hb⟩
  replace TT := TT.below hb; replace hB := hB.trans (hb.mono hB.size); clear hb
  go_wp2_with fail
  refine (runi_any nm s t ar _ hnm hs ht).mono ?_
  rw [HY.out]
  rintro e w4 ⟨rfl, hb⟩
  replace TT := TT.below hb; replace hB := hB.trans (hb.mono hB.size); clear hb
  go_wp2_with fail
  refine (told_any _ TT).mono ?_
  rintro e w5 ⟨rfl, hb⟩
  replace hB := hB.trans (hb.mono hB.size); clear hb
  go_wp2_with fail
  go_ret
  exact ⟨by first | rfl | exact ret_bool (by simp), hB⟩
end Go.Proofs.YtpoimhkfajppmaaDoor
