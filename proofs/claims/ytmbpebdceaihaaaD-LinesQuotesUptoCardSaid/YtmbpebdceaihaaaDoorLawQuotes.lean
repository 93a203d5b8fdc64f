/- LinesQuotes answers true for every two texts that are not too long: the walk of the law over its callees' contracts. -/
import Derived.Test.YtmbpebdceaihaaaDoorLLives
import Derived.Test.YtmbpebdceaihaaaDoorLQuote
import Derived.Test.YtmbpebdceaihaaaDoorLRUnq
namespace Go.Proofs.YtmbpebdceaihaaaDoor
open Go.RowKit

set_option maxHeartbeats 2000000 in
theorem lawQuotes_any (s t : ByteArray) (w : World) (T : Tabs w) (hs : s.size ≤ 1048576) (ht : t.size ≤ 1048576) :
    Calls Tryd.prog 6 #[.string s, .string t] w fun e w' => e = .returned (.bool true) ∧ Below w.heap.size w w' := by
  have hB : Below w.heap.size w w := Below.refl _ _
  obtain ⟨U1, U2, U3, U4, hU⟩ : ∃ a b c d, Ln.unqP t = (a, b, c, d) := ⟨_, _, _, _, rfl⟩
  have HU : Hid (Ln.unqP t = (U1, U2, U3, U4)) := hU
  obtain ⟨Q, hQ⟩ : ∃ Q, Ln.quoP s = Q := ⟨_, rfl⟩
  have HQ : Hid (Ln.quoP s = Q) := hQ
  obtain ⟨UB, hUB⟩ : ∃ UB, Ln.bs U1 = UB := ⟨_, rfl⟩
  have HUB : Hid (Ln.bs U1 = UB) := hUB
  clear hU hQ hUB
  go_enter Tryd.func6, Tryd.ntmps6
  go_wp2_with fail
  refine (unq_any t _ T ht).mono ?_
  rw [HU.out, HUB.out]
  rintro e w1 ⟨rfl, hb⟩
  replace T := T.below T.size hb; replace hB := hB.trans (hb.mono hB.size); clear hb
  go_wp2_with fail
  refine (runq_any t _ ht).mono ?_
  rw [HU.out, HUB.out]
  rintro e w2 ⟨rfl, hb⟩
  replace T := T.below T.size hb; replace hB := hB.trans (hb.mono hB.size); clear hb
  go_wp2_with fail
  refine (lives_any _ T).mono ?_
  rintro e w3 ⟨rfl, hb⟩
  replace T := T.below T.size hb; replace hB := hB.trans (hb.mono hB.size); clear hb
  go_wp2_with fail
  refine (quote_any s _ T hs).mono ?_
  rw [HQ.out]
  rintro e w4 ⟨rfl, hb⟩
  replace hB := hB.trans (hb.mono hB.size); clear hb
  go_wp2_with fail
  refine (rquote_any s _ hs).mono ?_
  rw [HQ.out]
  rintro e w5 ⟨rfl, hb⟩
  replace hB := hB.trans (hb.mono hB.size); clear hb
  go_wp2_with fail
  go_ret
  exact ⟨rfl, hB⟩
end Go.Proofs.YtmbpebdceaihaaaDoor
