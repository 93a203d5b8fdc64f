/- What nfa.layouts answers: the table of what lays out each kind. -/
import Derived.Test.YtdiokclbdaojpaaDoorNfM4
import Derived.Laws.EntriesVeiled
namespace Go.Proofs.YtdiokclbdaojpaaDoor
open Go.RowKit

set_option maxRecDepth 100000 in
set_option maxHeartbeats 1000000 in
theorem layouts_any (w : World) : Calls Tryd.prog 33 #[] w fun e w' => e = .returned (.agg Nt.tblA) ∧ Below w.heap.size w w' := by
  go_enter Tryd.func33, Tryd.ntmps33
  go_wp2_with fail
  refine bodyPost_ret (results_cell_row rfl _ _ w.heap.size _ Nt.tblA _ _ rfl (heap_alloc_new w _) Tryd.underlying75 rfl (by kernel_rfl)) rfl ?_
  exact ⟨rfl, (Below.refl _ w).alloc (Nat.le_refl _) _⟩
end Go.Proofs.YtdiokclbdaojpaaDoor
