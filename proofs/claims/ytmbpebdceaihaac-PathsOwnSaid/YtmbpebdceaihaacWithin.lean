/- What paths.Within answers. -/
import Derived.Test.YtmbpebdceaihaacShared
namespace Go.Proofs.Ytmbpebdceaihaac
open Go.RowKit

set_option maxHeartbeats 400000 in
theorem within_any (a1 a2 : Option Addr) (c1 c2 : Nat) (l1 l2 : List ByteArray) (w : World) (h1 : Strs w a1 c1 l1) (h2 : Strs w a2 c2 l2) :
    Calls Try.prog 13 #[.slice a1 l1.length c1, .slice a2 l2.length c2] w fun e w' => e = .returned (.bool (Pl.withinP l1 l2)) ∧ ∃ n, w' = w.drewN n := by
  have hl1 := h1.len
  have hl2 := h2.len
  go_enter Try.func13, Try.ntmps13
  go_wp2_with (go_at_call 22; refine (shared_any _ _ _ _ l1 l2 _ h1 h2).mono ?_; rintro e w' ⟨rfl, n, rfl⟩)
  go_ret
  exact ⟨rfl, _, rfl⟩

theorem within_b (a1 a2 : Option Addr) (c1 c2 : Nat) (l1 l2 : List ByteArray) (w : World) (h1 : Strs w a1 c1 l1) (h2 : Strs w a2 c2 l2) :
    Calls Try.prog 13 #[.slice a1 l1.length c1, .slice a2 l2.length c2] w fun e w' => e = .returned (.bool (Pl.withinP l1 l2)) ∧ Below w.heap.size w w' :=
  (within_any a1 a2 c1 c2 l1 l2 w h1 h2).mono fun _ _ ⟨he, n, hw⟩ => ⟨he, by rw [hw]; exact below_drewN (Below.refl _ _) n⟩
end Go.Proofs.Ytmbpebdceaihaac
