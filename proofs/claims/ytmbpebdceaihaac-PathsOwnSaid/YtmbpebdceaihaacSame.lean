/- What the reference's Same answers. -/
import Derived.Test.YtmbpebdceaihaacBoth
import Derived.Test.YtmbpebdceaihaacPlainCmp
namespace Go.Proofs.Ytmbpebdceaihaac
open Go.RowKit

theorem Strs.drewN {w : World} {a : Option Addr} {cap : Nat} {l : List ByteArray} (h : Strs w a cap l) (n : Nat) : Strs (w.drewN n) a cap l := h.below (below_drewN (Below.refl _ _) n)

set_option maxHeartbeats 400000 in
theorem same_any (a1 a2 : Option Addr) (c1 c2 : Nat) (l1 l2 : List ByteArray) (w : World) (h1 : Strs w a1 c1 l1) (h2 : Strs w a2 c2 l2) :
    Calls Try.prog 10 #[.slice a1 l1.length c1, .slice a2 l2.length c2] w fun e w' => e = .returned (.bool (Pl.sameP l1 l2)) ∧ ∃ n, w' = w.drewN n := by
  have hl1 := h1.len
  have hl2 := h2.len
  cases hq : ((l1.length : Int) == (l2.length : Int))
  · have HE : Hid (Pl.sameP l1 l2 = false) := by simp only [Pl.sameP, hq]; rfl
    go_enter Try.func10, Try.ntmps10
    go_wp2_with fail
    go_ret
    exact ⟨ret_bool HE.out.symm, 0, rfl⟩
  · have HE : Hid (Pl.sameP l1 l2 = ((Pl.com l1 l2 : Int) == (l1.length : Int))) := by simp only [Pl.sameP, hq]; rfl
    go_enter Try.func10, Try.ntmps10
    go_wp2_with (go_at_call 21; refine (both_any _ _ _ _ l1 l2 _ h1 h2).mono ?_; rintro e w' ⟨rfl, n, rfl⟩)
    go_ret
    exact ⟨ret_bool HE.out.symm, _, rfl⟩

theorem same_b (a1 a2 : Option Addr) (c1 c2 : Nat) (l1 l2 : List ByteArray) (w : World) (h1 : Strs w a1 c1 l1) (h2 : Strs w a2 c2 l2) :
    Calls Try.prog 10 #[.slice a1 l1.length c1, .slice a2 l2.length c2] w fun e w' => e = .returned (.bool (Pl.sameP l1 l2)) ∧ Below w.heap.size w w' :=
  (same_any a1 a2 c1 c2 l1 l2 w h1 h2).mono fun _ _ ⟨he, n, hw⟩ => ⟨he, by rw [hw]; exact below_drewN (Below.refl _ _) n⟩
end Go.Proofs.Ytmbpebdceaihaac
