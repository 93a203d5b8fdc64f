/- What holds of each of the 256 bytes. -/
import Derived.Test.YtpoimhkfajppmaaDoorLPlain
namespace Go.Proofs.YtpoimhkfajppmaaDoor
namespace Ln
theorem all_bytes {P : UInt8 → Prop} (h : ∀ n : Fin 256, P (UInt8.ofNat n.val)) (b : UInt8) : P b := by
  have := h ⟨b.toNat, b.toNat_lt⟩
  simpa using this
end Ln
end Go.Proofs.YtpoimhkfajppmaaDoor
