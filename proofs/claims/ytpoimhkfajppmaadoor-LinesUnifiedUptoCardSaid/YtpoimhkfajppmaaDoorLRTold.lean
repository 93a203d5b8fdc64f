/- What the reference's Told and some answer: a byte, told; whether a byte that is told by octal digits goes on so. -/
import Derived.Test.YtpoimhkfajppmaaDoorLUnt
import Derived.Test.YtpoimhkfajppmaaDoorLBytes
import Derived.Laws.OwnMore
namespace Go.Proofs.YtpoimhkfajppmaaDoor
open Go.RowKit

namespace Ln
theorem toldR_oct : ∀ b : UInt8, b ≠ 92 → (b.toNat < 7 ∨ 13 < b.toNat) → ¬ (32 ≤ b.toNat ∧ b.toNat < 127) → toldL b = [92, 48 + b / 64, 48 + b / 8 % 8, 48 + b % 8] :=
  all_bytes (by decide +kernel)
theorem toldR_plain : ∀ b : UInt8, b ≠ 92 → 32 ≤ b.toNat ∧ b.toNat < 127 → toldL b = [b] :=
  all_bytes (by decide +kernel)
theorem told_o1 : ∀ b : UInt8, ((48 + b / 64).toNat : Int) = (48 + (b.toNat : Int) / 64) := all_bytes (by decide +kernel)
theorem told_o3 : ∀ b : UInt8, ((48 + b % 8).toNat : Int) = (48 + (b.toNat : Int) % 8) := all_bytes (by decide +kernel)
end Ln

theorem conv_lit (w : World) (l : List UInt8) (h : l.length ≤ 1024) :
    (convert 53 9 (.slice (some ⟨w.heap.size, 0, none⟩) l.length l.length)).run Tryd.prog (w.alloc (.cells (bcells l).toArray 5)) = .ok (.string (Ln.bs l)) (w.alloc (.cells (bcells l).toArray 5)) := by
  have ho := World.ownsRow_lit (base := w.heap.size) (e := 5) (size := 1) w (bcells l).toArray l.length (Nat.le_refl _) (by unfold maxLen; omega) (by simp [bcells])
  exact conv_own (by simpa using ho)

set_option maxRecDepth 100000 in
set_option maxHeartbeats 1000000 in
theorem rtold_any (b : UInt8) (w : World) :
    Calls Tryd.prog 37 #[.int .u8 b.toNat] w fun e w' => e = .returned (.string (Ln.bs (Ln.toldL b))) ∧ Below w.heap.size w w' := by
  by_cases h1 : b = 92
  · subst h1
    show Calls _ _ #[.int .u8 92] _ _
    go_enter Tryd.func37, Tryd.ntmps37
    go_wp2
    go_ret
    exact ⟨rfl, Below.refl _ _⟩
  by_cases h2 : b.toNat < 7 ∨ 13 < b.toNat
  · have e1 : ((b.toNat : Int) == 92) = false := by
      rw [beq_eq_false_iff_ne]; intro e; apply h1; rw [← UInt8.toNat_inj]; simp; omega
    have e2 : ((b.toNat : Int) == 7) = false := by rw [beq_eq_false_iff_ne]; omega
    have e3 : ((b.toNat : Int) == 8) = false := by rw [beq_eq_false_iff_ne]; omega
    have e4 : ((b.toNat : Int) == 12) = false := by rw [beq_eq_false_iff_ne]; omega
    have e5 : ((b.toNat : Int) == 10) = false := by rw [beq_eq_false_iff_ne]; omega
    have e6 : ((b.toNat : Int) == 13) = false := by rw [beq_eq_false_iff_ne]; omega
    have e7 : ((b.toNat : Int) == 9) = false := by rw [beq_eq_false_iff_ne]; omega
    have e8 : ((b.toNat : Int) == 11) = false := by rw [beq_eq_false_iff_ne]; omega
    by_cases h3 : 32 ≤ b.toNat ∧ b.toNat < 127
    · rw [Ln.toldR_plain b h1 h3]
      have i1 : (b.toNat : Int) ≥ 32 := by omega
      have i2 : (b.toNat : Int) < 127 := by omega
      have hcv : (convert 53 9 (.slice (some ⟨w.heap.size, 0, none⟩) 1 1)).run Tryd.prog (w.alloc (.cells #[.int .u8 b.toNat] 5)) = .ok (.string (Ln.bs [b])) (w.alloc (.cells #[.int .u8 b.toNat] 5)) := conv_lit w [b] (by simp)
      go_enter Tryd.func37, Tryd.ntmps37
      go_wp2_with fail
      go_ret
      exact ⟨rfl, (Below.refl _ _).alloc (Nat.le_refl _) _⟩
    · rw [Ln.toldR_oct b h1 h2 h3]
      have hcv : (convert 53 9 (.slice (some ⟨w.heap.size, 0, none⟩) 4 4)).run Tryd.prog (w.alloc (.cells #[.int .u8 92, .int .u8 (48 + (b.toNat : Int) / 64), .int .u8 (48 + (b.toNat : Int) / 8 % 8), .int .u8 (48 + (b.toNat : Int) % 8)] 5)) = .ok (.string (Ln.bs [92, 48 + b / 64, 48 + b / 8 % 8, 48 + b % 8])) (w.alloc (.cells #[.int .u8 92, .int .u8 (48 + (b.toNat : Int) / 64), .int .u8 (48 + (b.toNat : Int) / 8 % 8), .int .u8 (48 + (b.toNat : Int) % 8)] 5)) := by
        have h := conv_lit w [92, 48 + b / 64, 48 + b / 8 % 8, 48 + b % 8] (by simp)
        have e : (bcells [92, 48 + b / 64, 48 + b / 8 % 8, 48 + b % 8]).toArray = #[.int .u8 92, .int .u8 (48 + (b.toNat : Int) / 64), .int .u8 (48 + (b.toNat : Int) / 8 % 8), .int .u8 (48 + (b.toNat : Int) % 8)] := by
          simp only [bcells, List.map, Ln.told_o1, Ln.told_o3]; rfl
        rw [e] at h
        exact h
      have b255 : (b.toNat : Int) ≤ 255 := by have := b.toNat_lt; omega
      have m1 : (48 + (b.toNat : Int) / 64) % 256 = 48 + (b.toNat : Int) / 64 := by omega
      go_enter Tryd.func37, Tryd.ntmps37
      rcases (show (b.toNat : Int) < 32 ∨ (32 ≤ (b.toNat : Int) ∧ ¬ (b.toNat : Int) < 127) by omega) with i1 | ⟨i1, i2⟩
      · have i1' : ¬ (b.toNat : Int) ≥ 32 := by omega
        go_wp2_with fail
        go_ret
        exact ⟨rfl, (Below.refl _ _).alloc (Nat.le_refl _) _⟩
      · go_wp2_with fail
        go_ret
        exact ⟨rfl, (Below.refl _ _).alloc (Nat.le_refl _) _⟩
  · have h3 : b = 7 ∨ b = 8 ∨ b = 9 ∨ b = 10 ∨ b = 11 ∨ b = 12 ∨ b = 13 := by
      simp only [← UInt8.toNat_inj]; simp; omega
    rcases h3 with rfl | rfl | rfl | rfl | rfl | rfl | rfl
    · show Calls _ _ #[.int .u8 7] _ _
      go_enter Tryd.func37, Tryd.ntmps37
      go_wp2
      go_ret
      exact ⟨rfl, Below.refl _ _⟩
    · show Calls _ _ #[.int .u8 8] _ _
      go_enter Tryd.func37, Tryd.ntmps37
      go_wp2
      go_ret
      exact ⟨rfl, Below.refl _ _⟩
    · show Calls _ _ #[.int .u8 9] _ _
      go_enter Tryd.func37, Tryd.ntmps37
      go_wp2
      go_ret
      exact ⟨rfl, Below.refl _ _⟩
    · show Calls _ _ #[.int .u8 10] _ _
      go_enter Tryd.func37, Tryd.ntmps37
      go_wp2
      go_ret
      exact ⟨rfl, Below.refl _ _⟩
    · show Calls _ _ #[.int .u8 11] _ _
      go_enter Tryd.func37, Tryd.ntmps37
      go_wp2
      go_ret
      exact ⟨rfl, Below.refl _ _⟩
    · show Calls _ _ #[.int .u8 12] _ _
      go_enter Tryd.func37, Tryd.ntmps37
      go_wp2
      go_ret
      exact ⟨rfl, Below.refl _ _⟩
    · show Calls _ _ #[.int .u8 13] _ _
      go_enter Tryd.func37, Tryd.ntmps37
      go_wp2
      go_ret
      exact ⟨rfl, Below.refl _ _⟩
end Go.Proofs.YtpoimhkfajppmaaDoor
