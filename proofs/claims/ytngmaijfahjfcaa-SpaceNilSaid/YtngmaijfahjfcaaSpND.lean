/- What the law's do answers of a nil space. -/
import Derived.Test.YtngmaijfahjfcaaSpN
import Derived.Test.YtngmaijfahjfcaaSpT
namespace Go.Proofs.Ytngmaijfahjfcaa
open Go.RowKit

set_option maxRecDepth 100000 in
set_option maxHeartbeats 1000000 in
theorem ndo0 (t : ByteArray) (i : Nat) (x : ByteArray) (w : World) : Calls Try.prog 11 #[nl, stV 0 t i x] w fun e w' => e = .returned (.tuple #[.bool false, .slice none 0 0, .int .i64 1]) ∧ Below w.heap.size w w' := by
  go_enter Try.func11, Try.ntmps11
  go_wp2_with (first | (go_at_call 22; refine (nset _ _).mono ?_; rintro e w1 ⟨rfl, hw⟩))
  go_ret3
  exact ⟨rfl, ((Below.refl _ _).alloc (Nat.le_refl _) _).trans (hw.mono (by simp))⟩
set_option maxRecDepth 100000 in
set_option maxHeartbeats 1000000 in
theorem ndo1 (t : ByteArray) (i : Nat) (x : ByteArray) (w : World) : Calls Try.prog 11 #[nl, stV 1 t i x] w fun e w' => e = .returned (.tuple #[.bool false, .slice none 0 0, .int .i64 1]) ∧ Below w.heap.size w w' := by
  go_enter Try.func11, Try.ntmps11
  go_wp2_with (first | (go_at_call 29; refine (njoin _ _).mono ?_; rintro e w1 ⟨rfl, hw⟩))
  go_ret3
  exact ⟨rfl, ((Below.refl _ _).alloc (Nat.le_refl _) _).trans (hw.mono (by simp))⟩
set_option maxRecDepth 100000 in
set_option maxHeartbeats 1000000 in
theorem ndo2 (t : ByteArray) (i : Nat) (x : ByteArray) (w : World) : Calls Try.prog 11 #[nl, stV 2 t i x] w fun e w' => e = .returned (.tuple #[.bool false, .slice none 0 0, .int .i64 1]) ∧ Below w.heap.size w w' := by
  go_enter Try.func11, Try.ntmps11
  go_wp2_with (first | (go_at_call 25; refine (nGet _).mono ?_; rintro e w1 ⟨rfl, rfl⟩))
  go_ret3
  exact ⟨rfl, (Below.refl _ _).alloc (Nat.le_refl _) _⟩
set_option maxRecDepth 100000 in
set_option maxHeartbeats 1000000 in
theorem ndo3 (t : ByteArray) (i : Nat) (x : ByteArray) (w : World) : Calls Try.prog 11 #[nl, stV 3 t i x] w fun e w' => e = .returned (.tuple #[.bool false, .slice none 0 0, .int .i64 1]) ∧ Below w.heap.size w w' := by
  go_enter Try.func11, Try.ntmps11
  go_wp2_with (first | (go_at_call 28; refine (nGetMore _).mono ?_; rintro e w1 ⟨rfl, rfl⟩))
  go_ret3
  exact ⟨rfl, (Below.refl _ _).alloc (Nat.le_refl _) _⟩
set_option maxRecDepth 100000 in
set_option maxHeartbeats 1000000 in
theorem ndo4 (t : ByteArray) (i : Nat) (x : ByteArray) (w : World) : Calls Try.prog 11 #[nl, stV 4 t i x] w fun e w' => e = .returned (.tuple #[.bool false, .slice none 0 0, .int .i64 1]) ∧ Below w.heap.size w w' := by
  go_enter Try.func11, Try.ntmps11
  go_wp2_with (first | (go_at_call 23; refine (nPut _).mono ?_; rintro e w1 ⟨rfl, rfl⟩))
  go_ret3
  exact ⟨rfl, (Below.refl _ _).alloc (Nat.le_refl _) _⟩
set_option maxRecDepth 100000 in
set_option maxHeartbeats 1000000 in
theorem ndo5 (t : ByteArray) (i : Nat) (x : ByteArray) (w : World) : Calls Try.prog 11 #[nl, stV 5 t i x] w fun e w' => e = .returned (.tuple #[.bool false, .slice none 0 0, .int .i64 1]) ∧ Below w.heap.size w w' := by
  go_enter Try.func11, Try.ntmps11
  go_wp2_with (first | (go_at_call 27; refine (nPutMore _).mono ?_; rintro e w1 ⟨rfl, rfl⟩))
  go_ret3
  exact ⟨rfl, (Below.refl _ _).alloc (Nat.le_refl _) _⟩
set_option maxRecDepth 100000 in
set_option maxHeartbeats 1000000 in
theorem ndo6 (t : ByteArray) (i : Nat) (x : ByteArray) (w : World) : Calls Try.prog 11 #[nl, stV 6 t i x] w fun e w' => e = .returned (.tuple #[.bool false, .slice none 0 0, .int .i64 1]) ∧ Below w.heap.size w w' := by
  go_enter Try.func11, Try.ntmps11
  go_wp2_with (first | (go_at_call 24; refine (nSwap _).mono ?_; rintro e w1 ⟨rfl, rfl⟩))
  go_ret3
  exact ⟨rfl, (Below.refl _ _).alloc (Nat.le_refl _) _⟩
set_option maxRecDepth 100000 in
set_option maxHeartbeats 1000000 in
theorem ndo7 (t : ByteArray) (i : Nat) (x : ByteArray) (w : World) : Calls Try.prog 11 #[nl, stV 7 t i x] w fun e w' => e = .returned (.tuple #[.bool false, .slice none 0 0, .int .i64 1]) ∧ Below w.heap.size w w' := by
  go_enter Try.func11, Try.ntmps11
  go_wp2_with (first | (go_at_call 26; refine (nDrop _).mono ?_; rintro e w1 ⟨rfl, hw⟩))
  go_ret3
  exact ⟨rfl, ((Below.refl _ _).alloc (Nat.le_refl _) _).trans (hw.mono (by simp))⟩
set_option maxRecDepth 100000 in
set_option maxHeartbeats 1000000 in
theorem ndo8 (t : ByteArray) (i : Nat) (x : ByteArray) (w : World) : Calls Try.prog 11 #[nl, stV 8 t i x] w fun e w' => e = .returned (.tuple #[.bool false, .slice none 0 0, .int .i64 1]) ∧ Below w.heap.size w w' := by
  go_enter Try.func11, Try.ntmps11
  go_wp2_with (first | (go_at_call 30; refine (nPush _ _ _).mono ?_; rintro e w1 ⟨rfl, hw⟩))
  go_ret3
  exact ⟨rfl, ((Below.refl _ _).alloc (Nat.le_refl _) _).trans (hw.mono (by simp))⟩
set_option maxRecDepth 100000 in
set_option maxHeartbeats 1000000 in
theorem ndo9 (t : ByteArray) (i : Nat) (x : ByteArray) (w : World) : Calls Try.prog 11 #[nl, stV 9 t i x] w fun e w' => e = .returned (.tuple #[.bool false, .slice none 0 0, .int .i64 1]) ∧ Below w.heap.size w w' := by
  go_enter Try.func11, Try.ntmps11
  go_wp2_with (first | (go_at_call 31; refine (nTake _).mono ?_; rintro e w1 ⟨rfl, rfl⟩))
  go_ret3
  exact ⟨rfl, (Below.refl _ _).alloc (Nat.le_refl _) _⟩
set_option maxRecDepth 100000 in
set_option maxHeartbeats 1000000 in
theorem ndoX (j : Int) (h0 : j ≠ 0) (h1 : j ≠ 1) (h2 : j ≠ 2) (h3 : j ≠ 3) (h4 : j ≠ 4) (h5 : j ≠ 5) (h6 : j ≠ 6) (h7 : j ≠ 7) (h8 : j ≠ 8) (h9 : j ≠ 9) (t : ByteArray) (i : Nat) (x : ByteArray) (w : World) : Calls Try.prog 11 #[nl, stV j t i x] w fun e w' => e = .returned (.tuple #[.bool false, .slice none 0 0, .int .i64 0]) ∧ Below w.heap.size w w' := by
  go_enter Try.func11, Try.ntmps11
  go_wp2
  go_ret3
  exact ⟨rfl, (Below.refl _ _).alloc (Nat.le_refl _) _⟩
/-- A nil space: whatever call it is, the error is ErrNil. -/
theorem ndo_any (j : Int) (t : ByteArray) (i : Nat) (x : ByteArray) (w : World) : Calls Try.prog 11 #[nl, stV j t i x] w fun e w' => e = .returned (.tuple #[.bool false, .slice none 0 0, .int .i64 (if 0 ≤ j ∧ j ≤ 9 then 1 else 0)]) ∧ Below w.heap.size w w' := by
  by_cases h : 0 ≤ j ∧ j ≤ 9
  · rw [if_pos h]
    have : j = 0 ∨ j = 1 ∨ j = 2 ∨ j = 3 ∨ j = 4 ∨ j = 5 ∨ j = 6 ∨ j = 7 ∨ j = 8 ∨ j = 9 := by omega
    rcases this with rfl | rfl | rfl | rfl | rfl | rfl | rfl | rfl | rfl | rfl
    · exact ndo0 t i x w
    · exact ndo1 t i x w
    · exact ndo2 t i x w
    · exact ndo3 t i x w
    · exact ndo4 t i x w
    · exact ndo5 t i x w
    · exact ndo6 t i x w
    · exact ndo7 t i x w
    · exact ndo8 t i x w
    · exact ndo9 t i x w
  · rw [if_neg h]
    exact ndoX j (by omega) (by omega) (by omega) (by omega) (by omega) (by omega) (by omega) (by omega) (by omega) (by omega) t i x w
end Go.Proofs.Ytngmaijfahjfcaa
