/- The law SpaceNil answers true. -/
import Derived.Test.YtngmaijfahjfcaaSpND
import Derived.Test.YtngmaijfahjfcaaSpB
namespace Go.Proofs.Ytngmaijfahjfcaa
open Go.RowKit

set_option maxRecDepth 100000 in
set_option maxHeartbeats 4000000 in
theorem law_nil (a : Option Addr) (cap : Nat) (l : List Stp) (w : World) (hl : Stps w a cap l) :
    Calls Try.prog 4 #[.slice a l.length cap] w fun e w' => e = .returned (.bool true) ∧ Below w.heap.size w w' := by
  have hn := hl.len
  unfold maxLen at hn
  have HL : Hid (Stps w a cap l) := hl
  clear hl
  go_enter Try.func4, Try.ntmps4
  go_wp2
  go_loopw [4] (fun iv wr => ∃ k : Nat, k ≤ l.length ∧ iv = .int .i64 (k : Int) ∧ Hid (Below w.heap.size w wr)) (fun iv _ => l.length - (intOf iv).toNat)
  case atStart => exact ⟨0, Nat.zero_le _, rfl, Below.refl _ _⟩
  case round =>
    obtain ⟨k, hk, rfl, HW⟩ := hrel
    by_cases hlt : k < l.length
    · obtain ⟨b, off, rfl, hb, c0, c1, c2, c3⟩ := (HL.out.below HW.out).cell k hlt
      generalize l[k] = x at *
      obtain ⟨j, t, i, y⟩ := x
      simp only [] at c0 c1 c2 c3
      have HD : Hid (Calls Try.prog 11 #[nl, stV j t i y] wr fun e w' => e = .returned (.tuple #[.bool false, .slice none 0 0, .int .i64 (if 0 ≤ j ∧ j ≤ 9 then 1 else 0)]) ∧ Below wr.heap.size wr w') := ndo_any j t i y wr
      by_cases hj : 0 ≤ j ∧ j ≤ 9
      · obtain ⟨hj0, hj9⟩ := hj
        rw [if_pos ⟨hj0, hj9⟩] at HD
        have d0 : decide (0 ≤ j) = true := by simpa using hj0
        have d9 : decide (j ≤ 9) = true := by simpa using hj9
        go_wp2_with (first | (go_at_call 11; refine HD.out.mono ?_; rintro e w1 ⟨rfl, hw⟩; obtain ⟨hc, hf⟩ := bcell hw; have HW1 : Hid (Below wr.heap.size wr w1) := hw; clear hw))
        go_roundw
        case rel => exact ⟨k + 1, by omega, by go_num, HW.out.trans (HW1.out.mono HW.out.size)⟩
        case measure => simp [intOf]; omega
      · rw [if_neg hj] at HD
        by_cases hj0 : 0 ≤ j
        · have hj9 : ¬ j ≤ 9 := fun q => hj ⟨hj0, q⟩
          have d0 : decide (0 ≤ j) = true := by simpa using hj0
          have d9 : decide (j ≤ 9) = false := by simpa using hj9
          clear hj
          go_wp2_with (first | (go_at_call 11; refine HD.out.mono ?_; rintro e w1 ⟨rfl, hw⟩; obtain ⟨hc, hf⟩ := bcell hw; have HW1 : Hid (Below wr.heap.size wr w1) := hw; clear hw))
          go_roundw
          case rel => exact ⟨k + 1, by omega, by go_num, HW.out.trans (HW1.out.mono HW.out.size)⟩
          case measure => simp [intOf]; omega
        · have d0 : decide (0 ≤ j) = false := by simpa using hj0
          clear hj
          go_wp2_with (first | (go_at_call 11; refine HD.out.mono ?_; rintro e w1 ⟨rfl, hw⟩; obtain ⟨hc, hf⟩ := bcell hw; have HW1 : Hid (Below wr.heap.size wr w1) := hw; clear hw))
          go_roundw
          case rel => exact ⟨k + 1, by omega, by go_num, HW.out.trans (HW1.out.mono HW.out.size)⟩
          case measure => simp [intOf]; omega
    · have HB : Hid (Calls Try.prog 16 #[] wr fun e w' => e = .returned (.bool true) ∧ Below wr.heap.size wr w') := begins_any wr
      go_wp2_with (first
        | (go_at_call 15; refine (nFirst _).mono ?_; rintro e w1 ⟨rfl, rfl⟩)
        | (go_at_call 16; refine HB.out.mono ?_; rintro e w2 ⟨rfl, hw⟩; have HW1 : Hid (Below wr.heap.size wr w2) := hw; clear hw)
        | (go_at_call 17; refine (nPattern _).mono ?_; rintro e w1 ⟨rfl, rfl⟩)
        | (go_at_call 18; refine (nHold _).mono ?_; rintro e w1 ⟨rfl, rfl⟩)
        | (go_at_call 19; refine (nQueue _).mono ?_; rintro e w1 ⟨rfl, rfl⟩)
        | (go_at_call 20; refine (nUsed _).mono ?_; rintro e w1 ⟨rfl, rfl⟩))
      go_ret
      exact ⟨rfl, HW.out.trans (HW1.out.mono HW.out.size)⟩
end Go.Proofs.Ytngmaijfahjfcaa
