/- What the statements' lives answers. -/
import Derived.Test.YtmlpfgfpmbnbeaaSBrk
import Derived.Test.YtmlpfgfpmbnbeaaSPr
import Derived.Lib.SlBytesConst
namespace Go.Proofs.Ytmlpfgfpmbnbeaa
open Go.RowKit

namespace St
theorem one_ok {s : ByteArray} {i : Nat} (h : oneOk s i = true) : i < oneN s i ∧ oneN s i ≤ s.size := by
  unfold oneN
  rw [if_pos h]
  unfold oneOk at h
  rw [Bool.and_eq_true, decide_eq_true_iff] at h
  omega
theorem elem_ok {s : ByteArray} {i : Nat} (h : (elemP s i).2.2 = true) : i < (elemP s i).2.1 ∧ (elemP s i).2.1 ≤ s.size := by
  refine ⟨elem_more s i h, ?_⟩
  by_cases hi : i ≤ s.size
  · exact (elem_le s i hi).2
  · have hb : bt s i = 256 := bt_out (by omega)
    unfold elemP at h
    rw [hb] at h
    cases h
theorem item_ok {s : ByteArray} {i : Nat} (h : (itemP s i).2.2 = true) : i < (itemP s i).2.1 ∧ (itemP s i).2.1 ≤ s.size := by
  revert h
  unfold itemP
  split
  · exact one_ok
  · split
    · exact elem_ok
    · rename_i h1
      split
      · intro h; cases h
      · rename_i h2
        intro _
        have e1 : (elemP s i).2.2 = true := by
          cases hq : (elemP s i).2.2
          · rw [hq] at h1; exact absurd rfl h1
          · rfl
        have e2 : (elemP s ((elemP s i).2.1 + 1)).2.2 = true := by
          cases hq : (elemP s ((elemP s i).2.1 + 1)).2.2
          · rw [hq] at h2; exact absurd rfl h2
          · rfl
        have a := elem_ok e1
        have b := elem_ok e2
        show i < (elemP s ((elemP s i).2.1 + 1)).2.1 ∧ (elemP s ((elemP s i).2.1 + 1)).2.1 ≤ s.size
        omega
def s1 : ByteArray := ⟨#[94, 48, 45, 57, 93, 120]⟩
def s2 : ByteArray := ⟨#[99, 45, 97, 93]⟩
theorem s1_none : ∀ j, j ≤ 6 → pre2 s1 j 91 58 = false := by decide
theorem s2_none : ∀ j, j ≤ 4 → pre2 s2 j 91 58 = false := by decide
set_option maxRecDepth 100000 in
theorem b1 : (brP (itemP s1) s1).2.1 = 5 ∧ (brP (itemP s1) s1).2.2.1 = 0 ∧ (brP (itemP s1) s1).2.2.2 = 0 ∧ (brP (itemP s1) s1).1 53 = false ∧ (brP (itemP s1) s1).1 97 = true := by decide
set_option maxRecDepth 100000 in
theorem b1c : cnt (brP (itemP s1) s1).1 256 = 246 := by kernel_rfl
set_option maxRecDepth 100000 in
theorem b2 : (brP (itemP s2) s2).2.1 = 0 ∧ (brP (itemP s2) s2).2.2.1 = 70 ∧ (brP (itemP s2) s2).2.2.2 = 2 := by decide
set_option maxRecDepth 100000 in
theorem pr1 : printB (inL [99, 97, 98]) = [97, 45, 99, 93] := by kernel_rfl
end St
theorem bracket1 (w : World) : Calls Try.prog 32 #[.string ⟨#[94, 48, 45, 57, 93, 120]⟩] w fun e w' => e = .returned (.tuple #[St.setV (St.brP (St.itemP St.s1) St.s1).1, .int .i64 5, .int .i64 0, .int .i64 0]) ∧ Below w.heap.size w w' := by
  have h := bracket_any St.s1 (St.itemP St.s1) w (by decide) (fun j w1 hj => item_any St.s1 j w1 (by decide) hj (St.s1_none j hj)) (fun j => St.item_ok)
  rw [St.b1.1, St.b1.2.1, St.b1.2.2.1] at h
  exact h
theorem bracket2 (w : World) : Calls Try.prog 32 #[.string ⟨#[99, 45, 97, 93]⟩] w fun e w' => e = .returned (.tuple #[St.setV (St.brP (St.itemP St.s2) St.s2).1, .int .i64 0, .int .i64 70, .int .i64 2]) ∧ Below w.heap.size w w' := by
  have h := bracket_any St.s2 (St.itemP St.s2) w (by decide) (fun j w1 hj => item_any St.s2 j w1 (by decide) hj (St.s2_none j hj)) (fun j => St.item_ok)
  rw [St.b2.1, St.b2.2.1, St.b2.2.2] at h
  exact h

set_option maxRecDepth 100000 in
set_option maxHeartbeats 2000000 in
theorem lives_any (w : World) : Calls Try.prog 11 #[] w fun e w' => e = .returned (.bool true) ∧ Below w.heap.size w w' := by
  have B1 := bracket1
  have HQ1 : Hid ((St.brP (St.itemP St.s1) St.s1).1 53 = false ∧ (St.brP (St.itemP St.s1) St.s1).1 97 = true ∧ St.cnt (St.brP (St.itemP St.s1) St.s1).1 256 = 246) := ⟨St.b1.2.2.2.1, St.b1.2.2.2.2, St.b1c⟩
  have B2 := bracket2
  generalize (St.brP (St.itemP St.s1) St.s1).1 = p at *
  generalize (St.brP (St.itemP St.s2) St.s2).1 = q at *
  have HB1 : Hid (∀ w, Calls Try.prog 32 #[.string ⟨#[94, 48, 45, 57, 93, 120]⟩] w fun e w' => e = .returned (.tuple #[St.setV p, .int .i64 5, .int .i64 0, .int .i64 0]) ∧ Below w.heap.size w w') := B1
  have HB2 : Hid (∀ w, Calls Try.prog 32 #[.string ⟨#[99, 45, 97, 93]⟩] w fun e w' => e = .returned (.tuple #[St.setV q, .int .i64 0, .int .i64 70, .int .i64 2]) ∧ Below w.heap.size w w') := B2
  have H5 : Hid (∀ w, Calls Try.prog 17 #[St.setV p, .int .u8 53] w fun e w' => e = .returned (.bool false) ∧ Below w.heap.size w w') := fun w => by
    have h := has_any p 53 (by decide) w
    rw [HQ1.out.1] at h
    exact h
  have HA : Hid (∀ w, Calls Try.prog 17 #[St.setV p, .int .u8 97] w fun e w' => e = .returned (.bool true) ∧ Below w.heap.size w w') := fun w => by
    have h := has_any p 97 (by decide) w
    rw [HQ1.out.2.1] at h
    exact h
  have HC : Hid (∀ w, Calls Try.prog 19 #[St.setV p] w fun e w' => e = .returned (.int .i64 246) ∧ Below w.heap.size w w') := fun w => by
    have h := count_any p w
    rw [HQ1.out.2.2] at h
    exact h
  have HO : Hid (∀ w a cap, Bys w a [99, 97, 98] → Calls Try.prog 12 #[.slice a 3 cap] w fun e w' => e = .returned (St.setV (St.inL [99, 97, 98])) ∧ Below w.heap.size w w') := fun w a cap h => of_any a cap [99, 97, 98] w h
  have HP : Hid (∀ w, Calls Try.prog 30 #[St.setV (St.inL [99, 97, 98])] w fun e w' => e = .returned (.string ⟨#[97, 45, 99, 93]⟩) ∧ Below w.heap.size w w') := fun w => by
    have h := print_any (St.inL [99, 97, 98]) w
    rw [St.pr1] at h
    exact h
  clear B1 B2 HQ1
  generalize St.inL [99, 97, 98] = r at *
  simp only [St.setV] at HB1 HB2 H5 HA HC HO HP
  go_enter Try.func11, Try.ntmps11
  go_wp2_with fail
  refine (HB1.out _).mono ?_
  rintro x w1 ⟨rfl, hb1⟩
  go_wp2_with fail
  refine (HB2.out _).mono ?_
  rintro x w2 ⟨rfl, hb2⟩
  have S2 : SetAt w2 w1.heap.size p := SetAt.under (hb := hb2) (h := at_new w1 p)
  have hn2 : Below w.heap.size w w2 := Below.more (hb1.alloc hb1.size _) hb2 (hb1.alloc hb1.size _).size
  have hl2 := S2.lt
  clear hb1 hb2
  have S3 := S2.alloc (.cells #[.int .u64 (St.wd q 0 : Nat), .int .u64 (St.wd q 1 : Nat), .int .u64 (St.wd q 2 : Nat), .int .u64 (St.wd q 3 : Nat)] 25)
  have hn3 := hn2.alloc hn2.size (.cells #[.int .u64 (St.wd q 0 : Nat), .int .u64 (St.wd q 1 : Nat), .int .u64 (St.wd q 2 : Nat), .int .u64 (St.wd q 3 : Nat)] 25)
  obtain ⟨q0, q1, q2, q3⟩ := S2.cells
  go_wp2_with fail
  refine (H5.out _).mono ?_
  rintro x w4 ⟨rfl, hb4⟩
  have S4 := S3.under hb4
  have hn4 := Below.more hn3 hb4 hn3.size
  clear hb4 q0 q1 q2 q3
  obtain ⟨q0, q1, q2, q3⟩ := S4.cells
  go_wp2_with fail
  refine (HA.out _).mono ?_
  rintro x w5 ⟨rfl, hb5⟩
  have S5 := S4.under hb5
  have hn5 := Below.more hn4 hb5 hn4.size
  clear hb5 q0 q1 q2 q3
  obtain ⟨q0, q1, q2, q3⟩ := S5.cells
  go_wp2_with fail
  refine (HC.out _).mono ?_
  rintro x w6 ⟨rfl, hb6⟩
  have hn6 := Below.more hn5 hb6 hn5.size
  clear hb6 q0 q1 q2 q3
  have kc := fun (w : World) (C : Array Value) (n c : Nat) => Lib.run_convert_bytes_const (P := Try.prog) w 22 5 C n c Try.underlying22 Try.underlying5
  go_wp2_with fail
  refine (HO.out _ _ _ ?_).mono ?_
  · refine ⟨by decide, fun i hi => ⟨w6.heap.size, 0, rfl, by simp, ?_⟩⟩
    rw [cell_of_row _ _ _ _ _ _ (heap_alloc_new w6 _)]
    have hi3 : i < 3 := hi
    obtain rfl | rfl | rfl : i = 0 ∨ i = 1 ∨ i = 2 := by omega
    all_goals rfl
  rintro x w7 ⟨rfl, hb7⟩
  have hn7 := Below.more (hn6.alloc hn6.size _) hb7 (hn6.alloc hn6.size _).size
  clear hb7
  go_wp2_with fail
  refine (HP.out _).mono ?_
  rintro x w8 ⟨rfl, hb8⟩
  have hn8 := Below.more hn7 hb8 hn7.size
  go_wp2_with fail
  go_ret
  exact ⟨rfl, hn8⟩
end Go.Proofs.Ytmlpfgfpmbnbeaa
