/- What sets.Count, sets.Fold and the reference's Other and Fold answer. -/
import Derived.Test.YtmlpfgfpmbnbeaaSProg
namespace Go.Proofs.Ytmlpfgfpmbnbeaa
open Go.RowKit

theorem at0 (a b c d : Int) (wx : World) : (Instr.index 25 (.agg #[.int .u64 a, .int .u64 b, .int .u64 c, .int .u64 d]) (.int .i64 0)).run Try.prog wx = .ok (.int .u64 a) wx := by kernel_rfl
theorem at1 (a b c d : Int) (wx : World) : (Instr.index 25 (.agg #[.int .u64 a, .int .u64 b, .int .u64 c, .int .u64 d]) (.int .i64 1)).run Try.prog wx = .ok (.int .u64 b) wx := by kernel_rfl
theorem at2 (a b c d : Int) (wx : World) : (Instr.index 25 (.agg #[.int .u64 a, .int .u64 b, .int .u64 c, .int .u64 d]) (.int .i64 2)).run Try.prog wx = .ok (.int .u64 c) wx := by kernel_rfl
theorem at3 (a b c d : Int) (wx : World) : (Instr.index 25 (.agg #[.int .u64 a, .int .u64 b, .int .u64 c, .int .u64 d]) (.int .i64 3)).run Try.prog wx = .ok (.int .u64 d) wx := by kernel_rfl

namespace St
def cntW (p : Nat → Bool) (i : Nat) : Nat := cnt (fun j => p (64 * i + j)) 64
/-- How many stand in the first k words. -/
def cntTo (p : Nat → Bool) (k : Nat) : Nat := (if 0 < k then cntW p 0 else 0) + (if 1 < k then cntW p 1 else 0) + (if 2 < k then cntW p 2 else 0) + (if 3 < k then cntW p 3 else 0)
theorem cntTo_four (p : Nat → Bool) : cntTo p 4 = cnt p 256 := by
  rw [← cnt_words p]; rfl
theorem cntW_le (p : Nat → Bool) (i : Nat) : cntW p i ≤ 64 := cnt_le _ 64
end St

set_option maxRecDepth 100000 in
set_option maxHeartbeats 1000000 in
theorem count_any (p : Nat → Bool) (w : World) :
    Calls Try.prog 19 #[St.setV p] w fun e w' => e = .returned (.int .i64 (St.cnt p 256 : Nat)) ∧ Below w.heap.size w w' := by
  rw [← St.cntTo_four p]
  simp only [St.setV]
  have y0 := St.wd_lt p 0
  have y1 := St.wd_lt p 1
  have y2 := St.wd_lt p 2
  have y3 := St.wd_lt p 3
  have z0 := St.cntW_le p 0
  have z1 := St.cntW_le p 1
  have z2 := St.cntW_le p 2
  have z3 := St.cntW_le p 3
  have HO : Hid (∀ i, St.ones (St.wd p i) = St.cntW p i) := fun i => St.wd_cnt p i
  have HT : Hid (∀ k, St.cntTo p k = (if 0 < k then St.cntW p 0 else 0) + (if 1 < k then St.cntW p 1 else 0) + (if 2 < k then St.cntW p 2 else 0) + (if 3 < k then St.cntW p 3 else 0)) := fun _ => rfl
  go_enter Try.func19, Try.ntmps19
  go_wp2_with fail
  go_loopw [3, 7] (fun v i wr => ∃ k : Nat, k ≤ 4 ∧ i = .int .i64 k ∧ v = .int .i64 (St.cntTo p k : Nat) ∧ Below w.heap.size w wr) (fun _ i _ => 4 - (intOf i).toNat)
  case atStart => exact ⟨0, by omega, rfl, rfl, (Below.refl _ _).alloc (Nat.le_refl _) _⟩
  case round =>
    obtain ⟨k, hk, rfl, rfl, hnx⟩ := hrel
    obtain rfl | rfl | rfl | rfl | rfl : k = 0 ∨ k = 1 ∨ k = 2 ∨ k = 3 ∨ k = 4 := by omega
    · have rq := at0 (St.wd p 0) (St.wd p 1) (St.wd p 2) (St.wd p 3)
      have u1 := HT.out 0
      have u2 := HT.out 1
      simp at u1 u2
      have o := HO.out 0
      generalize St.cntTo p 0 = s0 at *
      go_wp2_with (go_at_call 37; refine (ones_any _ _ y0).mono ?_; rw [o]; rintro x w1 ⟨rfl, rfl⟩)
      exact ⟨⟨1, by omega, by go_num, by first | (congr 1; omega) | (congr 1), hnx⟩, by simp [intOf]⟩
    · have rq := at1 (St.wd p 0) (St.wd p 1) (St.wd p 2) (St.wd p 3)
      have u1 := HT.out 1
      have u2 := HT.out 2
      simp at u1 u2
      have o := HO.out 1
      generalize St.cntTo p 1 = s0 at *
      go_wp2_with (go_at_call 37; refine (ones_any _ _ y1).mono ?_; rw [o]; rintro x w1 ⟨rfl, rfl⟩)
      exact ⟨⟨2, by omega, by go_num, by first | (congr 1; omega) | (congr 1), hnx⟩, by simp [intOf]⟩
    · have rq := at2 (St.wd p 0) (St.wd p 1) (St.wd p 2) (St.wd p 3)
      have u1 := HT.out 2
      have u2 := HT.out 3
      simp at u1 u2
      have o := HO.out 2
      generalize St.cntTo p 2 = s0 at *
      go_wp2_with (go_at_call 37; refine (ones_any _ _ y2).mono ?_; rw [o]; rintro x w1 ⟨rfl, rfl⟩)
      exact ⟨⟨3, by omega, by go_num, by first | (congr 1; omega) | (congr 1), hnx⟩, by simp [intOf]⟩
    · have rq := at3 (St.wd p 0) (St.wd p 1) (St.wd p 2) (St.wd p 3)
      have u1 := HT.out 3
      have u2 := HT.out 4
      simp at u1 u2
      have o := HO.out 3
      generalize St.cntTo p 3 = s0 at *
      go_wp2_with (go_at_call 37; refine (ones_any _ _ y3).mono ?_; rw [o]; rintro x w1 ⟨rfl, rfl⟩)
      exact ⟨⟨4, by omega, by go_num, by first | (congr 1; omega) | (congr 1), hnx⟩, by simp [intOf]⟩
    · go_wp2_with fail
      go_ret
      exact ⟨rfl, hnx⟩

namespace St
def oth (c : Nat) : Nat := if 97 ≤ c ∧ c ≤ 122 then c - 32 else if 65 ≤ c ∧ c ≤ 90 then c + 32 else c
theorem oth_lt {c : Nat} (h : c < 256) : oth c < 256 := by unfold oth; split <;> try split
                                                           all_goals omega
theorem oth_iff (b x : Nat) : (oth b == x) = (b == oth x) := by
  rw [Bool.eq_iff_iff, beq_iff_eq, beq_iff_eq]
  unfold oth
  split <;> split <;> (try split) <;> (try split) <;> omega
/-- A set with the other cases of its letters. -/
def foldP (p : Nat → Bool) (c : Nat) : Bool := p c || p (oth c)
def foldTo (p : Nat → Bool) (k c : Nat) : Bool := p c || (decide (65 ≤ c ∧ c < 65 + k) && p (c + 32)) || (decide (97 ≤ c ∧ c < 97 + k) && p (c - 32))
theorem foldTo_up (p : Nat → Bool) {k : Nat} (hk : k < 26) : foldTo p k (65 + k) = p (65 + k) := by
  unfold foldTo
  rw [decide_eq_false (by omega), decide_eq_false (by omega)]; simp
theorem foldTo_low (p : Nat → Bool) {k : Nat} (_hk : k < 26) : foldTo p k (97 + k) = p (97 + k) := by
  unfold foldTo
  rw [decide_eq_false (by omega), decide_eq_false (by omega)]; simp
theorem foldTo_yes (p : Nat → Bool) {k : Nat} (_hk : k < 26) (h : (p (65 + k) || p (97 + k)) = true) (c : Nat) : ((foldTo p k c || c == 65 + k) || c == 97 + k) = foldTo p (k + 1) c := by
  unfold foldTo
  by_cases e : c = 65 + k
  · subst e
    have e2 : (65 + k == 65 + k) = true := by simp
    rw [e2, decide_eq_true (show 65 ≤ 65 + k ∧ 65 + k < 65 + (k + 1) by omega), show 65 + k + 32 = 97 + k by omega, Bool.or_true, Bool.true_or, Bool.true_and, h, Bool.true_or]
  · by_cases e' : c = 97 + k
    · subst e'
      have e2 : (97 + k == 97 + k) = true := by simp
      rw [e2, decide_eq_true (show 97 ≤ 97 + k ∧ 97 + k < 97 + (k + 1) by omega), show 97 + k - 32 = 65 + k by omega, Bool.or_true, Bool.true_and]
      revert h
      cases p (65 + k) <;> cases p (97 + k) <;> simp
    · have e1 : (c == 65 + k) = false := by simpa using e
      have e2 : (c == 97 + k) = false := by simpa using e'
      rw [e1, e2, Bool.or_false, Bool.or_false]
      congr 2
      · congr 1
        rw [decide_eq_decide]; omega
      · rw [decide_eq_decide]; omega
theorem foldTo_no (p : Nat → Bool) {k : Nat} (hk : k < 26) (h : (p (65 + k) || p (97 + k)) = false) (c : Nat) : foldTo p k c = foldTo p (k + 1) c := by
  have h1 : p (65 + k) = false := by revert h; cases p (65 + k) <;> simp
  have h2 : p (97 + k) = false := by revert h; cases p (97 + k) <;> simp
  unfold foldTo
  by_cases e : c = 65 + k
  · subst e
    rw [show 65 + k + 32 = 97 + k by omega, h2, Bool.and_false, Bool.and_false, decide_eq_false (show ¬ (97 ≤ 65 + k ∧ 65 + k < 97 + k) by omega), decide_eq_false (show ¬ (97 ≤ 65 + k ∧ 65 + k < 97 + (k + 1)) by omega)]
  · by_cases e' : c = 97 + k
    · subst e'
      rw [show 97 + k - 32 = 65 + k by omega, h1, Bool.and_false, Bool.and_false, decide_eq_false (show ¬ (65 ≤ 97 + k ∧ 97 + k < 65 + k) by omega), decide_eq_false (show ¬ (65 ≤ 97 + k ∧ 97 + k < 65 + (k + 1)) by omega)]
    · congr 2
      · congr 1
        rw [decide_eq_decide]; omega
      · rw [decide_eq_decide]; omega
theorem foldTo_zero (p : Nat → Bool) (c : Nat) : p c = foldTo p 0 c := by
  unfold foldTo
  rw [decide_eq_false (by omega), decide_eq_false (by omega)]; simp
theorem foldTo_done (p : Nat → Bool) {k : Nat} (hk : k = 26) (c : Nat) : foldTo p k c = foldP p c := by
  subst hk
  unfold foldTo foldP oth
  by_cases h1 : 97 ≤ c ∧ c ≤ 122
  · rw [if_pos h1, decide_eq_false (by omega), decide_eq_true (by omega)]; simp
  · rw [if_neg h1]
    by_cases h2 : 65 ≤ c ∧ c ≤ 90
    · rw [if_pos h2, decide_eq_true (by omega), decide_eq_false (by omega)]; simp
    · rw [if_neg h2, decide_eq_false (by omega), decide_eq_false (by omega)]; simp
end St

set_option maxRecDepth 100000 in
set_option maxHeartbeats 1000000 in
theorem fold_any (p : Nat → Bool) (w : World) :
    Calls Try.prog 28 #[St.setV p] w fun e w' => e = .returned (St.setV (St.foldP p)) ∧ Below w.heap.size w w' := by
  simp only [St.setV]
  go_enter Try.func28, Try.ntmps28
  go_wp2_with fail
  go_loopw [6] (fun i wr => ∃ k : Nat, k ≤ 26 ∧ i = .int .u8 k ∧ SetAt wr w.heap.size (St.foldTo p k) ∧ SetAt wr (w.heap.size + 1) (St.inL []) ∧ Below w.heap.size w wr) (fun i _ => 26 - (intOf i).toNat)
  case atStart => exact ⟨0, by omega, rfl, ((at_new' p rfl).alloc _).congr (fun c _ => St.foldTo_zero p c), at_zero' (by simp), ((Below.refl _ _).alloc (Nat.le_refl _) _).alloc (by simp) _⟩
  case round =>
    obtain ⟨k, hk, rfl, S1, S2, hnx⟩ := hrel
    obtain ⟨q0, q1, q2, q3⟩ := S1.cells
    have hl1 := S2.lt
    by_cases hlt : k < 26
    · have n1 : IntKind.u8.wrap (65 + (k : Int)) = ((65 + k : Nat) : Int) := by rw [IntKind.wrap_u8']; omega
      have n2 : IntKind.u8.wrap (97 + (k : Int)) = ((97 + k : Nat) : Int) := by rw [IntKind.wrap_u8']; omega
      have HU : Hid (∀ w1, Calls Try.prog 17 #[St.setV (St.foldTo p k), .int .u8 (65 + (k : Int))] w1 fun e w' => e = .returned (.bool (p (65 + k))) ∧ Below w1.heap.size w1 w') := fun w1 => by
        have h := has_any (St.foldTo p k) (65 + k) (by omega) w1
        rw [St.foldTo_up p hlt] at h
        exact h
      have HL : Hid (∀ w1, Calls Try.prog 17 #[St.setV (St.foldTo p k), .int .u8 (97 + (k : Int))] w1 fun e w' => e = .returned (.bool (p (97 + k))) ∧ Below w1.heap.size w1 w') := fun w1 => by
        have h := has_any (St.foldTo p k) (97 + k) (by omega) w1
        rw [St.foldTo_low p hlt] at h
        exact h
      have HW1 : Hid (∀ w1, Calls Try.prog 36 #[St.setV (St.foldTo p k), .int .u8 (65 + (k : Int))] w1 fun e w' => e = .returned (St.setV (fun x => St.foldTo p k x || x == 65 + k)) ∧ Below w1.heap.size w1 w') := fun w1 => with_any (St.foldTo p k) (65 + k) (by omega) w1
      have HW2 : Hid (∀ w1, Calls Try.prog 36 #[St.setV (fun x => St.foldTo p k x || x == 65 + k), .int .u8 (97 + (k : Int))] w1 fun e w' => e = .returned (St.setV (fun x => (St.foldTo p k x || x == 65 + k) || x == 97 + k)) ∧ Below w1.heap.size w1 w') := fun w1 => with_any (fun x => St.foldTo p k x || x == 65 + k) (97 + k) (by omega) w1
      clear n1 n2
      simp only [St.setV] at HU HL HW1 HW2
      cases hu : p (65 + k)
      · cases hv : p (97 + k)
        · have HE : Hid (∀ c, St.foldTo p k c = St.foldTo p (k + 1) c) := St.foldTo_no p hlt (by rw [hu, hv]; rfl)
          go_wp2_with fail
          refine (HU.out _).mono ?_
          rw [hu]
          rintro x w1 ⟨rfl, hb1⟩
          have hs1 := hb1.size
          obtain ⟨t0, t1, t2, t3⟩ := (S1.under hb1).cells
          go_wp2_with fail
          refine (HL.out _).mono ?_
          rw [hv]
          rintro x w2 ⟨rfl, hb2⟩
          have hs2 := hb2.size
          go_wp2_with fail
          refine ⟨⟨k + 1, by omega, by go_num, ((S1.under hb1).under hb2).congr (fun c _ => HE.out c), (S2.under hb1).under hb2, Below.more (Below.more hnx hb1 (by omega)) hb2 (by omega)⟩, ?_⟩
          simp [intOf]; omega
        · have HE : Hid (∀ c, ((St.foldTo p k c || c == 65 + k) || c == 97 + k) = St.foldTo p (k + 1) c) := St.foldTo_yes p hlt (by rw [hu, hv]; rfl)
          go_wp2_with fail
          refine (HU.out _).mono ?_
          rw [hu]
          rintro x w1 ⟨rfl, hb1⟩
          have hs1 := hb1.size
          obtain ⟨t0, t1, t2, t3⟩ := (S1.under hb1).cells
          go_wp2_with fail
          refine (HL.out _).mono ?_
          rw [hv]
          rintro x w2 ⟨rfl, hb2⟩
          have hs2 := hb2.size
          have T1 := (S1.under hb1).under hb2
          have T2 := (S2.under hb1).under hb2
          have hn2 := Below.more (Below.more hnx hb1 (by omega)) hb2 (by omega)
          clear q0 q1 q2 q3 t0 t1 t2 t3 S1 S2 hnx hb1 hb2
          obtain ⟨t0, t1, t2, t3⟩ := T1.cells
          go_wp2_with fail
          refine (HW1.out _).mono ?_
          rintro x w3 ⟨rfl, hb3⟩
          have hs3 := hb3.size
          go_wp2_with fail
          refine (HW2.out _).mono ?_
          rintro x w4 ⟨rfl, hb4⟩
          have hs4 := hb4.size
          have U1 := (T1.under hb3).under hb4
          have U2 := (T2.under hb3).under hb4
          have hn4 := Below.more (Below.more hn2 hb3 (by omega)) hb4 (by omega)
          obtain ⟨r0, r1, r2, r3⟩ := U1.cells
          have f0 := U1.frozen 0
          have f1 := U1.frozen 1
          have f2 := U1.frozen 2
          have f3 := U1.frozen 3
          go_wp2_with fail
          refine ⟨⟨k + 1, by omega, by go_num, U1.put.congr (fun c _ => HE.out c), U2.other (by omega), put4_below hn4 (by omega)⟩, ?_⟩
          simp [intOf]; omega
      · have HE : Hid (∀ c, ((St.foldTo p k c || c == 65 + k) || c == 97 + k) = St.foldTo p (k + 1) c) := St.foldTo_yes p hlt (by rw [hu]; rfl)
        go_wp2_with fail
        refine (HU.out _).mono ?_
        rw [hu]
        rintro x w1 ⟨rfl, hb1⟩
        have hs1 := hb1.size
        have T1 := S1.under hb1
        have T2 := S2.under hb1
        have hn2 := Below.more hnx hb1 (by omega)
        clear q0 q1 q2 q3 S1 S2 hnx hb1
        obtain ⟨t0, t1, t2, t3⟩ := T1.cells
        go_wp2_with fail
        refine (HW1.out _).mono ?_
        rintro x w3 ⟨rfl, hb3⟩
        have hs3 := hb3.size
        go_wp2_with fail
        refine (HW2.out _).mono ?_
        rintro x w4 ⟨rfl, hb4⟩
        have hs4 := hb4.size
        have U1 := (T1.under hb3).under hb4
        have U2 := (T2.under hb3).under hb4
        have hn4 := Below.more (Below.more hn2 hb3 (by omega)) hb4 (by omega)
        obtain ⟨r0, r1, r2, r3⟩ := U1.cells
        have f0 := U1.frozen 0
        have f1 := U1.frozen 1
        have f2 := U1.frozen 2
        have f3 := U1.frozen 3
        go_wp2_with fail
        refine ⟨⟨k + 1, by omega, by go_num, U1.put.congr (fun c _ => HE.out c), U2.other (by omega), put4_below hn4 (by omega)⟩, ?_⟩
        simp [intOf]; omega
    · obtain ⟨r0, r1, r2, r3⟩ := S2.cells
      have f0 := S2.frozen 0
      have f1 := S2.frozen 1
      have f2 := S2.frozen 2
      have f3 := S2.frozen 3
      have HE : Hid (St.setV (St.foldTo p k) = St.setV (St.foldP p)) := St.setV_congr (fun c _ => St.foldTo_done p (by omega) c)
      go_wp2_with fail
      refine bodyPost_ret (results_cell_row rfl _ _ (w.heap.size + 1) _ _ _ _ rfl (S2.put (q := St.foldTo p k)) Try.underlying25 rfl (by kernel_rfl)) rfl ?_
      exact ⟨congrArg _ HE.out, put4_below hnx (by omega)⟩
end Go.Proofs.Ytmlpfgfpmbnbeaa
