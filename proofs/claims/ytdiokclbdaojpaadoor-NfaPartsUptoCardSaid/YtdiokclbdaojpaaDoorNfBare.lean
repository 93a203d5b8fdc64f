/- What the reference's bare answers. -/
import Derived.Test.YtdiokclbdaojpaaDoorNfM1
namespace Go.Proofs.YtdiokclbdaojpaaDoor
open Go.RowKit

namespace Nt
def bareP (T : NT) : Bool := fitP T && (T.k != 7 || (decide (1 ≤ T.gr) && decide (T.gr ≤ 9)))
end Nt
theorem len_beq (n : Nat) : ((n : Int) == 0) = (n == 0) := by rw [Bool.eq_iff_iff]; simp
theorem len_beq1 (n : Nat) : ((n : Int) == 1) = (n == 1) := by rw [Bool.eq_iff_iff]; simp; omega
set_option maxRecDepth 100000 in
set_option maxHeartbeats 8000000 in
theorem bare_any (T : Nt.NT) (a : Option Addr) (cap : Nat) (w : World) : Calls Tryd.prog 76 #[Nt.ndV T a cap] w fun e w' => e = .returned (.bool (Nt.bareP T)) ∧ Below w.heap.size w w' := by
  obtain ⟨R, hR⟩ : ∃ R, Nt.bareP T = R := ⟨_, rfl⟩
  rw [hR]
  rw [Nt.bareP, Nt.fitP] at hR
  have HR : Hid _ := hR
  clear hR
  have N0 := Nt.node_new w T a cap
  have E : ∀ wx, (binOp .eql 25 (.agg #[.int .u64 (St.wd T.s 0 : Nat), .int .u64 (St.wd T.s 1 : Nat), .int .u64 (St.wd T.s 2 : Nat), .int .u64 (St.wd T.s 3 : Nat)]) (.agg #[.int .u64 0, .int .u64 0, .int .u64 0, .int .u64 0])).run Tryd.prog wx = .ok (.bool (St.sameS T.s Nt.noS)) wx := fun wx => by
    have := set_eql T.s Nt.noS wx
    simp only [St.setV, Nt.wd_no] at this
    exact this
  simp only [Nt.ndV, Nt.ndA] at N0 ⊢
  obtain ⟨W, hW⟩ : ∃ W, W = w.alloc (.cells #[.int .u8 (T.k : Int), .int .u64 (St.wd T.s 0 : Nat), .int .u64 (St.wd T.s 1 : Nat), .int .u64 (St.wd T.s 2 : Nat), .int .u64 (St.wd T.s 3 : Nat), .int .i64 T.mn, .int .i64 T.mx, .int .i64 T.gr, .slice a T.kids.length cap] 28) := ⟨_, rfl⟩
  rw [← hW] at N0
  obtain ⟨q0, q1, q2, q3, q4, q5, q6, q7, q8⟩ := N0.nine
  clear N0 hW
  generalize hsb : St.sameS T.s Nt.noS = sb at *
  clear hsb
  go_enter Tryd.func76, Tryd.ntmps76
  by_cases k1 : T.k = 1
  · rw [k1] at HR q0
    go_wp2_with fail
    all_goals (go_ret; refine ⟨ret_bool ?_, (Below.refl _ _).alloc (Nat.le_refl _) _⟩; rw [← HR.out]; clear HR E q0 q1 q2 q3 q4 q5 q6 q7 q8; have L0 := len_beq T.kids.length; have L1 := len_beq1 T.kids.length; first | (simp [*]; done) | (simp_all; done) | (simp_all; omega))
  by_cases k8 : T.k = 8
  · rw [k8] at HR q0
    go_wp2_with fail
    all_goals (go_ret; refine ⟨ret_bool ?_, (Below.refl _ _).alloc (Nat.le_refl _) _⟩; rw [← HR.out]; clear HR E q0 q1 q2 q3 q4 q5 q6 q7 q8; have L0 := len_beq T.kids.length; have L1 := len_beq1 T.kids.length; first | (simp [*]; done) | (simp_all; done) | (simp_all; omega))
  by_cases k9 : T.k = 9
  · rw [k9] at HR q0
    go_wp2_with fail
    all_goals (go_ret; refine ⟨ret_bool ?_, (Below.refl _ _).alloc (Nat.le_refl _) _⟩; rw [← HR.out]; clear HR E q0 q1 q2 q3 q4 q5 q6 q7 q8; have L0 := len_beq T.kids.length; have L1 := len_beq1 T.kids.length; first | (simp [*]; done) | (simp_all; done) | (simp_all; omega))
  by_cases k2 : T.k = 2
  · rw [k2] at HR q0
    go_wp2_with fail
    all_goals (go_ret; refine ⟨ret_bool ?_, (Below.refl _ _).alloc (Nat.le_refl _) _⟩; rw [← HR.out]; clear HR E q0 q1 q2 q3 q4 q5 q6 q7 q8; have L0 := len_beq T.kids.length; have L1 := len_beq1 T.kids.length; first | (simp [*]; done) | (simp_all; done) | (simp_all; omega))
  by_cases k3 : T.k = 3
  · rw [k3] at HR q0
    go_wp2_with fail
    all_goals (go_ret; refine ⟨ret_bool ?_, (Below.refl _ _).alloc (Nat.le_refl _) _⟩; rw [← HR.out]; clear HR E q0 q1 q2 q3 q4 q5 q6 q7 q8; have L0 := len_beq T.kids.length; have L1 := len_beq1 T.kids.length; first | (simp [*]; done) | (simp_all; done) | (simp_all; omega))
  by_cases k4 : T.k = 4
  · rw [k4] at HR q0
    go_wp2_with fail
    all_goals (go_ret; refine ⟨ret_bool ?_, (Below.refl _ _).alloc (Nat.le_refl _) _⟩; rw [← HR.out]; clear HR E q0 q1 q2 q3 q4 q5 q6 q7 q8; have L0 := len_beq T.kids.length; have L1 := len_beq1 T.kids.length; first | (simp [*]; done) | (simp_all; done) | (simp_all; omega))
  by_cases k6 : T.k = 6
  · rw [k6] at HR q0
    go_wp2_with fail
    all_goals (go_ret; refine ⟨ret_bool ?_, (Below.refl _ _).alloc (Nat.le_refl _) _⟩; rw [← HR.out]; clear HR E q0 q1 q2 q3 q4 q5 q6 q7 q8; have L0 := len_beq T.kids.length; have L1 := len_beq1 T.kids.length; first | (simp [*]; done) | (simp_all; done) | (simp_all; omega))
  by_cases k7 : T.k = 7
  · rw [k7] at HR q0
    go_wp2_with fail
    all_goals (go_ret; refine ⟨ret_bool ?_, (Below.refl _ _).alloc (Nat.le_refl _) _⟩; rw [← HR.out]; clear HR E q0 q1 q2 q3 q4 q5 q6 q7 q8; have L0 := len_beq T.kids.length; have L1 := len_beq1 T.kids.length; first | (simp [*]; done) | (simp_all; done) | (simp_all; omega))
  by_cases k5 : T.k = 5
  · rw [k5] at HR q0
    have HB : Hid (∀ b, Nt.bndP T.mn T.mx = b → Nt.bndP T.mn T.mx = b) := fun _ h => h
    by_cases m1 : 0 ≤ T.mn
    · by_cases m2 : T.mn ≤ 255
      · by_cases m3 : T.mx = -1
        · have m3' : (T.mx == -1) = true := by simpa using m3
          have HBN : Hid (Nt.bndP T.mn T.mx = true) := by show _ = _; rw [Nt.bndP, decide_eq_true m1, decide_eq_true m2, decide_eq_true m3]; rfl
          rw [HBN.out] at HR
          clear HBN m3
          go_wp2_with fail
          all_goals (go_ret; refine ⟨ret_bool ?_, (Below.refl _ _).alloc (Nat.le_refl _) _⟩; rw [← HR.out]; clear HR E q0 q1 q2 q3 q4 q5 q6 q7 q8; have L0 := len_beq T.kids.length; have L1 := len_beq1 T.kids.length; first | (simp [*]; done) | (simp_all; done) | (simp_all; omega))
        · have m3' : (T.mx == -1) = false := by simpa using m3
          by_cases m4 : T.mn ≤ T.mx
          · by_cases m5 : T.mx ≤ 255
            · have HBN : Hid (Nt.bndP T.mn T.mx = true) := by show _ = _; rw [Nt.bndP, decide_eq_true m1, decide_eq_true m2, decide_eq_true m4, decide_eq_true m5]; simp
              rw [HBN.out] at HR
              clear HBN
              go_wp2_with fail
              all_goals (go_ret; refine ⟨ret_bool ?_, (Below.refl _ _).alloc (Nat.le_refl _) _⟩; rw [← HR.out]; clear HR E q0 q1 q2 q3 q4 q5 q6 q7 q8; have L0 := len_beq T.kids.length; have L1 := len_beq1 T.kids.length; first | (simp [*]; done) | (simp_all; done) | (simp_all; omega))
            · have HBN : Hid (Nt.bndP T.mn T.mx = false) := by show _ = _; rw [Nt.bndP, decide_eq_true m1, decide_eq_true m2, decide_eq_false m3, decide_eq_true m4, decide_eq_false m5]; rfl
              rw [HBN.out] at HR
              clear HBN
              go_wp2_with fail
              all_goals (go_ret; refine ⟨ret_bool ?_, (Below.refl _ _).alloc (Nat.le_refl _) _⟩; rw [← HR.out]; clear HR E q0 q1 q2 q3 q4 q5 q6 q7 q8; have L0 := len_beq T.kids.length; have L1 := len_beq1 T.kids.length; first | (simp [*]; done) | (simp_all; done) | (simp_all; omega))
          · have HBN : Hid (Nt.bndP T.mn T.mx = false) := by show _ = _; rw [Nt.bndP, decide_eq_true m1, decide_eq_true m2, decide_eq_false m3, decide_eq_false m4]; rfl
            rw [HBN.out] at HR
            clear HBN
            go_wp2_with fail
            all_goals (go_ret; refine ⟨ret_bool ?_, (Below.refl _ _).alloc (Nat.le_refl _) _⟩; rw [← HR.out]; clear HR E q0 q1 q2 q3 q4 q5 q6 q7 q8; have L0 := len_beq T.kids.length; have L1 := len_beq1 T.kids.length; first | (simp [*]; done) | (simp_all; done) | (simp_all; omega))
      · have HBN : Hid (Nt.bndP T.mn T.mx = false) := by show _ = _; rw [Nt.bndP, decide_eq_true m1, decide_eq_false m2]; rfl
        rw [HBN.out] at HR
        clear HBN
        go_wp2_with fail
        all_goals (go_ret; refine ⟨ret_bool ?_, (Below.refl _ _).alloc (Nat.le_refl _) _⟩; rw [← HR.out]; clear HR E q0 q1 q2 q3 q4 q5 q6 q7 q8; have L0 := len_beq T.kids.length; have L1 := len_beq1 T.kids.length; first | (simp [*]; done) | (simp_all; done) | (simp_all; omega))
    · have HBN : Hid (Nt.bndP T.mn T.mx = false) := by show _ = _; rw [Nt.bndP, decide_eq_false m1]; rfl
      rw [HBN.out] at HR
      clear HBN
      go_wp2_with fail
      all_goals (go_ret; refine ⟨ret_bool ?_, (Below.refl _ _).alloc (Nat.le_refl _) _⟩; rw [← HR.out]; clear HR E q0 q1 q2 q3 q4 q5 q6 q7 q8; have L0 := len_beq T.kids.length; have L1 := len_beq1 T.kids.length; first | (simp [*]; done) | (simp_all; done) | (simp_all; omega))
  have d1 : ¬ ((T.k : Int) = 1) := by omega
  have d2 : ¬ ((T.k : Int) = 2) := by omega
  have d3 : ¬ ((T.k : Int) = 3) := by omega
  have d4 : ¬ ((T.k : Int) = 4) := by omega
  have d5 : ¬ ((T.k : Int) = 5) := by omega
  have d6 : ¬ ((T.k : Int) = 6) := by omega
  have d7 : ¬ ((T.k : Int) = 7) := by omega
  have d8 : ¬ ((T.k : Int) = 8) := by omega
  have d9 : ¬ ((T.k : Int) = 9) := by omega
  have hr : Hid (R = false) := by show _ = _; rw [← HR.out, decide_eq_false (by omega)]; rfl
  go_wp2_with fail
  all_goals (go_ret; exact ⟨ret_bool hr.out.symm, (Below.refl _ _).alloc (Nat.le_refl _) _⟩)
end Go.Proofs.YtdiokclbdaojpaaDoor
