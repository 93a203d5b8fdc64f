/- What posix.fits answers, at the kinds 4, 5, 6. -/
import Derived.Test.YtdiokclbdaojpaaDoorNfM1
import Derived.Deep.QuietTactic
import Derived.BigQuiet
namespace Go.Proofs.YtdiokclbdaojpaaDoor
open Go.RowKit

set_option maxRecDepth 100000 in
set_option maxHeartbeats 4000000 in
theorem fits_4 (T : Nt.NT) (b off : Nat) (a : Option Addr) (cap : Nat) (w : World) (hT : Nt.Tabs w) (h9 : Nt.Nine w b off T a cap) (hbw : b < w.heap.size) (hl : T.kids.length ≤ 8192) (hk : T.k = 4) :
    Calls Tryd.prog 72 #[.pointer (some ⟨b, off, none⟩)] w fun e w' => e = .returned (.bool (Nt.fitP T)) ∧ Below w.heap.size w w' := by
  obtain ⟨R, hR⟩ : ∃ R, Nt.fitP T = R := ⟨_, rfl⟩
  rw [hR]
  rw [Nt.fitP] at hR
  have HR : Hid _ := hR
  clear hR
  have hbig := hT.big
  have E : ∀ wx, (binOp .neq 25 (.agg #[.int .u64 (St.wd T.s 0 : Nat), .int .u64 (St.wd T.s 1 : Nat), .int .u64 (St.wd T.s 2 : Nat), .int .u64 (St.wd T.s 3 : Nat)]) (.agg #[.int .u64 0, .int .u64 0, .int .u64 0, .int .u64 0])).run Tryd.prog wx = .ok (.bool (!St.sameS T.s Nt.noS)) wx := fun wx => by
    have := set_neq T.s Nt.noS wx
    simp only [St.setV, Nt.wd_no] at this
    exact this
  generalize St.sameS T.s Nt.noS = sb at *
  obtain ⟨q0, q1, q2, q3, q4, q5, q6, q7, q8⟩ := h9
  have at5 : ∀ k j, k < 10 → j < 5 → w.cell? ⟨1, k * 5 + j, none⟩ = Nt.shpL[k * 5 + j]? := fun k j h1 h2 => hT.shp _ (by omega)
  have AT5 : Hid _ := at5
  clear at5 hT
  obtain ⟨L, hL⟩ : ∃ L, L = T.kids.length := ⟨_, rfl⟩
  rw [← hL] at q8 hl HR
  clear hL
  have h := hk
  · rw [h] at q0 HR
    have s0 : w.cell? ⟨1, 20, none⟩ = some (.bool false) := AT5.out 4 0 (by omega) (by omega)
    have s1 : w.cell? ⟨1, 21, none⟩ = some (.bool false) := AT5.out 4 1 (by omega) (by omega)
    have s2 : w.cell? ⟨1, 22, none⟩ = some (.bool false) := AT5.out 4 2 (by omega) (by omega)
    have s3 : w.cell? ⟨1, 23, none⟩ = some (.int .i64 2) := AT5.out 4 3 (by omega) (by omega)
    have s4 : w.cell? ⟨1, 24, none⟩ = some (.int .i64 8192) := AT5.out 4 4 (by omega) (by omega)
    by_cases hL0 : 2 ≤ L
    · skip
      have hlo : decide ((2 : Int) ≤ (L : Int)) = true := by simp; omega
      have hhi : decide ((L : Int) ≤ 8192) = true := by simp; omega
      have heq : decide (2 ≤ L) = true := by simp; omega
      go_enter Tryd.func72, Tryd.ntmps72
      go_wp2_with fail
      all_goals first
        | (go_ret; refine ⟨ret_bool ?_, (Below.refl _ _).alloc (Nat.le_refl _) _⟩; rw [← HR.out]; clear HR E AT5; simp_all; done)
        | (go_quiet ((go_at_call 84; exact Calls.quiet_of_same (bnd_any _ _ _)))
           go_wp2_with fail
           all_goals first
             | (go_ret; refine ⟨ret_bool ?_, drewB ((Below.refl _ _).alloc (Nat.le_refl _) _) _⟩; rw [← HR.out]; clear HR E AT5; simp_all; done)
             | (go_quiet (fail)
                go_wp2_with fail
                go_ret
                refine ⟨ret_bool ?_, drewB (drewB ((Below.refl _ _).alloc (Nat.le_refl _) _) _) _⟩
                rw [← HR.out]
                clear HR E AT5
                simp_all))
    · skip
      have hlo : decide ((2 : Int) ≤ (L : Int)) = false := by simp; omega
      have hhi : decide ((L : Int) ≤ 8192) = true := by simp; omega
      have heq : decide (2 ≤ L) = false := by simp; omega
      go_enter Tryd.func72, Tryd.ntmps72
      go_wp2_with fail
      all_goals first
        | (go_ret; refine ⟨ret_bool ?_, (Below.refl _ _).alloc (Nat.le_refl _) _⟩; rw [← HR.out]; clear HR E AT5; simp_all; done)
        | (go_quiet ((go_at_call 84; exact Calls.quiet_of_same (bnd_any _ _ _)))
           go_wp2_with fail
           all_goals first
             | (go_ret; refine ⟨ret_bool ?_, drewB ((Below.refl _ _).alloc (Nat.le_refl _) _) _⟩; rw [← HR.out]; clear HR E AT5; simp_all; done)
             | (go_quiet (fail)
                go_wp2_with fail
                go_ret
                refine ⟨ret_bool ?_, drewB (drewB ((Below.refl _ _).alloc (Nat.le_refl _) _) _) _⟩
                rw [← HR.out]
                clear HR E AT5
                simp_all))
set_option maxRecDepth 100000 in
set_option maxHeartbeats 4000000 in
theorem fits_5 (T : Nt.NT) (b off : Nat) (a : Option Addr) (cap : Nat) (w : World) (hT : Nt.Tabs w) (h9 : Nt.Nine w b off T a cap) (hbw : b < w.heap.size) (hl : T.kids.length ≤ 8192) (hk : T.k = 5) :
    Calls Tryd.prog 72 #[.pointer (some ⟨b, off, none⟩)] w fun e w' => e = .returned (.bool (Nt.fitP T)) ∧ Below w.heap.size w w' := by
  obtain ⟨R, hR⟩ : ∃ R, Nt.fitP T = R := ⟨_, rfl⟩
  rw [hR]
  rw [Nt.fitP] at hR
  have HR : Hid _ := hR
  clear hR
  have hbig := hT.big
  have E : ∀ wx, (binOp .neq 25 (.agg #[.int .u64 (St.wd T.s 0 : Nat), .int .u64 (St.wd T.s 1 : Nat), .int .u64 (St.wd T.s 2 : Nat), .int .u64 (St.wd T.s 3 : Nat)]) (.agg #[.int .u64 0, .int .u64 0, .int .u64 0, .int .u64 0])).run Tryd.prog wx = .ok (.bool (!St.sameS T.s Nt.noS)) wx := fun wx => by
    have := set_neq T.s Nt.noS wx
    simp only [St.setV, Nt.wd_no] at this
    exact this
  generalize St.sameS T.s Nt.noS = sb at *
  obtain ⟨q0, q1, q2, q3, q4, q5, q6, q7, q8⟩ := h9
  have at5 : ∀ k j, k < 10 → j < 5 → w.cell? ⟨1, k * 5 + j, none⟩ = Nt.shpL[k * 5 + j]? := fun k j h1 h2 => hT.shp _ (by omega)
  have AT5 : Hid _ := at5
  clear at5 hT
  obtain ⟨L, hL⟩ : ∃ L, L = T.kids.length := ⟨_, rfl⟩
  rw [← hL] at q8 hl HR
  clear hL
  have h := hk
  · rw [h] at q0 HR
    have s0 : w.cell? ⟨1, 25, none⟩ = some (.bool false) := AT5.out 5 0 (by omega) (by omega)
    have s1 : w.cell? ⟨1, 26, none⟩ = some (.bool true) := AT5.out 5 1 (by omega) (by omega)
    have s2 : w.cell? ⟨1, 27, none⟩ = some (.bool false) := AT5.out 5 2 (by omega) (by omega)
    have s3 : w.cell? ⟨1, 28, none⟩ = some (.int .i64 1) := AT5.out 5 3 (by omega) (by omega)
    have s4 : w.cell? ⟨1, 29, none⟩ = some (.int .i64 1) := AT5.out 5 4 (by omega) (by omega)
    have HBN : Hid (∀ w, Calls Tryd.prog 84 #[.int .i64 T.mn, .int .i64 T.mx] w fun e w' => e = .returned (.bool (Nt.bndP T.mn T.mx)) ∧ w' = w) := fun w => bnd_any _ _ w
    generalize Nt.bndP T.mn T.mx = bn at *
    by_cases hL0 : L < 1
    · skip
      have hlo : decide ((1 : Int) ≤ (L : Int)) = false := by simp; omega
      have hhi : decide ((L : Int) ≤ 1) = true := by simp; omega
      have heq : (L == 1) = false := by simp; omega
      go_enter Tryd.func72, Tryd.ntmps72
      go_wp2_with fail
      all_goals first
        | (go_ret; refine ⟨ret_bool ?_, (Below.refl _ _).alloc (Nat.le_refl _) _⟩; rw [← HR.out]; clear HR E AT5; simp_all; done)
        | (go_quiet ((go_at_call 84; exact Calls.quiet_of_same (HBN.out _)))
           go_wp2_with fail
           all_goals first
             | (go_ret; refine ⟨ret_bool ?_, drewB ((Below.refl _ _).alloc (Nat.le_refl _) _) _⟩; rw [← HR.out]; clear HR E AT5; simp_all; done)
             | (go_quiet (fail)
                go_wp2_with fail
                go_ret
                refine ⟨ret_bool ?_, drewB (drewB ((Below.refl _ _).alloc (Nat.le_refl _) _) _) _⟩
                rw [← HR.out]
                clear HR E AT5
                simp_all))
    by_cases hL1 : L ≤ 1
    · skip
      have hlo : decide ((1 : Int) ≤ (L : Int)) = true := by simp; omega
      have hhi : decide ((L : Int) ≤ 1) = true := by simp; omega
      have heq : (L == 1) = true := by simp; omega
      go_enter Tryd.func72, Tryd.ntmps72
      go_wp2_with fail
      all_goals first
        | (go_ret; refine ⟨ret_bool ?_, (Below.refl _ _).alloc (Nat.le_refl _) _⟩; rw [← HR.out]; clear HR E AT5; simp_all; done)
        | (go_quiet ((go_at_call 84; exact Calls.quiet_of_same (HBN.out _)))
           go_wp2_with fail
           all_goals first
             | (go_ret; refine ⟨ret_bool ?_, drewB ((Below.refl _ _).alloc (Nat.le_refl _) _) _⟩; rw [← HR.out]; clear HR E AT5; simp_all; done)
             | (go_quiet (fail)
                go_wp2_with fail
                go_ret
                refine ⟨ret_bool ?_, drewB (drewB ((Below.refl _ _).alloc (Nat.le_refl _) _) _) _⟩
                rw [← HR.out]
                clear HR E AT5
                simp_all))
    · skip
      have hlo : decide ((1 : Int) ≤ (L : Int)) = true := by simp; omega
      have hhi : decide ((L : Int) ≤ 1) = false := by simp; omega
      have heq : (L == 1) = false := by simp; omega
      go_enter Tryd.func72, Tryd.ntmps72
      go_wp2_with fail
      all_goals first
        | (go_ret; refine ⟨ret_bool ?_, (Below.refl _ _).alloc (Nat.le_refl _) _⟩; rw [← HR.out]; clear HR E AT5; simp_all; done)
        | (go_quiet ((go_at_call 84; exact Calls.quiet_of_same (HBN.out _)))
           go_wp2_with fail
           all_goals first
             | (go_ret; refine ⟨ret_bool ?_, drewB ((Below.refl _ _).alloc (Nat.le_refl _) _) _⟩; rw [← HR.out]; clear HR E AT5; simp_all; done)
             | (go_quiet (fail)
                go_wp2_with fail
                go_ret
                refine ⟨ret_bool ?_, drewB (drewB ((Below.refl _ _).alloc (Nat.le_refl _) _) _) _⟩
                rw [← HR.out]
                clear HR E AT5
                simp_all))
set_option maxRecDepth 100000 in
set_option maxHeartbeats 4000000 in
theorem fits_6 (T : Nt.NT) (b off : Nat) (a : Option Addr) (cap : Nat) (w : World) (hT : Nt.Tabs w) (h9 : Nt.Nine w b off T a cap) (hbw : b < w.heap.size) (hl : T.kids.length ≤ 8192) (hk : T.k = 6) :
    Calls Tryd.prog 72 #[.pointer (some ⟨b, off, none⟩)] w fun e w' => e = .returned (.bool (Nt.fitP T)) ∧ Below w.heap.size w w' := by
  obtain ⟨R, hR⟩ : ∃ R, Nt.fitP T = R := ⟨_, rfl⟩
  rw [hR]
  rw [Nt.fitP] at hR
  have HR : Hid _ := hR
  clear hR
  have hbig := hT.big
  have E : ∀ wx, (binOp .neq 25 (.agg #[.int .u64 (St.wd T.s 0 : Nat), .int .u64 (St.wd T.s 1 : Nat), .int .u64 (St.wd T.s 2 : Nat), .int .u64 (St.wd T.s 3 : Nat)]) (.agg #[.int .u64 0, .int .u64 0, .int .u64 0, .int .u64 0])).run Tryd.prog wx = .ok (.bool (!St.sameS T.s Nt.noS)) wx := fun wx => by
    have := set_neq T.s Nt.noS wx
    simp only [St.setV, Nt.wd_no] at this
    exact this
  generalize St.sameS T.s Nt.noS = sb at *
  obtain ⟨q0, q1, q2, q3, q4, q5, q6, q7, q8⟩ := h9
  have at5 : ∀ k j, k < 10 → j < 5 → w.cell? ⟨1, k * 5 + j, none⟩ = Nt.shpL[k * 5 + j]? := fun k j h1 h2 => hT.shp _ (by omega)
  have AT5 : Hid _ := at5
  clear at5 hT
  obtain ⟨L, hL⟩ : ∃ L, L = T.kids.length := ⟨_, rfl⟩
  rw [← hL] at q8 hl HR
  clear hL
  have h := hk
  · rw [h] at q0 HR
    have s0 : w.cell? ⟨1, 30, none⟩ = some (.bool false) := AT5.out 6 0 (by omega) (by omega)
    have s1 : w.cell? ⟨1, 31, none⟩ = some (.bool false) := AT5.out 6 1 (by omega) (by omega)
    have s2 : w.cell? ⟨1, 32, none⟩ = some (.bool true) := AT5.out 6 2 (by omega) (by omega)
    have s3 : w.cell? ⟨1, 33, none⟩ = some (.int .i64 1) := AT5.out 6 3 (by omega) (by omega)
    have s4 : w.cell? ⟨1, 34, none⟩ = some (.int .i64 1) := AT5.out 6 4 (by omega) (by omega)
    by_cases hL0 : L < 1
    · skip
      have hlo : decide ((1 : Int) ≤ (L : Int)) = false := by simp; omega
      have hhi : decide ((L : Int) ≤ 1) = true := by simp; omega
      have heq : (L == 1) = false := by simp; omega
      go_enter Tryd.func72, Tryd.ntmps72
      go_wp2_with fail
      all_goals first
        | (go_ret; refine ⟨ret_bool ?_, (Below.refl _ _).alloc (Nat.le_refl _) _⟩; rw [← HR.out]; clear HR E AT5; simp_all; done)
        | (go_quiet ((go_at_call 84; exact Calls.quiet_of_same (bnd_any _ _ _)))
           go_wp2_with fail
           all_goals first
             | (go_ret; refine ⟨ret_bool ?_, drewB ((Below.refl _ _).alloc (Nat.le_refl _) _) _⟩; rw [← HR.out]; clear HR E AT5; simp_all; done)
             | (go_quiet (fail)
                go_wp2_with fail
                go_ret
                refine ⟨ret_bool ?_, drewB (drewB ((Below.refl _ _).alloc (Nat.le_refl _) _) _) _⟩
                rw [← HR.out]
                clear HR E AT5
                simp_all))
    by_cases hL1 : L ≤ 1
    · skip
      have hlo : decide ((1 : Int) ≤ (L : Int)) = true := by simp; omega
      have hhi : decide ((L : Int) ≤ 1) = true := by simp; omega
      have heq : (L == 1) = true := by simp; omega
      go_enter Tryd.func72, Tryd.ntmps72
      go_wp2_with fail
      all_goals first
        | (go_ret; refine ⟨ret_bool ?_, (Below.refl _ _).alloc (Nat.le_refl _) _⟩; rw [← HR.out]; clear HR E AT5; simp_all; done)
        | (go_quiet ((go_at_call 84; exact Calls.quiet_of_same (bnd_any _ _ _)))
           go_wp2_with fail
           all_goals first
             | (go_ret; refine ⟨ret_bool ?_, drewB ((Below.refl _ _).alloc (Nat.le_refl _) _) _⟩; rw [← HR.out]; clear HR E AT5; simp_all; done)
             | (go_quiet (fail)
                go_wp2_with fail
                go_ret
                refine ⟨ret_bool ?_, drewB (drewB ((Below.refl _ _).alloc (Nat.le_refl _) _) _) _⟩
                rw [← HR.out]
                clear HR E AT5
                simp_all))
    · skip
      have hlo : decide ((1 : Int) ≤ (L : Int)) = true := by simp; omega
      have hhi : decide ((L : Int) ≤ 1) = false := by simp; omega
      have heq : (L == 1) = false := by simp; omega
      go_enter Tryd.func72, Tryd.ntmps72
      go_wp2_with fail
      all_goals first
        | (go_ret; refine ⟨ret_bool ?_, (Below.refl _ _).alloc (Nat.le_refl _) _⟩; rw [← HR.out]; clear HR E AT5; simp_all; done)
        | (go_quiet ((go_at_call 84; exact Calls.quiet_of_same (bnd_any _ _ _)))
           go_wp2_with fail
           all_goals first
             | (go_ret; refine ⟨ret_bool ?_, drewB ((Below.refl _ _).alloc (Nat.le_refl _) _) _⟩; rw [← HR.out]; clear HR E AT5; simp_all; done)
             | (go_quiet (fail)
                go_wp2_with fail
                go_ret
                refine ⟨ret_bool ?_, drewB (drewB ((Below.refl _ _).alloc (Nat.le_refl _) _) _) _⟩
                rw [← HR.out]
                clear HR E AT5
                simp_all))
end Go.Proofs.YtdiokclbdaojpaaDoor
