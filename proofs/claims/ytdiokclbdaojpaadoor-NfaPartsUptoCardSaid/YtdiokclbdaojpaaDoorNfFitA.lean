/- What posix.fits answers, at the kinds 0, 1, 2, 3. -/
import Derived.Test.YtdiokclbdaojpaaDoorNfM1
import Derived.Deep.QuietTactic
import Derived.BigQuiet
namespace Go.Proofs.YtdiokclbdaojpaaDoor
open Go.RowKit

set_option maxRecDepth 100000 in
set_option maxHeartbeats 4000000 in
theorem fits_0 (T : Nt.NT) (b off : Nat) (a : Option Addr) (cap : Nat) (w : World) (hT : Nt.Tabs w) (h9 : Nt.Nine w b off T a cap) (hbw : b < w.heap.size) (hl : T.kids.length ≤ 8192) (hk : T.k = 0) :
    Calls Tryd.prog 72 #[.pointer (some ⟨b, off, none⟩)] w fun e w' => e = .returned (.bool (Nt.fitP T)) ∧ Below w.heap.size w w' := by
  obtain ⟨R, hR⟩ : ∃ R, Nt.fitP T = R := ⟨_, rfl⟩
  rw [hR]
  rw [Nt.fitP] at hR
  have HR : Hid _ := hR
  clear hR
  have hbig := hT.big
  have E : ∀ wx, (binOp .neq 25 (.agg #[.int .u64 (St.wd T.s 0 : Nat), .int .u64 (St.wd T.s 1 : Nat), .int .u64 (St.wd T.s 2 : Nat), .int .u64 (St.wd T.s 3 : Nat)]) (.agg #[.int .u64 0, .int .u64 0, .int .u64 0, .int .u64 0])).run Tryd.prog wx = .ok (.bool (!St.sameS T.s Nt.noS)) wx := fun wx => by
    have := set_neq T.s Nt.noS wx
    simp only [St.setV, Nt.wd_no] at this
    exact this
  generalize St.sameS T.s Nt.noS = sb at *
  obtain ⟨q0, q1, q2, q3, q4, q5, q6, q7, q8⟩ := h9
  have at5 : ∀ k j, k < 10 → j < 5 → w.cell? ⟨1, k * 5 + j, none⟩ = Nt.shpL[k * 5 + j]? := fun k j h1 h2 => hT.shp _ (by omega)
  have AT5 : Hid _ := at5
  clear at5 hT
  obtain ⟨L, hL⟩ : ∃ L, L = T.kids.length := ⟨_, rfl⟩
  rw [← hL] at q8 hl HR
  clear hL
  have h := hk
  · rw [h] at q0 HR
    have s0 : w.cell? ⟨1, 0, none⟩ = some (.bool false) := AT5.out 0 0 (by omega) (by omega)
    have s1 : w.cell? ⟨1, 1, none⟩ = some (.bool false) := AT5.out 0 1 (by omega) (by omega)
    have s2 : w.cell? ⟨1, 2, none⟩ = some (.bool false) := AT5.out 0 2 (by omega) (by omega)
    have s3 : w.cell? ⟨1, 3, none⟩ = some (.int .i64 1) := AT5.out 0 3 (by omega) (by omega)
    have s4 : w.cell? ⟨1, 4, none⟩ = some (.int .i64 0) := AT5.out 0 4 (by omega) (by omega)
    by_cases hL0 : 1 ≤ L
    · skip
      have hlo : decide ((1 : Int) ≤ (L : Int)) = true := by simp; omega
      have hhi : decide ((L : Int) ≤ 0) = false := by simp; omega
      have heq : (L == 0) = false := by simp; omega
      go_enter Tryd.func72, Tryd.ntmps72
      go_wp2_with fail
      all_goals first
        | (go_ret; refine ⟨ret_bool ?_, (Below.refl _ _).alloc (Nat.le_refl _) _⟩; rw [← HR.out]; clear HR E AT5; simp_all; done)
        | (go_quiet ((go_at_call 84; exact Calls.quiet_of_same (bnd_any _ _ _)))
           go_wp2_with fail
           all_goals first
             | (go_ret; refine ⟨ret_bool ?_, drewB ((Below.refl _ _).alloc (Nat.le_refl _) _) _⟩; rw [← HR.out]; clear HR E AT5; simp_all; done)
             | (go_quiet (fail)
                go_wp2_with fail
                go_ret
                refine ⟨ret_bool ?_, drewB (drewB ((Below.refl _ _).alloc (Nat.le_refl _) _) _) _⟩
                rw [← HR.out]
                clear HR E AT5
                simp_all))
    · skip
      have hlo : decide ((1 : Int) ≤ (L : Int)) = false := by simp; omega
      have hhi : decide ((L : Int) ≤ 0) = true := by simp; omega
      have heq : (L == 0) = true := by simp; omega
      go_enter Tryd.func72, Tryd.ntmps72
      go_wp2_with fail
      all_goals first
        | (go_ret; refine ⟨ret_bool ?_, (Below.refl _ _).alloc (Nat.le_refl _) _⟩; rw [← HR.out]; clear HR E AT5; simp_all; done)
        | (go_quiet ((go_at_call 84; exact Calls.quiet_of_same (bnd_any _ _ _)))
           go_wp2_with fail
           all_goals first
             | (go_ret; refine ⟨ret_bool ?_, drewB ((Below.refl _ _).alloc (Nat.le_refl _) _) _⟩; rw [← HR.out]; clear HR E AT5; simp_all; done)
             | (go_quiet (fail)
                go_wp2_with fail
                go_ret
                refine ⟨ret_bool ?_, drewB (drewB ((Below.refl _ _).alloc (Nat.le_refl _) _) _) _⟩
                rw [← HR.out]
                clear HR E AT5
                simp_all))
set_option maxRecDepth 100000 in
set_option maxHeartbeats 4000000 in
theorem fits_1 (T : Nt.NT) (b off : Nat) (a : Option Addr) (cap : Nat) (w : World) (hT : Nt.Tabs w) (h9 : Nt.Nine w b off T a cap) (hbw : b < w.heap.size) (hl : T.kids.length ≤ 8192) (hk : T.k = 1) :
    Calls Tryd.prog 72 #[.pointer (some ⟨b, off, none⟩)] w fun e w' => e = .returned (.bool (Nt.fitP T)) ∧ Below w.heap.size w w' := by
  obtain ⟨R, hR⟩ : ∃ R, Nt.fitP T = R := ⟨_, rfl⟩
  rw [hR]
  rw [Nt.fitP] at hR
  have HR : Hid _ := hR
  clear hR
  have hbig := hT.big
  have E : ∀ wx, (binOp .neq 25 (.agg #[.int .u64 (St.wd T.s 0 : Nat), .int .u64 (St.wd T.s 1 : Nat), .int .u64 (St.wd T.s 2 : Nat), .int .u64 (St.wd T.s 3 : Nat)]) (.agg #[.int .u64 0, .int .u64 0, .int .u64 0, .int .u64 0])).run Tryd.prog wx = .ok (.bool (!St.sameS T.s Nt.noS)) wx := fun wx => by
    have := set_neq T.s Nt.noS wx
    simp only [St.setV, Nt.wd_no] at this
    exact this
  generalize St.sameS T.s Nt.noS = sb at *
  obtain ⟨q0, q1, q2, q3, q4, q5, q6, q7, q8⟩ := h9
  have at5 : ∀ k j, k < 10 → j < 5 → w.cell? ⟨1, k * 5 + j, none⟩ = Nt.shpL[k * 5 + j]? := fun k j h1 h2 => hT.shp _ (by omega)
  have AT5 : Hid _ := at5
  clear at5 hT
  obtain ⟨L, hL⟩ : ∃ L, L = T.kids.length := ⟨_, rfl⟩
  rw [← hL] at q8 hl HR
  clear hL
  have h := hk
  · rw [h] at q0 HR
    have s0 : w.cell? ⟨1, 5, none⟩ = some (.bool false) := AT5.out 1 0 (by omega) (by omega)
    have s1 : w.cell? ⟨1, 6, none⟩ = some (.bool false) := AT5.out 1 1 (by omega) (by omega)
    have s2 : w.cell? ⟨1, 7, none⟩ = some (.bool false) := AT5.out 1 2 (by omega) (by omega)
    have s3 : w.cell? ⟨1, 8, none⟩ = some (.int .i64 0) := AT5.out 1 3 (by omega) (by omega)
    have s4 : w.cell? ⟨1, 9, none⟩ = some (.int .i64 0) := AT5.out 1 4 (by omega) (by omega)
    by_cases hL0 : L ≤ 0
    · skip
      have hlo : decide ((0 : Int) ≤ (L : Int)) = true := by simp
      have hhi : decide ((L : Int) ≤ 0) = true := by simp; omega
      have heq : (L == 0) = true := by simp; omega
      go_enter Tryd.func72, Tryd.ntmps72
      go_wp2_with fail
      all_goals first
        | (go_ret; refine ⟨ret_bool ?_, (Below.refl _ _).alloc (Nat.le_refl _) _⟩; rw [← HR.out]; clear HR E AT5; simp_all; done)
        | (go_quiet ((go_at_call 84; exact Calls.quiet_of_same (bnd_any _ _ _)))
           go_wp2_with fail
           all_goals first
             | (go_ret; refine ⟨ret_bool ?_, drewB ((Below.refl _ _).alloc (Nat.le_refl _) _) _⟩; rw [← HR.out]; clear HR E AT5; simp_all; done)
             | (go_quiet (fail)
                go_wp2_with fail
                go_ret
                refine ⟨ret_bool ?_, drewB (drewB ((Below.refl _ _).alloc (Nat.le_refl _) _) _) _⟩
                rw [← HR.out]
                clear HR E AT5
                simp_all))
    · skip
      have hlo : decide ((0 : Int) ≤ (L : Int)) = true := by simp
      have hhi : decide ((L : Int) ≤ 0) = false := by simp; omega
      have heq : (L == 0) = false := by simp; omega
      go_enter Tryd.func72, Tryd.ntmps72
      go_wp2_with fail
      all_goals first
        | (go_ret; refine ⟨ret_bool ?_, (Below.refl _ _).alloc (Nat.le_refl _) _⟩; rw [← HR.out]; clear HR E AT5; simp_all; done)
        | (go_quiet ((go_at_call 84; exact Calls.quiet_of_same (bnd_any _ _ _)))
           go_wp2_with fail
           all_goals first
             | (go_ret; refine ⟨ret_bool ?_, drewB ((Below.refl _ _).alloc (Nat.le_refl _) _) _⟩; rw [← HR.out]; clear HR E AT5; simp_all; done)
             | (go_quiet (fail)
                go_wp2_with fail
                go_ret
                refine ⟨ret_bool ?_, drewB (drewB ((Below.refl _ _).alloc (Nat.le_refl _) _) _) _⟩
                rw [← HR.out]
                clear HR E AT5
                simp_all))
set_option maxRecDepth 100000 in
set_option maxHeartbeats 4000000 in
theorem fits_2 (T : Nt.NT) (b off : Nat) (a : Option Addr) (cap : Nat) (w : World) (hT : Nt.Tabs w) (h9 : Nt.Nine w b off T a cap) (hbw : b < w.heap.size) (hl : T.kids.length ≤ 8192) (hk : T.k = 2) :
    Calls Tryd.prog 72 #[.pointer (some ⟨b, off, none⟩)] w fun e w' => e = .returned (.bool (Nt.fitP T)) ∧ Below w.heap.size w w' := by
  obtain ⟨R, hR⟩ : ∃ R, Nt.fitP T = R := ⟨_, rfl⟩
  rw [hR]
  rw [Nt.fitP] at hR
  have HR : Hid _ := hR
  clear hR
  have hbig := hT.big
  have E : ∀ wx, (binOp .neq 25 (.agg #[.int .u64 (St.wd T.s 0 : Nat), .int .u64 (St.wd T.s 1 : Nat), .int .u64 (St.wd T.s 2 : Nat), .int .u64 (St.wd T.s 3 : Nat)]) (.agg #[.int .u64 0, .int .u64 0, .int .u64 0, .int .u64 0])).run Tryd.prog wx = .ok (.bool (!St.sameS T.s Nt.noS)) wx := fun wx => by
    have := set_neq T.s Nt.noS wx
    simp only [St.setV, Nt.wd_no] at this
    exact this
  generalize St.sameS T.s Nt.noS = sb at *
  obtain ⟨q0, q1, q2, q3, q4, q5, q6, q7, q8⟩ := h9
  have at5 : ∀ k j, k < 10 → j < 5 → w.cell? ⟨1, k * 5 + j, none⟩ = Nt.shpL[k * 5 + j]? := fun k j h1 h2 => hT.shp _ (by omega)
  have AT5 : Hid _ := at5
  clear at5 hT
  obtain ⟨L, hL⟩ : ∃ L, L = T.kids.length := ⟨_, rfl⟩
  rw [← hL] at q8 hl HR
  clear hL
  have h := hk
  · rw [h] at q0 HR
    have s0 : w.cell? ⟨1, 10, none⟩ = some (.bool true) := AT5.out 2 0 (by omega) (by omega)
    have s1 : w.cell? ⟨1, 11, none⟩ = some (.bool false) := AT5.out 2 1 (by omega) (by omega)
    have s2 : w.cell? ⟨1, 12, none⟩ = some (.bool false) := AT5.out 2 2 (by omega) (by omega)
    have s3 : w.cell? ⟨1, 13, none⟩ = some (.int .i64 0) := AT5.out 2 3 (by omega) (by omega)
    have s4 : w.cell? ⟨1, 14, none⟩ = some (.int .i64 0) := AT5.out 2 4 (by omega) (by omega)
    by_cases hL0 : L ≤ 0
    · skip
      have hlo : decide ((0 : Int) ≤ (L : Int)) = true := by simp
      have hhi : decide ((L : Int) ≤ 0) = true := by simp; omega
      have heq : (L == 0) = true := by simp; omega
      go_enter Tryd.func72, Tryd.ntmps72
      go_wp2_with fail
      all_goals first
        | (go_ret; refine ⟨ret_bool ?_, (Below.refl _ _).alloc (Nat.le_refl _) _⟩; rw [← HR.out]; clear HR E AT5; simp_all; done)
        | (go_quiet ((go_at_call 84; exact Calls.quiet_of_same (bnd_any _ _ _)))
           go_wp2_with fail
           all_goals first
             | (go_ret; refine ⟨ret_bool ?_, drewB ((Below.refl _ _).alloc (Nat.le_refl _) _) _⟩; rw [← HR.out]; clear HR E AT5; simp_all; done)
             | (go_quiet (fail)
                go_wp2_with fail
                go_ret
                refine ⟨ret_bool ?_, drewB (drewB ((Below.refl _ _).alloc (Nat.le_refl _) _) _) _⟩
                rw [← HR.out]
                clear HR E AT5
                simp_all))
    · skip
      have hlo : decide ((0 : Int) ≤ (L : Int)) = true := by simp
      have hhi : decide ((L : Int) ≤ 0) = false := by simp; omega
      have heq : (L == 0) = false := by simp; omega
      go_enter Tryd.func72, Tryd.ntmps72
      go_wp2_with fail
      all_goals first
        | (go_ret; refine ⟨ret_bool ?_, (Below.refl _ _).alloc (Nat.le_refl _) _⟩; rw [← HR.out]; clear HR E AT5; simp_all; done)
        | (go_quiet ((go_at_call 84; exact Calls.quiet_of_same (bnd_any _ _ _)))
           go_wp2_with fail
           all_goals first
             | (go_ret; refine ⟨ret_bool ?_, drewB ((Below.refl _ _).alloc (Nat.le_refl _) _) _⟩; rw [← HR.out]; clear HR E AT5; simp_all; done)
             | (go_quiet (fail)
                go_wp2_with fail
                go_ret
                refine ⟨ret_bool ?_, drewB (drewB ((Below.refl _ _).alloc (Nat.le_refl _) _) _) _⟩
                rw [← HR.out]
                clear HR E AT5
                simp_all))
set_option maxRecDepth 100000 in
set_option maxHeartbeats 4000000 in
theorem fits_3 (T : Nt.NT) (b off : Nat) (a : Option Addr) (cap : Nat) (w : World) (hT : Nt.Tabs w) (h9 : Nt.Nine w b off T a cap) (hbw : b < w.heap.size) (hl : T.kids.length ≤ 8192) (hk : T.k = 3) :
    Calls Tryd.prog 72 #[.pointer (some ⟨b, off, none⟩)] w fun e w' => e = .returned (.bool (Nt.fitP T)) ∧ Below w.heap.size w w' := by
  obtain ⟨R, hR⟩ : ∃ R, Nt.fitP T = R := ⟨_, rfl⟩
  rw [hR]
  rw [Nt.fitP] at hR
  have HR : Hid _ := hR
  clear hR
  have hbig := hT.big
  have E : ∀ wx, (binOp .neq 25 (.agg #[.int .u64 (St.wd T.s 0 : Nat), .int .u64 (St.wd T.s 1 : Nat), .int .u64 (St.wd T.s 2 : Nat), .int .u64 (St.wd T.s 3 : Nat)]) (.agg #[.int .u64 0, .int .u64 0, .int .u64 0, .int .u64 0])).run Tryd.prog wx = .ok (.bool (!St.sameS T.s Nt.noS)) wx := fun wx => by
    have := set_neq T.s Nt.noS wx
    simp only [St.setV, Nt.wd_no] at this
    exact this
  generalize St.sameS T.s Nt.noS = sb at *
  obtain ⟨q0, q1, q2, q3, q4, q5, q6, q7, q8⟩ := h9
  have at5 : ∀ k j, k < 10 → j < 5 → w.cell? ⟨1, k * 5 + j, none⟩ = Nt.shpL[k * 5 + j]? := fun k j h1 h2 => hT.shp _ (by omega)
  have AT5 : Hid _ := at5
  clear at5 hT
  obtain ⟨L, hL⟩ : ∃ L, L = T.kids.length := ⟨_, rfl⟩
  rw [← hL] at q8 hl HR
  clear hL
  have h := hk
  · rw [h] at q0 HR
    have s0 : w.cell? ⟨1, 15, none⟩ = some (.bool false) := AT5.out 3 0 (by omega) (by omega)
    have s1 : w.cell? ⟨1, 16, none⟩ = some (.bool false) := AT5.out 3 1 (by omega) (by omega)
    have s2 : w.cell? ⟨1, 17, none⟩ = some (.bool false) := AT5.out 3 2 (by omega) (by omega)
    have s3 : w.cell? ⟨1, 18, none⟩ = some (.int .i64 2) := AT5.out 3 3 (by omega) (by omega)
    have s4 : w.cell? ⟨1, 19, none⟩ = some (.int .i64 8192) := AT5.out 3 4 (by omega) (by omega)
    by_cases hL0 : 2 ≤ L
    · skip
      have hlo : decide ((2 : Int) ≤ (L : Int)) = true := by simp; omega
      have hhi : decide ((L : Int) ≤ 8192) = true := by simp; omega
      have heq : decide (2 ≤ L) = true := by simp; omega
      go_enter Tryd.func72, Tryd.ntmps72
      go_wp2_with fail
      all_goals first
        | (go_ret; refine ⟨ret_bool ?_, (Below.refl _ _).alloc (Nat.le_refl _) _⟩; rw [← HR.out]; clear HR E AT5; simp_all; done)
        | (go_quiet ((go_at_call 84; exact Calls.quiet_of_same (bnd_any _ _ _)))
           go_wp2_with fail
           all_goals first
             | (go_ret; refine ⟨ret_bool ?_, drewB ((Below.refl _ _).alloc (Nat.le_refl _) _) _⟩; rw [← HR.out]; clear HR E AT5; simp_all; done)
             | (go_quiet (fail)
                go_wp2_with fail
                go_ret
                refine ⟨ret_bool ?_, drewB (drewB ((Below.refl _ _).alloc (Nat.le_refl _) _) _) _⟩
                rw [← HR.out]
                clear HR E AT5
                simp_all))
    · skip
      have hlo : decide ((2 : Int) ≤ (L : Int)) = false := by simp; omega
      have hhi : decide ((L : Int) ≤ 8192) = true := by simp; omega
      have heq : decide (2 ≤ L) = false := by simp; omega
      go_enter Tryd.func72, Tryd.ntmps72
      go_wp2_with fail
      all_goals first
        | (go_ret; refine ⟨ret_bool ?_, (Below.refl _ _).alloc (Nat.le_refl _) _⟩; rw [← HR.out]; clear HR E AT5; simp_all; done)
        | (go_quiet ((go_at_call 84; exact Calls.quiet_of_same (bnd_any _ _ _)))
           go_wp2_with fail
           all_goals first
             | (go_ret; refine ⟨ret_bool ?_, drewB ((Below.refl _ _).alloc (Nat.le_refl _) _) _⟩; rw [← HR.out]; clear HR E AT5; simp_all; done)
             | (go_quiet (fail)
                go_wp2_with fail
                go_ret
                refine ⟨ret_bool ?_, drewB (drewB ((Below.refl _ _).alloc (Nat.le_refl _) _) _) _⟩
                rw [← HR.out]
                clear HR E AT5
                simp_all))
end Go.Proofs.YtdiokclbdaojpaaDoor
