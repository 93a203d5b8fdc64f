/- What posix.fits answers, at the kinds 7, 8, 9. -/
import Derived.Test.YtdiokclbdaojpaaDoorNfM1
import Derived.Deep.QuietTactic
import Derived.BigQuiet
namespace Go.Proofs.YtdiokclbdaojpaaDoor
open Go.RowKit

set_option maxRecDepth 100000 in
set_option maxHeartbeats 4000000 in
theorem fits_7 (T : Nt.NT) (b off : Nat) (a : Option Addr) (cap : Nat) (w : World) (hT : Nt.Tabs w) (h9 : Nt.Nine w b off T a cap) (hbw : b < w.heap.size) (hl : T.kids.length ≤ 8192) (hk : T.k = 7) :
    Calls Tryd.prog 72 #[.pointer (some ⟨b, off, none⟩)] w fun e w' => e = .returned (.bool (Nt.fitP T)) ∧ Below w.heap.size w w' := by
  obtain ⟨R, hR⟩ : ∃ R, Nt.fitP T = R := ⟨_, rfl⟩
  rw [hR]
  rw [Nt.fitP] at hR
  have HR : Hid _ := hR
  clear hR
  have hbig := hT.big
  have E : ∀ wx, (binOp .neq 25 (.agg #[.int .u64 (St.wd T.s 0 : Nat), .int .u64 (St.wd T.s 1 : Nat), .int .u64 (St.wd T.s 2 : Nat), .int .u64 (St.wd T.s 3 : Nat)]) (.agg #[.int .u64 0, .int .u64 0, .int .u64 0, .int .u64 0])).run Tryd.prog wx = .ok (.bool (!St.sameS T.s Nt.noS)) wx := fun wx => by
    have := set_neq T.s Nt.noS wx
    simp only [St.setV, Nt.wd_no] at this
    exact this
  generalize St.sameS T.s Nt.noS = sb at *
  obtain ⟨q0, q1, q2, q3, q4, q5, q6, q7, q8⟩ := h9
  have at5 : ∀ k j, k < 10 → j < 5 → w.cell? ⟨1, k * 5 + j, none⟩ = Nt.shpL[k * 5 + j]? := fun k j h1 h2 => hT.shp _ (by omega)
  have AT5 : Hid _ := at5
  clear at5 hT
  obtain ⟨L, hL⟩ : ∃ L, L = T.kids.length := ⟨_, rfl⟩
  rw [← hL] at q8 hl HR
  clear hL
  have h := hk
  · rw [h] at q0 HR
    have s0 : w.cell? ⟨1, 35, none⟩ = some (.bool false) := AT5.out 7 0 (by omega) (by omega)
    have s1 : w.cell? ⟨1, 36, none⟩ = some (.bool false) := AT5.out 7 1 (by omega) (by omega)
    have s2 : w.cell? ⟨1, 37, none⟩ = some (.bool true) := AT5.out 7 2 (by omega) (by omega)
    have s3 : w.cell? ⟨1, 38, none⟩ = some (.int .i64 0) := AT5.out 7 3 (by omega) (by omega)
    have s4 : w.cell? ⟨1, 39, none⟩ = some (.int .i64 0) := AT5.out 7 4 (by omega) (by omega)
    by_cases hL0 : L ≤ 0
    · skip
      have hlo : decide ((0 : Int) ≤ (L : Int)) = true := by simp
      have hhi : decide ((L : Int) ≤ 0) = true := by simp; omega
      have heq : (L == 0) = true := by simp; omega
      go_enter Tryd.func72, Tryd.ntmps72
      go_wp2_with fail
      all_goals first
        | (go_ret; refine ⟨ret_bool ?_, (Below.refl _ _).alloc (Nat.le_refl _) _⟩; rw [← HR.out]; clear HR E AT5; simp_all; done)
        | (go_quiet ((go_at_call 84; exact Calls.quiet_of_same (bnd_any _ _ _)))
           go_wp2_with fail
           all_goals first
             | (go_ret; refine ⟨ret_bool ?_, drewB ((Below.refl _ _).alloc (Nat.le_refl _) _) _⟩; rw [← HR.out]; clear HR E AT5; simp_all; done)
             | (go_quiet (fail)
                go_wp2_with fail
                go_ret
                refine ⟨ret_bool ?_, drewB (drewB ((Below.refl _ _).alloc (Nat.le_refl _) _) _) _⟩
                rw [← HR.out]
                clear HR E AT5
                simp_all))
    · skip
      have hlo : decide ((0 : Int) ≤ (L : Int)) = true := by simp
      have hhi : decide ((L : Int) ≤ 0) = false := by simp; omega
      have heq : (L == 0) = false := by simp; omega
      go_enter Tryd.func72, Tryd.ntmps72
      go_wp2_with fail
      all_goals first
        | (go_ret; refine ⟨ret_bool ?_, (Below.refl _ _).alloc (Nat.le_refl _) _⟩; rw [← HR.out]; clear HR E AT5; simp_all; done)
        | (go_quiet ((go_at_call 84; exact Calls.quiet_of_same (bnd_any _ _ _)))
           go_wp2_with fail
           all_goals first
             | (go_ret; refine ⟨ret_bool ?_, drewB ((Below.refl _ _).alloc (Nat.le_refl _) _) _⟩; rw [← HR.out]; clear HR E AT5; simp_all; done)
             | (go_quiet (fail)
                go_wp2_with fail
                go_ret
                refine ⟨ret_bool ?_, drewB (drewB ((Below.refl _ _).alloc (Nat.le_refl _) _) _) _⟩
                rw [← HR.out]
                clear HR E AT5
                simp_all))
set_option maxRecDepth 100000 in
set_option maxHeartbeats 4000000 in
theorem fits_8 (T : Nt.NT) (b off : Nat) (a : Option Addr) (cap : Nat) (w : World) (hT : Nt.Tabs w) (h9 : Nt.Nine w b off T a cap) (hbw : b < w.heap.size) (hl : T.kids.length ≤ 8192) (hk : T.k = 8) :
    Calls Tryd.prog 72 #[.pointer (some ⟨b, off, none⟩)] w fun e w' => e = .returned (.bool (Nt.fitP T)) ∧ Below w.heap.size w w' := by
  obtain ⟨R, hR⟩ : ∃ R, Nt.fitP T = R := ⟨_, rfl⟩
  rw [hR]
  rw [Nt.fitP] at hR
  have HR : Hid _ := hR
  clear hR
  have hbig := hT.big
  have E : ∀ wx, (binOp .neq 25 (.agg #[.int .u64 (St.wd T.s 0 : Nat), .int .u64 (St.wd T.s 1 : Nat), .int .u64 (St.wd T.s 2 : Nat), .int .u64 (St.wd T.s 3 : Nat)]) (.agg #[.int .u64 0, .int .u64 0, .int .u64 0, .int .u64 0])).run Tryd.prog wx = .ok (.bool (!St.sameS T.s Nt.noS)) wx := fun wx => by
    have := set_neq T.s Nt.noS wx
    simp only [St.setV, Nt.wd_no] at this
    exact this
  generalize St.sameS T.s Nt.noS = sb at *
  obtain ⟨q0, q1, q2, q3, q4, q5, q6, q7, q8⟩ := h9
  have at5 : ∀ k j, k < 10 → j < 5 → w.cell? ⟨1, k * 5 + j, none⟩ = Nt.shpL[k * 5 + j]? := fun k j h1 h2 => hT.shp _ (by omega)
  have AT5 : Hid _ := at5
  clear at5 hT
  obtain ⟨L, hL⟩ : ∃ L, L = T.kids.length := ⟨_, rfl⟩
  rw [← hL] at q8 hl HR
  clear hL
  have h := hk
  · rw [h] at q0 HR
    have s0 : w.cell? ⟨1, 40, none⟩ = some (.bool false) := AT5.out 8 0 (by omega) (by omega)
    have s1 : w.cell? ⟨1, 41, none⟩ = some (.bool false) := AT5.out 8 1 (by omega) (by omega)
    have s2 : w.cell? ⟨1, 42, none⟩ = some (.bool false) := AT5.out 8 2 (by omega) (by omega)
    have s3 : w.cell? ⟨1, 43, none⟩ = some (.int .i64 0) := AT5.out 8 3 (by omega) (by omega)
    have s4 : w.cell? ⟨1, 44, none⟩ = some (.int .i64 0) := AT5.out 8 4 (by omega) (by omega)
    by_cases hL0 : L ≤ 0
    · skip
      have hlo : decide ((0 : Int) ≤ (L : Int)) = true := by simp
      have hhi : decide ((L : Int) ≤ 0) = true := by simp; omega
      have heq : (L == 0) = true := by simp; omega
      go_enter Tryd.func72, Tryd.ntmps72
      go_wp2_with fail
      all_goals first
        | (go_ret; refine ⟨ret_bool ?_, (Below.refl _ _).alloc (Nat.le_refl _) _⟩; rw [← HR.out]; clear HR E AT5; simp_all; done)
        | (go_quiet ((go_at_call 84; exact Calls.quiet_of_same (bnd_any _ _ _)))
           go_wp2_with fail
           all_goals first
             | (go_ret; refine ⟨ret_bool ?_, drewB ((Below.refl _ _).alloc (Nat.le_refl _) _) _⟩; rw [← HR.out]; clear HR E AT5; simp_all; done)
             | (go_quiet (fail)
                go_wp2_with fail
                go_ret
                refine ⟨ret_bool ?_, drewB (drewB ((Below.refl _ _).alloc (Nat.le_refl _) _) _) _⟩
                rw [← HR.out]
                clear HR E AT5
                simp_all))
    · skip
      have hlo : decide ((0 : Int) ≤ (L : Int)) = true := by simp
      have hhi : decide ((L : Int) ≤ 0) = false := by simp; omega
      have heq : (L == 0) = false := by simp; omega
      go_enter Tryd.func72, Tryd.ntmps72
      go_wp2_with fail
      all_goals first
        | (go_ret; refine ⟨ret_bool ?_, (Below.refl _ _).alloc (Nat.le_refl _) _⟩; rw [← HR.out]; clear HR E AT5; simp_all; done)
        | (go_quiet ((go_at_call 84; exact Calls.quiet_of_same (bnd_any _ _ _)))
           go_wp2_with fail
           all_goals first
             | (go_ret; refine ⟨ret_bool ?_, drewB ((Below.refl _ _).alloc (Nat.le_refl _) _) _⟩; rw [← HR.out]; clear HR E AT5; simp_all; done)
             | (go_quiet (fail)
                go_wp2_with fail
                go_ret
                refine ⟨ret_bool ?_, drewB (drewB ((Below.refl _ _).alloc (Nat.le_refl _) _) _) _⟩
                rw [← HR.out]
                clear HR E AT5
                simp_all))
set_option maxRecDepth 100000 in
set_option maxHeartbeats 4000000 in
theorem fits_9 (T : Nt.NT) (b off : Nat) (a : Option Addr) (cap : Nat) (w : World) (hT : Nt.Tabs w) (h9 : Nt.Nine w b off T a cap) (hbw : b < w.heap.size) (hl : T.kids.length ≤ 8192) (hk : T.k = 9) :
    Calls Tryd.prog 72 #[.pointer (some ⟨b, off, none⟩)] w fun e w' => e = .returned (.bool (Nt.fitP T)) ∧ Below w.heap.size w w' := by
  obtain ⟨R, hR⟩ : ∃ R, Nt.fitP T = R := ⟨_, rfl⟩
  rw [hR]
  rw [Nt.fitP] at hR
  have HR : Hid _ := hR
  clear hR
  have hbig := hT.big
  have E : ∀ wx, (binOp .neq 25 (.agg #[.int .u64 (St.wd T.s 0 : Nat), .int .u64 (St.wd T.s 1 : Nat), .int .u64 (St.wd T.s 2 : Nat), .int .u64 (St.wd T.s 3 : Nat)]) (.agg #[.int .u64 0, .int .u64 0, .int .u64 0, .int .u64 0])).run Tryd.prog wx = .ok (.bool (!St.sameS T.s Nt.noS)) wx := fun wx => by
    have := set_neq T.s Nt.noS wx
    simp only [St.setV, Nt.wd_no] at this
    exact this
  generalize St.sameS T.s Nt.noS = sb at *
  obtain ⟨q0, q1, q2, q3, q4, q5, q6, q7, q8⟩ := h9
  have at5 : ∀ k j, k < 10 → j < 5 → w.cell? ⟨1, k * 5 + j, none⟩ = Nt.shpL[k * 5 + j]? := fun k j h1 h2 => hT.shp _ (by omega)
  have AT5 : Hid _ := at5
  clear at5 hT
  obtain ⟨L, hL⟩ : ∃ L, L = T.kids.length := ⟨_, rfl⟩
  rw [← hL] at q8 hl HR
  clear hL
  have h := hk
  · rw [h] at q0 HR
    have s0 : w.cell? ⟨1, 45, none⟩ = some (.bool false) := AT5.out 9 0 (by omega) (by omega)
    have s1 : w.cell? ⟨1, 46, none⟩ = some (.bool false) := AT5.out 9 1 (by omega) (by omega)
    have s2 : w.cell? ⟨1, 47, none⟩ = some (.bool false) := AT5.out 9 2 (by omega) (by omega)
    have s3 : w.cell? ⟨1, 48, none⟩ = some (.int .i64 0) := AT5.out 9 3 (by omega) (by omega)
    have s4 : w.cell? ⟨1, 49, none⟩ = some (.int .i64 0) := AT5.out 9 4 (by omega) (by omega)
    by_cases hL0 : L ≤ 0
    · skip
      have hlo : decide ((0 : Int) ≤ (L : Int)) = true := by simp
      have hhi : decide ((L : Int) ≤ 0) = true := by simp; omega
      have heq : (L == 0) = true := by simp; omega
      go_enter Tryd.func72, Tryd.ntmps72
      go_wp2_with fail
      all_goals first
        | (go_ret; refine ⟨ret_bool ?_, (Below.refl _ _).alloc (Nat.le_refl _) _⟩; rw [← HR.out]; clear HR E AT5; simp_all; done)
        | (go_quiet ((go_at_call 84; exact Calls.quiet_of_same (bnd_any _ _ _)))
           go_wp2_with fail
           all_goals first
             | (go_ret; refine ⟨ret_bool ?_, drewB ((Below.refl _ _).alloc (Nat.le_refl _) _) _⟩; rw [← HR.out]; clear HR E AT5; simp_all; done)
             | (go_quiet (fail)
                go_wp2_with fail
                go_ret
                refine ⟨ret_bool ?_, drewB (drewB ((Below.refl _ _).alloc (Nat.le_refl _) _) _) _⟩
                rw [← HR.out]
                clear HR E AT5
                simp_all))
    · skip
      have hlo : decide ((0 : Int) ≤ (L : Int)) = true := by simp
      have hhi : decide ((L : Int) ≤ 0) = false := by simp; omega
      have heq : (L == 0) = false := by simp; omega
      go_enter Tryd.func72, Tryd.ntmps72
      go_wp2_with fail
      all_goals first
        | (go_ret; refine ⟨ret_bool ?_, (Below.refl _ _).alloc (Nat.le_refl _) _⟩; rw [← HR.out]; clear HR E AT5; simp_all; done)
        | (go_quiet ((go_at_call 84; exact Calls.quiet_of_same (bnd_any _ _ _)))
           go_wp2_with fail
           all_goals first
             | (go_ret; refine ⟨ret_bool ?_, drewB ((Below.refl _ _).alloc (Nat.le_refl _) _) _⟩; rw [← HR.out]; clear HR E AT5; simp_all; done)
             | (go_quiet (fail)
                go_wp2_with fail
                go_ret
                refine ⟨ret_bool ?_, drewB (drewB ((Below.refl _ _).alloc (Nat.le_refl _) _) _) _⟩
                rw [← HR.out]
                clear HR E AT5
                simp_all))
end Go.Proofs.YtdiokclbdaojpaaDoor
