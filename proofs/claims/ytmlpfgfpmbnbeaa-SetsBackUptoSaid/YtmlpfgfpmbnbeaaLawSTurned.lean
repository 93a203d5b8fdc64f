/- What SetsTurned answers. -/
import Derived.Test.YtmlpfgfpmbnbeaaSRPr
import Derived.Test.YtmlpfgfpmbnbeaaSRFold
import Derived.Test.YtmlpfgfpmbnbeaaSLives
import Derived.Lib.QuietBelow
import Derived.BigQuiet
namespace Go.Proofs.Ytmlpfgfpmbnbeaa
open Go.RowKit

theorem set_eqn (p : Nat → Bool) (wx : World) : (binOp .eql 25 (.agg #[.int .u64 (St.wd p 0 : Nat), .int .u64 (St.wd p 1 : Nat), .int .u64 (St.wd p 2 : Nat), .int .u64 (St.wd p 3 : Nat)]) (.agg #[.int .u64 (St.wd p 0 : Nat), .int .u64 (St.wd p 1 : Nat), .int .u64 (St.wd p 2 : Nat), .int .u64 (St.wd p 3 : Nat)])).run Try.prog wx = .ok (.bool true) wx := by
  have h := set_eql p p wx
  rw [St.sameS_of (fun _ _ => rfl)] at h
  exact h

set_option maxRecDepth 100000 in
set_option maxHeartbeats 2000000 in
theorem turned_law (p q : Nat → Bool) (w : World) :
    Calls Try.prog 4 #[St.setV p, St.setV q] w fun e w' => e = .returned (.bool true) ∧ Below w.heap.size w w' := by
  have HLV : Hid (∀ w, Calls Try.prog 11 #[] w fun e w' => e = .returned (.bool true) ∧ Below w.heap.size w w') := lives_any
  obtain ⟨an, han⟩ : ∃ an : Nat → Bool, an = fun x => p x && q x := ⟨_, rfl⟩
  obtain ⟨or', hor⟩ : ∃ or' : Nat → Bool, or' = fun x => p x || q x := ⟨_, rfl⟩
  obtain ⟨nt, hnt⟩ : ∃ nt : Nat → Bool, nt = fun x => !p x := ⟨_, rfl⟩
  obtain ⟨fo, hfo⟩ : ∃ fo : Nat → Bool, fo = St.foldP p := ⟨_, rfl⟩
  obtain ⟨T, hT⟩ : ∃ T : ByteArray, T = ⟨(St.printB p).toArray⟩ := ⟨_, rfl⟩
  have HA1 : Hid (∀ w, Calls Try.prog 22 #[St.setV p, St.setV q] w fun e w' => e = .returned (St.setV an) ∧ Below w.heap.size w w') := fun w => by rw [han]; exact and_any p q w
  have HA2 : Hid (∀ w, Calls Try.prog 23 #[St.setV p, St.setV q] w fun e w' => e = .returned (St.setV an) ∧ Below w.heap.size w w') := fun w => by rw [han]; exact rand_any p q w
  have HO1 : Hid (∀ w, Calls Try.prog 24 #[St.setV p, St.setV q] w fun e w' => e = .returned (St.setV or') ∧ Below w.heap.size w w') := fun w => by rw [hor]; exact or_any p q w
  have HO2 : Hid (∀ w, Calls Try.prog 25 #[St.setV p, St.setV q] w fun e w' => e = .returned (St.setV or') ∧ Below w.heap.size w w') := fun w => by rw [hor]; exact ror_any p q w
  have HN1 : Hid (∀ w, Calls Try.prog 26 #[St.setV p] w fun e w' => e = .returned (St.setV nt) ∧ Below w.heap.size w w') := fun w => by rw [hnt]; exact not_any p w
  have HN2 : Hid (∀ w, Calls Try.prog 27 #[St.setV p] w fun e w' => e = .returned (St.setV nt) ∧ Below w.heap.size w w') := fun w => by rw [hnt]; exact rnot_any p w
  have HF1 : Hid (∀ w, Calls Try.prog 28 #[St.setV p] w fun e w' => e = .returned (St.setV fo) ∧ Below w.heap.size w w') := fun w => by rw [hfo]; exact fold_any p w
  have HF2 : Hid (∀ w, Calls Try.prog 29 #[St.setV p] w fun e w' => e = .returned (St.setV fo) ∧ Below w.heap.size w w') := fun w => by rw [hfo]; exact rfold_any p w
  have HP1 : Hid (∀ w, Calls Try.prog 30 #[St.setV p] w fun e w' => e = .returned (.string T) ∧ Below w.heap.size w w') := fun w => by rw [hT]; exact print_any p w
  have HP2 : Hid (∀ w, Calls Try.prog 31 #[St.setV p] w fun e w' => e = .returned (.string T) ∧ Below w.heap.size w w') := fun w => by rw [hT]; exact rprint_any p w
  clear han hor hnt hfo hT
  have E1 := set_eqn an
  have E2 := set_eqn or'
  have E3 := set_eqn nt
  have E4 := set_eqn fo
  have E5 : (T.toList == T.toList) = true := by simp
  simp only [St.setV] at HA1 HA2 HO1 HO2 HN1 HN2 HF1 HF2 HP1 HP2 ⊢
  obtain ⟨W, hW⟩ : ∃ W, W = (w.alloc (.cells #[.int .u64 (St.wd p 0 : Nat), .int .u64 (St.wd p 1 : Nat), .int .u64 (St.wd p 2 : Nat), .int .u64 (St.wd p 3 : Nat)] 25)).alloc (.cells #[.int .u64 (St.wd q 0 : Nat), .int .u64 (St.wd q 1 : Nat), .int .u64 (St.wd q 2 : Nat), .int .u64 (St.wd q 3 : Nat)] 25) := ⟨_, rfl⟩
  have S1 : SetAt W w.heap.size p := by rw [hW]; exact (at_new' p rfl).alloc _
  have S2 : SetAt W (w.heap.size + 1) q := by rw [hW]; exact at_new' q (by simp)
  have HB0 : Hid (Below w.heap.size w W) := by rw [hW]; exact ((Below.refl _ _).alloc (Nat.le_refl _) _).alloc (by simp) _
  obtain ⟨q0, q1, q2, q3⟩ := S1.cells
  obtain ⟨r0, r1, r2, r3⟩ := S2.cells
  have c0 := fun d os => cell_regrown q0 d os
  have c1 := fun d os => cell_regrown q1 d os
  have c2 := fun d os => cell_regrown q2 d os
  have c3 := fun d os => cell_regrown q3 d os
  have d0 := fun d os => cell_regrown r0 d os
  have d1 := fun d os => cell_regrown r1 d os
  have d2 := fun d os => cell_regrown r2 d os
  have d3 := fun d os => cell_regrown r3 d os
  clear S1 S2 q0 q1 q2 q3 r0 r1 r2 r3
  go_enter Try.func4, Try.ntmps4
  go_wp2_with fail
  rw [← hW]
  clear hW
  refine wp_region_quiet_below (by kernel_rfl) (by kernel_rfl) ?_
  go_big_quiet_step ((go_at_call 11; exact Calls.regrown_of (HLV.out _)))
  iterate 3 (go_big_quiet_step (fail))
  go_big_quiet_step ((go_at_call 22; exact Calls.regrown_of (HA1.out _)))
  iterate 2 (go_big_quiet_step (fail))
  go_big_quiet_step ((go_at_call 23; exact Calls.regrown_of (HA2.out _)))
  iterate 5 (go_big_quiet_step (fail))
  go_big_quiet_step ((go_at_call 24; exact Calls.regrown_of (HO1.out _)))
  iterate 2 (go_big_quiet_step (fail))
  go_big_quiet_step ((go_at_call 25; exact Calls.regrown_of (HO2.out _)))
  iterate 4 (go_big_quiet_step (fail))
  go_big_quiet_step ((go_at_call 26; exact Calls.regrown_of (HN1.out _)))
  iterate 1 (go_big_quiet_step (fail))
  go_big_quiet_step ((go_at_call 27; exact Calls.regrown_of (HN2.out _)))
  iterate 4 (go_big_quiet_step (fail))
  go_big_quiet_step ((go_at_call 28; exact Calls.regrown_of (HF1.out _)))
  iterate 1 (go_big_quiet_step (fail))
  go_big_quiet_step ((go_at_call 29; exact Calls.regrown_of (HF2.out _)))
  iterate 4 (go_big_quiet_step (fail))
  go_big_quiet_step ((go_at_call 30; exact Calls.regrown_of (HP1.out _)))
  iterate 1 (go_big_quiet_step (fail))
  go_big_quiet_step ((go_at_call 31; exact Calls.regrown_of (HP2.out _)))
  iterate 3 (go_big_quiet_step (fail))
  refine wpQuiet_nil ?_
  intro _ hw'
  obtain ⟨⟨dq, osq⟩, hw''⟩ := hw'
  subst hw''
  have HW1 : Hid (Below w.heap.size w (Sort.grow (redrawn W dq) osq)) := HB0.out.trans ((below_regrown W dq osq).mono HB0.out.size)
  change Exit.then _ _ _ _ (Sort.grow (redrawn W dq) osq)
  generalize Sort.grow (redrawn W dq) osq = w1 at *
  go_wp2_with fail
  go_ret
  exact ⟨rfl, HW1.out⟩
end Go.Proofs.Ytmlpfgfpmbnbeaa
