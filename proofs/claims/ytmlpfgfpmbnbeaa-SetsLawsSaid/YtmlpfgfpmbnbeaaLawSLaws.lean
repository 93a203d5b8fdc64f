/- What SetsLaws answers. -/
import Derived.Test.YtmlpfgfpmbnbeaaSInv
import Derived.Test.YtmlpfgfpmbnbeaaLawSTurned
import Derived.Deep.RegionHeld3
namespace Go.Proofs.Ytmlpfgfpmbnbeaa
open Go.RowKit

namespace St
theorem cnt_or (p q : Nat → Bool) : ∀ n, cnt (fun x => p x || q x) n + cnt (fun x => p x && q x) n = cnt p n + cnt q n
  | 0 => rfl
  | n + 1 => by
    have := cnt_or p q n
    simp only [cnt]
    by_cases h1 : p n = true <;> by_cases h2 : q n = true <;> simp [h1, h2] <;> omega
theorem cnt_not (p : Nat → Bool) : ∀ n, cnt (fun x => !p x) n + cnt p n = n
  | 0 => rfl
  | n + 1 => by
    have := cnt_not p n
    simp only [cnt]
    by_cases h1 : p n = true <;> simp [h1] <;> omega
theorem oth_oth (c : Nat) : oth (oth c) = c := by
  unfold oth
  split <;> split <;> (try split) <;> (try split) <;> omega
theorem fold_fold (p : Nat → Bool) (c : Nat) : foldP (foldP p) c = foldP p c := by
  unfold foldP
  rw [oth_oth]
  cases p c <;> cases p (oth c) <;> rfl
theorem fold_and (p : Nat → Bool) (c : Nat) : (foldP p c && p c) = p c := by
  unfold foldP
  cases p c <;> simp
end St

set_option maxRecDepth 100000 in
set_option maxHeartbeats 4000000 in
theorem slaws_law (p q : Nat → Bool) (c : Nat) (w : World) (hc : c < 256) :
    Calls Try.prog 7 #[St.setV p, St.setV q, .int .u8 (c : Int)] w fun e w' => e = .returned (.bool true) ∧ Below w.heap.size w w' := by
  have HLV : Hid (∀ w, Calls Try.prog 11 #[] w fun e w' => e = .returned (.bool true) ∧ Below w.heap.size w w') := lives_any
  obtain ⟨an, han⟩ : ∃ an : Nat → Bool, an = fun x => p x && q x := ⟨_, rfl⟩
  obtain ⟨or', hor⟩ : ∃ or' : Nat → Bool, or' = fun x => p x || q x := ⟨_, rfl⟩
  obtain ⟨nt, hnt⟩ : ∃ nt : Nat → Bool, nt = fun x => !p x := ⟨_, rfl⟩
  obtain ⟨nq, hnq⟩ : ∃ nq : Nat → Bool, nq = fun x => !q x := ⟨_, rfl⟩
  obtain ⟨na, hna⟩ : ∃ na : Nat → Bool, na = fun x => !an x := ⟨_, rfl⟩
  obtain ⟨fo, hfo⟩ : ∃ fo : Nat → Bool, fo = St.foldP p := ⟨_, rfl⟩
  have HHp : Hid (∀ w, Calls Try.prog 17 #[St.setV p, .int .u8 (c : Int)] w fun e w' => e = .returned (.bool (p c)) ∧ Below w.heap.size w w') := fun w => has_any p c hc w
  have HHq : Hid (∀ w, Calls Try.prog 17 #[St.setV q, .int .u8 (c : Int)] w fun e w' => e = .returned (.bool (q c)) ∧ Below w.heap.size w w') := fun w => has_any q c hc w
  have HHa : Hid (∀ w, Calls Try.prog 17 #[St.setV an, .int .u8 (c : Int)] w fun e w' => e = .returned (.bool (p c && q c)) ∧ Below w.heap.size w w') := fun w => by
    have h := has_any an c hc w
    rw [han] at h ⊢; exact h
  have HHo : Hid (∀ w, Calls Try.prog 17 #[St.setV or', .int .u8 (c : Int)] w fun e w' => e = .returned (.bool (p c || q c)) ∧ Below w.heap.size w w') := fun w => by
    have h := has_any or' c hc w
    rw [hor] at h ⊢; exact h
  have HHn : Hid (∀ w, Calls Try.prog 17 #[St.setV nt, .int .u8 (c : Int)] w fun e w' => e = .returned (.bool (!p c)) ∧ Below w.heap.size w w') := fun w => by
    have h := has_any nt c hc w
    rw [hnt] at h ⊢; exact h
  have HA1 : Hid (∀ w, Calls Try.prog 22 #[St.setV p, St.setV q] w fun e w' => e = .returned (St.setV an) ∧ Below w.heap.size w w') := fun w => by rw [han]; exact and_any p q w
  have HO1 : Hid (∀ w, Calls Try.prog 24 #[St.setV p, St.setV q] w fun e w' => e = .returned (St.setV or') ∧ Below w.heap.size w w') := fun w => by rw [hor]; exact or_any p q w
  have HN1 : Hid (∀ w, Calls Try.prog 26 #[St.setV p] w fun e w' => e = .returned (St.setV nt) ∧ Below w.heap.size w w') := fun w => by rw [hnt]; exact not_any p w
  have HN2 : Hid (∀ w, Calls Try.prog 26 #[St.setV an] w fun e w' => e = .returned (St.setV na) ∧ Below w.heap.size w w') := fun w => by rw [hna]; exact not_any an w
  have HN3 : Hid (∀ w, Calls Try.prog 26 #[St.setV q] w fun e w' => e = .returned (St.setV nq) ∧ Below w.heap.size w w') := fun w => by rw [hnq]; exact not_any q w
  have HN4 : Hid (∀ w, Calls Try.prog 26 #[St.setV nt] w fun e w' => e = .returned (St.setV p) ∧ Below w.heap.size w w') := fun w => by
    have h := not_any nt w
    have e : St.setV (fun x => !nt x) = St.setV p := St.setV_congr (fun x _ => by rw [hnt]; simp)
    rw [e] at h
    exact h
  have HO2 : Hid (∀ w, Calls Try.prog 24 #[St.setV nt, St.setV nq] w fun e w' => e = .returned (St.setV na) ∧ Below w.heap.size w w') := fun w => by
    have h := or_any nt nq w
    have e : St.setV (fun x => nt x || nq x) = St.setV na := St.setV_congr (fun x _ => by rw [hnt, hnq, hna, han]; show (!p x || !q x) = !(p x && q x); cases p x <;> cases q x <;> rfl)
    rw [e] at h
    exact h
  have HF1 : Hid (∀ w, Calls Try.prog 28 #[St.setV p] w fun e w' => e = .returned (St.setV fo) ∧ Below w.heap.size w w') := fun w => by rw [hfo]; exact fold_any p w
  have HF2 : Hid (∀ w, Calls Try.prog 28 #[St.setV fo] w fun e w' => e = .returned (St.setV fo) ∧ Below w.heap.size w w') := fun w => by
    have h := fold_any fo w
    have e : St.setV (St.foldP fo) = St.setV fo := St.setV_congr (fun x _ => by rw [hfo]; exact St.fold_fold p x)
    rw [e] at h
    exact h
  have HA2 : Hid (∀ w, Calls Try.prog 22 #[St.setV fo, St.setV p] w fun e w' => e = .returned (St.setV p) ∧ Below w.heap.size w w') := fun w => by
    have h := and_any fo p w
    have e : St.setV (fun x => fo x && p x) = St.setV p := St.setV_congr (fun x _ => by rw [hfo]; exact St.fold_and p x)
    rw [e] at h
    exact h
  have HC1 : Hid (∀ w, Calls Try.prog 19 #[St.setV or'] w fun e w' => e = .returned (.int .i64 (St.cnt or' 256 : Nat)) ∧ Below w.heap.size w w') := fun w => count_any or' w
  have HC2 : Hid (∀ w, Calls Try.prog 19 #[St.setV p] w fun e w' => e = .returned (.int .i64 (St.cnt p 256 : Nat)) ∧ Below w.heap.size w w') := fun w => count_any p w
  have HC3 : Hid (∀ w, Calls Try.prog 19 #[St.setV q] w fun e w' => e = .returned (.int .i64 (St.cnt q 256 : Nat)) ∧ Below w.heap.size w w') := fun w => count_any q w
  have HC4 : Hid (∀ w, Calls Try.prog 19 #[St.setV an] w fun e w' => e = .returned (.int .i64 (St.cnt an 256 : Nat)) ∧ Below w.heap.size w w') := fun w => count_any an w
  have HC5 : Hid (∀ w, Calls Try.prog 19 #[St.setV nt] w fun e w' => e = .returned (.int .i64 (St.cnt nt 256 : Nat)) ∧ Below w.heap.size w w') := fun w => count_any nt w
  have k1 : St.cnt or' 256 + St.cnt an 256 = St.cnt p 256 + St.cnt q 256 := by rw [hor, han]; exact St.cnt_or p q 256
  have k2 : St.cnt nt 256 + St.cnt p 256 = 256 := by rw [hnt]; exact St.cnt_not p 256
  have b1 := St.cnt_le or' 256
  have b2 := St.cnt_le p 256
  have b3 := St.cnt_le q 256
  have b4 := St.cnt_le an 256
  have b5 := St.cnt_le nt 256
  have HL : Hid ((St.lst p 256).length = St.cnt p 256) := St.lst_length p 256
  have HBy : Hid (∀ w1, Calls Try.prog 15 #[St.setV p] w1 fun e w' => ∃ a cap, e = .returned (.slice a (St.cnt p 256) cap) ∧ Bys w' a (St.lst p 256) ∧ Below w1.heap.size w1 w') := fun w1 => by
    refine (bytes_any p w1).mono ?_
    rintro e w' ⟨v, he, hown, hb⟩
    obtain ⟨a, cap, rfl, hB, _⟩ := own_bys hown HL.out b2
    exact ⟨a, cap, he, hB, hb⟩
  have HOf : Hid (∀ w a cap, Bys w a (St.lst p 256) → Calls Try.prog 12 #[.slice a (St.cnt p 256) cap] w fun e w' => e = .returned (St.setV p) ∧ Below w.heap.size w w') := fun w a cap hB => by
    have h := of_any a cap (St.lst p 256) w hB
    have e : St.setV (St.inL (St.lst p 256)) = St.setV p := St.setV_congr (fun x hx => by rw [St.inL_lst p 256 (Nat.le_refl _), decide_eq_true hx, Bool.true_and])
    rw [HL.out, e] at h
    exact h
  clear han hor hnt hnq hna hfo HL
  generalize St.cnt or' 256 = n1 at *
  generalize St.cnt p 256 = n2 at *
  generalize St.cnt q 256 = n3 at *
  generalize St.cnt an 256 = n4 at *
  generalize St.cnt nt 256 = n5 at *
  generalize St.lst p 256 = LL at *
  have E1 := set_eqn na
  have E2 := set_eqn p
  have E3 := set_eqn fo
  obtain ⟨N1, hN1⟩ : ∃ N1 : Int, N1 = (n1 : Int) := ⟨_, rfl⟩
  obtain ⟨N2, hN2⟩ : ∃ N2 : Int, N2 = (n2 : Int) := ⟨_, rfl⟩
  obtain ⟨N3, hN3⟩ : ∃ N3 : Int, N3 = (n3 : Int) := ⟨_, rfl⟩
  obtain ⟨N4, hN4⟩ : ∃ N4 : Int, N4 = (n4 : Int) := ⟨_, rfl⟩
  obtain ⟨N5, hN5⟩ : ∃ N5 : Int, N5 = (n5 : Int) := ⟨_, rfl⟩
  have E4 : (N1 == N2 + N3 - N4) = true := by rw [beq_iff_eq]; omega
  have E5 : (N5 == 256 - N2) = true := by rw [beq_iff_eq]; omega
  have y1 : IntKind.i64.wrap (N2 + N3) = N2 + N3 := by rw [IntKind.wrap_i64]; omega
  have y2 : IntKind.i64.wrap (N2 + N3 - N4) = N2 + N3 - N4 := by rw [IntKind.wrap_i64]; omega
  have y3 : IntKind.i64.wrap (256 - N2) = 256 - N2 := by rw [IntKind.wrap_i64]; omega
  rw [← hN1] at HC1
  rw [← hN2] at HC2
  rw [← hN3] at HC3
  rw [← hN4] at HC4
  rw [← hN5] at HC5
  clear k1 k2 hN1 hN2 hN3 hN4 hN5 b1 b2 b3 b4 b5
  simp only [St.setV] at HHp HHq HHa HHo HHn HA1 HO1 HN1 HN2 HN3 HN4 HO2 HF1 HF2 HA2 HC1 HC2 HC3 HC4 HC5 HBy HOf ⊢
  go_enter Try.func7, Try.ntmps7
  go_wp2_with fail
  refine (HLV.out _).mono ?_
  rintro x w1 ⟨rfl, hb1⟩
  have S3 : SetAt w1 w.heap.size p := SetAt.under (hb := hb1) (h := (at_new' p rfl).alloc _)
  have S4 : SetAt w1 (w.heap.size + 1) q := SetAt.under (hb := hb1) (h := at_new' q (by simp))
  have hB1 : Below w.heap.size w w1 := (((Below.refl _ _).alloc (Nat.le_refl _) _).alloc (by simp) _).trans (hb1.mono (by simp; omega))
  have hs1 := hb1.size
  simp at hs1
  clear hb1
  go_upto_region 3 with fail
  go_cut [7, 8] (fun x y wx => x = .bool (p c) ∧ y = .bool (q c) ∧ Below w1.heap.size w1 wx)
  case first =>
    obtain ⟨q0, q1, q2, q3⟩ := S3.cells
    obtain ⟨r0, r1, r2, r3⟩ := S4.cells
    have c0 := fun d os => cell_regrown q0 d os
    have c1 := fun d os => cell_regrown q1 d os
    have c2 := fun d os => cell_regrown q2 d os
    have c3 := fun d os => cell_regrown q3 d os
    have d0 := fun d os => cell_regrown r0 d os
    have d1 := fun d os => cell_regrown r1 d os
    have d2 := fun d os => cell_regrown r2 d os
    have d3 := fun d os => cell_regrown r3 d os
    clear q0 q1 q2 q3 r0 r1 r2 r3
    refine wp_region_quiet_below (by kernel_rfl) (by kernel_rfl) ?_
    iterate 2 (go_big_quiet_step (fail))
    go_big_quiet_step ((go_at_call 17; exact Calls.regrown_of (HHp.out _)))
    iterate 2 (go_big_quiet_step (fail))
    go_big_quiet_step ((go_at_call 17; exact Calls.regrown_of (HHq.out _)))
    iterate 2 (go_big_quiet_step (fail))
    refine wpQuiet_nil ?_
    intro _ hw'
    obtain ⟨⟨dq, osq⟩, hw''⟩ := hw'
    subst hw''
    have HW1 : Hid (Below w1.heap.size w1 (Sort.grow (redrawn w1 dq) osq)) := below_regrown w1 dq osq
    change Exit.then _ _ _ _ (Sort.grow (redrawn w1 dq) osq)
    generalize Sort.grow (redrawn w1 dq) osq = wz at *
    go_wp2_with fail
    go_meet
    case rel => exact ⟨rfl, rfl, HW1.out⟩
  case rest =>
    obtain ⟨rfl, rfl, hbc⟩ := hcut
    replace S3 := S3.under hbc
    replace S4 := S4.under hbc
    have hB2 := Below.more hB1 hbc hB1.size
    have hs2 := hbc.size
    clear hbc hB1
    generalize wc = w2 at *
    go_upto_region 4 with fail
    go_cut [9, 10, 11] (fun v9 v10 v11 wx => ∃ g9 g10 g11, v9 = pt g9 ∧ v10 = pt g10 ∧ v11 = pt g11 ∧ w2.heap.size ≤ g9 ∧ w2.heap.size ≤ g10 ∧ w2.heap.size ≤ g11 ∧ SetAt wx g9 an ∧ SetAt wx g10 or' ∧ SetAt wx g11 nt ∧ Below w2.heap.size w2 wx)
    case first =>
      refine wp_region_inv' (fun a0 listed a wx => Fr [9, 10, 11, 21, 22, 23, 24, 25, 26, 27, 28] a0 a ∧ a.tmps.size = 110 ∧ a.eval (.tmp 3) = pt w.heap.size ∧ a.eval (.tmp 4) = pt (w.heap.size + 1) ∧ Below w2.heap.size w2 wx
        ∧ Slots [(0, 21, St.setV p), (1, 22, St.setV q), (2, 23, St.setV an), (3, 24, St.setV p), (4, 25, St.setV q), (5, 26, St.setV or'), (6, 27, St.setV p), (7, 28, St.setV nt)] listed a
        ∧ Al w2.heap.size [⟨8, 9, 11, an⟩, ⟨9, 10, 12, or'⟩, ⟨10, 11, 13, nt⟩] listed a wx) (by kernel_rfl) (by kernel_rfl) ?_ ?_ ?_
      · exact ⟨Fr.refl _ _, rfl, rfl, rfl, ⟨rfl, rfl, rfl, Nat.le_refl _, fun _ _ => rfl⟩, Slots.new _ _ _, Al.new _ _ _ _ _⟩
      · intro listed a wx i ⟨hFr, hz, h3, h4, hbx, hT, hA⟩ hi
        have hlt : i < 14 := by
          obtain ⟨_, o, ho, _⟩ := mem_ready.1 hi
          have := (Array.getElem?_eq_some_iff.1 ho).1
          simpa using this
        have X3 := S3.under hbx
        have X4 := S4.under hbx
        have hsx := hbx.size
        obtain rfl | rfl | rfl | rfl | rfl | rfl | rfl | rfl | rfl | rfl | rfl | rfl | rfl | rfl : i = 0 ∨ i = 1 ∨ i = 2 ∨ i = 3 ∨ i = 4 ∨ i = 5 ∨ i = 6 ∨ i = 7 ∨ i = 8 ∨ i = 9 ∨ i = 10 ∨ i = 11 ∨ i = 12 ∨ i = 13 := by omega
        · obtain ⟨hun, _⟩ := ready_up hi rfl
          refine wpOp_value (d := some 21) rfl rfl rfl (run_load h3 X3) ⟨hFr.put (by simp) _, by simp [Act.put, hz], by rw [eval_other _ (by decide)]; exact h3, by rw [eval_other _ (by decide)]; exact h4, hbx, hT.some hun (by omega) (by simp), hA.keep hun (fun e he => ?_) (fun _ _ h => h)⟩
          simp at he
          rcases he with rfl | rfl | rfl <;> exact ⟨by simp, by simp, eval_other _ (by simp)⟩
        · obtain ⟨hun, _⟩ := ready_up hi rfl
          refine wpOp_value (d := some 22) rfl rfl rfl (run_load h4 X4) ⟨hFr.put (by simp) _, by simp [Act.put, hz], by rw [eval_other _ (by decide)]; exact h3, by rw [eval_other _ (by decide)]; exact h4, hbx, hT.some hun (by omega) (by simp), hA.keep hun (fun e he => ?_) (fun _ _ h => h)⟩
          simp at he
          rcases he with rfl | rfl | rfl <;> exact ⟨by simp, by simp, eval_other _ (by simp)⟩
        · obtain ⟨hun, haf⟩ := ready_up hi rfl
          have L0 := haf ⟨0, .data⟩ (by simp) rfl
          have L1 := haf ⟨1, .data⟩ (by simp) rfl
          have e21 : a.eval (.tmp 21) = St.setV p := hT (0, 21, St.setV p) (by simp) L0
          have e22 : a.eval (.tmp 22) = St.setV q := hT (1, 22, St.setV q) (by simp) L1
          refine wpOp_call (d := some 23) rfl rfl rfl (run_call2 rfl calls_and) ?_
          rw [e21, e22]
          refine (HA1.out _).mono ?_
          rintro x wy ⟨rfl, hby⟩
          refine ⟨_, rfl, hFr.put (by simp) _, by simp [Act.put, hz], by rw [eval_other _ (by decide)]; exact h3, by rw [eval_other _ (by decide)]; exact h4, Below.more hbx hby hsx, hT.some hun (by omega) (by simp [St.setV]), hA.keep hun (fun e he => ?_) (fun _ _ h => h.under hby)⟩
          simp at he
          rcases he with rfl | rfl | rfl <;> exact ⟨by simp, by simp, eval_other _ (by simp)⟩
        · obtain ⟨hun, _⟩ := ready_up hi rfl
          refine wpOp_value (d := some 24) rfl rfl rfl (run_load h3 X3) ⟨hFr.put (by simp) _, by simp [Act.put, hz], by rw [eval_other _ (by decide)]; exact h3, by rw [eval_other _ (by decide)]; exact h4, hbx, hT.some hun (by omega) (by simp), hA.keep hun (fun e he => ?_) (fun _ _ h => h)⟩
          simp at he
          rcases he with rfl | rfl | rfl <;> exact ⟨by simp, by simp, eval_other _ (by simp)⟩
        · obtain ⟨hun, _⟩ := ready_up hi rfl
          refine wpOp_value (d := some 25) rfl rfl rfl (run_load h4 X4) ⟨hFr.put (by simp) _, by simp [Act.put, hz], by rw [eval_other _ (by decide)]; exact h3, by rw [eval_other _ (by decide)]; exact h4, hbx, hT.some hun (by omega) (by simp), hA.keep hun (fun e he => ?_) (fun _ _ h => h)⟩
          simp at he
          rcases he with rfl | rfl | rfl <;> exact ⟨by simp, by simp, eval_other _ (by simp)⟩
        · obtain ⟨hun, haf⟩ := ready_up hi rfl
          have L3 := haf ⟨3, .data⟩ (by simp) rfl
          have L4 := haf ⟨4, .data⟩ (by simp) rfl
          have e24 : a.eval (.tmp 24) = St.setV p := hT (3, 24, St.setV p) (by simp) L3
          have e25 : a.eval (.tmp 25) = St.setV q := hT (4, 25, St.setV q) (by simp) L4
          refine wpOp_call (d := some 26) rfl rfl rfl (run_call2 rfl calls_or) ?_
          rw [e24, e25]
          refine (HO1.out _).mono ?_
          rintro x wy ⟨rfl, hby⟩
          refine ⟨_, rfl, hFr.put (by simp) _, by simp [Act.put, hz], by rw [eval_other _ (by decide)]; exact h3, by rw [eval_other _ (by decide)]; exact h4, Below.more hbx hby hsx, hT.some hun (by omega) (by simp [St.setV]), hA.keep hun (fun e he => ?_) (fun _ _ h => h.under hby)⟩
          simp at he
          rcases he with rfl | rfl | rfl <;> exact ⟨by simp, by simp, eval_other _ (by simp)⟩
        · obtain ⟨hun, _⟩ := ready_up hi rfl
          refine wpOp_value (d := some 27) rfl rfl rfl (run_load h3 X3) ⟨hFr.put (by simp) _, by simp [Act.put, hz], by rw [eval_other _ (by decide)]; exact h3, by rw [eval_other _ (by decide)]; exact h4, hbx, hT.some hun (by omega) (by simp), hA.keep hun (fun e he => ?_) (fun _ _ h => h)⟩
          simp at he
          rcases he with rfl | rfl | rfl <;> exact ⟨by simp, by simp, eval_other _ (by simp)⟩
        · obtain ⟨hun, haf⟩ := ready_up hi rfl
          have L6 := haf ⟨6, .data⟩ (by simp) rfl
          have e27 : a.eval (.tmp 27) = St.setV p := hT (6, 27, St.setV p) (by simp) L6
          refine wpOp_call (d := some 28) rfl rfl rfl (run_call1 rfl calls_not) ?_
          rw [e27]
          refine (HN1.out _).mono ?_
          rintro x wy ⟨rfl, hby⟩
          refine ⟨_, rfl, hFr.put (by simp) _, by simp [Act.put, hz], by rw [eval_other _ (by decide)]; exact h3, by rw [eval_other _ (by decide)]; exact h4, Below.more hbx hby hsx, hT.some hun (by omega) (by simp [St.setV]), hA.keep hun (fun e he => ?_) (fun _ _ h => h.under hby)⟩
          simp at he
          rcases he with rfl | rfl | rfl <;> exact ⟨by simp, by simp, eval_other _ (by simp)⟩
        · obtain ⟨hun, _⟩ := ready_up hi rfl
          refine wpOp_value (d := some 9) rfl rfl rfl run_alloc ⟨hFr.put (by simp) _, by simp [Act.put, hz], by rw [eval_other _ (by decide)]; exact h3, by rw [eval_other _ (by decide)]; exact h4, hbx.alloc hsx _, hT.some hun (by omega) (by simp), hA.made (e0 := ⟨8, 9, 11, an⟩) hun (by show 9 < a.tmps.size; omega) hsx (by simp)⟩
        · obtain ⟨hun, _⟩ := ready_up hi rfl
          refine wpOp_value (d := some 10) rfl rfl rfl run_alloc ⟨hFr.put (by simp) _, by simp [Act.put, hz], by rw [eval_other _ (by decide)]; exact h3, by rw [eval_other _ (by decide)]; exact h4, hbx.alloc hsx _, hT.some hun (by omega) (by simp), hA.made (e0 := ⟨9, 10, 12, or'⟩) hun (by show 10 < a.tmps.size; omega) hsx (by simp)⟩
        · obtain ⟨hun, _⟩ := ready_up hi rfl
          refine wpOp_value (d := some 11) rfl rfl rfl run_alloc ⟨hFr.put (by simp) _, by simp [Act.put, hz], by rw [eval_other _ (by decide)]; exact h3, by rw [eval_other _ (by decide)]; exact h4, hbx.alloc hsx _, hT.some hun (by omega) (by simp), hA.made (e0 := ⟨10, 11, 13, nt⟩) hun (by show 11 < a.tmps.size; omega) hsx (by simp)⟩
        · obtain ⟨hun, haf⟩ := ready_up hi rfl
          have LA := haf ⟨8, .data⟩ (by simp) rfl
          have LB := haf ⟨2, .data⟩ (by simp) rfl
          have e1 : a.eval (.tmp 23) = St.setV an := hT (2, 23, St.setV an) (by simp) LB
          obtain ⟨g, hg, hNg, _, pz, hSz⟩ := hA.lies ⟨8, 9, 11, an⟩ (by simp) LA
          refine wpOp_skip (d := none) rfl rfl rfl (run_store hg e1 hSz) ⟨hFr, hz, h3, h4, put4_below hbx hNg, hT.none hun (by simp), hA.stored (e0 := ⟨8, 9, 11, an⟩) (by simp) hun LA hg _ (by simp)⟩
        · obtain ⟨hun, haf⟩ := ready_up hi rfl
          have LA := haf ⟨9, .data⟩ (by simp) rfl
          have LB := haf ⟨5, .data⟩ (by simp) rfl
          have e1 : a.eval (.tmp 26) = St.setV or' := hT (5, 26, St.setV or') (by simp) LB
          obtain ⟨g, hg, hNg, _, pz, hSz⟩ := hA.lies ⟨9, 10, 12, or'⟩ (by simp) LA
          refine wpOp_skip (d := none) rfl rfl rfl (run_store hg e1 hSz) ⟨hFr, hz, h3, h4, put4_below hbx hNg, hT.none hun (by simp), hA.stored (e0 := ⟨9, 10, 12, or'⟩) (by simp) hun LA hg _ (by simp)⟩
        · obtain ⟨hun, haf⟩ := ready_up hi rfl
          have LA := haf ⟨10, .data⟩ (by simp) rfl
          have LB := haf ⟨7, .data⟩ (by simp) rfl
          have e1 : a.eval (.tmp 28) = St.setV nt := hT (7, 28, St.setV nt) (by simp) LB
          obtain ⟨g, hg, hNg, _, pz, hSz⟩ := hA.lies ⟨10, 11, 13, nt⟩ (by simp) LA
          refine wpOp_skip (d := none) rfl rfl rfl (run_store hg e1 hSz) ⟨hFr, hz, h3, h4, put4_below hbx hNg, hT.none hun (by simp), hA.stored (e0 := ⟨10, 11, 13, nt⟩) (by simp) hun LA hg _ (by simp)⟩
      · intro listed a wx ⟨hFr, hz, h3, h4, hbx, hT, hA⟩ hup
        obtain ⟨g9, e9, N9, Z9, _⟩ := hA.lies ⟨8, 9, 11, an⟩ (by simp) (hup 8 (by simp))
        obtain ⟨g10, e10, N10, Z10, _⟩ := hA.lies ⟨9, 10, 12, or'⟩ (by simp) (hup 9 (by simp))
        obtain ⟨g11, e11, N11, Z11, _⟩ := hA.lies ⟨10, 11, 13, nt⟩ (by simp) (hup 10 (by simp))
        have Y9 := Z9 (hup 11 (by simp))
        have Y10 := Z10 (hup 12 (by simp))
        have Y11 := Z11 (hup 13 (by simp))
        have hae := hFr.eq (by simp)
        rw [hae]
        simp only [List.foldl_cons, List.foldl_nil, e9, e10, e11, hT (0, 21, St.setV p) (by simp) (hup 0 (by simp)), hT (1, 22, St.setV q) (by simp) (hup 1 (by simp)), hT (2, 23, St.setV an) (by simp) (hup 2 (by simp)), hT (3, 24, St.setV p) (by simp) (hup 3 (by simp)), hT (4, 25, St.setV q) (by simp) (hup 4 (by simp)), hT (5, 26, St.setV or') (by simp) (hup 5 (by simp)), hT (6, 27, St.setV p) (by simp) (hup 6 (by simp)), hT (7, 28, St.setV nt) (by simp) (hup 7 (by simp)), Act.put, List.setIfInBounds_toArray, List.set_cons_zero, List.set_cons_succ]
        clear hae hFr hz h3 h4 hT hA hup Z9 Z10 Z11 e9 e10 e11
        go_wp2_with fail
        go_meet
        case rel => exact ⟨g9, g10, g11, rfl, rfl, rfl, N9, N10, N11, Y9, Y10, Y11, hbx⟩
    case rest =>
      obtain ⟨g9, g10, g11, rfl, rfl, rfl, N9, N10, N11, Y9, Y10, Y11, hbx⟩ := hcut
      replace S3 := S3.under hbx
      replace S4 := S4.under hbx
      have hB3 := Below.more hB2 hbx hB2.size
      have hs3 := hbx.size
      clear hbx hB2
      generalize wc = w3 at *
      have l9 := Y9.lt
      have l10 := Y10.lt
      have l11 := Y11.lt
      go_upto_region 5 with fail
      go_cut [7, 8, 53] (fun _ _ b wx => b = .bool false ∧ Below w3.heap.size w3 wx)
      case first =>
        obtain ⟨q0, q1, q2, q3⟩ := Y9.cells
        cases hx : p c <;> cases hy : q c
        all_goals
          rw [hx, hy] at HHa HHo
          rw [hx] at HHn
          go_wp2_with fail
          refine (HHa.out _).mono ?_
          rintro x w4 ⟨rfl, hb4⟩
          obtain ⟨r0, r1, r2, r3⟩ := (Y10.under hb4).cells
          go_wp2_with fail
          refine (HHo.out _).mono ?_
          rintro x w5 ⟨rfl, hb5⟩
          obtain ⟨t0, t1, t2, t3⟩ := ((Y11.under hb4).under hb5).cells
          go_wp2_with fail
          refine (HHn.out _).mono ?_
          rintro x w6 ⟨rfl, hb6⟩
          have hb7 := Below.more (Below.more hb4 hb5 hb4.size) hb6 (Nat.le_trans hb4.size hb5.size)
          go_wp2_with fail
          go_meet
          case rel => exact ⟨rfl, hb7⟩
      case rest =>
        obtain ⟨rfl, hbx⟩ := hcut
        replace S3 := S3.under hbx
        replace S4 := S4.under hbx
        replace Y9 := Y9.under hbx
        replace Y10 := Y10.under hbx
        replace Y11 := Y11.under hbx
        have hB4 := Below.more hB3 hbx hB3.size
        clear hbx hB3
        generalize wc = w4 at *
        obtain ⟨q0, q1, q2, q3⟩ := S3.cells
        go_wp2_with fail
        refine (HF1.out _).mono ?_
        rintro x w5 ⟨rfl, hb5⟩
        clear q0 q1 q2 q3
        replace S3 := (S3.under hb5).alloc (.cells #[.int .u64 (St.wd fo 0 : Nat), .int .u64 (St.wd fo 1 : Nat), .int .u64 (St.wd fo 2 : Nat), .int .u64 (St.wd fo 3 : Nat)] 25)
        replace S4 := (S4.under hb5).alloc (.cells #[.int .u64 (St.wd fo 0 : Nat), .int .u64 (St.wd fo 1 : Nat), .int .u64 (St.wd fo 2 : Nat), .int .u64 (St.wd fo 3 : Nat)] 25)
        replace Y9 := (Y9.under hb5).alloc (.cells #[.int .u64 (St.wd fo 0 : Nat), .int .u64 (St.wd fo 1 : Nat), .int .u64 (St.wd fo 2 : Nat), .int .u64 (St.wd fo 3 : Nat)] 25)
        replace Y10 := (Y10.under hb5).alloc (.cells #[.int .u64 (St.wd fo 0 : Nat), .int .u64 (St.wd fo 1 : Nat), .int .u64 (St.wd fo 2 : Nat), .int .u64 (St.wd fo 3 : Nat)] 25)
        replace Y11 := (Y11.under hb5).alloc (.cells #[.int .u64 (St.wd fo 0 : Nat), .int .u64 (St.wd fo 1 : Nat), .int .u64 (St.wd fo 2 : Nat), .int .u64 (St.wd fo 3 : Nat)] 25)
        have S12 := at_new w5 fo
        have hB5 := (Below.more hB4 hb5 hB4.size).alloc (Nat.le_trans hB4.size hb5.size) (.cells #[.int .u64 (St.wd fo 0 : Nat), .int .u64 (St.wd fo 1 : Nat), .int .u64 (St.wd fo 2 : Nat), .int .u64 (St.wd fo 3 : Nat)] 25)
        clear hb5 hB4
        go_upto_region 8 with fail
        obtain ⟨g12, h12⟩ : ∃ g12, g12 = w5.heap.size := ⟨_, rfl⟩
        rw [← h12] at S12
        obtain ⟨W, hW⟩ : ∃ W, W = w5.alloc (.cells #[.int .u64 (St.wd fo 0 : Nat), .int .u64 (St.wd fo 1 : Nat), .int .u64 (St.wd fo 2 : Nat), .int .u64 (St.wd fo 3 : Nat)] 25) := ⟨_, rfl⟩
        rw [← hW] at S3 S4 Y9 Y10 Y11 S12 hB5
        rw [← h12, ← hW]
        clear hW h12 l9 l10 l11
        obtain ⟨SS, hSS⟩ : ∃ SS : World → Prop, SS = fun wx => SetAt wx w.heap.size p ∧ SetAt wx (w.heap.size + 1) q ∧ SetAt wx g9 an ∧ SetAt wx g10 or' ∧ SetAt wx g11 nt ∧ SetAt wx g12 fo ∧ Below w.heap.size w wx := ⟨_, rfl⟩
        have HCell : Hid (∀ wx, SS wx → (fun wx => wx.cell? ⟨w.heap.size, 0, none⟩ = some (.int .u64 (St.wd p 0 : Nat)) ∧ wx.cell? ⟨w.heap.size, 1, none⟩ = some (.int .u64 (St.wd p 1 : Nat)) ∧ wx.cell? ⟨w.heap.size, 2, none⟩ = some (.int .u64 (St.wd p 2 : Nat)) ∧ wx.cell? ⟨w.heap.size, 3, none⟩ = some (.int .u64 (St.wd p 3 : Nat)) ∧ wx.cell? ⟨w.heap.size + 1, 0, none⟩ = some (.int .u64 (St.wd q 0 : Nat)) ∧ wx.cell? ⟨w.heap.size + 1, 1, none⟩ = some (.int .u64 (St.wd q 1 : Nat)) ∧ wx.cell? ⟨w.heap.size + 1, 2, none⟩ = some (.int .u64 (St.wd q 2 : Nat)) ∧ wx.cell? ⟨w.heap.size + 1, 3, none⟩ = some (.int .u64 (St.wd q 3 : Nat)) ∧ wx.cell? ⟨g9, 0, none⟩ = some (.int .u64 (St.wd an 0 : Nat)) ∧ wx.cell? ⟨g9, 1, none⟩ = some (.int .u64 (St.wd an 1 : Nat)) ∧ wx.cell? ⟨g9, 2, none⟩ = some (.int .u64 (St.wd an 2 : Nat)) ∧ wx.cell? ⟨g9, 3, none⟩ = some (.int .u64 (St.wd an 3 : Nat)) ∧ wx.cell? ⟨g10, 0, none⟩ = some (.int .u64 (St.wd or' 0 : Nat)) ∧ wx.cell? ⟨g10, 1, none⟩ = some (.int .u64 (St.wd or' 1 : Nat)) ∧ wx.cell? ⟨g10, 2, none⟩ = some (.int .u64 (St.wd or' 2 : Nat)) ∧ wx.cell? ⟨g10, 3, none⟩ = some (.int .u64 (St.wd or' 3 : Nat)) ∧ wx.cell? ⟨g11, 0, none⟩ = some (.int .u64 (St.wd nt 0 : Nat)) ∧ wx.cell? ⟨g11, 1, none⟩ = some (.int .u64 (St.wd nt 1 : Nat)) ∧ wx.cell? ⟨g11, 2, none⟩ = some (.int .u64 (St.wd nt 2 : Nat)) ∧ wx.cell? ⟨g11, 3, none⟩ = some (.int .u64 (St.wd nt 3 : Nat)) ∧ wx.cell? ⟨g12, 0, none⟩ = some (.int .u64 (St.wd fo 0 : Nat)) ∧ wx.cell? ⟨g12, 1, none⟩ = some (.int .u64 (St.wd fo 1 : Nat)) ∧ wx.cell? ⟨g12, 2, none⟩ = some (.int .u64 (St.wd fo 2 : Nat)) ∧ wx.cell? ⟨g12, 3, none⟩ = some (.int .u64 (St.wd fo 3 : Nat)) ∧ SS wx) wx) := by
          intro wx h
          have h0 := h
          rw [hSS] at h
          obtain ⟨h1, h2, h3, h4, h5, h6, _⟩ := h
          obtain ⟨a0, a1, a2, a3⟩ := h1.cells
          obtain ⟨b0, b1, b2, b3⟩ := h2.cells
          obtain ⟨c0, c1, c2, c3⟩ := h3.cells
          obtain ⟨d0, d1, d2, d3⟩ := h4.cells
          obtain ⟨e0, e1, e2, e3⟩ := h5.cells
          obtain ⟨f0, f1, f2, f3⟩ := h6.cells
          exact ⟨a0, a1, a2, a3, b0, b1, b2, b3, c0, c1, c2, c3, d0, d1, d2, d3, e0, e1, e2, e3, f0, f1, f2, f3, h0⟩
        have hS00 : SS W.drew := by rw [hSS]; exact ⟨S3, S4, Y9, Y10, Y11, S12, hB5.drew⟩
        have hS0 : Hid ((fun wx => wx.cell? ⟨w.heap.size, 0, none⟩ = some (.int .u64 (St.wd p 0 : Nat)) ∧ wx.cell? ⟨w.heap.size, 1, none⟩ = some (.int .u64 (St.wd p 1 : Nat)) ∧ wx.cell? ⟨w.heap.size, 2, none⟩ = some (.int .u64 (St.wd p 2 : Nat)) ∧ wx.cell? ⟨w.heap.size, 3, none⟩ = some (.int .u64 (St.wd p 3 : Nat)) ∧ wx.cell? ⟨w.heap.size + 1, 0, none⟩ = some (.int .u64 (St.wd q 0 : Nat)) ∧ wx.cell? ⟨w.heap.size + 1, 1, none⟩ = some (.int .u64 (St.wd q 1 : Nat)) ∧ wx.cell? ⟨w.heap.size + 1, 2, none⟩ = some (.int .u64 (St.wd q 2 : Nat)) ∧ wx.cell? ⟨w.heap.size + 1, 3, none⟩ = some (.int .u64 (St.wd q 3 : Nat)) ∧ wx.cell? ⟨g9, 0, none⟩ = some (.int .u64 (St.wd an 0 : Nat)) ∧ wx.cell? ⟨g9, 1, none⟩ = some (.int .u64 (St.wd an 1 : Nat)) ∧ wx.cell? ⟨g9, 2, none⟩ = some (.int .u64 (St.wd an 2 : Nat)) ∧ wx.cell? ⟨g9, 3, none⟩ = some (.int .u64 (St.wd an 3 : Nat)) ∧ wx.cell? ⟨g10, 0, none⟩ = some (.int .u64 (St.wd or' 0 : Nat)) ∧ wx.cell? ⟨g10, 1, none⟩ = some (.int .u64 (St.wd or' 1 : Nat)) ∧ wx.cell? ⟨g10, 2, none⟩ = some (.int .u64 (St.wd or' 2 : Nat)) ∧ wx.cell? ⟨g10, 3, none⟩ = some (.int .u64 (St.wd or' 3 : Nat)) ∧ wx.cell? ⟨g11, 0, none⟩ = some (.int .u64 (St.wd nt 0 : Nat)) ∧ wx.cell? ⟨g11, 1, none⟩ = some (.int .u64 (St.wd nt 1 : Nat)) ∧ wx.cell? ⟨g11, 2, none⟩ = some (.int .u64 (St.wd nt 2 : Nat)) ∧ wx.cell? ⟨g11, 3, none⟩ = some (.int .u64 (St.wd nt 3 : Nat)) ∧ wx.cell? ⟨g12, 0, none⟩ = some (.int .u64 (St.wd fo 0 : Nat)) ∧ wx.cell? ⟨g12, 1, none⟩ = some (.int .u64 (St.wd fo 1 : Nat)) ∧ wx.cell? ⟨g12, 2, none⟩ = some (.int .u64 (St.wd fo 2 : Nat)) ∧ wx.cell? ⟨g12, 3, none⟩ = some (.int .u64 (St.wd fo 3 : Nat)) ∧ SS wx) W.drew) := HCell.out _ hS00
        have HKeep : Hid (∀ wa wn, Below wa.heap.size wa wn → (fun wx => wx.cell? ⟨w.heap.size, 0, none⟩ = some (.int .u64 (St.wd p 0 : Nat)) ∧ wx.cell? ⟨w.heap.size, 1, none⟩ = some (.int .u64 (St.wd p 1 : Nat)) ∧ wx.cell? ⟨w.heap.size, 2, none⟩ = some (.int .u64 (St.wd p 2 : Nat)) ∧ wx.cell? ⟨w.heap.size, 3, none⟩ = some (.int .u64 (St.wd p 3 : Nat)) ∧ wx.cell? ⟨w.heap.size + 1, 0, none⟩ = some (.int .u64 (St.wd q 0 : Nat)) ∧ wx.cell? ⟨w.heap.size + 1, 1, none⟩ = some (.int .u64 (St.wd q 1 : Nat)) ∧ wx.cell? ⟨w.heap.size + 1, 2, none⟩ = some (.int .u64 (St.wd q 2 : Nat)) ∧ wx.cell? ⟨w.heap.size + 1, 3, none⟩ = some (.int .u64 (St.wd q 3 : Nat)) ∧ wx.cell? ⟨g9, 0, none⟩ = some (.int .u64 (St.wd an 0 : Nat)) ∧ wx.cell? ⟨g9, 1, none⟩ = some (.int .u64 (St.wd an 1 : Nat)) ∧ wx.cell? ⟨g9, 2, none⟩ = some (.int .u64 (St.wd an 2 : Nat)) ∧ wx.cell? ⟨g9, 3, none⟩ = some (.int .u64 (St.wd an 3 : Nat)) ∧ wx.cell? ⟨g10, 0, none⟩ = some (.int .u64 (St.wd or' 0 : Nat)) ∧ wx.cell? ⟨g10, 1, none⟩ = some (.int .u64 (St.wd or' 1 : Nat)) ∧ wx.cell? ⟨g10, 2, none⟩ = some (.int .u64 (St.wd or' 2 : Nat)) ∧ wx.cell? ⟨g10, 3, none⟩ = some (.int .u64 (St.wd or' 3 : Nat)) ∧ wx.cell? ⟨g11, 0, none⟩ = some (.int .u64 (St.wd nt 0 : Nat)) ∧ wx.cell? ⟨g11, 1, none⟩ = some (.int .u64 (St.wd nt 1 : Nat)) ∧ wx.cell? ⟨g11, 2, none⟩ = some (.int .u64 (St.wd nt 2 : Nat)) ∧ wx.cell? ⟨g11, 3, none⟩ = some (.int .u64 (St.wd nt 3 : Nat)) ∧ wx.cell? ⟨g12, 0, none⟩ = some (.int .u64 (St.wd fo 0 : Nat)) ∧ wx.cell? ⟨g12, 1, none⟩ = some (.int .u64 (St.wd fo 1 : Nat)) ∧ wx.cell? ⟨g12, 2, none⟩ = some (.int .u64 (St.wd fo 2 : Nat)) ∧ wx.cell? ⟨g12, 3, none⟩ = some (.int .u64 (St.wd fo 3 : Nat)) ∧ SS wx) wa → (fun wx => wx.cell? ⟨w.heap.size, 0, none⟩ = some (.int .u64 (St.wd p 0 : Nat)) ∧ wx.cell? ⟨w.heap.size, 1, none⟩ = some (.int .u64 (St.wd p 1 : Nat)) ∧ wx.cell? ⟨w.heap.size, 2, none⟩ = some (.int .u64 (St.wd p 2 : Nat)) ∧ wx.cell? ⟨w.heap.size, 3, none⟩ = some (.int .u64 (St.wd p 3 : Nat)) ∧ wx.cell? ⟨w.heap.size + 1, 0, none⟩ = some (.int .u64 (St.wd q 0 : Nat)) ∧ wx.cell? ⟨w.heap.size + 1, 1, none⟩ = some (.int .u64 (St.wd q 1 : Nat)) ∧ wx.cell? ⟨w.heap.size + 1, 2, none⟩ = some (.int .u64 (St.wd q 2 : Nat)) ∧ wx.cell? ⟨w.heap.size + 1, 3, none⟩ = some (.int .u64 (St.wd q 3 : Nat)) ∧ wx.cell? ⟨g9, 0, none⟩ = some (.int .u64 (St.wd an 0 : Nat)) ∧ wx.cell? ⟨g9, 1, none⟩ = some (.int .u64 (St.wd an 1 : Nat)) ∧ wx.cell? ⟨g9, 2, none⟩ = some (.int .u64 (St.wd an 2 : Nat)) ∧ wx.cell? ⟨g9, 3, none⟩ = some (.int .u64 (St.wd an 3 : Nat)) ∧ wx.cell? ⟨g10, 0, none⟩ = some (.int .u64 (St.wd or' 0 : Nat)) ∧ wx.cell? ⟨g10, 1, none⟩ = some (.int .u64 (St.wd or' 1 : Nat)) ∧ wx.cell? ⟨g10, 2, none⟩ = some (.int .u64 (St.wd or' 2 : Nat)) ∧ wx.cell? ⟨g10, 3, none⟩ = some (.int .u64 (St.wd or' 3 : Nat)) ∧ wx.cell? ⟨g11, 0, none⟩ = some (.int .u64 (St.wd nt 0 : Nat)) ∧ wx.cell? ⟨g11, 1, none⟩ = some (.int .u64 (St.wd nt 1 : Nat)) ∧ wx.cell? ⟨g11, 2, none⟩ = some (.int .u64 (St.wd nt 2 : Nat)) ∧ wx.cell? ⟨g11, 3, none⟩ = some (.int .u64 (St.wd nt 3 : Nat)) ∧ wx.cell? ⟨g12, 0, none⟩ = some (.int .u64 (St.wd fo 0 : Nat)) ∧ wx.cell? ⟨g12, 1, none⟩ = some (.int .u64 (St.wd fo 1 : Nat)) ∧ wx.cell? ⟨g12, 2, none⟩ = some (.int .u64 (St.wd fo 2 : Nat)) ∧ wx.cell? ⟨g12, 3, none⟩ = some (.int .u64 (St.wd fo 3 : Nat)) ∧ SS wx) wn) := by
          intro wa wn hb hh
          have h : SS wa := hh.2.2.2.2.2.2.2.2.2.2.2.2.2.2.2.2.2.2.2.2.2.2.2.2
          clear hh
          refine HCell.out wn ?_
          rw [hSS] at h ⊢
          obtain ⟨h1, h2, h3, h4, h5, h6, h7⟩ := h
          exact ⟨h1.under hb, h2.under hb, h3.under hb, h4.under hb, h5.under hb, h6.under hb, Below.more h7 hb h7.size⟩
        have HKB : Hid (∀ wn, (fun wx => wx.cell? ⟨w.heap.size, 0, none⟩ = some (.int .u64 (St.wd p 0 : Nat)) ∧ wx.cell? ⟨w.heap.size, 1, none⟩ = some (.int .u64 (St.wd p 1 : Nat)) ∧ wx.cell? ⟨w.heap.size, 2, none⟩ = some (.int .u64 (St.wd p 2 : Nat)) ∧ wx.cell? ⟨w.heap.size, 3, none⟩ = some (.int .u64 (St.wd p 3 : Nat)) ∧ wx.cell? ⟨w.heap.size + 1, 0, none⟩ = some (.int .u64 (St.wd q 0 : Nat)) ∧ wx.cell? ⟨w.heap.size + 1, 1, none⟩ = some (.int .u64 (St.wd q 1 : Nat)) ∧ wx.cell? ⟨w.heap.size + 1, 2, none⟩ = some (.int .u64 (St.wd q 2 : Nat)) ∧ wx.cell? ⟨w.heap.size + 1, 3, none⟩ = some (.int .u64 (St.wd q 3 : Nat)) ∧ wx.cell? ⟨g9, 0, none⟩ = some (.int .u64 (St.wd an 0 : Nat)) ∧ wx.cell? ⟨g9, 1, none⟩ = some (.int .u64 (St.wd an 1 : Nat)) ∧ wx.cell? ⟨g9, 2, none⟩ = some (.int .u64 (St.wd an 2 : Nat)) ∧ wx.cell? ⟨g9, 3, none⟩ = some (.int .u64 (St.wd an 3 : Nat)) ∧ wx.cell? ⟨g10, 0, none⟩ = some (.int .u64 (St.wd or' 0 : Nat)) ∧ wx.cell? ⟨g10, 1, none⟩ = some (.int .u64 (St.wd or' 1 : Nat)) ∧ wx.cell? ⟨g10, 2, none⟩ = some (.int .u64 (St.wd or' 2 : Nat)) ∧ wx.cell? ⟨g10, 3, none⟩ = some (.int .u64 (St.wd or' 3 : Nat)) ∧ wx.cell? ⟨g11, 0, none⟩ = some (.int .u64 (St.wd nt 0 : Nat)) ∧ wx.cell? ⟨g11, 1, none⟩ = some (.int .u64 (St.wd nt 1 : Nat)) ∧ wx.cell? ⟨g11, 2, none⟩ = some (.int .u64 (St.wd nt 2 : Nat)) ∧ wx.cell? ⟨g11, 3, none⟩ = some (.int .u64 (St.wd nt 3 : Nat)) ∧ wx.cell? ⟨g12, 0, none⟩ = some (.int .u64 (St.wd fo 0 : Nat)) ∧ wx.cell? ⟨g12, 1, none⟩ = some (.int .u64 (St.wd fo 1 : Nat)) ∧ wx.cell? ⟨g12, 2, none⟩ = some (.int .u64 (St.wd fo 2 : Nat)) ∧ wx.cell? ⟨g12, 3, none⟩ = some (.int .u64 (St.wd fo 3 : Nat)) ∧ SS wx) wn → Below w.heap.size w wn) := by
          intro wn hh
          have h : SS wn := hh.2.2.2.2.2.2.2.2.2.2.2.2.2.2.2.2.2.2.2.2.2.2.2.2
          rw [hSS] at h
          exact h.2.2.2.2.2.2
        clear hSS S3 S4 Y9 Y10 Y11 S12 hB5 HCell hS00
        go_region_held3 (fun wx => wx.cell? ⟨w.heap.size, 0, none⟩ = some (.int .u64 (St.wd p 0 : Nat)) ∧ wx.cell? ⟨w.heap.size, 1, none⟩ = some (.int .u64 (St.wd p 1 : Nat)) ∧ wx.cell? ⟨w.heap.size, 2, none⟩ = some (.int .u64 (St.wd p 2 : Nat)) ∧ wx.cell? ⟨w.heap.size, 3, none⟩ = some (.int .u64 (St.wd p 3 : Nat)) ∧ wx.cell? ⟨w.heap.size + 1, 0, none⟩ = some (.int .u64 (St.wd q 0 : Nat)) ∧ wx.cell? ⟨w.heap.size + 1, 1, none⟩ = some (.int .u64 (St.wd q 1 : Nat)) ∧ wx.cell? ⟨w.heap.size + 1, 2, none⟩ = some (.int .u64 (St.wd q 2 : Nat)) ∧ wx.cell? ⟨w.heap.size + 1, 3, none⟩ = some (.int .u64 (St.wd q 3 : Nat)) ∧ wx.cell? ⟨g9, 0, none⟩ = some (.int .u64 (St.wd an 0 : Nat)) ∧ wx.cell? ⟨g9, 1, none⟩ = some (.int .u64 (St.wd an 1 : Nat)) ∧ wx.cell? ⟨g9, 2, none⟩ = some (.int .u64 (St.wd an 2 : Nat)) ∧ wx.cell? ⟨g9, 3, none⟩ = some (.int .u64 (St.wd an 3 : Nat)) ∧ wx.cell? ⟨g10, 0, none⟩ = some (.int .u64 (St.wd or' 0 : Nat)) ∧ wx.cell? ⟨g10, 1, none⟩ = some (.int .u64 (St.wd or' 1 : Nat)) ∧ wx.cell? ⟨g10, 2, none⟩ = some (.int .u64 (St.wd or' 2 : Nat)) ∧ wx.cell? ⟨g10, 3, none⟩ = some (.int .u64 (St.wd or' 3 : Nat)) ∧ wx.cell? ⟨g11, 0, none⟩ = some (.int .u64 (St.wd nt 0 : Nat)) ∧ wx.cell? ⟨g11, 1, none⟩ = some (.int .u64 (St.wd nt 1 : Nat)) ∧ wx.cell? ⟨g11, 2, none⟩ = some (.int .u64 (St.wd nt 2 : Nat)) ∧ wx.cell? ⟨g11, 3, none⟩ = some (.int .u64 (St.wd nt 3 : Nat)) ∧ wx.cell? ⟨g12, 0, none⟩ = some (.int .u64 (St.wd fo 0 : Nat)) ∧ wx.cell? ⟨g12, 1, none⟩ = some (.int .u64 (St.wd fo 1 : Nat)) ∧ wx.cell? ⟨g12, 2, none⟩ = some (.int .u64 (St.wd fo 2 : Nat)) ∧ wx.cell? ⟨g12, 3, none⟩ = some (.int .u64 (St.wd fo 3 : Nat)) ∧ SS wx) ((first | exact hS0.out | exact HKeep.out _ _ hb (by assumption))) (first
          | (go_at_call_of 26 (St.wd an 0); refine (HN2.out _).mono ?_; rintro x wn ⟨rfl, hb⟩)
          | (go_at_call_of 26 (St.wd q 0); refine (HN3.out _).mono ?_; rintro x wn ⟨rfl, hb⟩)
          | (go_at_call_of 26 (St.wd nt 0); refine (HN4.out _).mono ?_; rintro x wn ⟨rfl, hb⟩)
          | (go_at_call 24; refine (HO2.out _).mono ?_; rintro x wn ⟨rfl, hb⟩)
          | (go_at_call_of 19 (St.wd or' 0); refine (HC1.out _).mono ?_; rintro x wn ⟨rfl, hb⟩)
          | (go_at_call_of 19 (St.wd p 0); refine (HC2.out _).mono ?_; rintro x wn ⟨rfl, hb⟩)
          | (go_at_call_of 19 (St.wd q 0); refine (HC3.out _).mono ?_; rintro x wn ⟨rfl, hb⟩)
          | (go_at_call_of 19 (St.wd an 0); refine (HC4.out _).mono ?_; rintro x wn ⟨rfl, hb⟩)
          | (go_at_call_of 19 (St.wd nt 0); refine (HC5.out _).mono ?_; rintro x wn ⟨rfl, hb⟩)
          | (go_at_call 15; refine (HBy.out _).mono ?_; rintro x wn ⟨ba, bc, rfl, hBA, hb⟩)
          | (go_at_call 12; refine (HOf.out _ _ _ hBA).mono ?_; rintro x wn ⟨rfl, hb⟩)
          | (go_at_call 28; refine (HF2.out _).mono ?_; rintro x wn ⟨rfl, hb⟩)
          | (go_at_call 22; refine (HA2.out _).mono ?_; rintro x wn ⟨rfl, hb⟩))
        all_goals
          go_wp2_with fail
          go_ret
          exact ⟨rfl, HKB.out _ (by assumption)⟩
end Go.Proofs.Ytmlpfgfpmbnbeaa
