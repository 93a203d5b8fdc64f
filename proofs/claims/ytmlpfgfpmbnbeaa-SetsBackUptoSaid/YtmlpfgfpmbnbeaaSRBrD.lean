/- What the reference's item answers. -/
import Derived.Test.YtmlpfgfpmbnbeaaSRBrC
namespace Go.Proofs.Ytmlpfgfpmbnbeaa
open Go.RowKit

namespace St
/-- Whether what stands at j is no range's sign. -/
def noRng (s : ByteArray) (j : Nat) : Bool := decide (s.size ≤ j + 1) || (!(bt s j == 45) || bt s (j + 1) == 93)
/-- The reference's item: its set, the place behind it, the place of the fault, and whether it is one. -/
def ritemP (s : ByteArray) (i : Nat) : (Nat → Bool) × Nat × Nat × Bool :=
  if specP s i = 58 then ((clsR s i).1, (clsR s i).2.1, i, (clsR s i).2.2)
  else if specP s i = 61 then (rng (oneC s i) (oneC s i), oneN s i, i, oneOk s i)
  else if (elemP s i).2.2 = false then (inL [], 0, i, false)
  else if noRng s (elemP s i).2.1 = true then (rng (elemP s i).1 (elemP s i).1, (elemP s i).2.1, 0, true)
  else if (!(elemP s ((elemP s i).2.1 + 1)).2.2 || decide ((elemP s ((elemP s i).2.1 + 1)).1 < (elemP s i).1)) = true then (inL [], 0, (elemP s i).2.1 + 1, false)
  else (rng (elemP s i).1 (elemP s ((elemP s i).2.1 + 1)).1, (elemP s ((elemP s i).2.1 + 1)).2.1, 0, true)
theorem one_set {c : Nat} (hc : c < 256) : setV (inL [UInt8.ofNat c]) = setV (rng c c) := by
  refine setV_congr (fun x hx => ?_)
  unfold inL rng
  rw [List.any_cons, List.any_nil, Bool.or_false, Bool.eq_iff_iff]
  simp
  omega
end St
theorem rof_one (c : Nat) (hc : c < 256) (w : World) :
    Calls Try.prog 13 #[.slice (some ⟨w.heap.size, 0, none⟩) 1 1] (w.alloc (.cells #[.int .u8 (c : Int)] 5)) fun e w' => e = .returned (St.setV (St.rng c c)) ∧ Below w.heap.size w w' := by
  have hB : Bys (w.alloc (.cells #[.int .u8 (c : Int)] 5)) (some ⟨w.heap.size, 0, none⟩) [UInt8.ofNat c] := by
    have hcc : ((UInt8.ofNat c).toNat : Int) = (c : Int) := by simp; omega
    refine ⟨by simp, fun i hi => ⟨w.heap.size, 0, rfl, by simp, ?_⟩⟩
    have hi1 : i < 1 := hi
    obtain rfl : i = 0 := by omega
    rw [cell_of_row _ _ _ _ _ _ (heap_alloc_new w _)]
    simp only [List.getElem_cons_zero, hcc]
    rfl
  have h := rof_any (some ⟨w.heap.size, 0, none⟩) 1 [UInt8.ofNat c] _ hB
  rw [St.one_set hc] at h
  refine h.mono ?_
  rintro e w' ⟨he, hb⟩
  exact ⟨he, ((Below.refl _ _).alloc (Nat.le_refl _) _).trans (hb.mono (by simp))⟩

set_option maxRecDepth 100000 in
set_option maxHeartbeats 4000000 in
theorem ritem_any (s : ByteArray) (i : Nat) (w : World) (hs : s.size ≤ 140737488355328) (hi : i < s.size) :
    Calls Try.prog 43 #[.string s, .int .i64 (i : Int)] w fun e w' => e = .returned (.tuple #[St.setV (St.ritemP s i).1, .int .i64 ((St.ritemP s i).2.1 : Nat), .int .i64 ((St.ritemP s i).2.2.1 : Nat), .bool (St.ritemP s i).2.2.2]) ∧ Below w.heap.size w w' := by
  have HSp : Hid (∀ w1, Calls Try.prog 49 #[.string s, .int .i64 (i : Int)] w1 fun e w' => e = .returned (.int .u8 (St.specP s i : Nat)) ∧ w1 = w') := fun w1 => special_any s i w1 hs (by omega)
  obtain ⟨E, hE⟩ : ∃ E, St.ritemP s i = E := ⟨_, rfl⟩
  have HE : Hid (St.ritemP s i = E) := hE
  rw [hE]
  clear hE
  unfold St.ritemP at HE
  have hb0 : Below w.heap.size w (w.alloc (.cells #[.int .u64 0, .int .u64 0, .int .u64 0, .int .u64 0] 25)) := (Below.refl _ _).alloc (Nat.le_refl _) _
  have A0 := atS0 w
  by_cases h58 : St.specP s i = 58
  · rw [h58] at HSp
    have hp : St.pre2 s i 91 58 = true := by
      rcases St.spec_cases s i with h | h | h | h
      · omega
      · omega
      · exact h.2.1
      · omega
    have hi2 := St.pre2_room hp (by decide) (by decide)
    have HC : Hid (∀ w1, Calls Try.prog 50 #[.string s, .int .i64 (i : Int)] w1 fun e w' => e = .returned (.tuple #[St.setV (St.clsR s i).1, .int .i64 ((St.clsR s i).2.1 : Nat), .bool (St.clsR s i).2.2]) ∧ Below w1.heap.size w1 w') := fun w1 => rclassI_any s i w1 hs hi2
    have hv := HE.out
    rw [if_pos h58] at hv
    subst hv
    clear HE h58 hp
    generalize St.clsR s i = C at *
    obtain ⟨q, nx, ok⟩ := C
    simp only [St.setV] at HC ⊢
    go_enter Try.func43, Try.ntmps43
    go_wp2_with fail
    refine (HSp.out _).mono ?_
    rintro x w1 ⟨rfl, rfl⟩
    go_wp2_with fail
    refine (HC.out _).mono ?_
    rintro x w2 ⟨rfl, hb2⟩
    have S2 := A0.under hb2
    have hB2 := Below.more hb0 hb2 hb0.size
    have hlt2 := S2.lt
    clear hb2
    obtain ⟨t0, t1, t2, t3⟩ := S2.cells
    have f0 := S2.frozen 0
    have f1 := S2.frozen 1
    have f2 := S2.frozen 2
    have f3 := S2.frozen 3
    go_wp2_with fail
    have hB3 := put4_below (q := q) hB2 (Nat.le_refl _)
    exact bodyPost_ret (results_set4 rfl _ _ w.heap.size q rfl ((S2.put (q := q)).alloc _)) rfl ⟨rfl, hB3.alloc hB3.size _⟩
  by_cases h61 : St.specP s i = 61
  · rw [h61] at HSp
    have HO : Hid (∀ w1, Calls Try.prog 51 #[.string s, .int .i64 (i : Int)] w1 fun e w' => e = .returned (.tuple #[.int .u8 (St.oneC s i : Nat), .int .i64 (St.oneN s i : Nat), .bool (St.oneOk s i)]) ∧ ∃ n, w' = w1.drewN n) := fun w1 => one_any s i w1 hs (by omega)
    have hv := HE.out
    rw [if_neg h58, if_pos h61] at hv
    subst hv
    have hoc := St.one_lt s i
    clear HE h58 h61
    generalize St.oneC s i = oc at *
    generalize St.oneN s i = on at *
    generalize St.oneOk s i = ok at *
    have HOf : Hid (∀ w1, Calls Try.prog 13 #[.slice (some ⟨w1.heap.size, 0, none⟩) 1 1] (w1.alloc (.cells #[.int .u8 (oc : Int)] 5)) fun e w' => e = .returned (St.setV (St.rng oc oc)) ∧ Below w1.heap.size w1 w') := fun w1 => rof_one oc hoc w1
    generalize St.rng oc oc = q at *
    simp only [St.setV] at HOf ⊢
    go_enter Try.func43, Try.ntmps43
    go_wp2_with fail
    refine (HSp.out _).mono ?_
    rintro x w1 ⟨rfl, rfl⟩
    go_wp2_with fail
    refine (HSp.out _).mono ?_
    rintro x w1 ⟨rfl, rfl⟩
    go_wp2_with fail
    refine (HO.out _).mono ?_
    rintro x w1 ⟨rfl, n1, rfl⟩
    have S1 := A0.drewN n1
    have hB1 := Below.drewN hb0 n1
    generalize ((w.alloc (.cells #[.int .u64 0, .int .u64 0, .int .u64 0, .int .u64 0] 25)).drewN n1) = w1 at *
    go_wp2_with fail
    refine (HOf.out _).mono ?_
    rintro x w2 ⟨rfl, hb2⟩
    have S2 := S1.under hb2
    have hB2 := Below.more hB1 hb2 hB1.size
    clear hb2 S1
    obtain ⟨t0, t1, t2, t3⟩ := S2.cells
    have f0 := S2.frozen 0
    have f1 := S2.frozen 1
    have f2 := S2.frozen 2
    have f3 := S2.frozen 3
    go_wp2_with fail
    exact bodyPost_ret (results_set4 rfl _ _ w.heap.size q rfl (S2.put (q := q))) rfl ⟨rfl, put4_below hB2 (Nat.le_refl _)⟩
  have hv := HE.out
  rw [if_neg h58, if_neg h61] at hv
  replace HE := hv
  clear hv
  have c58 : ((St.specP s i : Int) == 58) = false := by rw [beq_eq_false_iff_ne]; omega
  have c61 : ((St.specP s i : Int) == 61) = false := by rw [beq_eq_false_iff_ne]; omega
  generalize St.specP s i = sp at *
  clear h58 h61
  have HL : Hid (∀ w1, Calls Try.prog 52 #[.string s, .int .i64 (i : Int)] w1 fun e w' => e = .returned (.tuple #[.int .u8 ((St.elemP s i).1 : Nat), .int .i64 ((St.elemP s i).2.1 : Nat), .bool (St.elemP s i).2.2]) ∧ ∃ n, w' = w1.drewN n) := fun w1 => relement_any s i w1 hs hi
  have hle := St.elem_le s i (Nat.le_of_lt hi)
  have hec := St.elem_lt s i
  generalize St.elemP s i = e1 at *
  obtain ⟨c1, j, ok1⟩ := e1
  simp only at HE HL hle hec
  obtain ⟨hij, hj⟩ := hle
  cases ok1
  · rw [if_pos rfl] at HE
    subst HE
    go_enter Try.func43, Try.ntmps43
    go_wp2_with fail
    refine (HSp.out _).mono ?_
    rintro x w1 ⟨rfl, rfl⟩
    go_wp2_with fail
    refine (HSp.out _).mono ?_
    rintro x w1 ⟨rfl, rfl⟩
    go_wp2_with fail
    refine (HL.out _).mono ?_
    rintro x w1 ⟨rfl, n1, rfl⟩
    have S1 := A0.drewN n1
    have hB1 := Below.drewN hb0 n1
    generalize ((w.alloc (.cells #[.int .u64 0, .int .u64 0, .int .u64 0, .int .u64 0] 25)).drewN n1) = w1 at *
    obtain ⟨t0, t1, t2, t3⟩ := S1.cells
    have f0 := S1.frozen 0
    have f1 := S1.frozen 1
    have f2 := S1.frozen 2
    have f3 := S1.frozen 3
    go_wp2_with fail
    exact bodyPost_ret (results_set4 rfl _ _ w.heap.size (St.inL []) rfl S1.putZ) rfl ⟨rfl, putZ_below hB1 (Nat.le_refl _)⟩
  rw [if_neg (by decide)] at HE
  have HOf : Hid (∀ w1, Calls Try.prog 13 #[.slice (some ⟨w1.heap.size, 0, none⟩) 1 1] (w1.alloc (.cells #[.int .u8 (c1 : Int)] 5)) fun e w' => e = .returned (St.setV (St.rng c1 c1)) ∧ Below w1.heap.size w1 w') := fun w1 => rof_one c1 hec w1
  obtain ⟨gd, hgd⟩ : ∃ gd, St.noRng s j = gd := ⟨_, rfl⟩
  rw [hgd] at HE
  have HG : Hid (St.noRng s j = gd) := hgd
  clear hgd
  replace HE : Hid ((if gd = true then (St.rng c1 c1, j, 0, true) else if (!(St.elemP s (j + 1)).2.2 || decide ((St.elemP s (j + 1)).1 < c1)) = true then (St.inL [], 0, j + 1, false) else (St.rng c1 (St.elemP s (j + 1)).1, (St.elemP s (j + 1)).2.1, 0, true)) = E) := HE
  have HJ : Hid (gd = false → j + 1 < s.size) := by
    intro hg
    have := HG.out
    rw [hg] at this
    unfold St.noRng at this
    rw [Bool.or_eq_false_iff, decide_eq_false_iff_not] at this
    omega
  go_enter Try.func43, Try.ntmps43
  go_wp2_with fail
  refine (HSp.out _).mono ?_
  rintro x w1 ⟨rfl, rfl⟩
  go_wp2_with fail
  refine (HSp.out _).mono ?_
  rintro x w1 ⟨rfl, rfl⟩
  go_wp2_with fail
  refine (HL.out _).mono ?_
  rintro x w1 ⟨rfl, n1, rfl⟩
  have S1 := A0.drewN n1
  have hB1 := Below.drewN hb0 n1
  generalize ((w.alloc (.cells #[.int .u64 0, .int .u64 0, .int .u64 0, .int .u64 0] 25)).drewN n1) = w1 at *
  clear A0 hb0 HL HSp
  go_upto_region 10 with fail
  go_cut [79] (fun b wx => b = .bool gd ∧ w1 = wx)
  case first =>
    by_cases h1 : s.size ≤ j + 1
    · have d1 : decide ((s.size : Int) ≤ (j : Int) + 1) = true := by simp; omega
      have g1 : (s.size : Int) ≤ (j : Int) + 1 := by omega
      have hv : gd = true := by rw [← HG.out]; unfold St.noRng; rw [decide_eq_true h1]; rfl
      subst hv
      go_wp2_with fail
      go_meet
      case rel => exact ⟨rfl, rfl⟩
    · have d1 : decide ((s.size : Int) ≤ (j : Int) + 1) = false := by simp; omega
      have g1 : ¬ (s.size : Int) ≤ (j : Int) + 1 := by omega
      have y0 : j < s.size := by omega
      have y1 : j + 1 < s.size := by omega
      have r0 := str_at s j (j : Int) rfl y0
      have r1 := str_at s (j + 1) ((j : Int) + 1) (by omega) y1
      have HV : Hid (gd = (!((s[j]'y0).toNat == 45) || (s[j + 1]'y1).toNat == 93)) := by
        show _ = _
        rw [← HG.out]; unfold St.noRng
        rw [decide_eq_false h1, St.bt_in y0, St.bt_in y1, Bool.false_or]
      generalize (s[j]'y0).toNat = x0 at *
      generalize (s[j + 1]'y1).toNat = x1 at *
      by_cases e0 : x0 = 45
      · have b0 : ((x0 : Int) != 45) = false := by simp; omega
        by_cases e1 : x1 = 93
        · have b1 : ((x1 : Int) == 93) = true := by rw [beq_iff_eq]; omega
          have hv : gd = true := by rw [HV.out, e1]; simp
          subst hv
          go_wp2_with fail
          go_meet
          case rel => exact ⟨rfl, rfl⟩
        · have b1 : ((x1 : Int) == 93) = false := by rw [beq_eq_false_iff_ne]; omega
          have hv : gd = false := by rw [HV.out, e0]; simpa using e1
          subst hv
          go_wp2_with fail
          go_meet
          case rel => exact ⟨rfl, rfl⟩
      · have b0 : ((x0 : Int) != 45) = true := by simp; omega
        have hv : gd = true := by rw [HV.out, show (x0 == 45) = false from by simpa using e0]; rfl
        subst hv
        go_wp2_with fail
        go_meet
        case rel => exact ⟨rfl, rfl⟩
  case rest =>
    obtain ⟨rfl, rfl⟩ := hcut
    cases gd
    · have hj1 := HJ.out rfl
      have HL2 : Hid (∀ wx, Calls Try.prog 52 #[.string s, .int .i64 ((j : Int) + 1)] wx fun e w' => e = .returned (.tuple #[.int .u8 ((St.elemP s (j + 1)).1 : Nat), .int .i64 ((St.elemP s (j + 1)).2.1 : Nat), .bool (St.elemP s (j + 1)).2.2]) ∧ ∃ n, w' = wx.drewN n) := fun wx => relement_any s (j + 1) wx hs hj1
      have hec2 := St.elem_lt s (j + 1)
      have hle2 := St.elem_le s (j + 1) (Nat.le_of_lt hj1)
      have hv := HE.out
      rw [if_neg (by decide)] at hv
      replace HE := hv
      clear hv HG HJ
      obtain ⟨e2, he2⟩ : ∃ e2, St.elemP s (j + 1) = e2 := ⟨_, rfl⟩
      rw [he2] at HL2 hec2 hle2 HE
      clear he2
      obtain ⟨c2, j2, ok2⟩ := e2
      simp only at HL2 hec2 hle2 HE
      cases ok2
      · rw [if_pos (show (!false || decide (c2 < c1)) = true from rfl)] at HE
        replace HE : Hid ((St.inL [], 0, j + 1, false) = E) := HE
        go_wp2_with fail
        refine (HL2.out _).mono ?_
        rintro x w2 ⟨rfl, n2, rfl⟩
        have S2 := S1.drewN n2
        have hB2 := Below.drewN hB1 n2
        generalize w1.drewN n2 = w2 at *
        obtain ⟨t0, t1, t2, t3⟩ := S2.cells
        have f0 := S2.frozen 0
        have f1 := S2.frozen 1
        have f2 := S2.frozen 2
        have f3 := S2.frozen 3
        go_wp2_with fail
        refine bodyPost_ret (results_set4 rfl _ _ w.heap.size (St.inL []) rfl S2.putZ) rfl ⟨?_, putZ_below hB2 (Nat.le_refl _)⟩
        rw [← HE.out]
        rfl
      · by_cases hcc : c2 < c1
        · rw [if_pos (by rw [decide_eq_true hcc]; rfl)] at HE
          replace HE : Hid ((St.inL [], 0, j + 1, false) = E) := HE
          have d2 : decide ((c2 : Int) < (c1 : Int)) = true := by simp; omega
          have g2 : (c2 : Int) < (c1 : Int) := by omega
          go_wp2_with fail
          refine (HL2.out _).mono ?_
          rintro x w2 ⟨rfl, n2, rfl⟩
          have S2 := S1.drewN n2
          have hB2 := Below.drewN hB1 n2
          generalize w1.drewN n2 = w2 at *
          obtain ⟨t0, t1, t2, t3⟩ := S2.cells
          have f0 := S2.frozen 0
          have f1 := S2.frozen 1
          have f2 := S2.frozen 2
          have f3 := S2.frozen 3
          go_wp2_with fail
          refine bodyPost_ret (results_set4 rfl _ _ w.heap.size (St.inL []) rfl S2.putZ) rfl ⟨?_, putZ_below hB2 (Nat.le_refl _)⟩
          rw [← HE.out]
          rfl
        · rw [if_neg (by rw [decide_eq_false hcc]; decide)] at HE
          replace HE : Hid ((St.rng c1 c2, j2, 0, true) = E) := HE
          have HRg : Hid (∀ wx, Calls Try.prog 21 #[.int .u8 (c1 : Int), .int .u8 (c2 : Int)] wx fun e w' => e = .returned (St.setV (St.rng c1 c2)) ∧ Below wx.heap.size wx w') := fun wx => rrange_any c1 c2 wx hec hec2
          obtain ⟨q, hq⟩ : ∃ q, q = St.rng c1 c2 := ⟨_, rfl⟩
          rw [← hq] at HRg HE
          clear hq
          have d2 : decide ((c2 : Int) < (c1 : Int)) = false := by simp; omega
          have g2 : ¬ (c2 : Int) < (c1 : Int) := by omega
          simp only [St.setV] at HRg
          go_wp2_with fail
          refine (HL2.out _).mono ?_
          rintro x w2 ⟨rfl, n2, rfl⟩
          have S2 := S1.drewN n2
          have hB2 := Below.drewN hB1 n2
          generalize w1.drewN n2 = w2 at *
          go_wp2_with fail
          refine (HRg.out _).mono ?_
          rintro x w3 ⟨rfl, hb3⟩
          have S3 := S2.under hb3
          have hB3 := Below.more hB2 hb3 hB2.size
          clear hb3
          obtain ⟨t0, t1, t2, t3⟩ := S3.cells
          have f0 := S3.frozen 0
          have f1 := S3.frozen 1
          have f2 := S3.frozen 2
          have f3 := S3.frozen 3
          go_wp2_with fail
          refine bodyPost_ret (results_set4 rfl _ _ w.heap.size q rfl (S3.put (q := q))) rfl ⟨?_, put4_below hB3 (Nat.le_refl _)⟩
          rw [← HE.out]
          rfl
    · have hv := HE.out
      rw [if_pos rfl] at hv
      replace HE : Hid ((St.rng c1 c1, j, 0, true) = E) := hv
      obtain ⟨q, hq⟩ : ∃ q, q = St.rng c1 c1 := ⟨_, rfl⟩
      rw [← hq] at HOf HE
      clear hq hv HG HJ
      simp only [St.setV] at HOf
      go_wp2_with fail
      refine (HOf.out _).mono ?_
      rintro x w3 ⟨rfl, hb3⟩
      have S3 := S1.under hb3
      have hB3 := Below.more hB1 hb3 hB1.size
      clear hb3
      obtain ⟨t0, t1, t2, t3⟩ := S3.cells
      have f0 := S3.frozen 0
      have f1 := S3.frozen 1
      have f2 := S3.frozen 2
      have f3 := S3.frozen 3
      go_wp2_with fail
      refine bodyPost_ret (results_set4 rfl _ _ w.heap.size q rfl (S3.put (q := q))) rfl ⟨?_, put4_below hB3 (Nat.le_refl _)⟩
      rw [← HE.out]
      rfl
end Go.Proofs.Ytmlpfgfpmbnbeaa
