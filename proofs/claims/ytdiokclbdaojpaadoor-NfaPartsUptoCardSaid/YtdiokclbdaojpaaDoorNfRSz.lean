/- What the reference's few and size answer. -/
import Derived.Test.YtdiokclbdaojpaaDoorNfRGr
namespace Go.Proofs.YtdiokclbdaojpaaDoor
open Go.RowKit

set_option maxRecDepth 100000 in
theorem few_any (n : Nat) (w : World) : Calls Tryd.prog 53 #[.int .i64 (n : Nat)] w fun e w' => e = .returned (.int .i64 (min n 1073741824 : Nat)) ∧ w' = w := by
  by_cases h : 1073741824 < n
  · have hm : Hid (min n 1073741824 = 1073741824) := by show _ = _; omega
    have hd : decide ((1073741824 : Int) < (n : Int)) = true := by simp; omega
    go_enter Tryd.func53, Tryd.ntmps53
    go_wp2_with fail
    go_ret
    exact ⟨by rw [hm.out]; rfl, rfl⟩
  · have hm : Hid (min n 1073741824 = n) := by show _ = _; omega
    have hd : decide ((1073741824 : Int) < (n : Int)) = false := by simp; omega
    have hd2 : ((1073741824 : Int) < (n : Int)) = False := by simp; omega
    go_enter Tryd.func53, Tryd.ntmps53
    go_wp2_with fail
    go_ret
    exact ⟨by rw [hm.out]; rfl, rfl⟩
theorem few_int {z : Int} (n : Nat) (w : World) (h : z = (n : Int)) : Calls Tryd.prog 53 #[.int .i64 z] w fun e w' => e = .returned (.int .i64 (min n 1073741824 : Nat)) ∧ w' = w := by subst h; exact few_any n w
theorem rnd_free2 (m R : Nat) (hm : m ≤ 255) (hR : R ≤ 1073741824) : wrap64 (wrap64 (wrap64 ((m : Int) * (R : Int)) + (R : Int)) + 4) = ((m * R + R + 4 : Nat) : Int) := by
  have h := mul_room hm hR
  rw [← Int.natCast_mul, w64_nat _ (by omega), ← Int.natCast_add, w64_nat _ (by omega)]
  exact w64_nat (m * R + R + 4) (by omega)
theorem rnd_full2 (m n R : Nat) (hm : m ≤ 255) (hn : n ≤ 255) (hR : R ≤ 1073741824) : wrap64 (wrap64 ((m : Int) * (R : Int)) + wrap64 (((m : Int) + (n : Int) - (m : Int)) * ((R : Int) + 3))) = ((m * R + n * (R + 3) : Nat) : Int) := by
  have h := mul_room hm hR
  have h2 := mul_room hn (show R + 3 ≤ 1073741827 by omega)
  have e : ((m : Int) + (n : Int) - (m : Int)) * ((R : Int) + 3) = ((n * (R + 3) : Nat) : Int) := by
    rw [show (m : Int) + (n : Int) - (m : Int) = (n : Int) by omega, Int.natCast_mul]; rfl
  rw [e, ← Int.natCast_mul, w64_nat _ (by omega), w64_nat _ (by omega), ← Int.natCast_add, w64_nat _ (by omega)]
namespace Nt
theorem fit_kids0 {T : NT} (h : fitP T = true) (hk : T.k = 1) : T.kids = [] := by
  rw [fitP, hk] at h
  simp only [Bool.and_eq_true] at h
  obtain ⟨_, _, _, _, _, h6⟩ := h
  simpa using h6
theorem fit_kind {T : NT} (h : fitP T = true) : 1 ≤ T.k ∧ T.k ≤ 9 := by
  rw [fitP] at h
  simp only [Bool.and_eq_true, decide_eq_true_eq] at h
  exact h.1
end Nt
theorem rnd_e1 (m r : Nat) : Nt.rndN (m : Int) (-1) r = m * r + r + 4 := by simp [Nt.rndN]
theorem rnd_e2 (m n r : Nat) : Nt.rndN (m : Int) ((m + n : Nat) : Int) r = m * r + n * (r + 3) := by
  have e2 : (((m + n : Nat) : Int) - (m : Int)).toNat = n := by omega
  have e3 : ((((m + n : Nat) : Int)) == -1) = false := by simp; omega
  rw [Nt.rndN, e3, e2, Int.toNat_natCast]; rfl
theorem min_room (A : Nat) : min A 1073741824 ≤ 1073741824 := Nat.min_le_right _ _
set_option maxRecDepth 100000 in
set_option maxHeartbeats 8000000 in
theorem rsize_any (T : Nt.NT) : ∀ (a : Option Addr) (cap : Nat) (w : World) (nx nx' : Nat) (op : List Nat), Nt.Nd w (· < w.heap.size) T a cap → 1 ≤ nx → Nt.numP T nx op = some nx' →
    Calls Tryd.prog 32 #[Nt.ndV T a cap] w fun e w' => e = .returned (.int .i64 (Nt.rsz T : Nat)) ∧ Below w.heap.size w w' := by
  induction T using Nt.NT.ind with
  | h T ih =>
  intro a cap w nx nx' op hN hnx hnum
  have IH : Hid _ := ih
  clear ih
  obtain ⟨hfit, hkids⟩ := Nt.num_kids hnx hnum
  have HF : Hid _ := hfit
  have HKd : Hid _ := hkids
  obtain ⟨R, hR⟩ : ∃ R, Nt.rsz T = R := ⟨_, rfl⟩
  rw [hR]
  rw [Nt.rsz_eq] at hR
  have HR : Hid _ := hR
  have hlm := hN.room.1
  have HFW : Hid (∀ (n : Nat) (w : World), Calls Tryd.prog 53 #[.int .i64 (n : Nat)] w fun e w' => e = .returned (.int .i64 (min n 1073741824 : Nat)) ∧ w' = w) := few_any
  have HGR : Hid (∀ w', Below w.heap.size w w' → Calls Tryd.prog 38 #[Nt.ndV T a cap] w' fun e w'' => e = .returned (.tuple #[.int .i64 (Nt.rlo T), .int .i64 (Nt.ghi T)]) ∧ Below w'.heap.size w' w'') := fun w' hb => rgroups_any T a cap w' ((hN.under hb).mono (fun b (h : b < _) => Nat.lt_of_lt_of_le h hb.size))
  have N0 := Nt.node_new w T a cap
  have hB0 : Below w.heap.size w (w.alloc (.cells (Nt.ndA T a cap) 28)) := (Below.refl w.heap.size w).alloc (Nat.le_refl _) _
  simp only [Nt.ndV, Nt.ndA] at N0 hB0 HGR ⊢
  obtain ⟨W, hW⟩ : ∃ W, W = w.alloc (.cells #[.int .u8 (T.k : Int), .int .u64 (St.wd T.s 0 : Nat), .int .u64 (St.wd T.s 1 : Nat), .int .u64 (St.wd T.s 2 : Nat), .int .u64 (St.wd T.s 3 : Nat), .int .i64 T.mn, .int .i64 T.mx, .int .i64 T.gr, .slice a T.kids.length cap] 28) := ⟨_, rfl⟩
  rw [← hW] at N0 hB0
  have hN1 : Nt.Nd W (· < w.heap.size) T a cap := hN.under hB0
  have HN0 : Hid _ := N0
  have HN1 : Hid _ := hN1
  have HB0 : Hid _ := hB0
  obtain ⟨q0, q1, q2, q3, q4, q5, q6, q7, q8⟩ := N0.nine
  clear N0 hN1 hB0 hN hR hnum hkids hfit
  go_enter Tryd.func32, Tryd.ntmps32
  go_wp2_with fail
  rw [← hW]
  clear hW q0 q1 q2 q3 q4 q5 q6 q7 q8
  go_loopw [3, 4] (fun sv iv wr => ∃ i : Nat, i ≤ T.kids.length ∧ iv = .int .i64 (i : Int) ∧ sv = .int .i64 (Nt.rsz.rszL 0 (T.kids.take i) : Nat) ∧ Nt.NodeAt wr w.heap.size T a cap ∧ Nt.Nd wr (· < w.heap.size) T a cap ∧ Below w.heap.size w wr) (fun _ iv _ => T.kids.length - (intOf iv).toNat)
  case atStart => exact ⟨0, by omega, rfl, rfl, HN0.out, HN1.out, HB0.out⟩
  case round =>
    clear HN0 HN1 HB0
    obtain ⟨i, hi, rfl, rfl, NA, ND, hB⟩ := hrel
    obtain ⟨q0, q1, q2, q3, q4, q5, q6, q7, q8⟩ := NA.nine
    by_cases hlt : i < T.kids.length
    · obtain ⟨b, off, a', cap', rfl, hbB, h9, hk⟩ := ND.kid hlt
      obtain ⟨n1, n2, o1, hn1, hnk⟩ := HKd.out _ (List.getElem_mem hlt)
      have hsz := hB.size
      have HI : Hid _ := IH.out i hlt a' cap' wr n1 n2 o1 (hk.mono (fun b (h : b < _) => Nat.lt_of_lt_of_le h hsz)) hn1 hnk
      have HT : Hid _ := Nt.rszL_take hlt
      have hs1 := Nt.rszL_le (T.kids.take i) 0 (by omega)
      have hs2 := Nt.rsz_le (T.kids[i])
      have HNA : Hid _ := NA
      have HND : Hid _ := ND
      obtain ⟨r0, r1, r2, r3, r4, r5, r6, r7, r8⟩ := h9
      simp only [Nt.ndV, Nt.ndA] at HI
      clear hk NA ND IH hnk
      generalize hA : Nt.rsz.rszL 0 (T.kids.take i) = A at *
      generalize hX : Nt.rsz (T.kids[i]) = X at *
      clear hA hX
      go_wp2_with fail
      refine Calls.mono HI.out ?_
      rintro x w2 ⟨rfl, hb2⟩
      have NA2 := Nt.NodeAt.under HNA.out hb2
      have ND2 := HND.out.under (hb2.mono hsz)
      have hB2 := hB.trans (hb2.mono hsz)
      have HF2 : Hid _ := HFW.out (A + X) w2
      clear HI HNA HND hb2 q0 q1 q2 q3 q4 q5 q6 q7 q8 r0 r1 r2 r3 r4 r5 r6 r7 r8
      go_wp2_with (go_at_call 53; refine Calls.mono HF2.out ?_; rintro e w3 ⟨rfl, rfl⟩)
      refine ⟨⟨i + 1, by omega, by simp, by rw [HT.out], NA2, ND2, hB2⟩, by simp only [intOf]; omega⟩
    · obtain rfl : i = T.kids.length := by omega
      rw [List.take_length]
      have hs1 := Nt.rszL_le T.kids 0 (by omega)
      have hk := Nt.fit_kind HF.out
      have HKZ : Hid (T.k = 1 → Nt.rsz.rszL 0 T.kids = 0) := fun h => by rw [Nt.fit_kids0 HF.out h]; rfl
      obtain ⟨A, hA⟩ : ∃ A, Nt.rsz.rszL 0 T.kids = A := ⟨_, rfl⟩
      rw [hA] at hs1 HR HKZ ⊢
      clear hA
      by_cases k1 : T.k = 1
      · have hre : Hid (R = 0) := by show _ = _; rw [← HR.out, k1, HKZ.out k1]; rfl
        rw [k1] at q0
        clear NA ND
        go_wp2_with fail
        go_ret
        exact ⟨by rw [hre.out]; rfl, hB⟩
      by_cases k3 : T.k = 3
      · have hre : Hid (R = A) := by show _ = _; rw [← HR.out, k3]; simp [Nt.szN]; omega
        rw [k3] at q0
        clear NA ND
        go_wp2_with fail
        go_ret
        exact ⟨by rw [hre.out]; rfl, hB⟩
      by_cases k6 : T.k = 6
      · have hre : Hid (R = min (A + 2) 1073741824) := by show _ = _; rw [← HR.out, k6]; rfl
        rw [k6] at q0
        have HF2 : Hid _ := HFW.out (A + 2)
        clear NA ND
        go_wp2_with (go_at_call 53; refine Calls.mono (HF2.out _) ?_; rintro e w3 ⟨rfl, rfl⟩)
        go_ret
        exact ⟨by rw [hre.out]; rfl, hB⟩
      by_cases k4 : T.k = 4
      · have h2 := Nt.fit_four HF.out k4
        have hre : Hid (R = min (A + 2 * (T.kids.length - 1)) 1073741824) := by show _ = _; rw [← HR.out, k4]; rfl
        rw [k4] at q0
        clear NA ND
        go_wp2_with fail
        refine Calls.mono (few_int (A + 2 * (T.kids.length - 1)) _ (by omega)) ?_
        rintro e w3 ⟨rfl, rfl⟩
        go_wp2_with fail
        go_ret
        exact ⟨by rw [hre.out]; rfl, hB⟩
      by_cases k5 : T.k = 5
      · obtain ⟨hbn, hk1⟩ := Nt.fit_five HF.out k5
        obtain ⟨m, hm, hm2, hx⟩ := Nt.bnd_of hbn
        have HG : Hid _ := HGR.out wr hB
        have hre : Hid (R = min (Nt.rndN T.mn T.mx (if decide (0 < Nt.rlo T) then A + 1 else A)) 1073741824) := by show _ = _; rw [← HR.out, k5]; rfl
        have HNA : Hid _ := NA
        have d1 : ((T.k : Int) == 1) = false := by simp; omega
        have d3 : ((T.k : Int) == 3) = false := by simp; omega
        have d6 : ((T.k : Int) == 6) = false := by simp; omega
        have d4 : ((T.k : Int) == 4) = false := by simp; omega
        have d5 : ((T.k : Int) == 5) = true := by simp; omega
        clear k1 k3 k6 k4 k5 hk
        rw [hm] at hre
        have HMn : Hid _ := hm
        clear ND hbn NA hk1 hm
        go_wp2_with fail
        refine Calls.mono HG.out ?_
        rintro e w2 ⟨rfl, hb2⟩
        obtain ⟨p0, p1, p2, p3, p4, p5, p6, p7, p8⟩ := (Nt.NodeAt.under HNA.out hb2).nine
        rw [HMn.out] at p5
        have hB2 := hB.trans (hb2.mono hB.size)
        clear HG HGR q0 q1 q2 q3 q4 q5 q6 q7 q8
        have fin : ∀ (r : Nat), Hid ((if decide (0 < Nt.rlo T) then A + 1 else A) = r) → Hid (R = min (Nt.rndN (m : Int) T.mx (min r 1073741824)) 1073741824) := fun r h => by
          show _ = _
          rw [hre.out, h.out]
          exact (Nt.rnd_lid (m : Int) T.mx false r 1073741824 (by omega)).symm
        have Hfin : Hid _ := fin
        clear fin hre
        by_cases hlo : 0 < Nt.rlo T
        · have hfr := Hfin.out (A + 1) (by show _ = _; rw [decide_eq_true hlo]; rfl)
          have HFR : Hid _ := hfr.out
          clear hfr Hfin
          rcases hx with hx | ⟨n, hx, hn⟩
          · rw [hx] at p6 HFR
            clear hx
            go_wp2_with fail
            refine Calls.mono (few_int (A + 1) _ (by omega)) ?_
            rintro e w3 ⟨rfl, rfl⟩
            have hrm := min_room (A + 1)
            generalize min (A + 1) 1073741824 = r at *
            go_wp2_with fail
            refine Calls.mono (few_int (m * r + r + 4) _ (rnd_free2 m r hm2 hrm)) ?_
            rintro e w3 ⟨rfl, rfl⟩
            go_wp2_with fail
            go_ret
            exact ⟨ret_int (by rw [HFR.out, rnd_e1]), hB2⟩
          · rw [hx] at p6 HFR
            have hnn : n ≤ 255 := by omega
            have hneg : decide ((((m + n : Nat) : Int)) < 0) = false := by simp; omega
            clear hx
            go_wp2_with fail
            refine Calls.mono (few_int (A + 1) _ (by omega)) ?_
            rintro e w3 ⟨rfl, rfl⟩
            have hrm := min_room (A + 1)
            generalize min (A + 1) 1073741824 = r at *
            go_wp2_with fail
            refine Calls.mono (few_int (m * r + n * (r + 3)) _ (rnd_full2 m n r hm2 hnn hrm)) ?_
            rintro e w3 ⟨rfl, rfl⟩
            go_wp2_with fail
            go_ret
            exact ⟨ret_int (by rw [HFR.out, rnd_e2]), hB2⟩
        · have hfr := Hfin.out A (by show _ = _; rw [decide_eq_false hlo]; rfl)
          have HFR : Hid _ := hfr.out
          clear hfr Hfin
          rcases hx with hx | ⟨n, hx, hn⟩
          · rw [hx] at p6 HFR
            clear hx
            go_wp2_with fail
            refine Calls.mono (few_int A _ (by omega)) ?_
            rintro e w3 ⟨rfl, rfl⟩
            have hrm := min_room A
            generalize min A 1073741824 = r at *
            go_wp2_with fail
            refine Calls.mono (few_int (m * r + r + 4) _ (rnd_free2 m r hm2 hrm)) ?_
            rintro e w3 ⟨rfl, rfl⟩
            go_wp2_with fail
            go_ret
            exact ⟨ret_int (by rw [HFR.out, rnd_e1]), hB2⟩
          · rw [hx] at p6 HFR
            have hnn : n ≤ 255 := by omega
            have hneg : decide ((((m + n : Nat) : Int)) < 0) = false := by simp; omega
            clear hx
            go_wp2_with fail
            refine Calls.mono (few_int A _ (by omega)) ?_
            rintro e w3 ⟨rfl, rfl⟩
            have hrm := min_room A
            generalize min A 1073741824 = r at *
            go_wp2_with fail
            refine Calls.mono (few_int (m * r + n * (r + 3)) _ (rnd_full2 m n r hm2 hnn hrm)) ?_
            rintro e w3 ⟨rfl, rfl⟩
            go_wp2_with fail
            go_ret
            exact ⟨ret_int (by rw [HFR.out, rnd_e2]), hB2⟩
      have hre : Hid (R = 1) := by
        show _ = _
        rw [← HR.out]
        have : T.k = 2 ∨ T.k = 7 ∨ T.k = 8 ∨ T.k = 9 := by omega
        rcases this with h | h | h | h <;> rw [h] <;> rfl
      have d1 : ¬ ((T.k : Int) = 1) := by omega
      have d3 : ¬ ((T.k : Int) = 3) := by omega
      have d6 : ¬ ((T.k : Int) = 6) := by omega
      have d4 : ¬ ((T.k : Int) = 4) := by omega
      have d5 : ¬ ((T.k : Int) = 5) := by omega
      clear NA ND
      go_wp2_with fail
      go_ret
      exact ⟨by rw [hre.out]; rfl, hB⟩
end Go.Proofs.YtdiokclbdaojpaaDoor
