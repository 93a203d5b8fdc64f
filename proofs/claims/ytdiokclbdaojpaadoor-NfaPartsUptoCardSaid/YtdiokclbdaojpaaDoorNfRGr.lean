/- What the reference's groups, few and size answer. -/
import Derived.Test.YtdiokclbdaojpaaDoorNfM1
import Derived.Test.YtdiokclbdaojpaaDoorNfM2
import Derived.Test.YtdiokclbdaojpaaDoorNfCnt
namespace Go.Proofs.YtdiokclbdaojpaaDoor
open Go.RowKit

namespace Nt
theorem rloL_take {l : List NT} {i : Nat} (h : i < l.length) (s : Int) : rlo.rloL s (l.take (i + 1)) = (if decide (0 < rlo (l[i])) && (rlo.rloL s (l.take i) == 0 || decide (rlo (l[i]) < rlo.rloL s (l.take i))) then rlo (l[i]) else rlo.rloL s (l.take i)) := by rw [List.take_succ_eq_append_getElem h, rloL_snoc]
theorem ghiL_take' {l : List NT} {i : Nat} (h : i < l.length) (s : Int) : ghi.ghiL s (l.take (i + 1)) = max (ghi.ghiL s (l.take i)) (ghi (l[i])) := by rw [List.take_succ_eq_append_getElem h, ghiL_snoc]
end Nt
set_option maxRecDepth 100000 in
set_option maxHeartbeats 4000000 in
theorem rgroups_any (T : Nt.NT) : ∀ (a : Option Addr) (cap : Nat) (w : World), Nt.Nd w (· < w.heap.size) T a cap →
    Calls Tryd.prog 38 #[Nt.ndV T a cap] w fun e w' => e = .returned (.tuple #[.int .i64 (Nt.rlo T), .int .i64 (Nt.ghi T)]) ∧ Below w.heap.size w w' := by
  induction T using Nt.NT.ind with
  | h T ih =>
  intro a cap w hN
  have IH : Hid _ := ih
  clear ih
  have HL : Hid _ := Nt.rlo_eq T
  have HH : Hid _ := Nt.ghi_eq T
  have hlm := hN.room.1
  have N0 := Nt.node_new w T a cap
  have hB0 : Below w.heap.size w (w.alloc (.cells (Nt.ndA T a cap) 28)) := (Below.refl w.heap.size w).alloc (Nat.le_refl _) _
  simp only [Nt.ndV, Nt.ndA] at N0 hB0 ⊢
  obtain ⟨W, hW⟩ : ∃ W, W = w.alloc (.cells #[.int .u8 (T.k : Int), .int .u64 (St.wd T.s 0 : Nat), .int .u64 (St.wd T.s 1 : Nat), .int .u64 (St.wd T.s 2 : Nat), .int .u64 (St.wd T.s 3 : Nat), .int .i64 T.mn, .int .i64 T.mx, .int .i64 T.gr, .slice a T.kids.length cap] 28) := ⟨_, rfl⟩
  rw [← hW] at N0 hB0
  have hN1 : Nt.Nd W (· < w.heap.size) T a cap := hN.under hB0
  have HN0 : Hid _ := N0
  have HN1 : Hid _ := hN1
  have HB0 : Hid _ := hB0
  obtain ⟨q0, q1, q2, q3, q4, q5, q6, q7, q8⟩ := N0.nine
  clear N0 hN1 hB0 hN
  obtain ⟨S, hS⟩ : ∃ S, (if T.k == 6 then T.gr else 0) = S := ⟨_, rfl⟩
  rw [hS] at HL HH
  have key : Hid (((T.k : Int) == 6) = true → S = T.gr) := fun h => by
    rw [← hS]
    have : (T.k == 6) = true := by simp at h ⊢; omega
    rw [this]; rfl
  have key2 : Hid (((T.k : Int) == 6) = false → S = 0) := fun h => by
    rw [← hS]
    have : (T.k == 6) = false := by simp at h ⊢; omega
    rw [this]; rfl
  clear hS
  go_enter Tryd.func38, Tryd.ntmps38
  cases hk : ((T.k : Int) == 6)
  · obtain rfl : S = 0 := key2.out hk
    go_wp2_with fail
    rw [← hW]
    clear hW key key2 hk q0 q1 q2 q3 q4 q5 q6 q7 q8
    go_loopw [4, 5, 6] (fun lv hv iv wr => ∃ i : Nat, i ≤ T.kids.length ∧ iv = .int .i64 (i : Int) ∧ lv = .int .i64 (Nt.rlo.rloL 0 (T.kids.take i)) ∧ hv = .int .i64 (Nt.ghi.ghiL 0 (T.kids.take i)) ∧ Nt.NodeAt wr w.heap.size T a cap ∧ Nt.Nd wr (· < w.heap.size) T a cap ∧ Below w.heap.size w wr) (fun _ _ iv _ => T.kids.length - (intOf iv).toNat)
    case atStart => exact ⟨0, by omega, rfl, rfl, rfl, HN0.out, HN1.out, HB0.out⟩
    case round =>
      clear HN0 HN1 HB0
      obtain ⟨i, hi, rfl, rfl, rfl, NA, ND, hB⟩ := hrel
      obtain ⟨q0, q1, q2, q3, q4, q5, q6, q7, q8⟩ := NA.nine
      by_cases hlt : i < T.kids.length
      · obtain ⟨b, off, a', cap', rfl, hbB, h9, hk⟩ := ND.kid hlt
        have hsz := hB.size
        have HI : Hid _ := IH.out i hlt a' cap' wr (hk.mono (fun b (h : b < _) => Nat.lt_of_lt_of_le h hsz))
        have HTl : Hid _ := Nt.rloL_take hlt 0
        have HTh : Hid _ := Nt.ghiL_take' hlt 0
        have HNA : Hid _ := NA
        have HND : Hid _ := ND
        obtain ⟨r0, r1, r2, r3, r4, r5, r6, r7, r8⟩ := h9
        simp only [Nt.ndV, Nt.ndA] at HI
        clear hk NA ND IH
        generalize hA : Nt.rlo.rloL 0 (T.kids.take i) = A at *
        generalize hB' : Nt.ghi.ghiL 0 (T.kids.take i) = B at *
        generalize hX : Nt.rlo (T.kids[i]) = X at *
        generalize hY : Nt.ghi (T.kids[i]) = Y at *
        clear hA hB' hX hY
        go_wp2_with fail
        refine Calls.mono HI.out ?_
        rintro x w2 ⟨rfl, hb2⟩
        have NA2 := Nt.NodeAt.under HNA.out hb2
        have ND2 := HND.out.under (hb2.mono hsz)
        have hB2 := hB.trans (hb2.mono hsz)
        clear HI HNA HND hb2 q0 q1 q2 q3 q4 q5 q6 q7 q8 r0 r1 r2 r3 r4 r5 r6 r7 r8
        by_cases hx : 0 < X
        · by_cases ha : A = 0
          · have ha' : (A == 0) = true := by simpa using ha
            have HQ : Hid ((if decide (0 < X) && (A == 0 || decide (X < A)) then X else A) = X) := by show _ = _; rw [decide_eq_true hx, ha']; rfl
            rw [HQ.out] at HTl
            clear ha HQ
            by_cases hy : B < Y
            · have hm : max B Y = Y := by omega
              rw [hm] at HTh
              clear hm
              go_wp2_with fail
              refine ⟨⟨i + 1, by omega, by simp, by rw [HTl.out], by rw [HTh.out], NA2, ND2, hB2⟩, by simp only [intOf]; omega⟩
            · have hm : max B Y = B := by omega
              rw [hm] at HTh
              clear hm
              go_wp2_with fail
              refine ⟨⟨i + 1, by omega, by simp, by rw [HTl.out], by rw [HTh.out], NA2, ND2, hB2⟩, by simp only [intOf]; omega⟩
          · have ha' : (A == 0) = false := by simpa using ha
            by_cases hxa : X < A
            · have HQ : Hid ((if decide (0 < X) && (A == 0 || decide (X < A)) then X else A) = X) := by show _ = _; rw [decide_eq_true hx, ha', decide_eq_true hxa]; rfl
              rw [HQ.out] at HTl
              clear HQ
              by_cases hy : B < Y
              · have hm : max B Y = Y := by omega
                rw [hm] at HTh
                clear hm
                go_wp2_with fail
                refine ⟨⟨i + 1, by omega, by simp, by rw [HTl.out], by rw [HTh.out], NA2, ND2, hB2⟩, by simp only [intOf]; omega⟩
              · have hm : max B Y = B := by omega
                rw [hm] at HTh
                clear hm
                go_wp2_with fail
                refine ⟨⟨i + 1, by omega, by simp, by rw [HTl.out], by rw [HTh.out], NA2, ND2, hB2⟩, by simp only [intOf]; omega⟩
            · have HQ : Hid ((if decide (0 < X) && (A == 0 || decide (X < A)) then X else A) = A) := by show _ = _; rw [decide_eq_true hx, ha', decide_eq_false hxa]; rfl
              rw [HQ.out] at HTl
              clear HQ
              by_cases hy : B < Y
              · have hm : max B Y = Y := by omega
                rw [hm] at HTh
                clear hm
                go_wp2_with fail
                refine ⟨⟨i + 1, by omega, by simp, by rw [HTl.out], by rw [HTh.out], NA2, ND2, hB2⟩, by simp only [intOf]; omega⟩
              · have hm : max B Y = B := by omega
                rw [hm] at HTh
                clear hm
                go_wp2_with fail
                refine ⟨⟨i + 1, by omega, by simp, by rw [HTl.out], by rw [HTh.out], NA2, ND2, hB2⟩, by simp only [intOf]; omega⟩
        · have HQ : Hid ((if decide (0 < X) && (A == 0 || decide (X < A)) then X else A) = A) := by show _ = _; rw [decide_eq_false hx]; rfl
          rw [HQ.out] at HTl
          clear HQ
          by_cases hy : B < Y
          · have hm : max B Y = Y := by omega
            rw [hm] at HTh
            clear hm
            go_wp2_with fail
            refine ⟨⟨i + 1, by omega, by simp, by rw [HTl.out], by rw [HTh.out], NA2, ND2, hB2⟩, by simp only [intOf]; omega⟩
          · have hm : max B Y = B := by omega
            rw [hm] at HTh
            clear hm
            go_wp2_with fail
            refine ⟨⟨i + 1, by omega, by simp, by rw [HTl.out], by rw [HTh.out], NA2, ND2, hB2⟩, by simp only [intOf]; omega⟩
      · obtain rfl : i = T.kids.length := by omega
        rw [List.take_length] at *
        have e1 := HL.out
        have e2 := HH.out
        have HE1 : Hid _ := e1
        have HE2 : Hid _ := e2
        clear NA ND e1 e2
        go_wp2_with fail
        go_ret2
        exact ⟨by rw [HE1.out, HE2.out]; rfl, hB⟩
  · obtain rfl : S = T.gr := key.out hk
    go_wp2_with fail
    rw [← hW]
    clear hW key key2 hk q0 q1 q2 q3 q4 q5 q6 q7 q8
    go_loopw [4, 5, 6] (fun lv hv iv wr => ∃ i : Nat, i ≤ T.kids.length ∧ iv = .int .i64 (i : Int) ∧ lv = .int .i64 (Nt.rlo.rloL T.gr (T.kids.take i)) ∧ hv = .int .i64 (Nt.ghi.ghiL T.gr (T.kids.take i)) ∧ Nt.NodeAt wr w.heap.size T a cap ∧ Nt.Nd wr (· < w.heap.size) T a cap ∧ Below w.heap.size w wr) (fun _ _ iv _ => T.kids.length - (intOf iv).toNat)
    case atStart => exact ⟨0, by omega, rfl, rfl, rfl, HN0.out, HN1.out, HB0.out⟩
    case round =>
      clear HN0 HN1 HB0
      obtain ⟨i, hi, rfl, rfl, rfl, NA, ND, hB⟩ := hrel
      obtain ⟨q0, q1, q2, q3, q4, q5, q6, q7, q8⟩ := NA.nine
      by_cases hlt : i < T.kids.length
      · obtain ⟨b, off, a', cap', rfl, hbB, h9, hk⟩ := ND.kid hlt
        have hsz := hB.size
        have HI : Hid _ := IH.out i hlt a' cap' wr (hk.mono (fun b (h : b < _) => Nat.lt_of_lt_of_le h hsz))
        have HTl : Hid _ := Nt.rloL_take hlt T.gr
        have HTh : Hid _ := Nt.ghiL_take' hlt T.gr
        have HNA : Hid _ := NA
        have HND : Hid _ := ND
        obtain ⟨r0, r1, r2, r3, r4, r5, r6, r7, r8⟩ := h9
        simp only [Nt.ndV, Nt.ndA] at HI
        clear hk NA ND IH
        generalize hA : Nt.rlo.rloL T.gr (T.kids.take i) = A at *
        generalize hB' : Nt.ghi.ghiL T.gr (T.kids.take i) = B at *
        generalize hX : Nt.rlo (T.kids[i]) = X at *
        generalize hY : Nt.ghi (T.kids[i]) = Y at *
        clear hA hB' hX hY
        go_wp2_with fail
        refine Calls.mono HI.out ?_
        rintro x w2 ⟨rfl, hb2⟩
        have NA2 := Nt.NodeAt.under HNA.out hb2
        have ND2 := HND.out.under (hb2.mono hsz)
        have hB2 := hB.trans (hb2.mono hsz)
        clear HI HNA HND hb2 q0 q1 q2 q3 q4 q5 q6 q7 q8 r0 r1 r2 r3 r4 r5 r6 r7 r8
        by_cases hx : 0 < X
        · by_cases ha : A = 0
          · have ha' : (A == 0) = true := by simpa using ha
            have HQ : Hid ((if decide (0 < X) && (A == 0 || decide (X < A)) then X else A) = X) := by show _ = _; rw [decide_eq_true hx, ha']; rfl
            rw [HQ.out] at HTl
            clear ha HQ
            by_cases hy : B < Y
            · have hm : max B Y = Y := by omega
              rw [hm] at HTh
              clear hm
              go_wp2_with fail
              refine ⟨⟨i + 1, by omega, by simp, by rw [HTl.out], by rw [HTh.out], NA2, ND2, hB2⟩, by simp only [intOf]; omega⟩
            · have hm : max B Y = B := by omega
              rw [hm] at HTh
              clear hm
              go_wp2_with fail
              refine ⟨⟨i + 1, by omega, by simp, by rw [HTl.out], by rw [HTh.out], NA2, ND2, hB2⟩, by simp only [intOf]; omega⟩
          · have ha' : (A == 0) = false := by simpa using ha
            by_cases hxa : X < A
            · have HQ : Hid ((if decide (0 < X) && (A == 0 || decide (X < A)) then X else A) = X) := by show _ = _; rw [decide_eq_true hx, ha', decide_eq_true hxa]; rfl
              rw [HQ.out] at HTl
              clear HQ
              by_cases hy : B < Y
              · have hm : max B Y = Y := by omega
                rw [hm] at HTh
                clear hm
                go_wp2_with fail
                refine ⟨⟨i + 1, by omega, by simp, by rw [HTl.out], by rw [HTh.out], NA2, ND2, hB2⟩, by simp only [intOf]; omega⟩
              · have hm : max B Y = B := by omega
                rw [hm] at HTh
                clear hm
                go_wp2_with fail
                refine ⟨⟨i + 1, by omega, by simp, by rw [HTl.out], by rw [HTh.out], NA2, ND2, hB2⟩, by simp only [intOf]; omega⟩
            · have HQ : Hid ((if decide (0 < X) && (A == 0 || decide (X < A)) then X else A) = A) := by show _ = _; rw [decide_eq_true hx, ha', decide_eq_false hxa]; rfl
              rw [HQ.out] at HTl
              clear HQ
              by_cases hy : B < Y
              · have hm : max B Y = Y := by omega
                rw [hm] at HTh
                clear hm
                go_wp2_with fail
                refine ⟨⟨i + 1, by omega, by simp, by rw [HTl.out], by rw [HTh.out], NA2, ND2, hB2⟩, by simp only [intOf]; omega⟩
              · have hm : max B Y = B := by omega
                rw [hm] at HTh
                clear hm
                go_wp2_with fail
                refine ⟨⟨i + 1, by omega, by simp, by rw [HTl.out], by rw [HTh.out], NA2, ND2, hB2⟩, by simp only [intOf]; omega⟩
        · have HQ : Hid ((if decide (0 < X) && (A == 0 || decide (X < A)) then X else A) = A) := by show _ = _; rw [decide_eq_false hx]; rfl
          rw [HQ.out] at HTl
          clear HQ
          by_cases hy : B < Y
          · have hm : max B Y = Y := by omega
            rw [hm] at HTh
            clear hm
            go_wp2_with fail
            refine ⟨⟨i + 1, by omega, by simp, by rw [HTl.out], by rw [HTh.out], NA2, ND2, hB2⟩, by simp only [intOf]; omega⟩
          · have hm : max B Y = B := by omega
            rw [hm] at HTh
            clear hm
            go_wp2_with fail
            refine ⟨⟨i + 1, by omega, by simp, by rw [HTl.out], by rw [HTh.out], NA2, ND2, hB2⟩, by simp only [intOf]; omega⟩
      · obtain rfl : i = T.kids.length := by omega
        rw [List.take_length] at *
        have e1 := HL.out
        have e2 := HH.out
        have HE1 : Hid _ := e1
        have HE2 : Hid _ := e2
        clear NA ND e1 e2
        go_wp2_with fail
        go_ret2
        exact ⟨by rw [HE1.out, HE2.out]; rfl, hB⟩
end Go.Proofs.YtdiokclbdaojpaaDoor
