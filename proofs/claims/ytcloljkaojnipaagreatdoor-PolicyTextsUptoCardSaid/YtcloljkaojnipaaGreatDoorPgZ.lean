/- What the reference's Alike answers of two lists of paths: whether they are one. What the reference's Same answers of two policies. What slices.EqualFunc answers of two lists of paths, and policy.samePaths. What policy.Same answers of two policies. -/
import Derived.Test.YtcloljkaojnipaaGreatDoorPgF
namespace Go.Proofs.YtcloljkaojnipaaGreatDoor
open Go.RowKit

set_option maxRecDepth 100000 in
set_option maxHeartbeats 1000000 in
theorem alike_gen (a1 a2 : Option Addr) (c1 c2 : Nat) (l1 l2 : List (List ByteArray)) (w : World) (h1 : Pts w a1 c1 l1) (h2 : Pts w a2 c2 l2) :
    Calls Tryz.prog 33 #[.slice a1 l1.length c1, .slice a2 l2.length c2] w fun e w' => e = .returned (.bool (decide (l1 = l2))) ∧ Below w.heap.size w w' := by
  have hl1 := h1.len
  have hl2 := h2.len
  by_cases hn : l1.length = l2.length
  · have HN : Hid (l1.length = l2.length) := hn
    have hq : ((l1.length : Int) != (l2.length : Int)) = false := by simp [hn]
    clear hn
    go_enter Tryz.func33, Tryz.ntmps33
    go_wp2_with fail
    go_loopw [5] (fun i wr => ∃ k : Nat, k ≤ l1.length ∧ i = .int .i64 k ∧ Hid (l1.take k = l2.take k) ∧ Below w.heap.size w wr) (fun i _ => l1.length - (intOf i).toNat)
    case atStart => exact ⟨0, Nat.zero_le _, rfl, rfl, Below.refl _ _⟩
    case round =>
      obtain ⟨k, hk, rfl, HK, hnx⟩ := hrel
      have hsz := hnx.size
      by_cases hlt : k < l1.length
      · have hlt2 : k < l2.length := by have := HN.out; omega
        obtain ⟨b1, o1, x1, d1, rfl, hb1, e1, s1⟩ := (h1.below hnx).cells k hlt
        obtain ⟨b2, o2, x2, d2, rfl, hb2, e2, s2⟩ := (h2.below hnx).cells k hlt2
        have i1 : (k : Int) < (l1.length : Int) := by omega
        have i2 : (k : Int) < (l2.length : Int) := by omega
        have HS : Hid (l1[k]'hlt = l2[k]'hlt2 → l1.take (k + 1) = l2.take (k + 1)) := fun e => by
          rw [List.take_succ_eq_append_getElem hlt, List.take_succ_eq_append_getElem hlt2, HK.out, e]
        have HD : Hid (l1[k]'hlt ≠ l2[k]'hlt2 → ¬ l1 = l2) := fun e q => e (by subst q; rfl)
        have y1 := s1.len
        have y2 := s2.len
        generalize l1[k]'hlt = p at *
        generalize l2[k]'hlt2 = q at *
        have hsm := same_b _ _ _ _ p q wr.drew (s1.below (Below.refl _ _).drew) (s2.below (Below.refl _ _).drew)
        cases hpq : Pl.sameP p q
        · have hne : Hid (decide (l1 = l2) = false) := decide_eq_false (HD.out fun e => by subst e; rw [(Pl.same_iff p p).2 rfl] at hpq; cases hpq)
          rw [hpq] at hsm
          have HW : Hid (Calls Tryz.prog 65 #[.slice x1 p.length d1, .slice x2 q.length d2] wr.drew fun e w' => e = .returned (.bool false) ∧ Below wr.drew.heap.size wr.drew w') := hsm
          clear hsm hpq
          go_wp2_with fail
          go_region_with (go_at_call 65; refine HW.out.mono ?_; rintro e w2 ⟨rfl, hb⟩)
          all_goals have hB2 : Below w.heap.size w w2 := hnx.drew.trans (hb.mono hsz)
          all_goals go_wp2_with fail
          all_goals go_ret
          all_goals (rw [hne.out]; exact ⟨rfl, hB2⟩)
        · have HE : Hid (l1.take (k + 1) = l2.take (k + 1)) := HS.out ((Pl.same_iff p q).1 hpq)
          rw [hpq] at hsm
          have HW : Hid (Calls Tryz.prog 65 #[.slice x1 p.length d1, .slice x2 q.length d2] wr.drew fun e w' => e = .returned (.bool true) ∧ Below wr.drew.heap.size wr.drew w') := hsm
          clear hsm hpq
          go_wp2_with fail
          go_region_with (go_at_call 65; refine HW.out.mono ?_; rintro e w2 ⟨rfl, hb⟩)
          all_goals have hB2 : Below w.heap.size w w2 := hnx.drew.trans (hb.mono hsz)
          all_goals go_wp2_with fail
          all_goals exact ⟨⟨k + 1, by omega, by go_num, HE, hB2⟩, by simp [intOf]; omega⟩
      · have i1 : ¬ (k : Int) < (l1.length : Int) := by omega
        have HE : Hid (decide (l1 = l2) = true) := decide_eq_true (by
          have := HK.out
          have hh := HN.out
          rwa [List.take_of_length_le (by omega), List.take_of_length_le (by omega)] at this)
        go_wp2_with fail
        go_ret
        rw [HE.out]
        exact ⟨rfl, hnx⟩
  · have hq : ((l1.length : Int) != (l2.length : Int)) = true := by simp; omega
    have HE : Hid (decide (l1 = l2) = false) := decide_eq_false fun e => hn (by rw [e])
    go_enter Tryz.func33, Tryz.ntmps33
    go_wp2_with fail
    go_ret
    rw [HE.out]
    exact ⟨rfl, Below.refl _ _⟩
end Go.Proofs.YtcloljkaojnipaaGreatDoor
namespace Go.Proofs.YtcloljkaojnipaaGreatDoor
open Go.RowKit

namespace Pl
/-- Whether two policies are one. -/
def psameP (R W S V : List (List ByteArray)) (f m o e f2 m2 o2 e2 : Int) : Bool := decide (R = S) && (decide (W = V) && ((f == f2) && ((m == m2) && ((o == o2) && (e == e2)))))
end Pl

set_option maxRecDepth 100000 in
set_option maxHeartbeats 2000000 in
theorem rpsame_any (ar aw az av : Option Addr) (cr cw cs cv : Nat) (R W S V : List (List ByteArray)) (f m o e f2 m2 o2 e2 : Int) (w : World) (hr : Pts w ar cr R) (hw : Pts w aw cw W) (hs : Pts w az cs S) (hv : Pts w av cv V) :
    Calls Tryz.prog 15 #[.agg #[.slice ar R.length cr, .slice aw W.length cw, .int .i64 f, .int .i64 m, .int .i64 o, .int .i64 e], .agg #[.slice az S.length cs, .slice av V.length cv, .int .i64 f2, .int .i64 m2, .int .i64 o2, .int .i64 e2]] w fun x w' => x = .returned (.bool (Pl.psameP R W S V f m o e f2 m2 o2 e2)) ∧ Below w.heap.size w w' := by
  obtain ⟨w1, hw1e⟩ : ∃ w1, w1 = (w.alloc (.cells #[.slice ar R.length cr, .slice aw W.length cw, .int .i64 f, .int .i64 m, .int .i64 o, .int .i64 e] 24)).alloc (.cells #[.slice az S.length cs, .slice av V.length cv, .int .i64 f2, .int .i64 m2, .int .i64 o2, .int .i64 e2] 24) := ⟨_, rfl⟩
  have hB1 : Below w.heap.size w w1 := by rw [hw1e]; exact ((Below.refl _ _).alloc (Nat.le_refl _) _).alloc (by simp) _
  have HW1 : Hid (w1 = (w.alloc (.cells #[.slice ar R.length cr, .slice aw W.length cw, .int .i64 f, .int .i64 m, .int .i64 o, .int .i64 e] 24)).alloc (.cells #[.slice az S.length cs, .slice av V.length cv, .int .i64 f2, .int .i64 m2, .int .i64 o2, .int .i64 e2] 24)) := hw1e
  have hg : w.heap.size < w1.heap.size ∧ w.heap.size + 1 < w1.heap.size := by rw [hw1e]; simp; omega
  have HQ : Hid (∀ w2, Below w1.heap.size w1 w2 → (w2.cell? ⟨w.heap.size, 1, none⟩ = some (.slice aw W.length cw) ∧ w2.cell? ⟨w.heap.size, 2, none⟩ = some (.int .i64 f) ∧ w2.cell? ⟨w.heap.size, 3, none⟩ = some (.int .i64 m) ∧ w2.cell? ⟨w.heap.size, 4, none⟩ = some (.int .i64 o) ∧ w2.cell? ⟨w.heap.size, 5, none⟩ = some (.int .i64 e)) ∧ w2.cell? ⟨w.heap.size + 1, 1, none⟩ = some (.slice av V.length cv) ∧ w2.cell? ⟨w.heap.size + 1, 2, none⟩ = some (.int .i64 f2) ∧ w2.cell? ⟨w.heap.size + 1, 3, none⟩ = some (.int .i64 m2) ∧ w2.cell? ⟨w.heap.size + 1, 4, none⟩ = some (.int .i64 o2) ∧ w2.cell? ⟨w.heap.size + 1, 5, none⟩ = some (.int .i64 e2)) := by
    intro w2 hb
    refine ⟨⟨?_, ?_, ?_, ?_, ?_⟩, ?_, ?_, ?_, ?_, ?_⟩
    all_goals first
      | exact (hb.cell (p := ⟨w.heap.size, _, none⟩) hg.1).trans (by rw [hw1e]; simp [go_sem])
      | exact (hb.cell (p := ⟨w.heap.size + 1, _, none⟩) hg.2).trans (by rw [hw1e]; simp [go_sem])
  have hr1 := hr.below hB1
  have hw1 := hw.below hB1
  have hs1 := hs.below hB1
  have hv1 := hv.below hB1
  have HM : Hid (Pl.psameP R W S V f m o e f2 m2 o2 e2 = (decide (R = S) && (decide (W = V) && ((f == f2) && ((m == m2) && ((o == o2) && (e == e2))))))) := rfl
  clear hw1e
  cases c0 : decide (R = S)
  · have HE : Hid (Pl.psameP R W S V f m o e f2 m2 o2 e2 = false) := by show _ = _; rw [HM.out, c0]; simp
    go_enter Tryz.func15, Tryz.ntmps15
    go_wp2_with fail
    rw [← HW1.out]
    refine (alike_gen _ _ _ _ R S _ hr1 hs1).mono ?_; rw [c0]; rintro x w2 ⟨rfl, hb⟩
    have hB2 := hB1.trans (hb.mono hB1.size)
    go_wp2_with fail
    go_ret
    rw [HE.out]
    exact ⟨rfl, hB2⟩
  cases c1 : decide (W = V)
  · have HE : Hid (Pl.psameP R W S V f m o e f2 m2 o2 e2 = false) := by show _ = _; rw [HM.out, c0, c1]; simp
    go_enter Tryz.func15, Tryz.ntmps15
    go_wp2_with fail
    rw [← HW1.out]
    refine (alike_gen _ _ _ _ R S _ hr1 hs1).mono ?_; rw [c0]; rintro x w2 ⟨rfl, hb⟩
    have hB2 := hB1.trans (hb.mono hB1.size)
    obtain ⟨⟨q1, q2, q3, q4, q5⟩, r1, r2, r3, r4, r5⟩ := HQ.out w2 hb
    have hw2 := hw1.below hb
    have hv2 := hv1.below hb
    go_wp2_with fail
    clear q1 q2 q3 q4 q5 r1 r2 r3 r4 r5
    refine (alike_gen _ _ _ _ W V _ hw2 hv2).mono ?_; rw [c1]; rintro x w3 ⟨rfl, hb3⟩
    have hB3 := hB2.trans (hb3.mono hB2.size)
    obtain ⟨⟨q1, q2, q3, q4, q5⟩, r1, r2, r3, r4, r5⟩ := HQ.out w3 (hb.trans (hb3.mono hb.size))
    go_wp2_with fail
    go_ret
    rw [HE.out]
    exact ⟨rfl, hB3⟩
  cases c2 : (f == f2)
  · have HE : Hid (Pl.psameP R W S V f m o e f2 m2 o2 e2 = false) := by show _ = _; rw [HM.out, c0, c1, c2]; simp
    go_enter Tryz.func15, Tryz.ntmps15
    go_wp2_with fail
    rw [← HW1.out]
    refine (alike_gen _ _ _ _ R S _ hr1 hs1).mono ?_; rw [c0]; rintro x w2 ⟨rfl, hb⟩
    have hB2 := hB1.trans (hb.mono hB1.size)
    obtain ⟨⟨q1, q2, q3, q4, q5⟩, r1, r2, r3, r4, r5⟩ := HQ.out w2 hb
    have hw2 := hw1.below hb
    have hv2 := hv1.below hb
    go_wp2_with fail
    clear q1 q2 q3 q4 q5 r1 r2 r3 r4 r5
    refine (alike_gen _ _ _ _ W V _ hw2 hv2).mono ?_; rw [c1]; rintro x w3 ⟨rfl, hb3⟩
    have hB3 := hB2.trans (hb3.mono hB2.size)
    obtain ⟨⟨q1, q2, q3, q4, q5⟩, r1, r2, r3, r4, r5⟩ := HQ.out w3 (hb.trans (hb3.mono hb.size))
    go_wp2_with fail
    go_ret
    rw [HE.out]
    exact ⟨rfl, hB3⟩
  cases c3 : (m == m2)
  · have HE : Hid (Pl.psameP R W S V f m o e f2 m2 o2 e2 = false) := by show _ = _; rw [HM.out, c0, c1, c2, c3]; simp
    go_enter Tryz.func15, Tryz.ntmps15
    go_wp2_with fail
    rw [← HW1.out]
    refine (alike_gen _ _ _ _ R S _ hr1 hs1).mono ?_; rw [c0]; rintro x w2 ⟨rfl, hb⟩
    have hB2 := hB1.trans (hb.mono hB1.size)
    obtain ⟨⟨q1, q2, q3, q4, q5⟩, r1, r2, r3, r4, r5⟩ := HQ.out w2 hb
    have hw2 := hw1.below hb
    have hv2 := hv1.below hb
    go_wp2_with fail
    clear q1 q2 q3 q4 q5 r1 r2 r3 r4 r5
    refine (alike_gen _ _ _ _ W V _ hw2 hv2).mono ?_; rw [c1]; rintro x w3 ⟨rfl, hb3⟩
    have hB3 := hB2.trans (hb3.mono hB2.size)
    obtain ⟨⟨q1, q2, q3, q4, q5⟩, r1, r2, r3, r4, r5⟩ := HQ.out w3 (hb.trans (hb3.mono hb.size))
    go_wp2_with fail
    go_ret
    rw [HE.out]
    exact ⟨rfl, hB3⟩
  cases c4 : (o == o2)
  · have HE : Hid (Pl.psameP R W S V f m o e f2 m2 o2 e2 = false) := by show _ = _; rw [HM.out, c0, c1, c2, c3, c4]; simp
    go_enter Tryz.func15, Tryz.ntmps15
    go_wp2_with fail
    rw [← HW1.out]
    refine (alike_gen _ _ _ _ R S _ hr1 hs1).mono ?_; rw [c0]; rintro x w2 ⟨rfl, hb⟩
    have hB2 := hB1.trans (hb.mono hB1.size)
    obtain ⟨⟨q1, q2, q3, q4, q5⟩, r1, r2, r3, r4, r5⟩ := HQ.out w2 hb
    have hw2 := hw1.below hb
    have hv2 := hv1.below hb
    go_wp2_with fail
    clear q1 q2 q3 q4 q5 r1 r2 r3 r4 r5
    refine (alike_gen _ _ _ _ W V _ hw2 hv2).mono ?_; rw [c1]; rintro x w3 ⟨rfl, hb3⟩
    have hB3 := hB2.trans (hb3.mono hB2.size)
    obtain ⟨⟨q1, q2, q3, q4, q5⟩, r1, r2, r3, r4, r5⟩ := HQ.out w3 (hb.trans (hb3.mono hb.size))
    go_wp2_with fail
    go_ret
    rw [HE.out]
    exact ⟨rfl, hB3⟩
  cases c5 : (e == e2)
  · have HE : Hid (Pl.psameP R W S V f m o e f2 m2 o2 e2 = false) := by show _ = _; rw [HM.out, c0, c1, c2, c3, c4, c5]; simp
    go_enter Tryz.func15, Tryz.ntmps15
    go_wp2_with fail
    rw [← HW1.out]
    refine (alike_gen _ _ _ _ R S _ hr1 hs1).mono ?_; rw [c0]; rintro x w2 ⟨rfl, hb⟩
    have hB2 := hB1.trans (hb.mono hB1.size)
    obtain ⟨⟨q1, q2, q3, q4, q5⟩, r1, r2, r3, r4, r5⟩ := HQ.out w2 hb
    have hw2 := hw1.below hb
    have hv2 := hv1.below hb
    go_wp2_with fail
    clear q1 q2 q3 q4 q5 r1 r2 r3 r4 r5
    refine (alike_gen _ _ _ _ W V _ hw2 hv2).mono ?_; rw [c1]; rintro x w3 ⟨rfl, hb3⟩
    have hB3 := hB2.trans (hb3.mono hB2.size)
    obtain ⟨⟨q1, q2, q3, q4, q5⟩, r1, r2, r3, r4, r5⟩ := HQ.out w3 (hb.trans (hb3.mono hb.size))
    go_wp2_with fail
    go_ret
    rw [HE.out]
    exact ⟨rfl, hB3⟩
  have HE : Hid (Pl.psameP R W S V f m o e f2 m2 o2 e2 = true) := by show _ = _; rw [HM.out, c0, c1, c2, c3, c4, c5]; rfl
  go_enter Tryz.func15, Tryz.ntmps15
  go_wp2_with fail
  rw [← HW1.out]
  refine (alike_gen _ _ _ _ R S _ hr1 hs1).mono ?_; rw [c0]; rintro x w2 ⟨rfl, hb⟩
  have hB2 := hB1.trans (hb.mono hB1.size)
  obtain ⟨⟨q1, q2, q3, q4, q5⟩, r1, r2, r3, r4, r5⟩ := HQ.out w2 hb
  have hw2 := hw1.below hb
  have hv2 := hv1.below hb
  go_wp2_with fail
  clear q1 q2 q3 q4 q5 r1 r2 r3 r4 r5
  refine (alike_gen _ _ _ _ W V _ hw2 hv2).mono ?_; rw [c1]; rintro x w3 ⟨rfl, hb3⟩
  have hB3 := hB2.trans (hb3.mono hB2.size)
  obtain ⟨⟨q1, q2, q3, q4, q5⟩, r1, r2, r3, r4, r5⟩ := HQ.out w3 (hb.trans (hb3.mono hb.size))
  go_wp2_with fail
  go_ret
  rw [HE.out]
  exact ⟨rfl, hB3⟩
end Go.Proofs.YtcloljkaojnipaaGreatDoor
namespace Go.Proofs.YtcloljkaojnipaaGreatDoor
open Go.RowKit

namespace Pl
theorem cmp_dec (p q : List ByteArray) : (cmpP p q == 0) = decide (p = q) := by
  by_cases h : p = q
  · subst h
    rw [decide_eq_true rfl, beq_iff_eq]
    exact (cmpP_cmp.eq p p).2 rfl
  · rw [decide_eq_false h]
    exact beq_eq_false_iff_ne.2 fun e => h ((cmpP_cmp.eq p q).1 e)
end Pl

theorem eqclo_any (a1 a2 : Option Addr) (c1 c2 : Nat) (p q : List ByteArray) (w : World) (h1 : Strs w a1 c1 p) (h2 : Strs w a2 c2 q) :
    Calls Tryz.prog 67 #[.slice a1 p.length c1, .slice a2 q.length c2] w fun e w' => e = .returned (.bool (decide (p = q))) ∧ w = w' := by
  have hl1 := h1.len
  have hl2 := h2.len
  have HD : Hid ((Pl.cmpP p q == 0) = decide (p = q)) := Pl.cmp_dec p q
  go_enter Tryz.func67, Tryz.ntmps67
  go_wp2_with (go_at_call 58; refine (compare_any _ _ _ _ p q _ h1 h2).mono ?_; rintro e w' ⟨rfl, rfl⟩)
  go_ret
  exact ⟨by rw [← HD.out]; rfl, rfl⟩

set_option maxRecDepth 100000 in
set_option maxHeartbeats 1000000 in
theorem eqf_any (a1 a2 : Option Addr) (c1 c2 : Nat) (l1 l2 : List (List ByteArray)) (w : World) (h1 : Pts w a1 c1 l1) (h2 : Pts w a2 c2 l2) :
    Calls Tryz.prog 66 #[.slice a1 l1.length c1, .slice a2 l2.length c2, .func (.func 67) #[] #[]] w fun e w' => e = .returned (.bool (decide (l1 = l2))) ∧ Below w.heap.size w w' := by
  have hl1 := h1.len
  have hl2 := h2.len
  by_cases hn : l1.length = l2.length
  · have HN : Hid (l1.length = l2.length) := hn
    have hq : ((l1.length : Int) != (l2.length : Int)) = false := by simp [hn]
    clear hn
    go_enter Tryz.func66, Tryz.ntmps66
    go_wp2_with fail
    go_loopw [17] (fun i wr => ∃ k : Nat, k ≤ l1.length ∧ i = .int .i64 k ∧ Hid (l1.take k = l2.take k) ∧ Below w.heap.size w wr) (fun i _ => l1.length - (intOf i).toNat)
    case atStart => exact ⟨0, Nat.zero_le _, rfl, rfl, Below.refl _ _⟩
    case round =>
      obtain ⟨k, hk, rfl, HK, hnx⟩ := hrel
      have hsz := hnx.size
      by_cases hlt : k < l1.length
      · have hlt2 : k < l2.length := by have := HN.out; omega
        obtain ⟨b1, o1, x1, d1, rfl, hb1, e1, s1⟩ := (h1.below hnx).cells k hlt
        obtain ⟨b2, o2, x2, d2, rfl, hb2, e2, s2⟩ := (h2.below hnx).cells k hlt2
        have i1 : (k : Int) < (l1.length : Int) := by omega
        have i2 : (k : Int) < (l2.length : Int) := by omega
        have HS : Hid (l1[k]'hlt = l2[k]'hlt2 → l1.take (k + 1) = l2.take (k + 1)) := fun e => by
          rw [List.take_succ_eq_append_getElem hlt, List.take_succ_eq_append_getElem hlt2, HK.out, e]
        have HD : Hid (l1[k]'hlt ≠ l2[k]'hlt2 → ¬ l1 = l2) := fun e q => e (by subst q; rfl)
        have y1 := s1.len
        have y2 := s2.len
        generalize l1[k]'hlt = p at *
        generalize l2[k]'hlt2 = q at *
        have hsm := eqclo_any _ _ _ _ p q wr s1 s2
        cases hpq : decide (p = q)
        · have hne : Hid (decide (l1 = l2) = false) := decide_eq_false (HD.out (of_decide_eq_false hpq))
          rw [hpq] at hsm
          clear hpq
          go_wp2_with fail
          refine hsm.mono ?_
          rintro e w2 ⟨rfl, rfl⟩
          go_wp2_with fail
          go_ret
          rw [hne.out]
          exact ⟨rfl, hnx⟩
        · have HE : Hid (l1.take (k + 1) = l2.take (k + 1)) := HS.out (of_decide_eq_true hpq)
          rw [hpq] at hsm
          clear hpq
          go_wp2_with fail
          refine hsm.mono ?_
          rintro e w2 ⟨rfl, rfl⟩
          go_wp2_with fail
          go_roundw
          case rel => exact ⟨k + 1, by omega, by go_num, HE, hnx⟩
          case measure => simp [intOf]; omega
      · have i1 : ¬ (k : Int) < (l1.length : Int) := by omega
        have HE : Hid (decide (l1 = l2) = true) := decide_eq_true (by
          have := HK.out
          have hh := HN.out
          rwa [List.take_of_length_le (by omega), List.take_of_length_le (by omega)] at this)
        go_wp2_with fail
        go_ret
        rw [HE.out]
        exact ⟨rfl, hnx⟩
  · have hq : ((l1.length : Int) != (l2.length : Int)) = true := by simp; omega
    have HE : Hid (decide (l1 = l2) = false) := decide_eq_false fun e => hn (by rw [e])
    go_enter Tryz.func66, Tryz.ntmps66
    go_wp2_with fail
    go_ret
    rw [HE.out]
    exact ⟨rfl, Below.refl _ _⟩
end Go.Proofs.YtcloljkaojnipaaGreatDoor
namespace Go.Proofs.YtcloljkaojnipaaGreatDoor
open Go.RowKit

theorem samep_any (a1 a2 : Option Addr) (c1 c2 : Nat) (l1 l2 : List (List ByteArray)) (w : World) (h1 : Pts w a1 c1 l1) (h2 : Pts w a2 c2 l2) :
    Calls Tryz.prog 34 #[.slice a1 l1.length c1, .slice a2 l2.length c2] w fun e w' => e = .returned (.bool (decide (l1 = l2))) ∧ Below w.heap.size w w' := by
  have hl1 := h1.len
  have hl2 := h2.len
  go_enter Tryz.func34, Tryz.ntmps34
  go_wp2_with fail
  refine (eqf_any _ _ _ _ l1 l2 _ h1 h2).mono ?_
  rintro e w' ⟨rfl, hb⟩
  go_wp2_with fail
  go_ret
  exact ⟨rfl, hb⟩

set_option maxRecDepth 100000 in
set_option maxHeartbeats 2000000 in
theorem psame_any (ar aw az av : Option Addr) (cr cw cs cv : Nat) (R W S V : List (List ByteArray)) (f m o e f2 m2 o2 e2 : Int) (w : World) (hr : Pts w ar cr R) (hw : Pts w aw cw W) (hs : Pts w az cs S) (hv : Pts w av cv V) :
    Calls Tryz.prog 16 #[.agg #[.slice ar R.length cr, .slice aw W.length cw, .int .i64 f, .int .i64 m, .int .i64 o, .int .i64 e], .agg #[.slice az S.length cs, .slice av V.length cv, .int .i64 f2, .int .i64 m2, .int .i64 o2, .int .i64 e2]] w fun x w' => x = .returned (.bool (Pl.psameP R W S V f m o e f2 m2 o2 e2)) ∧ Below w.heap.size w w' := by
  obtain ⟨w1, hw1e⟩ : ∃ w1, w1 = (w.alloc (.cells #[.slice ar R.length cr, .slice aw W.length cw, .int .i64 f, .int .i64 m, .int .i64 o, .int .i64 e] 24)).alloc (.cells #[.slice az S.length cs, .slice av V.length cv, .int .i64 f2, .int .i64 m2, .int .i64 o2, .int .i64 e2] 24) := ⟨_, rfl⟩
  have hB1 : Below w.heap.size w w1 := by rw [hw1e]; exact ((Below.refl _ _).alloc (Nat.le_refl _) _).alloc (by simp) _
  have HW1 : Hid (w1 = (w.alloc (.cells #[.slice ar R.length cr, .slice aw W.length cw, .int .i64 f, .int .i64 m, .int .i64 o, .int .i64 e] 24)).alloc (.cells #[.slice az S.length cs, .slice av V.length cv, .int .i64 f2, .int .i64 m2, .int .i64 o2, .int .i64 e2] 24)) := hw1e
  have hg : w.heap.size < w1.heap.size ∧ w.heap.size + 1 < w1.heap.size := by rw [hw1e]; simp; omega
  have HQ : Hid (∀ w2, Below w1.heap.size w1 w2 → (w2.cell? ⟨w.heap.size, 1, none⟩ = some (.slice aw W.length cw) ∧ w2.cell? ⟨w.heap.size, 2, none⟩ = some (.int .i64 f) ∧ w2.cell? ⟨w.heap.size, 3, none⟩ = some (.int .i64 m) ∧ w2.cell? ⟨w.heap.size, 4, none⟩ = some (.int .i64 o) ∧ w2.cell? ⟨w.heap.size, 5, none⟩ = some (.int .i64 e)) ∧ w2.cell? ⟨w.heap.size + 1, 1, none⟩ = some (.slice av V.length cv) ∧ w2.cell? ⟨w.heap.size + 1, 2, none⟩ = some (.int .i64 f2) ∧ w2.cell? ⟨w.heap.size + 1, 3, none⟩ = some (.int .i64 m2) ∧ w2.cell? ⟨w.heap.size + 1, 4, none⟩ = some (.int .i64 o2) ∧ w2.cell? ⟨w.heap.size + 1, 5, none⟩ = some (.int .i64 e2)) := by
    intro w2 hb
    refine ⟨⟨?_, ?_, ?_, ?_, ?_⟩, ?_, ?_, ?_, ?_, ?_⟩
    all_goals first
      | exact (hb.cell (p := ⟨w.heap.size, _, none⟩) hg.1).trans (by rw [hw1e]; simp [go_sem])
      | exact (hb.cell (p := ⟨w.heap.size + 1, _, none⟩) hg.2).trans (by rw [hw1e]; simp [go_sem])
  have hr1 := hr.below hB1
  have hw1 := hw.below hB1
  have hs1 := hs.below hB1
  have hv1 := hv.below hB1
  have HM : Hid (Pl.psameP R W S V f m o e f2 m2 o2 e2 = (decide (R = S) && (decide (W = V) && ((f == f2) && ((m == m2) && ((o == o2) && (e == e2))))))) := rfl
  clear hw1e
  cases c0 : decide (R = S)
  · have HE : Hid (Pl.psameP R W S V f m o e f2 m2 o2 e2 = false) := by show _ = _; rw [HM.out, c0]; simp
    go_enter Tryz.func16, Tryz.ntmps16
    go_wp2_with fail
    rw [← HW1.out]
    refine (samep_any _ _ _ _ R S _ hr1 hs1).mono ?_; rw [c0]; rintro x w2 ⟨rfl, hb⟩
    have hB2 := hB1.trans (hb.mono hB1.size)
    go_wp2_with fail
    go_ret
    rw [HE.out]
    exact ⟨rfl, hB2⟩
  cases c1 : decide (W = V)
  · have HE : Hid (Pl.psameP R W S V f m o e f2 m2 o2 e2 = false) := by show _ = _; rw [HM.out, c0, c1]; simp
    go_enter Tryz.func16, Tryz.ntmps16
    go_wp2_with fail
    rw [← HW1.out]
    refine (samep_any _ _ _ _ R S _ hr1 hs1).mono ?_; rw [c0]; rintro x w2 ⟨rfl, hb⟩
    have hB2 := hB1.trans (hb.mono hB1.size)
    obtain ⟨⟨q1, q2, q3, q4, q5⟩, r1, r2, r3, r4, r5⟩ := HQ.out w2 hb
    have hw2 := hw1.below hb
    have hv2 := hv1.below hb
    go_wp2_with fail
    clear q1 q2 q3 q4 q5 r1 r2 r3 r4 r5
    refine (samep_any _ _ _ _ W V _ hw2 hv2).mono ?_; rw [c1]; rintro x w3 ⟨rfl, hb3⟩
    have hB3 := hB2.trans (hb3.mono hB2.size)
    obtain ⟨⟨q1, q2, q3, q4, q5⟩, r1, r2, r3, r4, r5⟩ := HQ.out w3 (hb.trans (hb3.mono hb.size))
    go_wp2_with fail
    go_ret
    rw [HE.out]
    exact ⟨rfl, hB3⟩
  cases c2 : (f == f2)
  · have HE : Hid (Pl.psameP R W S V f m o e f2 m2 o2 e2 = false) := by show _ = _; rw [HM.out, c0, c1, c2]; simp
    go_enter Tryz.func16, Tryz.ntmps16
    go_wp2_with fail
    rw [← HW1.out]
    refine (samep_any _ _ _ _ R S _ hr1 hs1).mono ?_; rw [c0]; rintro x w2 ⟨rfl, hb⟩
    have hB2 := hB1.trans (hb.mono hB1.size)
    obtain ⟨⟨q1, q2, q3, q4, q5⟩, r1, r2, r3, r4, r5⟩ := HQ.out w2 hb
    have hw2 := hw1.below hb
    have hv2 := hv1.below hb
    go_wp2_with fail
    clear q1 q2 q3 q4 q5 r1 r2 r3 r4 r5
    refine (samep_any _ _ _ _ W V _ hw2 hv2).mono ?_; rw [c1]; rintro x w3 ⟨rfl, hb3⟩
    have hB3 := hB2.trans (hb3.mono hB2.size)
    obtain ⟨⟨q1, q2, q3, q4, q5⟩, r1, r2, r3, r4, r5⟩ := HQ.out w3 (hb.trans (hb3.mono hb.size))
    go_wp2_with fail
    go_ret
    rw [HE.out]
    exact ⟨rfl, hB3⟩
  cases c3 : (m == m2)
  · have HE : Hid (Pl.psameP R W S V f m o e f2 m2 o2 e2 = false) := by show _ = _; rw [HM.out, c0, c1, c2, c3]; simp
    go_enter Tryz.func16, Tryz.ntmps16
    go_wp2_with fail
    rw [← HW1.out]
    refine (samep_any _ _ _ _ R S _ hr1 hs1).mono ?_; rw [c0]; rintro x w2 ⟨rfl, hb⟩
    have hB2 := hB1.trans (hb.mono hB1.size)
    obtain ⟨⟨q1, q2, q3, q4, q5⟩, r1, r2, r3, r4, r5⟩ := HQ.out w2 hb
    have hw2 := hw1.below hb
    have hv2 := hv1.below hb
    go_wp2_with fail
    clear q1 q2 q3 q4 q5 r1 r2 r3 r4 r5
    refine (samep_any _ _ _ _ W V _ hw2 hv2).mono ?_; rw [c1]; rintro x w3 ⟨rfl, hb3⟩
    have hB3 := hB2.trans (hb3.mono hB2.size)
    obtain ⟨⟨q1, q2, q3, q4, q5⟩, r1, r2, r3, r4, r5⟩ := HQ.out w3 (hb.trans (hb3.mono hb.size))
    go_wp2_with fail
    go_ret
    rw [HE.out]
    exact ⟨rfl, hB3⟩
  cases c4 : (o == o2)
  · have HE : Hid (Pl.psameP R W S V f m o e f2 m2 o2 e2 = false) := by show _ = _; rw [HM.out, c0, c1, c2, c3, c4]; simp
    go_enter Tryz.func16, Tryz.ntmps16
    go_wp2_with fail
    rw [← HW1.out]
    refine (samep_any _ _ _ _ R S _ hr1 hs1).mono ?_; rw [c0]; rintro x w2 ⟨rfl, hb⟩
    have hB2 := hB1.trans (hb.mono hB1.size)
    obtain ⟨⟨q1, q2, q3, q4, q5⟩, r1, r2, r3, r4, r5⟩ := HQ.out w2 hb
    have hw2 := hw1.below hb
    have hv2 := hv1.below hb
    go_wp2_with fail
    clear q1 q2 q3 q4 q5 r1 r2 r3 r4 r5
    refine (samep_any _ _ _ _ W V _ hw2 hv2).mono ?_; rw [c1]; rintro x w3 ⟨rfl, hb3⟩
    have hB3 := hB2.trans (hb3.mono hB2.size)
    obtain ⟨⟨q1, q2, q3, q4, q5⟩, r1, r2, r3, r4, r5⟩ := HQ.out w3 (hb.trans (hb3.mono hb.size))
    go_wp2_with fail
    go_ret
    rw [HE.out]
    exact ⟨rfl, hB3⟩
  cases c5 : (e == e2)
  · have HE : Hid (Pl.psameP R W S V f m o e f2 m2 o2 e2 = false) := by show _ = _; rw [HM.out, c0, c1, c2, c3, c4, c5]; simp
    go_enter Tryz.func16, Tryz.ntmps16
    go_wp2_with fail
    rw [← HW1.out]
    refine (samep_any _ _ _ _ R S _ hr1 hs1).mono ?_; rw [c0]; rintro x w2 ⟨rfl, hb⟩
    have hB2 := hB1.trans (hb.mono hB1.size)
    obtain ⟨⟨q1, q2, q3, q4, q5⟩, r1, r2, r3, r4, r5⟩ := HQ.out w2 hb
    have hw2 := hw1.below hb
    have hv2 := hv1.below hb
    go_wp2_with fail
    clear q1 q2 q3 q4 q5 r1 r2 r3 r4 r5
    refine (samep_any _ _ _ _ W V _ hw2 hv2).mono ?_; rw [c1]; rintro x w3 ⟨rfl, hb3⟩
    have hB3 := hB2.trans (hb3.mono hB2.size)
    obtain ⟨⟨q1, q2, q3, q4, q5⟩, r1, r2, r3, r4, r5⟩ := HQ.out w3 (hb.trans (hb3.mono hb.size))
    go_wp2_with fail
    go_ret
    rw [HE.out]
    exact ⟨rfl, hB3⟩
  have HE : Hid (Pl.psameP R W S V f m o e f2 m2 o2 e2 = true) := by show _ = _; rw [HM.out, c0, c1, c2, c3, c4, c5]; rfl
  go_enter Tryz.func16, Tryz.ntmps16
  go_wp2_with fail
  rw [← HW1.out]
  refine (samep_any _ _ _ _ R S _ hr1 hs1).mono ?_; rw [c0]; rintro x w2 ⟨rfl, hb⟩
  have hB2 := hB1.trans (hb.mono hB1.size)
  obtain ⟨⟨q1, q2, q3, q4, q5⟩, r1, r2, r3, r4, r5⟩ := HQ.out w2 hb
  have hw2 := hw1.below hb
  have hv2 := hv1.below hb
  go_wp2_with fail
  clear q1 q2 q3 q4 q5 r1 r2 r3 r4 r5
  refine (samep_any _ _ _ _ W V _ hw2 hv2).mono ?_; rw [c1]; rintro x w3 ⟨rfl, hb3⟩
  have hB3 := hB2.trans (hb3.mono hB2.size)
  obtain ⟨⟨q1, q2, q3, q4, q5⟩, r1, r2, r3, r4, r5⟩ := HQ.out w3 (hb.trans (hb3.mono hb.size))
  go_wp2_with fail
  go_ret
  rw [HE.out]
  exact ⟨rfl, hB3⟩
end Go.Proofs.YtcloljkaojnipaaGreatDoor
