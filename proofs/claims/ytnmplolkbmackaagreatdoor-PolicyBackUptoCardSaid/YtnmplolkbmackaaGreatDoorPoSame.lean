/- What the reference's Same answers of two policies. -/
import Derived.Test.YtnmplolkbmackaaGreatDoorPoAlike
namespace Go.Proofs.YtnmplolkbmackaaGreatDoor
open Go.RowKit

namespace Pl
/-- Whether two policies are one. -/
def psameP (R W S V : List (List ByteArray)) (f m o e f2 m2 o2 e2 : Int) : Bool := decide (R = S) && (decide (W = V) && ((f == f2) && ((m == m2) && ((o == o2) && (e == e2)))))
end Pl

set_option maxRecDepth 100000 in
set_option maxHeartbeats 2000000 in
theorem rpsame_any (ar aw az av : Option Addr) (cr cw cs cv : Nat) (R W S V : List (List ByteArray)) (f m o e f2 m2 o2 e2 : Int) (w : World) (hr : Pts w ar cr R) (hw : Pts w aw cw W) (hs : Pts w az cs S) (hv : Pts w av cv V) :
    Calls Tryz.prog 15 #[.agg #[.slice ar R.length cr, .slice aw W.length cw, .int .i64 f, .int .i64 m, .int .i64 o, .int .i64 e], .agg #[.slice az S.length cs, .slice av V.length cv, .int .i64 f2, .int .i64 m2, .int .i64 o2, .int .i64 e2]] w fun x w' => x = .returned (.bool (Pl.psameP R W S V f m o e f2 m2 o2 e2)) ∧ Below w.heap.size w w' := by
  obtain ⟨w1, hw1e⟩ : ∃ w1, w1 = (w.alloc (.cells #[.slice ar R.length cr, .slice aw W.length cw, .int .i64 f, .int .i64 m, .int .i64 o, .int .i64 e] 24)).alloc (.cells #[.slice az S.length cs, .slice av V.length cv, .int .i64 f2, .int .i64 m2, .int .i64 o2, .int .i64 e2] 24) := ⟨_, rfl⟩
  have hB1 : Below w.heap.size w w1 := by rw [hw1e]; exact ((Below.refl _ _).alloc (Nat.le_refl _) _).alloc (by simp) _
  have HW1 : Hid (w1 = (w.alloc (.cells #[.slice ar R.length cr, .slice aw W.length cw, .int .i64 f, .int .i64 m, .int .i64 o, .int .i64 e] 24)).alloc (.cells #[.slice az S.length cs, .slice av V.length cv, .int .i64 f2, .int .i64 m2, .int .i64 o2, .int .i64 e2] 24)) := hw1e
  have hg : w.heap.size < w1.heap.size ∧ w.heap.size + 1 < w1.heap.size := by rw [hw1e]; simp; omega
  have HQ : Hid (∀ w2, Below w1.heap.size w1 w2 → (w2.cell? ⟨w.heap.size, 1, none⟩ = some (.slice aw W.length cw) ∧ w2.cell? ⟨w.heap.size, 2, none⟩ = some (.int .i64 f) ∧ w2.cell? ⟨w.heap.size, 3, none⟩ = some (.int .i64 m) ∧ w2.cell? ⟨w.heap.size, 4, none⟩ = some (.int .i64 o) ∧ w2.cell? ⟨w.heap.size, 5, none⟩ = some (.int .i64 e)) ∧ w2.cell? ⟨w.heap.size + 1, 1, none⟩ = some (.slice av V.length cv) ∧ w2.cell? ⟨w.heap.size + 1, 2, none⟩ = some (.int .i64 f2) ∧ w2.cell? ⟨w.heap.size + 1, 3, none⟩ = some (.int .i64 m2) ∧ w2.cell? ⟨w.heap.size + 1, 4, none⟩ = some (.int .i64 o2) ∧ w2.cell? ⟨w.heap.size + 1, 5, none⟩ = some (.int .i64 e2)) := by
    intro w2 hb
    refine ⟨⟨?_, ?_, ?_, ?_, ?_⟩, ?_, ?_, ?_, ?_, ?_⟩
    all_goals first
      | exact (hb.cell (p := ⟨w.heap.size, _, none⟩) hg.1).trans (by rw [hw1e]; simp [go_sem])
      | exact (hb.cell (p := ⟨w.heap.size + 1, _, none⟩) hg.2).trans (by rw [hw1e]; simp [go_sem])
  have hr1 := hr.below hB1
  have hw1 := hw.below hB1
  have hs1 := hs.below hB1
  have hv1 := hv.below hB1
  have HM : Hid (Pl.psameP R W S V f m o e f2 m2 o2 e2 = (decide (R = S) && (decide (W = V) && ((f == f2) && ((m == m2) && ((o == o2) && (e == e2))))))) := rfl
  clear hw1e
  cases c0 : decide (R = S)
  · have HE : Hid (Pl.psameP R W S V f m o e f2 m2 o2 e2 = false) := by show _ = _; rw [HM.out, c0]; simp
    go_enter Tryz.func15, Tryz.ntmps15
    go_wp2_with fail
    rw [← HW1.out]
    refine (alike_gen _ _ _ _ R S _ hr1 hs1).mono ?_; rw [c0]; rintro x w2 ⟨rfl, hb⟩
    have hB2 := hB1.trans (hb.mono hB1.size)
    go_wp2_with fail
    go_ret
    rw [HE.out]
    exact ⟨rfl, hB2⟩
  cases c1 : decide (W = V)
  · have HE : Hid (Pl.psameP R W S V f m o e f2 m2 o2 e2 = false) := by show _ = _; rw [HM.out, c0, c1]; simp
    go_enter Tryz.func15, Tryz.ntmps15
    go_wp2_with fail
    rw [← HW1.out]
    refine (alike_gen _ _ _ _ R S _ hr1 hs1).mono ?_; rw [c0]; rintro x w2 ⟨rfl, hb⟩
    have hB2 := hB1.trans (hb.mono hB1.size)
    obtain ⟨⟨q1, q2, q3, q4, q5⟩, r1, r2, r3, r4, r5⟩ := HQ.out w2 hb
    have hw2 := hw1.below hb
    have hv2 := hv1.below hb
    go_wp2_with fail
    clear q1 q2 q3 q4 q5 r1 r2 r3 r4 r5
    refine (alike_gen _ _ _ _ W V _ hw2 hv2).mono ?_; rw [c1]; rintro x w3 ⟨rfl, hb3⟩
    have hB3 := hB2.trans (hb3.mono hB2.size)
    obtain ⟨⟨q1, q2, q3, q4, q5⟩, r1, r2, r3, r4, r5⟩ := HQ.out w3 (hb.trans (hb3.mono hb.size))
    go_wp2_with fail
    go_ret
    rw [HE.out]
    exact ⟨rfl, hB3⟩
  cases c2 : (f == f2)
  · have HE : Hid (Pl.psameP R W S V f m o e f2 m2 o2 e2 = false) := by show _ = _; rw [HM.out, c0, c1, c2]; simp
    go_enter Tryz.func15, Tryz.ntmps15
    go_wp2_with fail
    rw [← HW1.out]
    refine (alike_gen _ _ _ _ R S _ hr1 hs1).mono ?_; rw [c0]; rintro x w2 ⟨rfl, hb⟩
    have hB2 := hB1.trans (hb.mono hB1.size)
    obtain ⟨⟨q1, q2, q3, q4, q5⟩, r1, r2, r3, r4, r5⟩ := HQ.out w2 hb
    have hw2 := hw1.below hb
    have hv2 := hv1.below hb
    go_wp2_with fail
    clear q1 q2 q3 q4 q5 r1 r2 r3 r4 r5
    refine (alike_gen _ _ _ _ W V _ hw2 hv2).mono ?_; rw [c1]; rintro x w3 ⟨rfl, hb3⟩
    have hB3 := hB2.trans (hb3.mono hB2.size)
    obtain ⟨⟨q1, q2, q3, q4, q5⟩, r1, r2, r3, r4, r5⟩ := HQ.out w3 (hb.trans (hb3.mono hb.size))
    go_wp2_with fail
    go_ret
    rw [HE.out]
    exact ⟨rfl, hB3⟩
  cases c3 : (m == m2)
  · have HE : Hid (Pl.psameP R W S V f m o e f2 m2 o2 e2 = false) := by show _ = _; rw [HM.out, c0, c1, c2, c3]; simp
    go_enter Tryz.func15, Tryz.ntmps15
    go_wp2_with fail
    rw [← HW1.out]
    refine (alike_gen _ _ _ _ R S _ hr1 hs1).mono ?_; rw [c0]; rintro x w2 ⟨rfl, hb⟩
    have hB2 := hB1.trans (hb.mono hB1.size)
    obtain ⟨⟨q1, q2, q3, q4, q5⟩, r1, r2, r3, r4, r5⟩ := HQ.out w2 hb
    have hw2 := hw1.below hb
    have hv2 := hv1.below hb
    go_wp2_with fail
    clear q1 q2 q3 q4 q5 r1 r2 r3 r4 r5
    refine (alike_gen _ _ _ _ W V _ hw2 hv2).mono ?_; rw [c1]; rintro x w3 ⟨rfl, hb3⟩
    have hB3 := hB2.trans (hb3.mono hB2.size)
    obtain ⟨⟨q1, q2, q3, q4, q5⟩, r1, r2, r3, r4, r5⟩ := HQ.out w3 (hb.trans (hb3.mono hb.size))
    go_wp2_with fail
    go_ret
    rw [HE.out]
    exact ⟨rfl, hB3⟩
  cases c4 : (o == o2)
  · have HE : Hid (Pl.psameP R W S V f m o e f2 m2 o2 e2 = false) := by show _ = _; rw [HM.out, c0, c1, c2, c3, c4]; simp
    go_enter Tryz.func15, Tryz.ntmps15
    go_wp2_with fail
    rw [← HW1.out]
    refine (alike_gen _ _ _ _ R S _ hr1 hs1).mono ?_; rw [c0]; rintro x w2 ⟨rfl, hb⟩
    have hB2 := hB1.trans (hb.mono hB1.size)
    obtain ⟨⟨q1, q2, q3, q4, q5⟩, r1, r2, r3, r4, r5⟩ := HQ.out w2 hb
    have hw2 := hw1.below hb
    have hv2 := hv1.below hb
    go_wp2_with fail
    clear q1 q2 q3 q4 q5 r1 r2 r3 r4 r5
    refine (alike_gen _ _ _ _ W V _ hw2 hv2).mono ?_; rw [c1]; rintro x w3 ⟨rfl, hb3⟩
    have hB3 := hB2.trans (hb3.mono hB2.size)
    obtain ⟨⟨q1, q2, q3, q4, q5⟩, r1, r2, r3, r4, r5⟩ := HQ.out w3 (hb.trans (hb3.mono hb.size))
    go_wp2_with fail
    go_ret
    rw [HE.out]
    exact ⟨rfl, hB3⟩
  cases c5 : (e == e2)
  · have HE : Hid (Pl.psameP R W S V f m o e f2 m2 o2 e2 = false) := by show _ = _; rw [HM.out, c0, c1, c2, c3, c4, c5]; simp
    go_enter Tryz.func15, Tryz.ntmps15
    go_wp2_with fail
    rw [← HW1.out]
    refine (alike_gen _ _ _ _ R S _ hr1 hs1).mono ?_; rw [c0]; rintro x w2 ⟨rfl, hb⟩
    have hB2 := hB1.trans (hb.mono hB1.size)
    obtain ⟨⟨q1, q2, q3, q4, q5⟩, r1, r2, r3, r4, r5⟩ := HQ.out w2 hb
    have hw2 := hw1.below hb
    have hv2 := hv1.below hb
    go_wp2_with fail
    clear q1 q2 q3 q4 q5 r1 r2 r3 r4 r5
    refine (alike_gen _ _ _ _ W V _ hw2 hv2).mono ?_; rw [c1]; rintro x w3 ⟨rfl, hb3⟩
    have hB3 := hB2.trans (hb3.mono hB2.size)
    obtain ⟨⟨q1, q2, q3, q4, q5⟩, r1, r2, r3, r4, r5⟩ := HQ.out w3 (hb.trans (hb3.mono hb.size))
    go_wp2_with fail
    go_ret
    rw [HE.out]
    exact ⟨rfl, hB3⟩
  have HE : Hid (Pl.psameP R W S V f m o e f2 m2 o2 e2 = true) := by show _ = _; rw [HM.out, c0, c1, c2, c3, c4, c5]; rfl
  go_enter Tryz.func15, Tryz.ntmps15
  go_wp2_with fail
  rw [← HW1.out]
  refine (alike_gen _ _ _ _ R S _ hr1 hs1).mono ?_; rw [c0]; rintro x w2 ⟨rfl, hb⟩
  have hB2 := hB1.trans (hb.mono hB1.size)
  obtain ⟨⟨q1, q2, q3, q4, q5⟩, r1, r2, r3, r4, r5⟩ := HQ.out w2 hb
  have hw2 := hw1.below hb
  have hv2 := hv1.below hb
  go_wp2_with fail
  clear q1 q2 q3 q4 q5 r1 r2 r3 r4 r5
  refine (alike_gen _ _ _ _ W V _ hw2 hv2).mono ?_; rw [c1]; rintro x w3 ⟨rfl, hb3⟩
  have hB3 := hB2.trans (hb3.mono hB2.size)
  obtain ⟨⟨q1, q2, q3, q4, q5⟩, r1, r2, r3, r4, r5⟩ := HQ.out w3 (hb.trans (hb3.mono hb.size))
  go_wp2_with fail
  go_ret
  rw [HE.out]
  exact ⟨rfl, hB3⟩
end Go.Proofs.YtnmplolkbmackaaGreatDoor
