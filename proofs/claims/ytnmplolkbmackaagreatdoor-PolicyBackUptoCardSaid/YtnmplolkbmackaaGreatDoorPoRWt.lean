/- What the reference's Within answers. -/
import Derived.Test.YtnmplolkbmackaaGreatDoorPoRMt
namespace Go.Proofs.YtnmplolkbmackaaGreatDoor
open Go.RowKit

set_option maxRecDepth 100000 in
set_option maxHeartbeats 4000000 in
theorem rpwithin_any (ar1 aw1 : Option Addr) (cr1 cw1 : Nat) (R1 W1 : List (List ByteArray)) (f1 m1 o1 e1 : Int) (ar2 aw2 : Option Addr) (cr2 cw2 : Nat) (R2 W2 : List (List ByteArray)) (f2 m2 o2 e2 : Int) (w : World) (hr1 : Pts w ar1 cr1 R1) (hw1 : Pts w aw1 cw1 W1) (hr2 : Pts w ar2 cr2 R2) (hw2 : Pts w aw2 cw2 W2) :
    Calls Tryz.prog 22 #[.agg #[.slice ar1 R1.length cr1, .slice aw1 W1.length cw1, .int .i64 f1, .int .i64 m1, .int .i64 o1, .int .i64 e1], .agg #[.slice ar2 R2.length cr2, .slice aw2 W2.length cw2, .int .i64 f2, .int .i64 m2, .int .i64 o2, .int .i64 e2]] w fun x w' => x = .returned (.tuple #[.bool (Pl.wthP R1 W1 f1 m1 o1 e1 R2 W2 f2 m2 o2 e2), .int .i64 (Pl.chk2 R1 W1 f1 m1 o1 e1 R2 W2 f2 m2 o2 e2 : Nat)]) ∧ Below w.heap.size w w' := by
  obtain ⟨wa, hwa⟩ : ∃ wa, wa = (w.alloc (.cells #[.slice ar1 R1.length cr1, .slice aw1 W1.length cw1, .int .i64 f1, .int .i64 m1, .int .i64 o1, .int .i64 e1] 24)).alloc (.cells #[.slice ar2 R2.length cr2, .slice aw2 W2.length cw2, .int .i64 f2, .int .i64 m2, .int .i64 o2, .int .i64 e2] 24) := ⟨_, rfl⟩
  have HB : Hid (Below w.heap.size w wa) := by unfold Hid; rw [hwa]; exact ((Below.refl _ _).alloc (Nat.le_refl _) _).alloc (by simp) _
  have HW : Hid (wa = (w.alloc (.cells #[.slice ar1 R1.length cr1, .slice aw1 W1.length cw1, .int .i64 f1, .int .i64 m1, .int .i64 o1, .int .i64 e1] 24)).alloc (.cells #[.slice ar2 R2.length cr2, .slice aw2 W2.length cw2, .int .i64 f2, .int .i64 m2, .int .i64 o2, .int .i64 e2] 24)) := hwa
  have HT : Hid (Two wa w.heap.size (w.heap.size + 1) ar1 aw1 cr1 cw1 R1 W1 f1 m1 o1 e1 ar2 aw2 cr2 cw2 R2 W2 f2 m2 o2 e2) := by unfold Hid; rw [hwa]; exact two_new w ar1 aw1 cr1 cw1 R1 W1 f1 m1 o1 e1 ar2 aw2 cr2 cw2 R2 W2 f2 m2 o2 e2 hr1 hw1 hr2 hw2
  have C1 := rRight_any ar1 aw1 cr1 cw1 R1 W1 f1 m1 o1 e1 wa HT.out.r1 HT.out.w1
  have C2 : Hid (∀ V, Below wa.heap.size wa V → Calls Tryz.prog 29 #[.agg #[.slice ar2 R2.length cr2, .slice aw2 W2.length cw2, .int .i64 f2, .int .i64 m2, .int .i64 o2, .int .i64 e2]] V fun x w' => x = .returned (.bool (Pl.polC R2 W2 f2 m2 o2 e2 == 0)) ∧ Below V.heap.size V w') := fun V hV => rRight_any ar2 aw2 cr2 cw2 R2 W2 f2 m2 o2 e2 V (HT.out.r2.below hV) (HT.out.w2.below hV)
  have C3 : Hid (∀ V, Below wa.heap.size wa V → Calls Tryz.prog 43 #[.slice ar1 R1.length cr1, .slice ar2 R2.length cr2] V fun x w' => x = .returned (.bool (Pl.innP R1 R2)) ∧ Below V.heap.size V w') := fun V hV => rinsideAll_any _ _ _ _ R1 R2 V (HT.out.r1.below hV) (HT.out.r2.below hV)
  have C4 : Hid (∀ V, Below wa.heap.size wa V → Calls Tryz.prog 43 #[.slice aw1 W1.length cw1, .slice aw2 W2.length cw2] V fun x w' => x = .returned (.bool (Pl.innP W1 W2)) ∧ Below V.heap.size V w') := fun V hV => rinsideAll_any _ _ _ _ W1 W2 V (HT.out.w1.below hV) (HT.out.w2.below hV)
  have hlr1 := hr1.len
  have hlw1 := hw1.len
  have hlr2 := hr2.len
  have hlw2 := hw2.len
  have HP : Hid (Pl.wthP R1 W1 f1 m1 o1 e1 R2 W2 f2 m2 o2 e2 = (Pl.chk2 R1 W1 f1 m1 o1 e1 R2 W2 f2 m2 o2 e2 == 0 && (Pl.innP R1 R2 && (Pl.innP W1 W2 && (decide (f1 ≤ f2) && (decide (m1 ≤ m2) && (decide (o1 ≤ o2) && decide (e1 ≤ e2)))))))) := rfl
  have HK : Hid (Pl.chk2 R1 W1 f1 m1 o1 e1 R2 W2 f2 m2 o2 e2 = if Pl.polC R1 W1 f1 m1 o1 e1 = 0 then Pl.polC R2 W2 f2 m2 o2 e2 else 50) := rfl
  have HC : Hid (∀ V, Below wa.heap.size wa V → Two V w.heap.size (w.heap.size + 1) ar1 aw1 cr1 cw1 R1 W1 f1 m1 o1 e1 ar2 aw2 cr2 cw2 R2 W2 f2 m2 o2 e2) := fun V hV => HT.out.below hV
  clear hwa hr1 hw1 hr2 hw2
  rcases (Pl.polC_two R1 W1 f1 m1 o1 e1).symm with p1 | p1
  · have K1 : Hid (Pl.chk2 R1 W1 f1 m1 o1 e1 R2 W2 f2 m2 o2 e2 = 50) := HK.out.trans (by rw [p1]; rfl)
    have P1 : Hid (Pl.wthP R1 W1 f1 m1 o1 e1 R2 W2 f2 m2 o2 e2 = false) := HP.out.trans (by rw [K1.out]; rfl)
    rw [p1] at C1
    clear HP HK p1
    go_enter Tryz.func22, Tryz.ntmps22
    go_wp2_with fail
    rw [← HW.out]
    refine C1.mono ?_
    rintro x w2 ⟨rfl, b2⟩
    have x20 := (HC.out _ b2).g0
    have x21 := (HC.out _ b2).g1
    have x22 := (HC.out _ b2).g2
    have x23 := (HC.out _ b2).g3
    have x24 := (HC.out _ b2).g4
    have x25 := (HC.out _ b2).g5
    have y20 := (HC.out _ b2).h0
    have y21 := (HC.out _ b2).h1
    have y22 := (HC.out _ b2).h2
    have y23 := (HC.out _ b2).h3
    have y24 := (HC.out _ b2).h4
    have y25 := (HC.out _ b2).h5
    go_wp2_with fail
    go_ret2
    rw [P1.out, K1.out]
    exact ⟨rfl, HB.out.trans (b2.mono HB.out.size)⟩
  rw [p1] at C1
  rcases (Pl.polC_two R2 W2 f2 m2 o2 e2).symm with p2 | p2
  · have K1 : Hid (Pl.chk2 R1 W1 f1 m1 o1 e1 R2 W2 f2 m2 o2 e2 = 50) := HK.out.trans (by rw [p1, p2]; rfl)
    have P1 : Hid (Pl.wthP R1 W1 f1 m1 o1 e1 R2 W2 f2 m2 o2 e2 = false) := HP.out.trans (by rw [K1.out]; rfl)
    clear HP HK p1
    go_enter Tryz.func22, Tryz.ntmps22
    go_wp2_with fail
    rw [← HW.out]
    refine C1.mono ?_
    rintro x w2 ⟨rfl, b2⟩
    have x20 := (HC.out _ b2).g0
    have x21 := (HC.out _ b2).g1
    have x22 := (HC.out _ b2).g2
    have x23 := (HC.out _ b2).g3
    have x24 := (HC.out _ b2).g4
    have x25 := (HC.out _ b2).g5
    have y20 := (HC.out _ b2).h0
    have y21 := (HC.out _ b2).h1
    have y22 := (HC.out _ b2).h2
    have y23 := (HC.out _ b2).h3
    have y24 := (HC.out _ b2).h4
    have y25 := (HC.out _ b2).h5
    go_wp2_with fail
    clear x20 x21 x22 x23 x24 x25 y20 y21 y22 y23 y24 y25
    refine (C2.out _ b2).mono ?_
    rw [p2]
    rintro x w3 ⟨rfl, d3⟩
    have b3 := b2.trans (d3.mono b2.size)
    clear d3
    have x30 := (HC.out _ b3).g0
    have x31 := (HC.out _ b3).g1
    have x32 := (HC.out _ b3).g2
    have x33 := (HC.out _ b3).g3
    have x34 := (HC.out _ b3).g4
    have x35 := (HC.out _ b3).g5
    have y30 := (HC.out _ b3).h0
    have y31 := (HC.out _ b3).h1
    have y32 := (HC.out _ b3).h2
    have y33 := (HC.out _ b3).h3
    have y34 := (HC.out _ b3).h4
    have y35 := (HC.out _ b3).h5
    go_wp2_with fail
    go_ret2
    rw [P1.out, K1.out]
    exact ⟨rfl, HB.out.trans (b3.mono HB.out.size)⟩
  have K1 : Hid (Pl.chk2 R1 W1 f1 m1 o1 e1 R2 W2 f2 m2 o2 e2 = 0) := HK.out.trans (by rw [p1, p2]; rfl)
  clear HK p1
  cases q0 : Pl.innP R1 R2
  · have P1 : Hid (Pl.wthP R1 W1 f1 m1 o1 e1 R2 W2 f2 m2 o2 e2 = false) := HP.out.trans (by rw [K1.out, q0]; rfl)
    clear HP
    go_enter Tryz.func22, Tryz.ntmps22
    go_wp2_with fail
    rw [← HW.out]
    refine C1.mono ?_
    rintro x w2 ⟨rfl, b2⟩
    have x20 := (HC.out _ b2).g0
    have x21 := (HC.out _ b2).g1
    have x22 := (HC.out _ b2).g2
    have x23 := (HC.out _ b2).g3
    have x24 := (HC.out _ b2).g4
    have x25 := (HC.out _ b2).g5
    have y20 := (HC.out _ b2).h0
    have y21 := (HC.out _ b2).h1
    have y22 := (HC.out _ b2).h2
    have y23 := (HC.out _ b2).h3
    have y24 := (HC.out _ b2).h4
    have y25 := (HC.out _ b2).h5
    go_wp2_with fail
    clear x20 x21 x22 x23 x24 x25 y20 y21 y22 y23 y24 y25
    refine (C2.out _ b2).mono ?_
    rw [p2]
    rintro x w3 ⟨rfl, d3⟩
    have b3 := b2.trans (d3.mono b2.size)
    clear d3
    have x30 := (HC.out _ b3).g0
    have x31 := (HC.out _ b3).g1
    have x32 := (HC.out _ b3).g2
    have x33 := (HC.out _ b3).g3
    have x34 := (HC.out _ b3).g4
    have x35 := (HC.out _ b3).g5
    have y30 := (HC.out _ b3).h0
    have y31 := (HC.out _ b3).h1
    have y32 := (HC.out _ b3).h2
    have y33 := (HC.out _ b3).h3
    have y34 := (HC.out _ b3).h4
    have y35 := (HC.out _ b3).h5
    go_wp2_with fail
    clear x30 x31 x32 x33 x34 x35 y30 y31 y32 y33 y34 y35
    refine (C3.out _ b3).mono ?_
    rw [q0]
    rintro x w4 ⟨rfl, d4⟩
    have b4 := b3.trans (d4.mono b3.size)
    clear d4
    have x40 := (HC.out _ b4).g0
    have x41 := (HC.out _ b4).g1
    have x42 := (HC.out _ b4).g2
    have x43 := (HC.out _ b4).g3
    have x44 := (HC.out _ b4).g4
    have x45 := (HC.out _ b4).g5
    have y40 := (HC.out _ b4).h0
    have y41 := (HC.out _ b4).h1
    have y42 := (HC.out _ b4).h2
    have y43 := (HC.out _ b4).h3
    have y44 := (HC.out _ b4).h4
    have y45 := (HC.out _ b4).h5
    go_wp2_with fail
    go_ret2
    rw [P1.out, K1.out]
    exact ⟨rfl, HB.out.trans (b4.mono HB.out.size)⟩
  cases q1 : Pl.innP W1 W2
  · have P1 : Hid (Pl.wthP R1 W1 f1 m1 o1 e1 R2 W2 f2 m2 o2 e2 = false) := HP.out.trans (by rw [K1.out, q0, q1]; rfl)
    clear HP
    go_enter Tryz.func22, Tryz.ntmps22
    go_wp2_with fail
    rw [← HW.out]
    refine C1.mono ?_
    rintro x w2 ⟨rfl, b2⟩
    have x20 := (HC.out _ b2).g0
    have x21 := (HC.out _ b2).g1
    have x22 := (HC.out _ b2).g2
    have x23 := (HC.out _ b2).g3
    have x24 := (HC.out _ b2).g4
    have x25 := (HC.out _ b2).g5
    have y20 := (HC.out _ b2).h0
    have y21 := (HC.out _ b2).h1
    have y22 := (HC.out _ b2).h2
    have y23 := (HC.out _ b2).h3
    have y24 := (HC.out _ b2).h4
    have y25 := (HC.out _ b2).h5
    go_wp2_with fail
    clear x20 x21 x22 x23 x24 x25 y20 y21 y22 y23 y24 y25
    refine (C2.out _ b2).mono ?_
    rw [p2]
    rintro x w3 ⟨rfl, d3⟩
    have b3 := b2.trans (d3.mono b2.size)
    clear d3
    have x30 := (HC.out _ b3).g0
    have x31 := (HC.out _ b3).g1
    have x32 := (HC.out _ b3).g2
    have x33 := (HC.out _ b3).g3
    have x34 := (HC.out _ b3).g4
    have x35 := (HC.out _ b3).g5
    have y30 := (HC.out _ b3).h0
    have y31 := (HC.out _ b3).h1
    have y32 := (HC.out _ b3).h2
    have y33 := (HC.out _ b3).h3
    have y34 := (HC.out _ b3).h4
    have y35 := (HC.out _ b3).h5
    go_wp2_with fail
    clear x30 x31 x32 x33 x34 x35 y30 y31 y32 y33 y34 y35
    refine (C3.out _ b3).mono ?_
    rw [q0]
    rintro x w4 ⟨rfl, d4⟩
    have b4 := b3.trans (d4.mono b3.size)
    clear d4
    have x40 := (HC.out _ b4).g0
    have x41 := (HC.out _ b4).g1
    have x42 := (HC.out _ b4).g2
    have x43 := (HC.out _ b4).g3
    have x44 := (HC.out _ b4).g4
    have x45 := (HC.out _ b4).g5
    have y40 := (HC.out _ b4).h0
    have y41 := (HC.out _ b4).h1
    have y42 := (HC.out _ b4).h2
    have y43 := (HC.out _ b4).h3
    have y44 := (HC.out _ b4).h4
    have y45 := (HC.out _ b4).h5
    go_wp2_with fail
    clear x40 x41 x42 x43 x44 x45 y40 y41 y42 y43 y44 y45
    refine (C4.out _ b4).mono ?_
    rw [q1]
    rintro x w5 ⟨rfl, d5⟩
    have b5 := b4.trans (d5.mono b4.size)
    clear d5
    have x50 := (HC.out _ b5).g0
    have x51 := (HC.out _ b5).g1
    have x52 := (HC.out _ b5).g2
    have x53 := (HC.out _ b5).g3
    have x54 := (HC.out _ b5).g4
    have x55 := (HC.out _ b5).g5
    have y50 := (HC.out _ b5).h0
    have y51 := (HC.out _ b5).h1
    have y52 := (HC.out _ b5).h2
    have y53 := (HC.out _ b5).h3
    have y54 := (HC.out _ b5).h4
    have y55 := (HC.out _ b5).h5
    go_wp2_with fail
    go_ret2
    rw [P1.out, K1.out]
    exact ⟨rfl, HB.out.trans (b5.mono HB.out.size)⟩
  cases q2 : decide (f1 ≤ f2)
  · have P1 : Hid (Pl.wthP R1 W1 f1 m1 o1 e1 R2 W2 f2 m2 o2 e2 = false) := HP.out.trans (by rw [K1.out, q0, q1, q2]; rfl)
    clear HP
    go_enter Tryz.func22, Tryz.ntmps22
    go_wp2_with fail
    rw [← HW.out]
    refine C1.mono ?_
    rintro x w2 ⟨rfl, b2⟩
    have x20 := (HC.out _ b2).g0
    have x21 := (HC.out _ b2).g1
    have x22 := (HC.out _ b2).g2
    have x23 := (HC.out _ b2).g3
    have x24 := (HC.out _ b2).g4
    have x25 := (HC.out _ b2).g5
    have y20 := (HC.out _ b2).h0
    have y21 := (HC.out _ b2).h1
    have y22 := (HC.out _ b2).h2
    have y23 := (HC.out _ b2).h3
    have y24 := (HC.out _ b2).h4
    have y25 := (HC.out _ b2).h5
    go_wp2_with fail
    clear x20 x21 x22 x23 x24 x25 y20 y21 y22 y23 y24 y25
    refine (C2.out _ b2).mono ?_
    rw [p2]
    rintro x w3 ⟨rfl, d3⟩
    have b3 := b2.trans (d3.mono b2.size)
    clear d3
    have x30 := (HC.out _ b3).g0
    have x31 := (HC.out _ b3).g1
    have x32 := (HC.out _ b3).g2
    have x33 := (HC.out _ b3).g3
    have x34 := (HC.out _ b3).g4
    have x35 := (HC.out _ b3).g5
    have y30 := (HC.out _ b3).h0
    have y31 := (HC.out _ b3).h1
    have y32 := (HC.out _ b3).h2
    have y33 := (HC.out _ b3).h3
    have y34 := (HC.out _ b3).h4
    have y35 := (HC.out _ b3).h5
    go_wp2_with fail
    clear x30 x31 x32 x33 x34 x35 y30 y31 y32 y33 y34 y35
    refine (C3.out _ b3).mono ?_
    rw [q0]
    rintro x w4 ⟨rfl, d4⟩
    have b4 := b3.trans (d4.mono b3.size)
    clear d4
    have x40 := (HC.out _ b4).g0
    have x41 := (HC.out _ b4).g1
    have x42 := (HC.out _ b4).g2
    have x43 := (HC.out _ b4).g3
    have x44 := (HC.out _ b4).g4
    have x45 := (HC.out _ b4).g5
    have y40 := (HC.out _ b4).h0
    have y41 := (HC.out _ b4).h1
    have y42 := (HC.out _ b4).h2
    have y43 := (HC.out _ b4).h3
    have y44 := (HC.out _ b4).h4
    have y45 := (HC.out _ b4).h5
    go_wp2_with fail
    clear x40 x41 x42 x43 x44 x45 y40 y41 y42 y43 y44 y45
    refine (C4.out _ b4).mono ?_
    rw [q1]
    rintro x w5 ⟨rfl, d5⟩
    have b5 := b4.trans (d5.mono b4.size)
    clear d5
    have x50 := (HC.out _ b5).g0
    have x51 := (HC.out _ b5).g1
    have x52 := (HC.out _ b5).g2
    have x53 := (HC.out _ b5).g3
    have x54 := (HC.out _ b5).g4
    have x55 := (HC.out _ b5).g5
    have y50 := (HC.out _ b5).h0
    have y51 := (HC.out _ b5).h1
    have y52 := (HC.out _ b5).h2
    have y53 := (HC.out _ b5).h3
    have y54 := (HC.out _ b5).h4
    have y55 := (HC.out _ b5).h5
    go_wp2_with fail
    go_ret2
    rw [P1.out, K1.out]
    exact ⟨rfl, HB.out.trans (b5.mono HB.out.size)⟩
  cases q3 : decide (m1 ≤ m2)
  · have P1 : Hid (Pl.wthP R1 W1 f1 m1 o1 e1 R2 W2 f2 m2 o2 e2 = false) := HP.out.trans (by rw [K1.out, q0, q1, q2, q3]; rfl)
    clear HP
    go_enter Tryz.func22, Tryz.ntmps22
    go_wp2_with fail
    rw [← HW.out]
    refine C1.mono ?_
    rintro x w2 ⟨rfl, b2⟩
    have x20 := (HC.out _ b2).g0
    have x21 := (HC.out _ b2).g1
    have x22 := (HC.out _ b2).g2
    have x23 := (HC.out _ b2).g3
    have x24 := (HC.out _ b2).g4
    have x25 := (HC.out _ b2).g5
    have y20 := (HC.out _ b2).h0
    have y21 := (HC.out _ b2).h1
    have y22 := (HC.out _ b2).h2
    have y23 := (HC.out _ b2).h3
    have y24 := (HC.out _ b2).h4
    have y25 := (HC.out _ b2).h5
    go_wp2_with fail
    clear x20 x21 x22 x23 x24 x25 y20 y21 y22 y23 y24 y25
    refine (C2.out _ b2).mono ?_
    rw [p2]
    rintro x w3 ⟨rfl, d3⟩
    have b3 := b2.trans (d3.mono b2.size)
    clear d3
    have x30 := (HC.out _ b3).g0
    have x31 := (HC.out _ b3).g1
    have x32 := (HC.out _ b3).g2
    have x33 := (HC.out _ b3).g3
    have x34 := (HC.out _ b3).g4
    have x35 := (HC.out _ b3).g5
    have y30 := (HC.out _ b3).h0
    have y31 := (HC.out _ b3).h1
    have y32 := (HC.out _ b3).h2
    have y33 := (HC.out _ b3).h3
    have y34 := (HC.out _ b3).h4
    have y35 := (HC.out _ b3).h5
    go_wp2_with fail
    clear x30 x31 x32 x33 x34 x35 y30 y31 y32 y33 y34 y35
    refine (C3.out _ b3).mono ?_
    rw [q0]
    rintro x w4 ⟨rfl, d4⟩
    have b4 := b3.trans (d4.mono b3.size)
    clear d4
    have x40 := (HC.out _ b4).g0
    have x41 := (HC.out _ b4).g1
    have x42 := (HC.out _ b4).g2
    have x43 := (HC.out _ b4).g3
    have x44 := (HC.out _ b4).g4
    have x45 := (HC.out _ b4).g5
    have y40 := (HC.out _ b4).h0
    have y41 := (HC.out _ b4).h1
    have y42 := (HC.out _ b4).h2
    have y43 := (HC.out _ b4).h3
    have y44 := (HC.out _ b4).h4
    have y45 := (HC.out _ b4).h5
    go_wp2_with fail
    clear x40 x41 x42 x43 x44 x45 y40 y41 y42 y43 y44 y45
    refine (C4.out _ b4).mono ?_
    rw [q1]
    rintro x w5 ⟨rfl, d5⟩
    have b5 := b4.trans (d5.mono b4.size)
    clear d5
    have x50 := (HC.out _ b5).g0
    have x51 := (HC.out _ b5).g1
    have x52 := (HC.out _ b5).g2
    have x53 := (HC.out _ b5).g3
    have x54 := (HC.out _ b5).g4
    have x55 := (HC.out _ b5).g5
    have y50 := (HC.out _ b5).h0
    have y51 := (HC.out _ b5).h1
    have y52 := (HC.out _ b5).h2
    have y53 := (HC.out _ b5).h3
    have y54 := (HC.out _ b5).h4
    have y55 := (HC.out _ b5).h5
    go_wp2_with fail
    go_ret2
    rw [P1.out, K1.out]
    exact ⟨rfl, HB.out.trans (b5.mono HB.out.size)⟩
  cases q4 : decide (o1 ≤ o2)
  · have P1 : Hid (Pl.wthP R1 W1 f1 m1 o1 e1 R2 W2 f2 m2 o2 e2 = false) := HP.out.trans (by rw [K1.out, q0, q1, q2, q3, q4]; rfl)
    clear HP
    go_enter Tryz.func22, Tryz.ntmps22
    go_wp2_with fail
    rw [← HW.out]
    refine C1.mono ?_
    rintro x w2 ⟨rfl, b2⟩
    have x20 := (HC.out _ b2).g0
    have x21 := (HC.out _ b2).g1
    have x22 := (HC.out _ b2).g2
    have x23 := (HC.out _ b2).g3
    have x24 := (HC.out _ b2).g4
    have x25 := (HC.out _ b2).g5
    have y20 := (HC.out _ b2).h0
    have y21 := (HC.out _ b2).h1
    have y22 := (HC.out _ b2).h2
    have y23 := (HC.out _ b2).h3
    have y24 := (HC.out _ b2).h4
    have y25 := (HC.out _ b2).h5
    go_wp2_with fail
    clear x20 x21 x22 x23 x24 x25 y20 y21 y22 y23 y24 y25
    refine (C2.out _ b2).mono ?_
    rw [p2]
    rintro x w3 ⟨rfl, d3⟩
    have b3 := b2.trans (d3.mono b2.size)
    clear d3
    have x30 := (HC.out _ b3).g0
    have x31 := (HC.out _ b3).g1
    have x32 := (HC.out _ b3).g2
    have x33 := (HC.out _ b3).g3
    have x34 := (HC.out _ b3).g4
    have x35 := (HC.out _ b3).g5
    have y30 := (HC.out _ b3).h0
    have y31 := (HC.out _ b3).h1
    have y32 := (HC.out _ b3).h2
    have y33 := (HC.out _ b3).h3
    have y34 := (HC.out _ b3).h4
    have y35 := (HC.out _ b3).h5
    go_wp2_with fail
    clear x30 x31 x32 x33 x34 x35 y30 y31 y32 y33 y34 y35
    refine (C3.out _ b3).mono ?_
    rw [q0]
    rintro x w4 ⟨rfl, d4⟩
    have b4 := b3.trans (d4.mono b3.size)
    clear d4
    have x40 := (HC.out _ b4).g0
    have x41 := (HC.out _ b4).g1
    have x42 := (HC.out _ b4).g2
    have x43 := (HC.out _ b4).g3
    have x44 := (HC.out _ b4).g4
    have x45 := (HC.out _ b4).g5
    have y40 := (HC.out _ b4).h0
    have y41 := (HC.out _ b4).h1
    have y42 := (HC.out _ b4).h2
    have y43 := (HC.out _ b4).h3
    have y44 := (HC.out _ b4).h4
    have y45 := (HC.out _ b4).h5
    go_wp2_with fail
    clear x40 x41 x42 x43 x44 x45 y40 y41 y42 y43 y44 y45
    refine (C4.out _ b4).mono ?_
    rw [q1]
    rintro x w5 ⟨rfl, d5⟩
    have b5 := b4.trans (d5.mono b4.size)
    clear d5
    have x50 := (HC.out _ b5).g0
    have x51 := (HC.out _ b5).g1
    have x52 := (HC.out _ b5).g2
    have x53 := (HC.out _ b5).g3
    have x54 := (HC.out _ b5).g4
    have x55 := (HC.out _ b5).g5
    have y50 := (HC.out _ b5).h0
    have y51 := (HC.out _ b5).h1
    have y52 := (HC.out _ b5).h2
    have y53 := (HC.out _ b5).h3
    have y54 := (HC.out _ b5).h4
    have y55 := (HC.out _ b5).h5
    go_wp2_with fail
    go_ret2
    rw [P1.out, K1.out]
    exact ⟨rfl, HB.out.trans (b5.mono HB.out.size)⟩
  cases q5 : decide (e1 ≤ e2)
  · have P1 : Hid (Pl.wthP R1 W1 f1 m1 o1 e1 R2 W2 f2 m2 o2 e2 = false) := HP.out.trans (by rw [K1.out, q0, q1, q2, q3, q4, q5]; rfl)
    clear HP
    go_enter Tryz.func22, Tryz.ntmps22
    go_wp2_with fail
    rw [← HW.out]
    refine C1.mono ?_
    rintro x w2 ⟨rfl, b2⟩
    have x20 := (HC.out _ b2).g0
    have x21 := (HC.out _ b2).g1
    have x22 := (HC.out _ b2).g2
    have x23 := (HC.out _ b2).g3
    have x24 := (HC.out _ b2).g4
    have x25 := (HC.out _ b2).g5
    have y20 := (HC.out _ b2).h0
    have y21 := (HC.out _ b2).h1
    have y22 := (HC.out _ b2).h2
    have y23 := (HC.out _ b2).h3
    have y24 := (HC.out _ b2).h4
    have y25 := (HC.out _ b2).h5
    go_wp2_with fail
    clear x20 x21 x22 x23 x24 x25 y20 y21 y22 y23 y24 y25
    refine (C2.out _ b2).mono ?_
    rw [p2]
    rintro x w3 ⟨rfl, d3⟩
    have b3 := b2.trans (d3.mono b2.size)
    clear d3
    have x30 := (HC.out _ b3).g0
    have x31 := (HC.out _ b3).g1
    have x32 := (HC.out _ b3).g2
    have x33 := (HC.out _ b3).g3
    have x34 := (HC.out _ b3).g4
    have x35 := (HC.out _ b3).g5
    have y30 := (HC.out _ b3).h0
    have y31 := (HC.out _ b3).h1
    have y32 := (HC.out _ b3).h2
    have y33 := (HC.out _ b3).h3
    have y34 := (HC.out _ b3).h4
    have y35 := (HC.out _ b3).h5
    go_wp2_with fail
    clear x30 x31 x32 x33 x34 x35 y30 y31 y32 y33 y34 y35
    refine (C3.out _ b3).mono ?_
    rw [q0]
    rintro x w4 ⟨rfl, d4⟩
    have b4 := b3.trans (d4.mono b3.size)
    clear d4
    have x40 := (HC.out _ b4).g0
    have x41 := (HC.out _ b4).g1
    have x42 := (HC.out _ b4).g2
    have x43 := (HC.out _ b4).g3
    have x44 := (HC.out _ b4).g4
    have x45 := (HC.out _ b4).g5
    have y40 := (HC.out _ b4).h0
    have y41 := (HC.out _ b4).h1
    have y42 := (HC.out _ b4).h2
    have y43 := (HC.out _ b4).h3
    have y44 := (HC.out _ b4).h4
    have y45 := (HC.out _ b4).h5
    go_wp2_with fail
    clear x40 x41 x42 x43 x44 x45 y40 y41 y42 y43 y44 y45
    refine (C4.out _ b4).mono ?_
    rw [q1]
    rintro x w5 ⟨rfl, d5⟩
    have b5 := b4.trans (d5.mono b4.size)
    clear d5
    have x50 := (HC.out _ b5).g0
    have x51 := (HC.out _ b5).g1
    have x52 := (HC.out _ b5).g2
    have x53 := (HC.out _ b5).g3
    have x54 := (HC.out _ b5).g4
    have x55 := (HC.out _ b5).g5
    have y50 := (HC.out _ b5).h0
    have y51 := (HC.out _ b5).h1
    have y52 := (HC.out _ b5).h2
    have y53 := (HC.out _ b5).h3
    have y54 := (HC.out _ b5).h4
    have y55 := (HC.out _ b5).h5
    go_wp2_with fail
    go_ret2
    rw [P1.out, K1.out]
    exact ⟨rfl, HB.out.trans (b5.mono HB.out.size)⟩
  have P1 : Hid (Pl.wthP R1 W1 f1 m1 o1 e1 R2 W2 f2 m2 o2 e2 = true) := HP.out.trans (by rw [K1.out, q0, q1, q2, q3, q4, q5]; rfl)
  clear HP
  go_enter Tryz.func22, Tryz.ntmps22
  go_wp2_with fail
  rw [← HW.out]
  refine C1.mono ?_
  rintro x w2 ⟨rfl, b2⟩
  have x20 := (HC.out _ b2).g0
  have x21 := (HC.out _ b2).g1
  have x22 := (HC.out _ b2).g2
  have x23 := (HC.out _ b2).g3
  have x24 := (HC.out _ b2).g4
  have x25 := (HC.out _ b2).g5
  have y20 := (HC.out _ b2).h0
  have y21 := (HC.out _ b2).h1
  have y22 := (HC.out _ b2).h2
  have y23 := (HC.out _ b2).h3
  have y24 := (HC.out _ b2).h4
  have y25 := (HC.out _ b2).h5
  go_wp2_with fail
  clear x20 x21 x22 x23 x24 x25 y20 y21 y22 y23 y24 y25
  refine (C2.out _ b2).mono ?_
  rw [p2]
  rintro x w3 ⟨rfl, d3⟩
  have b3 := b2.trans (d3.mono b2.size)
  clear d3
  have x30 := (HC.out _ b3).g0
  have x31 := (HC.out _ b3).g1
  have x32 := (HC.out _ b3).g2
  have x33 := (HC.out _ b3).g3
  have x34 := (HC.out _ b3).g4
  have x35 := (HC.out _ b3).g5
  have y30 := (HC.out _ b3).h0
  have y31 := (HC.out _ b3).h1
  have y32 := (HC.out _ b3).h2
  have y33 := (HC.out _ b3).h3
  have y34 := (HC.out _ b3).h4
  have y35 := (HC.out _ b3).h5
  go_wp2_with fail
  clear x30 x31 x32 x33 x34 x35 y30 y31 y32 y33 y34 y35
  refine (C3.out _ b3).mono ?_
  rw [q0]
  rintro x w4 ⟨rfl, d4⟩
  have b4 := b3.trans (d4.mono b3.size)
  clear d4
  have x40 := (HC.out _ b4).g0
  have x41 := (HC.out _ b4).g1
  have x42 := (HC.out _ b4).g2
  have x43 := (HC.out _ b4).g3
  have x44 := (HC.out _ b4).g4
  have x45 := (HC.out _ b4).g5
  have y40 := (HC.out _ b4).h0
  have y41 := (HC.out _ b4).h1
  have y42 := (HC.out _ b4).h2
  have y43 := (HC.out _ b4).h3
  have y44 := (HC.out _ b4).h4
  have y45 := (HC.out _ b4).h5
  go_wp2_with fail
  clear x40 x41 x42 x43 x44 x45 y40 y41 y42 y43 y44 y45
  refine (C4.out _ b4).mono ?_
  rw [q1]
  rintro x w5 ⟨rfl, d5⟩
  have b5 := b4.trans (d5.mono b4.size)
  clear d5
  have x50 := (HC.out _ b5).g0
  have x51 := (HC.out _ b5).g1
  have x52 := (HC.out _ b5).g2
  have x53 := (HC.out _ b5).g3
  have x54 := (HC.out _ b5).g4
  have x55 := (HC.out _ b5).g5
  have y50 := (HC.out _ b5).h0
  have y51 := (HC.out _ b5).h1
  have y52 := (HC.out _ b5).h2
  have y53 := (HC.out _ b5).h3
  have y54 := (HC.out _ b5).h4
  have y55 := (HC.out _ b5).h5
  go_wp2_with fail
  go_ret2
  rw [P1.out, K1.out]
  exact ⟨rfl, HB.out.trans (b5.mono HB.out.size)⟩
end Go.Proofs.YtnmplolkbmackaaGreatDoor
