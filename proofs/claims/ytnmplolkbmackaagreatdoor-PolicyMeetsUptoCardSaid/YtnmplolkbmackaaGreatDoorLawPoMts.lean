/- PolicyMeets: Meet and Within of any two policies are the document's. -/
import Derived.Test.YtnmplolkbmackaaGreatDoorPoMg
import Derived.Test.YtnmplolkbmackaaGreatDoorPoLives
import Derived.Deep.RegionHeld3
namespace Go.Proofs.YtnmplolkbmackaaGreatDoor
open Go.RowKit

set_option maxRecDepth 100000 in
set_option maxHeartbeats 4000000 in
theorem law_meets (ar1 aw1 : Option Addr) (cr1 cw1 : Nat) (R1 W1 : List (List ByteArray)) (f1 m1 o1 e1 : Int) (ar2 aw2 : Option Addr) (cr2 cw2 : Nat) (R2 W2 : List (List ByteArray)) (f2 m2 o2 e2 : Int) (w : World) (T : PT w) (hr1 : Pts w ar1 cr1 R1) (hw1 : Pts w aw1 cw1 W1) (hr2 : Pts w ar2 cr2 R2) (hw2 : Pts w aw2 cw2 W2) :
    Calls Tryz.prog 4 #[.agg #[.slice ar1 R1.length cr1, .slice aw1 W1.length cw1, .int .i64 f1, .int .i64 m1, .int .i64 o1, .int .i64 e1], .agg #[.slice ar2 R2.length cr2, .slice aw2 W2.length cw2, .int .i64 f2, .int .i64 m2, .int .i64 o2, .int .i64 e2]] w fun x w' => x = .returned (.bool true) ∧ Below w.heap.size w w' := by
  obtain ⟨wa, hwa⟩ : ∃ wa, wa = (w.alloc (.cells #[.slice ar1 R1.length cr1, .slice aw1 W1.length cw1, .int .i64 f1, .int .i64 m1, .int .i64 o1, .int .i64 e1] 24)).alloc (.cells #[.slice ar2 R2.length cr2, .slice aw2 W2.length cw2, .int .i64 f2, .int .i64 m2, .int .i64 o2, .int .i64 e2] 24) := ⟨_, rfl⟩
  have hB : Below w.heap.size w wa := by rw [hwa]; exact ((Below.refl _ _).alloc (Nat.le_refl _) _).alloc (by simp) _
  have hT : Two wa w.heap.size (w.heap.size + 1) ar1 aw1 cr1 cw1 R1 W1 f1 m1 o1 e1 ar2 aw2 cr2 cw2 R2 W2 f2 m2 o2 e2 := by rw [hwa]; exact two_new w ar1 aw1 cr1 cw1 R1 W1 f1 m1 o1 e1 ar2 aw2 cr2 cw2 R2 W2 f2 m2 o2 e2 hr1 hw1 hr2 hw2
  have HW : Hid (wa = (w.alloc (.cells #[.slice ar1 R1.length cr1, .slice aw1 W1.length cw1, .int .i64 f1, .int .i64 m1, .int .i64 o1, .int .i64 e1] 24)).alloc (.cells #[.slice ar2 R2.length cr2, .slice aw2 W2.length cw2, .int .i64 f2, .int .i64 m2, .int .i64 o2, .int .i64 e2] 24)) := hwa
  have C1 := pmeet_g ar1 aw1 cr1 cw1 R1 W1 f1 m1 o1 e1 ar2 aw2 cr2 cw2 R2 W2 f2 m2 o2 e2 wa hT.r1 hT.w1 hT.r2 hT.w2
  have hlr1 := hr1.len
  have hlw1 := hw1.len
  have hlr2 := hr2.len
  have hlw2 := hw2.len
  have HA : Hid (Below w.heap.size w wa ∧ Two wa w.heap.size (w.heap.size + 1) ar1 aw1 cr1 cw1 R1 W1 f1 m1 o1 e1 ar2 aw2 cr2 cw2 R2 W2 f2 m2 o2 e2 ∧ PT w) := ⟨hB, hT, T⟩
  clear hwa hB hT T hr1 hw1 hr2 hw2
  go_enter Tryz.func4, Tryz.ntmps4
  go_wp2_with fail
  rw [← HW.out]
  refine C1.mono ?_
  rintro x w2 ⟨aX, aY, nX, nY, cR, cW, F, M, O, E, c, rfl, K2⟩
  have hx1 := K2.out.1.len
  have hx2 := K2.out.2.1.len
  obtain ⟨wd, hwd⟩ : ∃ wd, wd = w2.alloc (.cells #[.slice aX cR.length nX, .slice aY cW.length nY, .int .i64 F, .int .i64 M, .int .i64 O, .int .i64 E] 24) := ⟨_, rfl⟩
  have hb2 : Below wa.heap.size wa wd := by rw [hwd]; exact K2.out.2.2.2.alloc K2.out.2.2.2.size _
  have hP4 : PolAt wd w2.heap.size aX aY nX nY cR cW F M O E := by rw [hwd]; exact polAt_new w2 aX aY nX nY cR cW F M O E K2.out.1 K2.out.2.1
  have HWd : Hid (wd = w2.alloc (.cells #[.slice aX cR.length nX, .slice aY cW.length nY, .int .i64 F, .int .i64 M, .int .i64 O, .int .i64 E] 24)) := hwd
  have hTd := HA.out.2.1.below hb2
  have C3 := rpmeet_g ar1 aw1 cr1 cw1 R1 W1 f1 m1 o1 e1 ar2 aw2 cr2 cw2 R2 W2 f2 m2 o2 e2 wd hTd.r1 hTd.w1 hTd.r2 hTd.w2
  have HA2 : Hid (Below wa.heap.size wa wd ∧ PolAt wd w2.heap.size aX aY nX nY cR cW F M O E ∧ Pl.MeetIs R1 W1 f1 m1 o1 e1 R2 W2 f2 m2 o2 e2 cR cW F M O E c) := ⟨hb2, hP4, K2.out.2.2.1⟩
  have x0 := hTd.g0
  have x1 := hTd.g1
  have x2 := hTd.g2
  have x3 := hTd.g3
  have x4 := hTd.g4
  have x5 := hTd.g5
  have y0 := hTd.h0
  have y1 := hTd.h1
  have y2 := hTd.h2
  have y3 := hTd.h3
  have y4 := hTd.h4
  have y5 := hTd.h5
  clear hwd hb2 hP4 hTd C1 HW K2
  go_upto_region 2 with fail
  rw [← HWd.out]
  go_wp2_with fail
  refine C3.mono ?_
  rintro x w3 ⟨aU, aV, nU, nV, cR', cW', F', M', O', E', c', rfl, K3⟩
  obtain ⟨rfl, rfl, rfl, rfl, rfl, rfl, rfl⟩ := HA2.out.2.2.one K3.out.2.2.1
  obtain ⟨we, hwe⟩ : ∃ we, we = w3.alloc (.cells #[.slice aU cR'.length nU, .slice aV cW'.length nV, .int .i64 F', .int .i64 M', .int .i64 O', .int .i64 E'] 24) := ⟨_, rfl⟩
  have hb3 : Below wd.heap.size wd we := by rw [hwe]; exact K3.out.2.2.2.alloc K3.out.2.2.2.size _
  have hP5 : PolAt we w3.heap.size aU aV nU nV cR' cW' F' M' O' E' := by rw [hwe]; exact polAt_new w3 aU aV nU nV cR' cW' F' M' O' E' K3.out.1 K3.out.2.1
  have HWe : Hid (we = w3.alloc (.cells #[.slice aU cR'.length nU, .slice aV cW'.length nV, .int .i64 F', .int .i64 M', .int .i64 O', .int .i64 E'] 24)) := hwe
  have hTe := (HA.out.2.1.below HA2.out.1).below hb3
  have Hz : Hid (Below w.heap.size w we ∧ Two we w.heap.size (w.heap.size + 1) ar1 aw1 cr1 cw1 R1 W1 f1 m1 o1 e1 ar2 aw2 cr2 cw2 R2 W2 f2 m2 o2 e2 ∧ PolAt we w2.heap.size aX aY nX nY cR' cW' F' M' O' E' ∧ PolAt we w3.heap.size aU aV nU nV cR' cW' F' M' O' E' ∧ PT w) := by
    have b4 : Below w.heap.size w we := (HA.out.1.trans (HA2.out.1.mono HA.out.1.size)).trans (hb3.mono (Nat.le_trans HA.out.1.size HA2.out.1.size))
    exact ⟨b4, hTe, HA2.out.2.1.under hb3, hP5, HA.out.2.2⟩
  have C4 := pwithin_any ar1 aw1 cr1 cw1 R1 W1 f1 m1 o1 e1 ar2 aw2 cr2 cw2 R2 W2 f2 m2 o2 e2 we hTe.r1 hTe.w1 hTe.r2 hTe.w2
  clear x0 x1 x2 x3 x4 x5 y0 y1 y2 y3 y4 y5
  have x0 := hTe.g0
  have x1 := hTe.g1
  have x2 := hTe.g2
  have x3 := hTe.g3
  have x4 := hTe.g4
  have x5 := hTe.g5
  have y0 := hTe.h0
  have y1 := hTe.h1
  have y2 := hTe.h2
  have y3 := hTe.h3
  have y4 := hTe.h4
  have y5 := hTe.h5
  clear hwe hb3 hP5 C3 HWd K3 HA HA2 hTe
  go_upto_region 3 with fail
  rw [← HWe.out]
  go_wp2_with fail
  refine C4.mono ?_
  rintro x w5 ⟨rfl, b5⟩
  have hT5 := Hz.out.2.1.below b5
  have C5 := rpwithin_any ar1 aw1 cr1 cw1 R1 W1 f1 m1 o1 e1 ar2 aw2 cr2 cw2 R2 W2 f2 m2 o2 e2 w5 hT5.r1 hT5.w1 hT5.r2 hT5.w2
  clear x0 x1 x2 x3 x4 x5 y0 y1 y2 y3 y4 y5
  have x0 := hT5.g0
  have x1 := hT5.g1
  have x2 := hT5.g2
  have x3 := hT5.g3
  have x4 := hT5.g4
  have x5 := hT5.g5
  have y0 := hT5.h0
  have y1 := hT5.h1
  have y2 := hT5.h2
  have y3 := hT5.h3
  have y4 := hT5.h4
  have y5 := hT5.h5
  have HB5 : Hid (Below we.heap.size we w5) := b5
  clear hT5 b5 HWe C4
  go_wp2_with fail
  refine C5.mono ?_
  rintro x w6 ⟨rfl, b6⟩
  clear x0 x1 x2 x3 x4 x5 y0 y1 y2 y3 y4 y5
  have Hy : Hid (Below w.heap.size w w6 ∧ PolAt w6 w2.heap.size aX aY nX nY cR' cW' F' M' O' E' ∧ PolAt w6 w3.heap.size aU aV nU nV cR' cW' F' M' O' E' ∧ PT w6) := by
    have b7 : Below we.heap.size we w6 := HB5.out.trans (b6.mono HB5.out.size)
    have b8 : Below w.heap.size w w6 := Hz.out.1.trans (b7.mono Hz.out.1.size)
    exact ⟨b8, Hz.out.2.2.1.under b7, Hz.out.2.2.2.1.under b7, Hz.out.2.2.2.2.under b8⟩
  clear Hz HB5 b6 C5
  generalize Pl.wthP R1 W1 f1 m1 o1 e1 R2 W2 f2 m2 o2 e2 = PB at *
  generalize Pl.chk2 R1 W1 f1 m1 o1 e1 R2 W2 f2 m2 o2 e2 = PC at *
  go_upto_region 5 with fail
  have HL : Hid (∀ V, Below w6.heap.size w6 V → Calls Tryz.prog 12 #[] V fun x w' => x = .returned (.bool true) ∧ Below w6.heap.size w6 w') := fun V hV => (plives_any V (Hy.out.2.2.2.under hV)).mono fun x w' h => ⟨h.1, hV.trans (h.2.mono hV.size)⟩
  have HS1 : Hid (∀ V, Below w6.heap.size w6 V → Calls Tryz.prog 15 #[.agg #[.slice aX cR'.length nX, .slice aY cW'.length nY, .int .i64 F', .int .i64 M', .int .i64 O', .int .i64 E'], .agg #[.slice aU cR'.length nU, .slice aV cW'.length nV, .int .i64 F', .int .i64 M', .int .i64 O', .int .i64 E']] V fun x w' => x = .returned (.bool true) ∧ Below w6.heap.size w6 w') := fun V hV => (rpsame_any aX aY aU aV nX nY nU nV cR' cW' cR' cW' F' M' O' E' F' M' O' E' V (Hy.out.2.1.r.below hV) (Hy.out.2.1.s.below hV) (Hy.out.2.2.1.r.below hV) (Hy.out.2.2.1.s.below hV)).mono fun x w' h => ⟨by rw [h.1, Pl.psame_self], hV.trans (h.2.mono hV.size)⟩
  have HF : Hid (∀ V, Below w6.heap.size w6 V → Below w.heap.size w V) := fun V hV => Hy.out.1.trans (hV.mono Hy.out.1.size)
  generalize w2.heap.size = j at *
  generalize w3.heap.size = k at *
  have HS : Hid (∀ V, Below w6.heap.size w6 V → Below w6.heap.size w6 V ∧ (V.cell? ⟨j, 0, none⟩ = some (.slice aX cR'.length nX) ∧ V.cell? ⟨j, 1, none⟩ = some (.slice aY cW'.length nY) ∧ V.cell? ⟨j, 2, none⟩ = some (.int .i64 F') ∧ V.cell? ⟨j, 3, none⟩ = some (.int .i64 M') ∧ V.cell? ⟨j, 4, none⟩ = some (.int .i64 O') ∧ V.cell? ⟨j, 5, none⟩ = some (.int .i64 E')) ∧ (V.cell? ⟨k, 0, none⟩ = some (.slice aU cR'.length nU) ∧ V.cell? ⟨k, 1, none⟩ = some (.slice aV cW'.length nV) ∧ V.cell? ⟨k, 2, none⟩ = some (.int .i64 F') ∧ V.cell? ⟨k, 3, none⟩ = some (.int .i64 M') ∧ V.cell? ⟨k, 4, none⟩ = some (.int .i64 O') ∧ V.cell? ⟨k, 5, none⟩ = some (.int .i64 E'))) := fun V hV => by
    have t4 := (cells_pol (Hy.out.2.1.under hV).x).1
    have t5 := (cells_pol (Hy.out.2.2.1.under hV).x).1
    exact ⟨hV, t4, t5⟩
  clear Hy
  go_wp2_with fail
  refine (HL.out w6 (Below.refl _ _)).mono ?_
  rintro x w7 ⟨rfl, l7⟩
  obtain ⟨_, ⟨z0, z1, z2, z3, z4, z5⟩, v0, v1, v2, v3, v4, v5⟩ := HS.out w7 l7
  go_wp2_with fail
  refine (HS1.out w7 l7).mono ?_
  rintro x w8 ⟨rfl, l8⟩
  clear z0 z1 z2 z3 z4 z5 v0 v1 v2 v3 v4 v5
  go_wp2_with fail
  go_ret
  exact ⟨by simp, HF.out _ l8⟩
end Go.Proofs.YtnmplolkbmackaaGreatDoor
