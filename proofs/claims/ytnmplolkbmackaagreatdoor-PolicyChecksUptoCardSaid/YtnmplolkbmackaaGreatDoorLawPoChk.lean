/- PolicyChecks: Check, Normal, Same and May of any policies are the document's. -/
import Derived.Test.YtnmplolkbmackaaGreatDoorPoNg
import Derived.Test.YtnmplolkbmackaaGreatDoorPoLives
import Derived.Deep.RegionHeld3
namespace Go.Proofs.YtnmplolkbmackaaGreatDoor
open Go.RowKit

set_option maxRecDepth 100000 in
set_option maxHeartbeats 4000000 in
theorem law_checks (ar1 aw1 : Option Addr) (cr1 cw1 : Nat) (R1 W1 : List (List ByteArray)) (f1 m1 o1 e1 : Int) (ar2 aw2 : Option Addr) (cr2 cw2 : Nat) (R2 W2 : List (List ByteArray)) (f2 m2 o2 e2 : Int) (b : Bool) (ap : Option Addr) (cp : Nat) (p : List ByteArray) (w : World) (T : PT w) (hr1 : Pts w ar1 cr1 R1) (hw1 : Pts w aw1 cw1 W1) (hr2 : Pts w ar2 cr2 R2) (hw2 : Pts w aw2 cw2 W2) (hp : Strs w ap cp p) :
    Calls Tryz.prog 3 #[.agg #[.slice ar1 R1.length cr1, .slice aw1 W1.length cw1, .int .i64 f1, .int .i64 m1, .int .i64 o1, .int .i64 e1], .agg #[.slice ar2 R2.length cr2, .slice aw2 W2.length cw2, .int .i64 f2, .int .i64 m2, .int .i64 o2, .int .i64 e2], .bool b, .slice ap p.length cp] w fun x w' => x = .returned (.bool true) ∧ Below w.heap.size w w' := by
  obtain ⟨wa, hwa⟩ : ∃ wa, wa = (w.alloc (.cells #[.slice ar1 R1.length cr1, .slice aw1 W1.length cw1, .int .i64 f1, .int .i64 m1, .int .i64 o1, .int .i64 e1] 24)).alloc (.cells #[.slice ar2 R2.length cr2, .slice aw2 W2.length cw2, .int .i64 f2, .int .i64 m2, .int .i64 o2, .int .i64 e2] 24) := ⟨_, rfl⟩
  have hB : Below w.heap.size w wa := by rw [hwa]; exact ((Below.refl _ _).alloc (Nat.le_refl _) _).alloc (by simp) _
  have hP1 : PolAt wa w.heap.size ar1 aw1 cr1 cw1 R1 W1 f1 m1 o1 e1 := by rw [hwa]; exact (polAt_new w ar1 aw1 cr1 cw1 R1 W1 f1 m1 o1 e1 hr1 hw1).under ((Below.refl _ _).alloc (Nat.le_refl _) _)
  have hP2 : PolAt wa (w.heap.size + 1) ar2 aw2 cr2 cw2 R2 W2 f2 m2 o2 e2 := by
    have hb1 : Below w.heap.size w (w.alloc (.cells #[.slice ar1 R1.length cr1, .slice aw1 W1.length cw1, .int .i64 f1, .int .i64 m1, .int .i64 o1, .int .i64 e1] 24)) := (Below.refl _ _).alloc (Nat.le_refl _) _
    rw [hwa, show w.heap.size + 1 = (w.alloc (.cells #[.slice ar1 R1.length cr1, .slice aw1 W1.length cw1, .int .i64 f1, .int .i64 m1, .int .i64 o1, .int .i64 e1] 24)).heap.size from by simp]
    exact polAt_new _ ar2 aw2 cr2 cw2 R2 W2 f2 m2 o2 e2 (hr2.below hb1) (hw2.below hb1)
  have HW : Hid (wa = (w.alloc (.cells #[.slice ar1 R1.length cr1, .slice aw1 W1.length cw1, .int .i64 f1, .int .i64 m1, .int .i64 o1, .int .i64 e1] 24)).alloc (.cells #[.slice ar2 R2.length cr2, .slice aw2 W2.length cw2, .int .i64 f2, .int .i64 m2, .int .i64 o2, .int .i64 e2] 24)) := hwa
  have C1 := rpcopy_any ar1 aw1 cr1 cw1 R1 W1 f1 m1 o1 e1 wa hP1.r hP1.s
  have hlr1 := hr1.len
  have hlw1 := hw1.len
  have hlr2 := hr2.len
  have hlw2 := hw2.len
  have hlp := hp.len
  have HA : Hid (Below w.heap.size w wa ∧ PolAt wa w.heap.size ar1 aw1 cr1 cw1 R1 W1 f1 m1 o1 e1 ∧ PolAt wa (w.heap.size + 1) ar2 aw2 cr2 cw2 R2 W2 f2 m2 o2 e2 ∧ PT w ∧ Strs w ap cp p) := ⟨hB, hP1, hP2, T, hp⟩
  clear hwa hB hP1 hP2 T hr1 hw1 hr2 hw2 hp
  go_enter Tryz.func3, Tryz.ntmps3
  go_wp2_with fail
  rw [← HW.out]
  refine C1.mono ?_
  rintro x w1 ⟨aR, aW, nR, nW, rfl, q1, q2, b1⟩
  obtain ⟨aR', nR', e1, p1⟩ := q1.pts hlr1
  injection e1 with e1 _ e1'
  subst e1 e1'
  obtain ⟨aW', nW', e2, p2⟩ := q2.pts hlw1
  injection e2 with e2 _ e2'
  subst e2 e2'
  obtain ⟨wb, hwb⟩ : ∃ wb, wb = w1.alloc (.cells #[.slice aR R1.length nR, .slice aW W1.length nW, .int .i64 f1, .int .i64 m1, .int .i64 o1, .int .i64 e1] 24) := ⟨_, rfl⟩
  have hb1 : Below wa.heap.size wa wb := by rw [hwb]; exact b1.alloc b1.size _
  have hP3 : PolAt wb w1.heap.size aR aW nR nW R1 W1 f1 m1 o1 e1 := by rw [hwb]; exact polAt_new w1 aR aW nR nW R1 W1 f1 m1 o1 e1 p1 p2
  have C2 := pnormal_g aR aW nR nW R1 W1 f1 m1 o1 e1 wb hP3.r hP3.s
  have HWb : Hid (wb = w1.alloc (.cells #[.slice aR R1.length nR, .slice aW W1.length nW, .int .i64 f1, .int .i64 m1, .int .i64 o1, .int .i64 e1] 24)) := hwb
  have HA1 : Hid (Below wa.heap.size wa wb ∧ PolAt wb w1.heap.size aR aW nR nW R1 W1 f1 m1 o1 e1) := ⟨hb1, hP3⟩
  have c0 := (cells_pol (HA.out.2.1.under hb1).x).1
  obtain ⟨c00, c01, c02, c03, c04, c05⟩ := c0
  clear hwb hb1 hP3 q1 q2 p1 p2 b1 C1 HW
  go_upto_region 2 with fail
  rw [← HWb.out]
  obtain ⟨d00, d01, d02, d03, d04, d05⟩ := (cells_pol HA1.out.2.x).1
  go_wp2_with fail
  refine C2.mono ?_
  rintro x w2 ⟨aX, aY, nX, nY, cR, cW, F, M, O, E, c, rfl, K2⟩
  have hx1 := K2.out.1.len
  have hx2 := K2.out.2.1.len
  obtain ⟨wd, hwd⟩ : ∃ wd, wd = w2.alloc (.cells #[.slice aX cR.length nX, .slice aY cW.length nY, .int .i64 F, .int .i64 M, .int .i64 O, .int .i64 E] 24) := ⟨_, rfl⟩
  have hb2 : Below wb.heap.size wb wd := by rw [hwd]; exact K2.out.2.2.2.alloc K2.out.2.2.2.size _
  have hP4 : PolAt wd w2.heap.size aX aY nX nY cR cW F M O E := by rw [hwd]; exact polAt_new w2 aX aY nX nY cR cW F M O E K2.out.1 K2.out.2.1
  have HWd : Hid (wd = w2.alloc (.cells #[.slice aX cR.length nX, .slice aY cW.length nY, .int .i64 F, .int .i64 M, .int .i64 O, .int .i64 E] 24)) := hwd
  have hPd1 := (HA.out.2.1.under HA1.out.1).under hb2
  have C3 := rpnormal_g ar1 aw1 cr1 cw1 R1 W1 f1 m1 o1 e1 wd hPd1.r hPd1.s
  have HA2 : Hid (Below wb.heap.size wb wd ∧ PolAt wd w2.heap.size aX aY nX nY cR cW F M O E ∧ Pl.NormIs R1 W1 f1 m1 o1 e1 cR cW F M O E c) := ⟨hb2, hP4, K2.out.2.2.1⟩
  clear c00 c01 c02 c03 c04 c05 d00 d01 d02 d03 d04 d05
  obtain ⟨c00, c01, c02, c03, c04, c05⟩ := (cells_pol hPd1.x).1
  clear hwd hb2 hP4 hPd1 C2 HWb K2
  go_upto_region 3 with fail
  rw [← HWd.out]
  go_wp2_with fail
  refine C3.mono ?_
  rintro x w3 ⟨aU, aV, nU, nV, cR', cW', F', M', O', E', c', rfl, K3⟩
  obtain ⟨rfl, rfl, rfl, rfl, rfl, rfl, rfl⟩ := HA2.out.2.2.one K3.out.2.2.1
  obtain ⟨we, hwe⟩ : ∃ we, we = w3.alloc (.cells #[.slice aU cR'.length nU, .slice aV cW'.length nV, .int .i64 F', .int .i64 M', .int .i64 O', .int .i64 E'] 24) := ⟨_, rfl⟩
  have hb3 : Below wd.heap.size wd we := by rw [hwe]; exact K3.out.2.2.2.alloc K3.out.2.2.2.size _
  have hP5 : PolAt we w3.heap.size aU aV nU nV cR' cW' F' M' O' E' := by rw [hwe]; exact polAt_new w3 aU aV nU nV cR' cW' F' M' O' E' K3.out.1 K3.out.2.1
  have HWe : Hid (we = w3.alloc (.cells #[.slice aU cR'.length nU, .slice aV cW'.length nV, .int .i64 F', .int .i64 M', .int .i64 O', .int .i64 E'] 24)) := hwe
  have Hz : Hid (Below w.heap.size w we ∧ PolAt we w.heap.size ar1 aw1 cr1 cw1 R1 W1 f1 m1 o1 e1 ∧ PolAt we (w.heap.size + 1) ar2 aw2 cr2 cw2 R2 W2 f2 m2 o2 e2 ∧ PolAt we w1.heap.size aR aW nR nW R1 W1 f1 m1 o1 e1 ∧ PolAt we w2.heap.size aX aY nX nY cR' cW' F' M' O' E' ∧ PolAt we w3.heap.size aU aV nU nV cR' cW' F' M' O' E' ∧ PT we ∧ Strs we ap cp p) := by
    have b4 : Below w.heap.size w we := ((HA.out.1.trans (HA1.out.1.mono HA.out.1.size)).trans (HA2.out.1.mono (Nat.le_trans HA.out.1.size HA1.out.1.size))).trans (hb3.mono (Nat.le_trans HA.out.1.size (Nat.le_trans HA1.out.1.size HA2.out.1.size)))
    exact ⟨b4, ((HA.out.2.1.under HA1.out.1).under HA2.out.1).under hb3, ((HA.out.2.2.1.under HA1.out.1).under HA2.out.1).under hb3, (HA1.out.2.under HA2.out.1).under hb3, HA2.out.2.1.under hb3, hP5, HA.out.2.2.2.1.under b4, HA.out.2.2.2.2.below b4⟩
  clear c00 c01 c02 c03 c04 c05 hwe hb3 hP5 C3 HWd K3 HA HA1 HA2
  go_upto_region 4 with fail
  rw [← HWe.out]
  clear HWe
  have HL : Hid (∀ V, Below we.heap.size we V → Calls Tryz.prog 12 #[] V fun x w' => x = .returned (.bool true) ∧ Below we.heap.size we w') := fun V hV => (plives_any V (Hz.out.2.2.2.2.2.2.1.under hV)).mono fun x w' h => ⟨h.1, hV.trans (h.2.mono hV.size)⟩
  have HC1 : Hid (∀ V, Below we.heap.size we V → Calls Tryz.prog 13 #[.agg #[.slice aR R1.length nR, .slice aW W1.length nW, .int .i64 f1, .int .i64 m1, .int .i64 o1, .int .i64 e1]] V fun x w' => x = .returned (.int .i64 (Pl.polC R1 W1 f1 m1 o1 e1 : Nat)) ∧ Below we.heap.size we w') := fun V hV => (check_any aR aW nR nW R1 W1 f1 m1 o1 e1 V (Hz.out.2.2.2.1.r.below hV) (Hz.out.2.2.2.1.s.below hV)).mono fun x w' h => ⟨h.1, hV.trans (h.2.mono hV.size)⟩
  have HC2 : Hid (∀ V, Below we.heap.size we V → Calls Tryz.prog 14 #[.agg #[.slice ar1 R1.length cr1, .slice aw1 W1.length cw1, .int .i64 f1, .int .i64 m1, .int .i64 o1, .int .i64 e1]] V fun x w' => x = .returned (.int .i64 (Pl.polC R1 W1 f1 m1 o1 e1 : Nat)) ∧ Below we.heap.size we w') := fun V hV => (rcheck_any ar1 aw1 cr1 cw1 R1 W1 f1 m1 o1 e1 V (Hz.out.2.1.r.below hV) (Hz.out.2.1.s.below hV)).mono fun x w' h => ⟨h.1, hV.trans (h.2.mono hV.size)⟩
  have HS1 : Hid (∀ V, Below we.heap.size we V → Calls Tryz.prog 15 #[.agg #[.slice aX cR'.length nX, .slice aY cW'.length nY, .int .i64 F', .int .i64 M', .int .i64 O', .int .i64 E'], .agg #[.slice aU cR'.length nU, .slice aV cW'.length nV, .int .i64 F', .int .i64 M', .int .i64 O', .int .i64 E']] V fun x w' => x = .returned (.bool true) ∧ Below we.heap.size we w') := fun V hV => (rpsame_any aX aY aU aV nX nY nU nV cR' cW' cR' cW' F' M' O' E' F' M' O' E' V (Hz.out.2.2.2.2.1.r.below hV) (Hz.out.2.2.2.2.1.s.below hV) (Hz.out.2.2.2.2.2.1.r.below hV) (Hz.out.2.2.2.2.2.1.s.below hV)).mono fun x w' h => ⟨by rw [h.1, Pl.psame_self], hV.trans (h.2.mono hV.size)⟩
  have HS2 : Hid (∀ V, Below we.heap.size we V → Calls Tryz.prog 16 #[.agg #[.slice ar1 R1.length cr1, .slice aw1 W1.length cw1, .int .i64 f1, .int .i64 m1, .int .i64 o1, .int .i64 e1], .agg #[.slice ar2 R2.length cr2, .slice aw2 W2.length cw2, .int .i64 f2, .int .i64 m2, .int .i64 o2, .int .i64 e2]] V fun x w' => x = .returned (.bool (Pl.psameP R1 W1 R2 W2 f1 m1 o1 e1 f2 m2 o2 e2)) ∧ Below we.heap.size we w') := fun V hV => (psame_any ar1 aw1 ar2 aw2 cr1 cw1 cr2 cw2 R1 W1 R2 W2 f1 m1 o1 e1 f2 m2 o2 e2 V (Hz.out.2.1.r.below hV) (Hz.out.2.1.s.below hV) (Hz.out.2.2.1.r.below hV) (Hz.out.2.2.1.s.below hV)).mono fun x w' h => ⟨h.1, hV.trans (h.2.mono hV.size)⟩
  have HS3 : Hid (∀ V, Below we.heap.size we V → Calls Tryz.prog 15 #[.agg #[.slice ar1 R1.length cr1, .slice aw1 W1.length cw1, .int .i64 f1, .int .i64 m1, .int .i64 o1, .int .i64 e1], .agg #[.slice ar2 R2.length cr2, .slice aw2 W2.length cw2, .int .i64 f2, .int .i64 m2, .int .i64 o2, .int .i64 e2]] V fun x w' => x = .returned (.bool (Pl.psameP R1 W1 R2 W2 f1 m1 o1 e1 f2 m2 o2 e2)) ∧ Below we.heap.size we w') := fun V hV => (rpsame_any ar1 aw1 ar2 aw2 cr1 cw1 cr2 cw2 R1 W1 R2 W2 f1 m1 o1 e1 f2 m2 o2 e2 V (Hz.out.2.1.r.below hV) (Hz.out.2.1.s.below hV) (Hz.out.2.2.1.r.below hV) (Hz.out.2.2.1.s.below hV)).mono fun x w' h => ⟨h.1, hV.trans (h.2.mono hV.size)⟩
  have HS4 : Hid (∀ V, Below we.heap.size we V → Calls Tryz.prog 16 #[.agg #[.slice aR R1.length nR, .slice aW W1.length nW, .int .i64 f1, .int .i64 m1, .int .i64 o1, .int .i64 e1], .agg #[.slice ar1 R1.length cr1, .slice aw1 W1.length cw1, .int .i64 f1, .int .i64 m1, .int .i64 o1, .int .i64 e1]] V fun x w' => x = .returned (.bool true) ∧ Below we.heap.size we w') := fun V hV => (psame_any aR aW ar1 aw1 nR nW cr1 cw1 R1 W1 R1 W1 f1 m1 o1 e1 f1 m1 o1 e1 V (Hz.out.2.2.2.1.r.below hV) (Hz.out.2.2.2.1.s.below hV) (Hz.out.2.1.r.below hV) (Hz.out.2.1.s.below hV)).mono fun x w' h => ⟨by rw [h.1, Pl.psame_self], hV.trans (h.2.mono hV.size)⟩
  have HS5 : Hid (∀ V, Below we.heap.size we V → Calls Tryz.prog 15 #[.agg #[.slice aR R1.length nR, .slice aW W1.length nW, .int .i64 f1, .int .i64 m1, .int .i64 o1, .int .i64 e1], .agg #[.slice ar1 R1.length cr1, .slice aw1 W1.length cw1, .int .i64 f1, .int .i64 m1, .int .i64 o1, .int .i64 e1]] V fun x w' => x = .returned (.bool true) ∧ Below we.heap.size we w') := fun V hV => (rpsame_any aR aW ar1 aw1 nR nW cr1 cw1 R1 W1 R1 W1 f1 m1 o1 e1 f1 m1 o1 e1 V (Hz.out.2.2.2.1.r.below hV) (Hz.out.2.2.2.1.s.below hV) (Hz.out.2.1.r.below hV) (Hz.out.2.1.s.below hV)).mono fun x w' h => ⟨by rw [h.1, Pl.psame_self], hV.trans (h.2.mono hV.size)⟩
  have HM1 : Hid (∀ V, Below we.heap.size we V → Calls Tryz.prog 17 #[.agg #[.slice aR R1.length nR, .slice aW W1.length nW, .int .i64 f1, .int .i64 m1, .int .i64 o1, .int .i64 e1], .bool b, .slice ap p.length cp] V fun x w' => x = .returned (.bool (Pl.mayP R1 W1 f1 m1 o1 e1 b p)) ∧ Below we.heap.size we w') := fun V hV => (pmay_any aR aW ap nR nW cp R1 W1 f1 m1 o1 e1 b p V (Hz.out.2.2.2.1.r.below hV) (Hz.out.2.2.2.1.s.below hV) (Hz.out.2.2.2.2.2.2.2.below hV)).mono fun x w' h => ⟨h.1, hV.trans (h.2.mono hV.size)⟩
  have HM2 : Hid (∀ V, Below we.heap.size we V → Calls Tryz.prog 18 #[.agg #[.slice ar1 R1.length cr1, .slice aw1 W1.length cw1, .int .i64 f1, .int .i64 m1, .int .i64 o1, .int .i64 e1], .bool b, .slice ap p.length cp] V fun x w' => x = .returned (.bool (Pl.mayP R1 W1 f1 m1 o1 e1 b p)) ∧ Below we.heap.size we w') := fun V hV => (rpmay_any ar1 aw1 ap cr1 cw1 cp R1 W1 f1 m1 o1 e1 b p V (Hz.out.2.1.r.below hV) (Hz.out.2.1.s.below hV) (Hz.out.2.2.2.2.2.2.2.below hV)).mono fun x w' h => ⟨h.1, hV.trans (h.2.mono hV.size)⟩
  have HF : Hid (∀ V, Below we.heap.size we V → Below w.heap.size w V) := fun V hV => Hz.out.1.trans (hV.mono Hz.out.1.size)
  generalize Pl.polC R1 W1 f1 m1 o1 e1 = PC at *
  generalize Pl.psameP R1 W1 R2 W2 f1 m1 o1 e1 f2 m2 o2 e2 = SB at *
  generalize Pl.mayP R1 W1 f1 m1 o1 e1 b p = MB at *
  generalize hg0 : w.heap.size = g at *
  have HG : Hid (w.heap.size = g) := hg0
  clear hg0
  generalize w1.heap.size = i at *
  generalize w2.heap.size = j at *
  generalize w3.heap.size = k at *
  generalize hh0 : g + 1 = h at *
  clear hh0
  have HS : Hid (∀ V, Below we.heap.size we V → Below we.heap.size we V ∧ (V.cell? ⟨g, 0, none⟩ = some (.slice ar1 R1.length cr1) ∧ V.cell? ⟨g, 1, none⟩ = some (.slice aw1 W1.length cw1) ∧ V.cell? ⟨g, 2, none⟩ = some (.int .i64 f1) ∧ V.cell? ⟨g, 3, none⟩ = some (.int .i64 m1) ∧ V.cell? ⟨g, 4, none⟩ = some (.int .i64 o1) ∧ V.cell? ⟨g, 5, none⟩ = some (.int .i64 e1)) ∧ (V.cell? ⟨h, 0, none⟩ = some (.slice ar2 R2.length cr2) ∧ V.cell? ⟨h, 1, none⟩ = some (.slice aw2 W2.length cw2) ∧ V.cell? ⟨h, 2, none⟩ = some (.int .i64 f2) ∧ V.cell? ⟨h, 3, none⟩ = some (.int .i64 m2) ∧ V.cell? ⟨h, 4, none⟩ = some (.int .i64 o2) ∧ V.cell? ⟨h, 5, none⟩ = some (.int .i64 e2)) ∧ (V.cell? ⟨i, 0, none⟩ = some (.slice aR R1.length nR) ∧ V.cell? ⟨i, 1, none⟩ = some (.slice aW W1.length nW) ∧ V.cell? ⟨i, 2, none⟩ = some (.int .i64 f1) ∧ V.cell? ⟨i, 3, none⟩ = some (.int .i64 m1) ∧ V.cell? ⟨i, 4, none⟩ = some (.int .i64 o1) ∧ V.cell? ⟨i, 5, none⟩ = some (.int .i64 e1)) ∧ (V.cell? ⟨j, 0, none⟩ = some (.slice aX cR'.length nX) ∧ V.cell? ⟨j, 1, none⟩ = some (.slice aY cW'.length nY) ∧ V.cell? ⟨j, 2, none⟩ = some (.int .i64 F') ∧ V.cell? ⟨j, 3, none⟩ = some (.int .i64 M') ∧ V.cell? ⟨j, 4, none⟩ = some (.int .i64 O') ∧ V.cell? ⟨j, 5, none⟩ = some (.int .i64 E')) ∧ (V.cell? ⟨k, 0, none⟩ = some (.slice aU cR'.length nU) ∧ V.cell? ⟨k, 1, none⟩ = some (.slice aV cW'.length nV) ∧ V.cell? ⟨k, 2, none⟩ = some (.int .i64 F') ∧ V.cell? ⟨k, 3, none⟩ = some (.int .i64 M') ∧ V.cell? ⟨k, 4, none⟩ = some (.int .i64 O') ∧ V.cell? ⟨k, 5, none⟩ = some (.int .i64 E'))) := fun V hV => by
    have t1 := (cells_pol (Hz.out.2.1.under hV).x).1
    have t2 := (cells_pol (Hz.out.2.2.1.under hV).x).1
    have t3 := (cells_pol (Hz.out.2.2.2.1.under hV).x).1
    have t4 := (cells_pol (Hz.out.2.2.2.2.1.under hV).x).1
    have t5 := (cells_pol (Hz.out.2.2.2.2.2.1.under hV).x).1
    exact ⟨hV, t1, t2, t3, t4, t5⟩
  have b0 : Below we.heap.size we we.drew := (Below.refl _ we).drew
  have s0 := HS.out we.drew b0
  clear Hz
  go_region_held3 (fun w' => Below we.heap.size we w' ∧ (w'.cell? ⟨g, 0, none⟩ = some (.slice ar1 R1.length cr1) ∧ w'.cell? ⟨g, 1, none⟩ = some (.slice aw1 W1.length cw1) ∧ w'.cell? ⟨g, 2, none⟩ = some (.int .i64 f1) ∧ w'.cell? ⟨g, 3, none⟩ = some (.int .i64 m1) ∧ w'.cell? ⟨g, 4, none⟩ = some (.int .i64 o1) ∧ w'.cell? ⟨g, 5, none⟩ = some (.int .i64 e1)) ∧ (w'.cell? ⟨h, 0, none⟩ = some (.slice ar2 R2.length cr2) ∧ w'.cell? ⟨h, 1, none⟩ = some (.slice aw2 W2.length cw2) ∧ w'.cell? ⟨h, 2, none⟩ = some (.int .i64 f2) ∧ w'.cell? ⟨h, 3, none⟩ = some (.int .i64 m2) ∧ w'.cell? ⟨h, 4, none⟩ = some (.int .i64 o2) ∧ w'.cell? ⟨h, 5, none⟩ = some (.int .i64 e2)) ∧ (w'.cell? ⟨i, 0, none⟩ = some (.slice aR R1.length nR) ∧ w'.cell? ⟨i, 1, none⟩ = some (.slice aW W1.length nW) ∧ w'.cell? ⟨i, 2, none⟩ = some (.int .i64 f1) ∧ w'.cell? ⟨i, 3, none⟩ = some (.int .i64 m1) ∧ w'.cell? ⟨i, 4, none⟩ = some (.int .i64 o1) ∧ w'.cell? ⟨i, 5, none⟩ = some (.int .i64 e1)) ∧ (w'.cell? ⟨j, 0, none⟩ = some (.slice aX cR'.length nX) ∧ w'.cell? ⟨j, 1, none⟩ = some (.slice aY cW'.length nY) ∧ w'.cell? ⟨j, 2, none⟩ = some (.int .i64 F') ∧ w'.cell? ⟨j, 3, none⟩ = some (.int .i64 M') ∧ w'.cell? ⟨j, 4, none⟩ = some (.int .i64 O') ∧ w'.cell? ⟨j, 5, none⟩ = some (.int .i64 E')) ∧ (w'.cell? ⟨k, 0, none⟩ = some (.slice aU cR'.length nU) ∧ w'.cell? ⟨k, 1, none⟩ = some (.slice aV cW'.length nV) ∧ w'.cell? ⟨k, 2, none⟩ = some (.int .i64 F') ∧ w'.cell? ⟨k, 3, none⟩ = some (.int .i64 M') ∧ w'.cell? ⟨k, 4, none⟩ = some (.int .i64 O') ∧ w'.cell? ⟨k, 5, none⟩ = some (.int .i64 E'))) ((first | exact s0 | exact HS.out _ l9)) (first
    | (go_at_call 12; refine (HL.out _ (by first | exact l9 | exact b0)).mono ?_; rintro x wn ⟨rfl, l9⟩)
    | (go_at_call 13; refine (HC1.out _ (by first | exact l9 | exact b0)).mono ?_; rintro x wn ⟨rfl, l9⟩)
    | (go_at_call 14; refine (HC2.out _ (by first | exact l9 | exact b0)).mono ?_; rintro x wn ⟨rfl, l9⟩)
    | (go_at_call_of 15 (aX); refine (HS1.out _ (by first | exact l9 | exact b0)).mono ?_; rintro x wn ⟨rfl, l9⟩)
    | (go_at_call_of 15 (aR); refine (HS5.out _ (by first | exact l9 | exact b0)).mono ?_; rintro x wn ⟨rfl, l9⟩)
    | (go_at_call_of 15 (ar2); refine (HS3.out _ (by first | exact l9 | exact b0)).mono ?_; rintro x wn ⟨rfl, l9⟩)
    | (go_at_call_of 16 (aR); refine (HS4.out _ (by first | exact l9 | exact b0)).mono ?_; rintro x wn ⟨rfl, l9⟩)
    | (go_at_call_of 16 (ar2); refine (HS2.out _ (by first | exact l9 | exact b0)).mono ?_; rintro x wn ⟨rfl, l9⟩)
    | (go_at_call 17; refine (HM1.out _ (by first | exact l9 | exact b0)).mono ?_; rintro x wn ⟨rfl, l9⟩)
    | (go_at_call 18; refine (HM2.out _ (by first | exact l9 | exact b0)).mono ?_; rintro x wn ⟨rfl, l9⟩))
  all_goals
    go_wp2_with fail
    go_ret
    exact ⟨by simp, by rw [HG.out]; exact HF.out _ l9⟩
end Go.Proofs.YtnmplolkbmackaaGreatDoor
