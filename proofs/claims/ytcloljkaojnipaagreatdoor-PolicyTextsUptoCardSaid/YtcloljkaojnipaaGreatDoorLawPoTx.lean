/- PolicyTexts: Parse and Print of any text and policy are the document's. -/
import Derived.Test.YtcloljkaojnipaaGreatDoorPoPg
import Derived.Deep.RegionHeld3
namespace Go.Proofs.YtcloljkaojnipaaGreatDoor
open Go.RowKit

set_option maxRecDepth 100000 in
set_option maxHeartbeats 4000000 in
theorem law_texts (s : ByteArray) (ar1 aw1 : Option Addr) (cr1 cw1 : Nat) (R1 W1 : List (List ByteArray)) (f1 m1 o1 e1 : Int) (w : World) (T : PT w) (b0 o0 c0 : Nat) (hwt : WT w b0 o0 c0) (hs : s.size ≤ 16777216) (hr1 : Pts w ar1 cr1 R1) (hw1 : Pts w aw1 cw1 W1) :
    Calls Tryz.prog 5 #[.string s, .agg #[.slice ar1 R1.length cr1, .slice aw1 W1.length cw1, .int .i64 f1, .int .i64 m1, .int .i64 o1, .int .i64 e1]] w fun x w' => x = .returned (.bool true) ∧ Below w.heap.size w w' := by
  obtain ⟨wa, hwa⟩ : ∃ wa, wa = w.alloc (.cells #[.slice ar1 R1.length cr1, .slice aw1 W1.length cw1, .int .i64 f1, .int .i64 m1, .int .i64 o1, .int .i64 e1] 24) := ⟨_, rfl⟩
  have hB : Below w.heap.size w wa := by rw [hwa]; exact (Below.refl _ _).alloc (Nat.le_refl _) _
  have hP : PolAt wa w.heap.size ar1 aw1 cr1 cw1 R1 W1 f1 m1 o1 e1 := by rw [hwa]; exact polAt_new w ar1 aw1 cr1 cw1 R1 W1 f1 m1 o1 e1 hr1 hw1
  have HW : Hid (wa = w.alloc (.cells #[.slice ar1 R1.length cr1, .slice aw1 W1.length cw1, .int .i64 f1, .int .i64 m1, .int .i64 o1, .int .i64 e1] 24)) := hwa
  have hlr1 := hr1.len
  have hlw1 := hw1.len
  have C1 := pparse_g s wa (T.under hB) hs
  have HA : Hid (Below w.heap.size w wa ∧ PolAt wa w.heap.size ar1 aw1 cr1 cw1 R1 W1 f1 m1 o1 e1 ∧ PT w ∧ WT w b0 o0 c0) := ⟨hB, hP, T, hwt⟩
  clear hwa hB hP T hwt hr1 hw1
  generalize hr : Pl.parF Pl.S0 0 (Ln.splB s) = r at *
  have HRr : Hid (r = Pl.parF Pl.S0 0 (Ln.splB s)) := hr.symm
  clear hr
  go_enter Tryz.func5, Tryz.ntmps5
  go_wp2_with fail
  rw [← HW.out]
  refine C1.mono ?_
  rintro x w1 ⟨aX, aY, nX, nY, cR, cW, F, M, O, E, why, fl, fr, rfl, K1⟩
  have hx1 := K1.out.1.len
  have hx2 := K1.out.2.1.len
  obtain ⟨wb, hwb⟩ : ∃ wb, wb = (w1.alloc (.cells #[.slice aX cR.length nX, .slice aY cW.length nY, .int .i64 F, .int .i64 M, .int .i64 O, .int .i64 E] 24)).alloc (.cells #[.int .i64 fl, .int .i64 fr] 40) := ⟨_, rfl⟩
  have HWb : Hid (wb = (w1.alloc (.cells #[.slice aX cR.length nX, .slice aY cW.length nY, .int .i64 F, .int .i64 M, .int .i64 O, .int .i64 E] 24)).alloc (.cells #[.int .i64 fl, .int .i64 fr] 40)) := hwb
  have bb : Below wa.heap.size wa wb := by rw [hwb]; exact (K1.out.2.2.2.alloc K1.out.2.2.2.size _).alloc (by have := K1.out.2.2.2.size; simp; omega) _
  have HB : Hid (Below wa.heap.size wa wb ∧ PfAt wb w1.heap.size aX aY nX nY cR cW F M O E fl fr ∧ Pl.ParIs r cR cW F M O E why fl fr ∧ Below w.heap.size w wb) := ⟨bb, by rw [hwb]; exact pfAt_new w1 aX aY nX nY cR cW F M O E fl fr K1.out.1 K1.out.2.1, K1.out.2.2.1, HA.out.1.trans (bb.mono HA.out.1.size)⟩
  clear hwb bb C1 HW K1
  go_upto_region 2 with fail
  rw [← HWb.out]
  clear HWb
  have C2 := rpparse_g s wb b0 o0 c0 (HA.out.2.2.2.below HB.out.2.2.2) hs
  have hr0 : r = Pl.parF Pl.S0 0 (Ln.splB s) := HRr.out
  rw [← hr0] at C2
  clear hr0
  go_wp2_with fail
  refine C2.mono ?_
  rintro x w2 ⟨aU, aV, nU, nV, dR, dW, F', M', O', E', why', fl', fr', rfl, K2⟩
  obtain ⟨rfl, rfl, rfl, rfl, rfl, rfl, rfl, rfl, rfl⟩ := HB.out.2.2.1.one K2.out.2.2.1
  obtain ⟨wc, hwc⟩ : ∃ wc, wc = (w2.alloc (.cells #[.slice aU dR.length nU, .slice aV dW.length nV, .int .i64 F', .int .i64 M', .int .i64 O', .int .i64 E'] 24)).alloc (.cells #[.int .i64 fl', .int .i64 fr'] 40) := ⟨_, rfl⟩
  have HWc : Hid (wc = (w2.alloc (.cells #[.slice aU dR.length nU, .slice aV dW.length nV, .int .i64 F', .int .i64 M', .int .i64 O', .int .i64 E'] 24)).alloc (.cells #[.int .i64 fl', .int .i64 fr'] 40)) := hwc
  have bc : Below wb.heap.size wb wc := by rw [hwc]; exact (K2.out.2.2.2.alloc K2.out.2.2.2.size _).alloc (by have := K2.out.2.2.2.size; simp; omega) _
  have bwc : Below w.heap.size w wc := HB.out.2.2.2.trans (bc.mono HB.out.2.2.2.size)
  have HC : Hid (Below w.heap.size w wc ∧ PfAt wc w1.heap.size aX aY nX nY dR dW F' M' O' E' fl' fr' ∧ PfAt wc w2.heap.size aU aV nU nV dR dW F' M' O' E' fl' fr' ∧ PolAt wc w.heap.size ar1 aw1 cr1 cw1 R1 W1 f1 m1 o1 e1 ∧ PT wc) := by
    refine ⟨bwc, HB.out.2.1.under bc, ?_, (HA.out.2.1.under HB.out.1).under bc, HA.out.2.2.1.under bwc⟩
    rw [hwc]; exact pfAt_new w2 aU aV nU nV dR dW F' M' O' E' fl' fr' K2.out.1 K2.out.2.1
  have C3 := pprint_g ar1 aw1 cr1 cw1 R1 W1 f1 m1 o1 e1 wc HC.out.2.2.2.2 HC.out.2.2.2.1.r HC.out.2.2.2.1.s
  obtain ⟨⟨x0, x1, x2, x3, x4, x5⟩, _⟩ := cells_pol HC.out.2.2.2.1.x
  clear hwc bc bwc C2 K2 HA HB HRr
  go_upto_region 3 with fail
  rw [← HWc.out]
  clear HWc
  go_wp2_with fail
  refine C3.mono ?_
  rintro x w3 ⟨t1, rfl, K3⟩
  have hP3 := HC.out.2.2.2.1.under K3.out.2
  have C4 := rprint_g ar1 aw1 cr1 cw1 R1 W1 f1 m1 o1 e1 w3 hP3.r hP3.s
  clear x0 x1 x2 x3 x4 x5
  obtain ⟨⟨x0, x1, x2, x3, x4, x5⟩, _⟩ := cells_pol hP3.x
  clear hP3 C3
  go_wp2_with fail
  refine C4.mono ?_
  rintro x w4 ⟨t2, rfl, K4⟩
  obtain rfl := K3.out.1.one K4.out.1
  have b34 : Below wc.heap.size wc w4 := K3.out.2.trans (K4.out.2.mono K3.out.2.size)
  have Hy : Hid (Below w.heap.size w w4 ∧ PfAt w4 w1.heap.size aX aY nX nY dR dW F' M' O' E' fl' fr' ∧ PfAt w4 w2.heap.size aU aV nU nV dR dW F' M' O' E' fl' fr' ∧ PT w4) := ⟨HC.out.1.trans (b34.mono HC.out.1.size), HC.out.2.1.under b34, HC.out.2.2.1.under b34, HC.out.2.2.2.2.under b34⟩
  clear x0 x1 x2 x3 x4 x5 C4 K3 K4 HC b34
  generalize Pl.polC R1 W1 f1 m1 o1 e1 = PC at *
  have HL : Hid (Calls Tryz.prog 12 #[] w4 fun x w' => x = .returned (.bool true) ∧ Below w4.heap.size w4 w') := plives_any w4 Hy.out.2.2.2
  have HS1 : Hid (∀ V, Below w4.heap.size w4 V → Calls Tryz.prog 15 #[.agg #[.slice aX dR.length nX, .slice aY dW.length nY, .int .i64 F', .int .i64 M', .int .i64 O', .int .i64 E'], .agg #[.slice aU dR.length nU, .slice aV dW.length nV, .int .i64 F', .int .i64 M', .int .i64 O', .int .i64 E']] V fun x w' => x = .returned (.bool true) ∧ Below w4.heap.size w4 w') := fun V hV => (rpsame_any aX aY aU aV nX nY nU nV dR dW dR dW F' M' O' E' F' M' O' E' V (Hy.out.2.1.p.r.below hV) (Hy.out.2.1.p.s.below hV) (Hy.out.2.2.1.p.r.below hV) (Hy.out.2.2.1.p.s.below hV)).mono fun x w' h => ⟨by rw [h.1, Pl.psame_self], hV.trans (h.2.mono hV.size)⟩
  have HS : Hid (∀ V, Below w4.heap.size w4 V → PfAt V w1.heap.size aX aY nX nY dR dW F' M' O' E' fl' fr' ∧ PfAt V w2.heap.size aU aV nU nV dR dW F' M' O' E' fl' fr' ∧ Below w.heap.size w V) := fun V hV => ⟨Hy.out.2.1.under hV, Hy.out.2.2.1.under hV, Hy.out.1.trans (hV.mono Hy.out.1.size)⟩
  clear Hy
  have feq := fault_eq fl' fr' fl' fr'
  generalize w1.heap.size = j at *
  generalize w2.heap.size = k at *
  go_wp2_with fail
  refine HL.out.mono ?_
  rintro x w7 ⟨rfl, l7⟩
  have k7 := HS.out w7 l7
  obtain ⟨⟨z0, z1, z2, z3, z4, z5⟩, _⟩ := cells_pol k7.1.p.x
  obtain ⟨⟨v0, v1, v2, v3, v4, v5⟩, _⟩ := cells_pol k7.2.1.p.x
  clear k7
  go_wp2_with fail
  refine (HS1.out w7 l7).mono ?_
  rintro x w8 ⟨rfl, l8⟩
  have k8 := HS.out w8 l8
  obtain ⟨g0, g1⟩ := k8.1.fc
  obtain ⟨h0, h1⟩ := k8.2.1.fc
  have HZ : Hid (Below w.heap.size w w8) := k8.2.2
  clear z0 z1 z2 z3 z4 z5 v0 v1 v2 v3 v4 v5 k8
  go_wp2_with fail
  go_ret
  exact ⟨by simp, HZ.out⟩
end Go.Proofs.YtcloljkaojnipaaGreatDoor
