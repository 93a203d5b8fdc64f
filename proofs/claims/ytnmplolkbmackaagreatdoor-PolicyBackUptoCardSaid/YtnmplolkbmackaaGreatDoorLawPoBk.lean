/- PolicyBack: a policy's text is read as its normal form, which allows the same; two policies have one text just if each lies within the other. -/
import Derived.Test.YtnmplolkbmackaaGreatDoorPoBkQ
import Derived.Test.YtnmplolkbmackaaGreatDoorPoLives
import Derived.Deep.RegionHeld3
namespace Go.Proofs.YtnmplolkbmackaaGreatDoor
open Go.RowKit

/-- Two policies, each in a block of its own, beside a path and the tables. -/
structure B2 (w V : World) (g h : Nat) (ar1 aw1 : Option Addr) (cr1 cw1 : Nat) (R1 W1 : List (List ByteArray)) (f1 m1 o1 e1 : Int) (ar2 aw2 : Option Addr) (cr2 cw2 : Nat) (R2 W2 : List (List ByteArray)) (f2 m2 o2 e2 : Int) (ap : Option Addr) (cp : Nat) (p : List ByteArray) : Prop where
  bel : Below w.heap.size w V
  a : PolAt V g ar1 aw1 cr1 cw1 R1 W1 f1 m1 o1 e1
  b : PolAt V h ar2 aw2 cr2 cw2 R2 W2 f2 m2 o2 e2
  T : PT V
  s : Strs V ap cp p
theorem B2.under {w V V' : World} {g h : Nat} {ar1 aw1 : Option Addr} {cr1 cw1 : Nat} {R1 W1 : List (List ByteArray)} {f1 m1 o1 e1 : Int} {ar2 aw2 : Option Addr} {cr2 cw2 : Nat} {R2 W2 : List (List ByteArray)} {f2 m2 o2 e2 : Int} {ap : Option Addr} {cp : Nat} {p : List ByteArray} (t : B2 w V g h ar1 aw1 cr1 cw1 R1 W1 f1 m1 o1 e1 ar2 aw2 cr2 cw2 R2 W2 f2 m2 o2 e2 ap cp p) (hb : Below V.heap.size V V') : B2 w V' g h ar1 aw1 cr1 cw1 R1 W1 f1 m1 o1 e1 ar2 aw2 cr2 cw2 R2 W2 f2 m2 o2 e2 ap cp p :=
  ⟨t.bel.trans (hb.mono t.bel.size), t.a.under hb, t.b.under hb, t.T.under hb, t.s.below hb⟩

set_option maxRecDepth 100000 in
set_option maxHeartbeats 4000000 in
theorem law_back (ar1 aw1 : Option Addr) (cr1 cw1 : Nat) (R1 W1 : List (List ByteArray)) (f1 m1 o1 e1 : Int) (ar2 aw2 : Option Addr) (cr2 cw2 : Nat) (R2 W2 : List (List ByteArray)) (f2 m2 o2 e2 : Int) (b : Bool) (ap : Option Addr) (cp : Nat) (p : List ByteArray) (w : World) (T : PT w) (hr1 : Pts w ar1 cr1 R1) (hw1 : Pts w aw1 cw1 W1) (hr2 : Pts w ar2 cr2 R2) (hw2 : Pts w aw2 cw2 W2) (hp : Strs w ap cp p) :
    Calls Tryz.prog 6 #[.agg #[.slice ar1 R1.length cr1, .slice aw1 W1.length cw1, .int .i64 f1, .int .i64 m1, .int .i64 o1, .int .i64 e1], .agg #[.slice ar2 R2.length cr2, .slice aw2 W2.length cw2, .int .i64 f2, .int .i64 m2, .int .i64 o2, .int .i64 e2], .bool b, .slice ap p.length cp] w fun x w' => x = .returned (.bool true) ∧ Below w.heap.size w w' := by
  obtain ⟨wa, hwa⟩ : ∃ wa, wa = (w.alloc (.cells #[.slice ar1 R1.length cr1, .slice aw1 W1.length cw1, .int .i64 f1, .int .i64 m1, .int .i64 o1, .int .i64 e1] 24)).alloc (.cells #[.slice ar2 R2.length cr2, .slice aw2 W2.length cw2, .int .i64 f2, .int .i64 m2, .int .i64 o2, .int .i64 e2] 24) := ⟨_, rfl⟩
  have hB2 : B2 w wa w.heap.size (w.heap.size + 1) ar1 aw1 cr1 cw1 R1 W1 f1 m1 o1 e1 ar2 aw2 cr2 cw2 R2 W2 f2 m2 o2 e2 ap cp p := by
    have k1 : Below w.heap.size w (w.alloc (.cells #[.slice ar1 R1.length cr1, .slice aw1 W1.length cw1, .int .i64 f1, .int .i64 m1, .int .i64 o1, .int .i64 e1] 24)) := (Below.refl _ _).alloc (Nat.le_refl _) _
    have ie1 : w.heap.size + 1 = (w.alloc (.cells #[.slice ar1 R1.length cr1, .slice aw1 W1.length cw1, .int .i64 f1, .int .i64 m1, .int .i64 o1, .int .i64 e1] 24)).heap.size := by simp
    have k3 : Below w.heap.size w wa := by rw [hwa]; exact k1.alloc k1.size _
    refine ⟨k3, ?_, ?_, T.under k3, hp.below k3⟩
    · rw [hwa]; exact (polAt_new w ar1 aw1 cr1 cw1 R1 W1 f1 m1 o1 e1 hr1 hw1).under ((Below.refl _ _).alloc (Nat.le_refl _) _)
    · rw [hwa, ie1]; exact polAt_new _ ar2 aw2 cr2 cw2 R2 W2 f2 m2 o2 e2 (hr2.below k1) (hw2.below k1)
  have HW : Hid (wa = (w.alloc (.cells #[.slice ar1 R1.length cr1, .slice aw1 W1.length cw1, .int .i64 f1, .int .i64 m1, .int .i64 o1, .int .i64 e1] 24)).alloc (.cells #[.slice ar2 R2.length cr2, .slice aw2 W2.length cw2, .int .i64 f2, .int .i64 m2, .int .i64 o2, .int .i64 e2] 24)) := hwa
  have hlr1 := hr1.len
  have hlw1 := hw1.len
  have hlr2 := hr2.len
  have hlw2 := hw2.len
  have hlp := hp.len
  have C0 := plives_any wa hB2.T
  have H0 : Hid (B2 w wa w.heap.size (w.heap.size + 1) ar1 aw1 cr1 cw1 R1 W1 f1 m1 o1 e1 ar2 aw2 cr2 cw2 R2 W2 f2 m2 o2 e2 ap cp p) := hB2
  clear hwa hB2 T hr1 hw1 hr2 hw2 hp
  go_enter Tryz.func6, Tryz.ntmps6
  go_wp2_with fail
  rw [← HW.out]
  refine C0.mono ?_
  rintro x w1 ⟨rfl, b1⟩
  have h1 := H0.out.under b1
  clear H0 C0 HW b1
  generalize hg0 : w.heap.size = g at *
  have HG : Hid (w.heap.size = g) := hg0
  clear hg0
  generalize hh0 : g + 1 = h at *
  clear hh0
  have C1 := pprint_g ar1 aw1 cr1 cw1 R1 W1 f1 m1 o1 e1 w1 h1.T h1.a.r h1.a.s
  obtain ⟨u0, u1, u2, u3, u4, u5⟩ := (cells_pol (h1.a).x).1
  have H1 : Hid (B2 w w1 g h ar1 aw1 cr1 cw1 R1 W1 f1 m1 o1 e1 ar2 aw2 cr2 cw2 R2 W2 f2 m2 o2 e2 ap cp p) := h1
  clear h1
  go_wp2_with fail
  refine C1.mono ?_
  rintro x w2 ⟨s, rfl, K2⟩
  have h2 := H1.out.under K2.out.2
  have C2 := pprint_g ar2 aw2 cr2 cw2 R2 W2 f2 m2 o2 e2 w2 h2.T h2.b.r h2.b.s
  clear u0 u1 u2 u3 u4 u5
  obtain ⟨v0, v1, v2, v3, v4, v5⟩ := (cells_pol (h2.b).x).1
  have H2 : Hid (B2 w w2 g h ar1 aw1 cr1 cw1 R1 W1 f1 m1 o1 e1 ar2 aw2 cr2 cw2 R2 W2 f2 m2 o2 e2 ap cp p ∧ Pl.PrintIs R1 W1 f1 m1 o1 e1 s) := ⟨h2, K2.out.1⟩
  clear h2 K2 H1 C1
  go_wp2_with fail
  refine C2.mono ?_
  rintro x w3 ⟨t, rfl, K3⟩
  have h3 := H2.out.1.under K3.out.2
  have C3 := check_any ar1 aw1 cr1 cw1 R1 W1 f1 m1 o1 e1 w3 h3.a.r h3.a.s
  clear v0 v1 v2 v3 v4 v5
  obtain ⟨u0, u1, u2, u3, u4, u5⟩ := (cells_pol (h3.a).x).1
  have H3 : Hid (B2 w w3 g h ar1 aw1 cr1 cw1 R1 W1 f1 m1 o1 e1 ar2 aw2 cr2 cw2 R2 W2 f2 m2 o2 e2 ap cp p ∧ Pl.PrintIs R1 W1 f1 m1 o1 e1 s ∧ Pl.PrintIs R2 W2 f2 m2 o2 e2 t) := ⟨h3, H2.out.2, K3.out.1⟩
  clear h3 K3 H2 C2
  go_wp2_with fail
  refine C3.mono ?_
  rintro x w4 ⟨rfl, b4⟩
  have h4 := H3.out.1.under b4
  have C4 := check_any ar2 aw2 cr2 cw2 R2 W2 f2 m2 o2 e2 w4 h4.b.r h4.b.s
  clear u0 u1 u2 u3 u4 u5
  obtain ⟨v0, v1, v2, v3, v4, v5⟩ := (cells_pol (h4.b).x).1
  have H4 : Hid (B2 w w4 g h ar1 aw1 cr1 cw1 R1 W1 f1 m1 o1 e1 ar2 aw2 cr2 cw2 R2 W2 f2 m2 o2 e2 ap cp p ∧ Pl.PrintIs R1 W1 f1 m1 o1 e1 s ∧ Pl.PrintIs R2 W2 f2 m2 o2 e2 t) := ⟨h4, H3.out.2⟩
  clear h4 b4 H3 C3
  go_wp2_with fail
  refine C4.mono ?_
  rintro x w5 ⟨rfl, b5⟩
  have H5 : Hid (B2 w w5 g h ar1 aw1 cr1 cw1 R1 W1 f1 m1 o1 e1 ar2 aw2 cr2 cw2 R2 W2 f2 m2 o2 e2 ap cp p ∧ Pl.PrintIs R1 W1 f1 m1 o1 e1 s ∧ Pl.PrintIs R2 W2 f2 m2 o2 e2 t) := ⟨H4.out.1.under b5, H4.out.2⟩
  clear v0 v1 v2 v3 v4 v5
  clear b5 H4 C4
  rcases (Pl.polC_two R1 W1 f1 m1 o1 e1).symm with k1 | k1
  · have hs : s = ⟨#[]⟩ := by
      rcases H5.out.2.1 with ⟨k, _⟩ | ⟨_, k⟩
      · rw [k1] at k; cases k
      · exact k
    subst hs
    rw [k1]
    have HB : Hid (Below w.heap.size w w5) := H5.out.1.bel
    clear H5 k1
    generalize Pl.polC R2 W2 f2 m2 o2 e2 = Q2 at *
    go_wp2_with fail
    go_ret
    exact ⟨rfl, HB.out⟩
  obtain ⟨hsz, S, cR, cW, q0, q1, q2, q3, q4, q5, q6, q7, q8⟩ := Pl.print_back H5.out.2.1 k1
  rw [k1]
  have HQ : Hid (Pl.parF Pl.S0 0 (Ln.splB s) = .inr S ∧ Pl.Cov R1 cR ∧ Pl.Cov W1 cW ∧ S.R = cR ∧ S.W = cW ∧ (S.q 0 : Int) = f1 ∧ (S.q 1 : Int) = m1 ∧ (S.q 2 : Int) = o1 ∧ (S.q 3 : Int) = e1) := ⟨q0, q1, q2, q3, q4, q5, q6, q7, q8⟩
  have C5 := pnormal_yes ar1 aw1 cr1 cw1 R1 W1 f1 m1 o1 e1 w5 H5.out.1.a.r H5.out.1.a.s k1
  have HK1 : Hid (Pl.polC R1 W1 f1 m1 o1 e1 = 0) := k1
  generalize hQ2 : Pl.polC R2 W2 f2 m2 o2 e2 = Q2 at *
  have HQ2 : Hid (Pl.polC R2 W2 f2 m2 o2 e2 = Q2) := hQ2
  obtain ⟨u0, u1, u2, u3, u4, u5⟩ := (cells_pol (H5.out.1.a).x).1
  clear q0 q1 q2 q3 q4 q5 q6 q7 q8 k1 hQ2
  go_wp2_with fail
  refine C5.mono ?_
  rintro x w6 ⟨b6, sR, sW, aS, aT, nS, nT, v1, v2, v3, v4, rfl, v5, v6⟩
  obtain ⟨aS', nS', ea, pS⟩ := v5.pts (by omega)
  injection ea with ea _ ea'
  subst ea ea'
  obtain ⟨aT', nT', eb, pT⟩ := v6.pts (by omega)
  injection eb with eb _ eb'
  subst eb eb'
  have hs1 := pS.len
  have hs2 := pT.len
  obtain ⟨w7, hw7⟩ : ∃ w7, w7 = w6.alloc (.cells #[.slice aS sR.length nS, .slice aT sW.length nT, .int .i64 f1, .int .i64 m1, .int .i64 o1, .int .i64 e1] 24) := ⟨_, rfl⟩
  have b7 : Below w5.heap.size w5 w7 := by rw [hw7]; exact b6.alloc b6.size _
  have hN : PolAt w7 w6.heap.size aS aT nS nT sR sW f1 m1 o1 e1 := by rw [hw7]; exact polAt_new w6 aS aT nS nT sR sW f1 m1 o1 e1 pS pT
  have HW7 : Hid (w7 = w6.alloc (.cells #[.slice aS sR.length nS, .slice aT sW.length nT, .int .i64 f1, .int .i64 m1, .int .i64 o1, .int .i64 e1] 24)) := hw7
  have h7 := H5.out.1.under b7
  have eR : S.R = sR := HQ.out.2.2.2.1.trans (HQ.out.2.1.unique v1)
  have eW : S.W = sW := HQ.out.2.2.2.2.1.trans (HQ.out.2.2.1.unique v2)
  have C6 : Calls Tryz.prog 23 #[.string s] w7 fun x w' => ∃ aP aQ nP nQ, x = .returned (.tuple #[.agg #[.slice aP sR.length nP, .slice aQ sW.length nQ, .int .i64 f1, .int .i64 m1, .int .i64 o1, .int .i64 e1], .int .i64 0, .agg #[.int .i64 0, .int .i64 0]]) ∧ Hid (Pts w' aP nP sR ∧ Pts w' aQ nQ sW ∧ Below w7.heap.size w7 w') := by
    refine (parse_big s w7 h7.T hsz).mono ?_
    rintro x w' ⟨hb, hm⟩
    rw [HQ.out.1] at hm
    obtain ⟨vR, vW, rfl, hR, hW, _, _, _⟩ := hm
    rw [eR] at hR
    rw [eW] at hW
    obtain ⟨aP, nP, rfl, pP⟩ := hR.row.pts (by omega)
    obtain ⟨aQ, nQ, rfl, pQ⟩ := hW.row.pts (by omega)
    obtain ⟨z1, z2, z3, z4⟩ := HQ.out.2.2.2.2.2
    exact ⟨aP, aQ, nP, nQ, by rw [z1, z2, z3, z4], ⟨pP, pQ, hb⟩⟩
  have H7 : Hid (B2 w w7 g h ar1 aw1 cr1 cw1 R1 W1 f1 m1 o1 e1 ar2 aw2 cr2 cw2 R2 W2 f2 m2 o2 e2 ap cp p ∧ PolAt w7 w6.heap.size aS aT nS nT sR sW f1 m1 o1 e1 ∧ Pl.Cov R1 sR ∧ Pl.Cov W1 sW ∧ Pl.PrintIs R1 W1 f1 m1 o1 e1 s ∧ Pl.PrintIs R2 W2 f2 m2 o2 e2 t) := ⟨h7, hN, v1, v2, H5.out.2⟩
  clear u0 u1 u2 u3 u4 u5
  clear C5 H5 b6 v1 v2 v3 v4 v5 v6 pS pT hw7 b7 hN h7 eR eW HQ hsz
  go_upto_region 10 with fail
  rw [← HW7.out]
  go_wp2_with fail
  refine C6.mono ?_
  rintro x w8 ⟨aP, aQ, nP, nQ, rfl, K8⟩
  obtain ⟨w9, hw9⟩ : ∃ w9, w9 = (w8.alloc (.cells #[.slice aP sR.length nP, .slice aQ sW.length nQ, .int .i64 f1, .int .i64 m1, .int .i64 o1, .int .i64 e1] 24)).alloc (.cells #[.int .i64 0, .int .i64 0] 40) := ⟨_, rfl⟩
  have b9 : Below w7.heap.size w7 w9 := by
    have k := K8.out.2.2.alloc K8.out.2.2.size (.cells #[.slice aP sR.length nP, .slice aQ sW.length nQ, .int .i64 f1, .int .i64 m1, .int .i64 o1, .int .i64 e1] 24)
    rw [hw9]; exact k.alloc k.size _
  have hM : PolAt w9 w8.heap.size aP aQ nP nQ sR sW f1 m1 o1 e1 := by rw [hw9]; exact (polAt_new w8 aP aQ nP nQ sR sW f1 m1 o1 e1 K8.out.1 K8.out.2.1).under ((Below.refl _ _).alloc (Nat.le_refl _) _)
  have HW9 : Hid (w9 = (w8.alloc (.cells #[.slice aP sR.length nP, .slice aQ sW.length nQ, .int .i64 f1, .int .i64 m1, .int .i64 o1, .int .i64 e1] 24)).alloc (.cells #[.int .i64 0, .int .i64 0] 40)) := hw9
  have H9 : Hid (B2 w w9 g h ar1 aw1 cr1 cw1 R1 W1 f1 m1 o1 e1 ar2 aw2 cr2 cw2 R2 W2 f2 m2 o2 e2 ap cp p ∧ PolAt w9 w6.heap.size aS aT nS nT sR sW f1 m1 o1 e1 ∧ PolAt w9 w8.heap.size aP aQ nP nQ sR sW f1 m1 o1 e1) := ⟨H7.out.1.under b9, H7.out.2.1.under b9, hM⟩
  have HP : Hid (Pl.PrintIs R1 W1 f1 m1 o1 e1 s ∧ Pl.PrintIs R2 W2 f2 m2 o2 e2 t) := H7.out.2.2.2.2
  have hmy := Pl.may_normal b p HK1.out H7.out.2.2.1 H7.out.2.2.2.1
  clear C6 HW7 K8 hw9 b9 hM H7
  go_upto_region 11 with fail
  rw [← HW9.out]
  clear HW9
  generalize w6.heap.size = i at *
  generalize w8.heap.size = j at *
  have D1 : Hid (∀ V, Below w9.heap.size w9 V → Calls Tryz.prog 16 #[.agg #[.slice aS sR.length nS, .slice aT sW.length nT, .int .i64 f1, .int .i64 m1, .int .i64 o1, .int .i64 e1], .agg #[.slice aP sR.length nP, .slice aQ sW.length nQ, .int .i64 f1, .int .i64 m1, .int .i64 o1, .int .i64 e1]] V fun x w' => x = .returned (.bool true) ∧ Below w9.heap.size w9 w') := fun V hV => (psame_any aS aT aP aQ nS nT nP nQ sR sW sR sW f1 m1 o1 e1 f1 m1 o1 e1 V (H9.out.2.1.r.below hV) (H9.out.2.1.s.below hV) (H9.out.2.2.r.below hV) (H9.out.2.2.s.below hV)).mono fun x w' hh => ⟨by rw [hh.1, Pl.psame_self], hV.trans (hh.2.mono hV.size)⟩
  have D2 : Hid (∀ V, Below w9.heap.size w9 V → Calls Tryz.prog 17 #[.agg #[.slice aP sR.length nP, .slice aQ sW.length nQ, .int .i64 f1, .int .i64 m1, .int .i64 o1, .int .i64 e1], .bool b, .slice ap p.length cp] V fun x w' => x = .returned (.bool (Pl.mayP R1 W1 f1 m1 o1 e1 b p)) ∧ Below w9.heap.size w9 w') := fun V hV => (pmay_any aP aQ ap nP nQ cp sR sW f1 m1 o1 e1 b p V (H9.out.2.2.r.below hV) (H9.out.2.2.s.below hV) (H9.out.1.s.below hV)).mono fun x w' hh => ⟨by rw [hh.1, hmy], hV.trans (hh.2.mono hV.size)⟩
  have D3 : Hid (∀ V, Below w9.heap.size w9 V → Calls Tryz.prog 17 #[.agg #[.slice ar1 R1.length cr1, .slice aw1 W1.length cw1, .int .i64 f1, .int .i64 m1, .int .i64 o1, .int .i64 e1], .bool b, .slice ap p.length cp] V fun x w' => x = .returned (.bool (Pl.mayP R1 W1 f1 m1 o1 e1 b p)) ∧ Below w9.heap.size w9 w') := fun V hV => (pmay_any ar1 aw1 ap cr1 cw1 cp R1 W1 f1 m1 o1 e1 b p V (H9.out.1.a.r.below hV) (H9.out.1.a.s.below hV) (H9.out.1.s.below hV)).mono fun x w' hh => ⟨hh.1, hV.trans (hh.2.mono hV.size)⟩
  have HS : Hid (∀ V, Below w9.heap.size w9 V → Below w9.heap.size w9 V ∧ (V.cell? ⟨i, 0, none⟩ = some (.slice aS sR.length nS) ∧ V.cell? ⟨i, 1, none⟩ = some (.slice aT sW.length nT) ∧ V.cell? ⟨i, 2, none⟩ = some (.int .i64 f1) ∧ V.cell? ⟨i, 3, none⟩ = some (.int .i64 m1) ∧ V.cell? ⟨i, 4, none⟩ = some (.int .i64 o1) ∧ V.cell? ⟨i, 5, none⟩ = some (.int .i64 e1)) ∧ (V.cell? ⟨j, 0, none⟩ = some (.slice aP sR.length nP) ∧ V.cell? ⟨j, 1, none⟩ = some (.slice aQ sW.length nQ) ∧ V.cell? ⟨j, 2, none⟩ = some (.int .i64 f1) ∧ V.cell? ⟨j, 3, none⟩ = some (.int .i64 m1) ∧ V.cell? ⟨j, 4, none⟩ = some (.int .i64 o1) ∧ V.cell? ⟨j, 5, none⟩ = some (.int .i64 e1)) ∧ (V.cell? ⟨g, 0, none⟩ = some (.slice ar1 R1.length cr1) ∧ V.cell? ⟨g, 1, none⟩ = some (.slice aw1 W1.length cw1) ∧ V.cell? ⟨g, 2, none⟩ = some (.int .i64 f1) ∧ V.cell? ⟨g, 3, none⟩ = some (.int .i64 m1) ∧ V.cell? ⟨g, 4, none⟩ = some (.int .i64 o1) ∧ V.cell? ⟨g, 5, none⟩ = some (.int .i64 e1))) := fun V hV => ⟨hV, (cells_pol (H9.out.2.1.under hV).x).1, (cells_pol (H9.out.2.2.under hV).x).1, (cells_pol (H9.out.1.a.under hV).x).1⟩
  have b0 : Below w9.heap.size w9 w9.drew := (Below.refl _ w9).drew
  have s0 := HS.out w9.drew b0
  clear hmy
  generalize Pl.mayP R1 W1 f1 m1 o1 e1 b p = MA at *
  go_cut [79] (fun v wx => v = .bool false ∧ Below w9.heap.size w9 wx)
  case first =>
    go_region_held3 (fun w' => Below w9.heap.size w9 w' ∧ (w'.cell? ⟨i, 0, none⟩ = some (.slice aS sR.length nS) ∧ w'.cell? ⟨i, 1, none⟩ = some (.slice aT sW.length nT) ∧ w'.cell? ⟨i, 2, none⟩ = some (.int .i64 f1) ∧ w'.cell? ⟨i, 3, none⟩ = some (.int .i64 m1) ∧ w'.cell? ⟨i, 4, none⟩ = some (.int .i64 o1) ∧ w'.cell? ⟨i, 5, none⟩ = some (.int .i64 e1)) ∧ (w'.cell? ⟨j, 0, none⟩ = some (.slice aP sR.length nP) ∧ w'.cell? ⟨j, 1, none⟩ = some (.slice aQ sW.length nQ) ∧ w'.cell? ⟨j, 2, none⟩ = some (.int .i64 f1) ∧ w'.cell? ⟨j, 3, none⟩ = some (.int .i64 m1) ∧ w'.cell? ⟨j, 4, none⟩ = some (.int .i64 o1) ∧ w'.cell? ⟨j, 5, none⟩ = some (.int .i64 e1)) ∧ (w'.cell? ⟨g, 0, none⟩ = some (.slice ar1 R1.length cr1) ∧ w'.cell? ⟨g, 1, none⟩ = some (.slice aw1 W1.length cw1) ∧ w'.cell? ⟨g, 2, none⟩ = some (.int .i64 f1) ∧ w'.cell? ⟨g, 3, none⟩ = some (.int .i64 m1) ∧ w'.cell? ⟨g, 4, none⟩ = some (.int .i64 o1) ∧ w'.cell? ⟨g, 5, none⟩ = some (.int .i64 e1))) ((first | exact s0 | exact HS.out _ l9)) (first
      | (go_at_call 16; refine (D1.out _ (by first | exact l9 | exact b0)).mono ?_; rintro x wn ⟨rfl, l9⟩)
      | (go_at_call_of 17 (aP); refine (D2.out _ (by first | exact l9 | exact b0)).mono ?_; rintro x wn ⟨rfl, l9⟩)
      | (go_at_call_of 17 (ar1); refine (D3.out _ (by first | exact l9 | exact b0)).mono ?_; rintro x wn ⟨rfl, l9⟩))
    all_goals
      go_wp2_with fail
      go_meet
      case rel => exact ⟨by simp, l9⟩
  case rest =>
    obtain ⟨rfl, hb10⟩ := hcut
    have h10 := H9.out.1.under hb10
    clear D1 D2 D3 HS b0 s0 H9 hb10
    have hq2 : Q2 = 50 ∨ Q2 = 0 := by rw [← HQ2.out]; exact (Pl.polC_two R2 W2 f2 m2 o2 e2).symm
    rcases hq2 with k2 | k2
    · subst k2
      have HB : Hid (Below w.heap.size w wc) := h10.bel
      clear h10 HP HK1 HQ2
      go_wp2_with fail
      go_ret
      exact ⟨rfl, HB.out⟩
    subst k2
    have hst := Pl.print_same HP.out.1 HP.out.2 HK1.out HQ2.out
    have C10 := pwithin_any ar1 aw1 cr1 cw1 R1 W1 f1 m1 o1 e1 ar2 aw2 cr2 cw2 R2 W2 f2 m2 o2 e2 wc h10.a.r h10.a.s h10.b.r h10.b.s
    rw [Pl.wth_r HK1.out HQ2.out, Pl.chk2_r HQ2.out, HK1.out] at C10
    have C11 : Hid (∀ V, Below wc.heap.size wc V → Calls Tryz.prog 21 #[.agg #[.slice ar2 R2.length cr2, .slice aw2 W2.length cw2, .int .i64 f2, .int .i64 m2, .int .i64 o2, .int .i64 e2], .agg #[.slice ar1 R1.length cr1, .slice aw1 W1.length cw1, .int .i64 f1, .int .i64 m1, .int .i64 o1, .int .i64 e1]] V fun x w' => x = .returned (.tuple #[.bool (Pl.wthB R2 W2 f2 m2 o2 e2 R1 W1 f1 m1 o1 e1), .int .i64 ((0 : Nat) : Int)]) ∧ Below V.heap.size V w') := fun V hV => (pwithin_any ar2 aw2 cr2 cw2 R2 W2 f2 m2 o2 e2 ar1 aw1 cr1 cw1 R1 W1 f1 m1 o1 e1 V (h10.b.r.below hV) (h10.b.s.below hV) (h10.a.r.below hV) (h10.a.s.below hV)).mono fun x w' hh => ⟨by rw [hh.1, Pl.wth_r HQ2.out HK1.out, Pl.chk2_r HK1.out, HQ2.out], hh.2⟩
    obtain ⟨u0, u1, u2, u3, u4, u5⟩ := (cells_pol (h10.a).x).1
    obtain ⟨v0, v1, v2, v3, v4, v5⟩ := (cells_pol (h10.b).x).1
    have H10 : Hid (B2 w wc g h ar1 aw1 cr1 cw1 R1 W1 f1 m1 o1 e1 ar2 aw2 cr2 cw2 R2 W2 f2 m2 o2 e2 ap cp p) := h10
    clear h10 HP HK1 HQ2
    generalize Pl.wthB R1 W1 f1 m1 o1 e1 R2 W2 f2 m2 o2 e2 = U at *
    generalize Pl.wthB R2 W2 f2 m2 o2 e2 R1 W1 f1 m1 o1 e1 = V at *
    go_wp2_with fail
    refine C10.mono ?_
    rintro x w11 ⟨rfl, b11⟩
    have D11 := C11.out w11 b11
    clear u0 u1 u2 u3 u4 u5 v0 v1 v2 v3 v4 v5
    obtain ⟨u0, u1, u2, u3, u4, u5⟩ := (cells_pol (H10.out.a.under b11).x).1
    obtain ⟨v0, v1, v2, v3, v4, v5⟩ := (cells_pol (H10.out.b.under b11).x).1
    have H11 : Hid (B2 w w11 g h ar1 aw1 cr1 cw1 R1 W1 f1 m1 o1 e1 ar2 aw2 cr2 cw2 R2 W2 f2 m2 o2 e2 ap cp p) := H10.out.under b11
    clear C10 C11 H10 b11
    go_wp2_with fail
    refine D11.mono ?_
    rintro x w12 ⟨rfl, b12⟩
    have HB : Hid (Below w.heap.size w w12) := (H11.out.under b12).bel
    clear u0 u1 u2 u3 u4 u5 v0 v1 v2 v3 v4 v5
    clear D11 H11 b12
    cases U
    · have hst2 : (s.toList == t.toList) = false := hst
      clear hst
      go_wp2_with fail
      go_ret
      exact ⟨by simp, HB.out⟩
    · have hst2 : (s.toList == t.toList) = V := hst
      clear hst
      go_wp2_with fail
      go_ret
      exact ⟨by simp, HB.out⟩
end Go.Proofs.YtnmplolkbmackaaGreatDoor
