/- PolicyBoth: what two policies allow together is what each allows; their meeting is the widest that lies within both. -/
import Derived.Test.YtnmplolkbmackaaGreatDoorPoBthP
import Derived.Test.YtnmplolkbmackaaGreatDoorPoLives
import Derived.Deep.RegionHeld3
namespace Go.Proofs.YtnmplolkbmackaaGreatDoor
open Go.RowKit

/-- Three policies, each in a block of its own, beside a path and the tables. -/
structure B3 (w V : World) (g h k : Nat) (ar1 aw1 : Option Addr) (cr1 cw1 : Nat) (R1 W1 : List (List ByteArray)) (f1 m1 o1 e1 : Int) (ar2 aw2 : Option Addr) (cr2 cw2 : Nat) (R2 W2 : List (List ByteArray)) (f2 m2 o2 e2 : Int) (ar3 aw3 : Option Addr) (cr3 cw3 : Nat) (R3 W3 : List (List ByteArray)) (f3 m3 o3 e3 : Int) (ap : Option Addr) (cp : Nat) (p : List ByteArray) : Prop where
  bel : Below w.heap.size w V
  a : PolAt V g ar1 aw1 cr1 cw1 R1 W1 f1 m1 o1 e1
  b : PolAt V h ar2 aw2 cr2 cw2 R2 W2 f2 m2 o2 e2
  c : PolAt V k ar3 aw3 cr3 cw3 R3 W3 f3 m3 o3 e3
  T : PT V
  s : Strs V ap cp p
theorem B3.under {w V V' : World} {g h k : Nat} {ar1 aw1 : Option Addr} {cr1 cw1 : Nat} {R1 W1 : List (List ByteArray)} {f1 m1 o1 e1 : Int} {ar2 aw2 : Option Addr} {cr2 cw2 : Nat} {R2 W2 : List (List ByteArray)} {f2 m2 o2 e2 : Int} {ar3 aw3 : Option Addr} {cr3 cw3 : Nat} {R3 W3 : List (List ByteArray)} {f3 m3 o3 e3 : Int} {ap : Option Addr} {cp : Nat} {p : List ByteArray} (t : B3 w V g h k ar1 aw1 cr1 cw1 R1 W1 f1 m1 o1 e1 ar2 aw2 cr2 cw2 R2 W2 f2 m2 o2 e2 ar3 aw3 cr3 cw3 R3 W3 f3 m3 o3 e3 ap cp p) (hb : Below V.heap.size V V') : B3 w V' g h k ar1 aw1 cr1 cw1 R1 W1 f1 m1 o1 e1 ar2 aw2 cr2 cw2 R2 W2 f2 m2 o2 e2 ar3 aw3 cr3 cw3 R3 W3 f3 m3 o3 e3 ap cp p :=
  ⟨t.bel.trans (hb.mono t.bel.size), t.a.under hb, t.b.under hb, t.c.under hb, t.T.under hb, t.s.below hb⟩

set_option maxRecDepth 100000 in
set_option maxHeartbeats 4000000 in
theorem law_both (ar1 aw1 : Option Addr) (cr1 cw1 : Nat) (R1 W1 : List (List ByteArray)) (f1 m1 o1 e1 : Int) (ar2 aw2 : Option Addr) (cr2 cw2 : Nat) (R2 W2 : List (List ByteArray)) (f2 m2 o2 e2 : Int) (ar3 aw3 : Option Addr) (cr3 cw3 : Nat) (R3 W3 : List (List ByteArray)) (f3 m3 o3 e3 : Int) (b : Bool) (ap : Option Addr) (cp : Nat) (p : List ByteArray) (w : World) (T : PT w) (hr1 : Pts w ar1 cr1 R1) (hw1 : Pts w aw1 cw1 W1) (hr2 : Pts w ar2 cr2 R2) (hw2 : Pts w aw2 cw2 W2) (hr3 : Pts w ar3 cr3 R3) (hw3 : Pts w aw3 cw3 W3) (hp : Strs w ap cp p) :
    Calls Tryz.prog 7 #[.agg #[.slice ar1 R1.length cr1, .slice aw1 W1.length cw1, .int .i64 f1, .int .i64 m1, .int .i64 o1, .int .i64 e1], .agg #[.slice ar2 R2.length cr2, .slice aw2 W2.length cw2, .int .i64 f2, .int .i64 m2, .int .i64 o2, .int .i64 e2], .agg #[.slice ar3 R3.length cr3, .slice aw3 W3.length cw3, .int .i64 f3, .int .i64 m3, .int .i64 o3, .int .i64 e3], .bool b, .slice ap p.length cp] w fun x w' => x = .returned (.bool true) ∧ Below w.heap.size w w' := by
  obtain ⟨wa, hwa⟩ : ∃ wa, wa = ((w.alloc (.cells #[.slice ar1 R1.length cr1, .slice aw1 W1.length cw1, .int .i64 f1, .int .i64 m1, .int .i64 o1, .int .i64 e1] 24)).alloc (.cells #[.slice ar2 R2.length cr2, .slice aw2 W2.length cw2, .int .i64 f2, .int .i64 m2, .int .i64 o2, .int .i64 e2] 24)).alloc (.cells #[.slice ar3 R3.length cr3, .slice aw3 W3.length cw3, .int .i64 f3, .int .i64 m3, .int .i64 o3, .int .i64 e3] 24) := ⟨_, rfl⟩
  have hB3 : B3 w wa w.heap.size (w.heap.size + 1) (w.heap.size + 1 + 1) ar1 aw1 cr1 cw1 R1 W1 f1 m1 o1 e1 ar2 aw2 cr2 cw2 R2 W2 f2 m2 o2 e2 ar3 aw3 cr3 cw3 R3 W3 f3 m3 o3 e3 ap cp p := by
    have k1 : Below w.heap.size w (w.alloc (.cells #[.slice ar1 R1.length cr1, .slice aw1 W1.length cw1, .int .i64 f1, .int .i64 m1, .int .i64 o1, .int .i64 e1] 24)) := (Below.refl _ _).alloc (Nat.le_refl _) _
    have k2 : Below w.heap.size w ((w.alloc (.cells #[.slice ar1 R1.length cr1, .slice aw1 W1.length cw1, .int .i64 f1, .int .i64 m1, .int .i64 o1, .int .i64 e1] 24)).alloc (.cells #[.slice ar2 R2.length cr2, .slice aw2 W2.length cw2, .int .i64 f2, .int .i64 m2, .int .i64 o2, .int .i64 e2] 24)) := k1.alloc k1.size _
    have ie1 : w.heap.size + 1 = (w.alloc (.cells #[.slice ar1 R1.length cr1, .slice aw1 W1.length cw1, .int .i64 f1, .int .i64 m1, .int .i64 o1, .int .i64 e1] 24)).heap.size := by simp
    have ie2 : w.heap.size + 1 + 1 = ((w.alloc (.cells #[.slice ar1 R1.length cr1, .slice aw1 W1.length cw1, .int .i64 f1, .int .i64 m1, .int .i64 o1, .int .i64 e1] 24)).alloc (.cells #[.slice ar2 R2.length cr2, .slice aw2 W2.length cw2, .int .i64 f2, .int .i64 m2, .int .i64 o2, .int .i64 e2] 24)).heap.size := by simp
    have k3 : Below w.heap.size w wa := by rw [hwa]; exact k2.alloc k2.size _
    refine ⟨k3, ?_, ?_, ?_, T.under k3, hp.below k3⟩
    · rw [hwa]; exact ((polAt_new w ar1 aw1 cr1 cw1 R1 W1 f1 m1 o1 e1 hr1 hw1).under ((Below.refl _ _).alloc (Nat.le_refl _) _)).under ((Below.refl _ _).alloc (Nat.le_refl _) _)
    · rw [hwa, ie1]; exact (polAt_new _ ar2 aw2 cr2 cw2 R2 W2 f2 m2 o2 e2 (hr2.below k1) (hw2.below k1)).under ((Below.refl _ _).alloc (Nat.le_refl _) _)
    · rw [hwa, ie2]; exact polAt_new _ ar3 aw3 cr3 cw3 R3 W3 f3 m3 o3 e3 (hr3.below k2) (hw3.below k2)
  have HW : Hid (wa = ((w.alloc (.cells #[.slice ar1 R1.length cr1, .slice aw1 W1.length cw1, .int .i64 f1, .int .i64 m1, .int .i64 o1, .int .i64 e1] 24)).alloc (.cells #[.slice ar2 R2.length cr2, .slice aw2 W2.length cw2, .int .i64 f2, .int .i64 m2, .int .i64 o2, .int .i64 e2] 24)).alloc (.cells #[.slice ar3 R3.length cr3, .slice aw3 W3.length cw3, .int .i64 f3, .int .i64 m3, .int .i64 o3, .int .i64 e3] 24)) := hwa
  have hlr1 := hr1.len
  have hlw1 := hw1.len
  have hlr2 := hr2.len
  have hlw2 := hw2.len
  have hlr3 := hr3.len
  have hlw3 := hw3.len
  have hlp := hp.len
  have C0 := plives_any wa hB3.T
  have H0 : Hid (B3 w wa w.heap.size (w.heap.size + 1) (w.heap.size + 1 + 1) ar1 aw1 cr1 cw1 R1 W1 f1 m1 o1 e1 ar2 aw2 cr2 cw2 R2 W2 f2 m2 o2 e2 ar3 aw3 cr3 cw3 R3 W3 f3 m3 o3 e3 ap cp p) := hB3
  clear hwa hB3 T hr1 hw1 hr2 hw2 hr3 hw3 hp
  go_enter Tryz.func7, Tryz.ntmps7
  go_wp2_with fail
  rw [← HW.out]
  refine C0.mono ?_
  rintro x w1 ⟨rfl, b1⟩
  have h1 := H0.out.under b1
  clear H0 C0 HW b1
  generalize hg0 : w.heap.size = g at *
  have HG : Hid (w.heap.size = g) := hg0
  clear hg0
  generalize hh0 : g + 1 = h at *
  generalize hk0 : h + 1 = k at *
  clear hh0 hk0
  have C1 := pmeet_g ar1 aw1 cr1 cw1 R1 W1 f1 m1 o1 e1 ar2 aw2 cr2 cw2 R2 W2 f2 m2 o2 e2 w1 h1.a.r h1.a.s h1.b.r h1.b.s
  obtain ⟨u0, u1, u2, u3, u4, u5⟩ := (cells_pol (h1.a).x).1
  obtain ⟨v0, v1, v2, v3, v4, v5⟩ := (cells_pol (h1.b).x).1
  have H1 : Hid (B3 w w1 g h k ar1 aw1 cr1 cw1 R1 W1 f1 m1 o1 e1 ar2 aw2 cr2 cw2 R2 W2 f2 m2 o2 e2 ar3 aw3 cr3 cw3 R3 W3 f3 m3 o3 e3 ap cp p) := h1
  clear h1
  go_wp2_with fail
  refine C1.mono ?_
  rintro x w2 ⟨aX, aY, nX, nY, cR, cW, F, M, O, E, c, rfl, K2⟩
  have hx1 := K2.out.1.len
  have hx2 := K2.out.2.1.len
  obtain ⟨w3, hw3⟩ : ∃ w3, w3 = w2.alloc (.cells #[.slice aX cR.length nX, .slice aY cW.length nY, .int .i64 F, .int .i64 M, .int .i64 O, .int .i64 E] 24) := ⟨_, rfl⟩
  have b3 : Below w1.heap.size w1 w3 := by rw [hw3]; exact K2.out.2.2.2.alloc K2.out.2.2.2.size _
  have hX : PolAt w3 w2.heap.size aX aY nX nY cR cW F M O E := by rw [hw3]; exact polAt_new w2 aX aY nX nY cR cW F M O E K2.out.1 K2.out.2.1
  have HW3 : Hid (w3 = w2.alloc (.cells #[.slice aX cR.length nX, .slice aY cW.length nY, .int .i64 F, .int .i64 M, .int .i64 O, .int .i64 E] 24)) := hw3
  have h3 := H1.out.under b3
  have C2 := pmeet_g ar2 aw2 cr2 cw2 R2 W2 f2 m2 o2 e2 ar1 aw1 cr1 cw1 R1 W1 f1 m1 o1 e1 w3 h3.b.r h3.b.s h3.a.r h3.a.s
  have H3 : Hid (B3 w w3 g h k ar1 aw1 cr1 cw1 R1 W1 f1 m1 o1 e1 ar2 aw2 cr2 cw2 R2 W2 f2 m2 o2 e2 ar3 aw3 cr3 cw3 R3 W3 f3 m3 o3 e3 ap cp p ∧ PolAt w3 w2.heap.size aX aY nX nY cR cW F M O E ∧ Pl.MeetIs R1 W1 f1 m1 o1 e1 R2 W2 f2 m2 o2 e2 cR cW F M O E c) := ⟨h3, hX, K2.out.2.2.1⟩
  clear u0 u1 u2 u3 u4 u5 v0 v1 v2 v3 v4 v5
  obtain ⟨u0, u1, u2, u3, u4, u5⟩ := (cells_pol (h3.a).x).1
  obtain ⟨v0, v1, v2, v3, v4, v5⟩ := (cells_pol (h3.b).x).1
  clear hw3 b3 hX h3 C1 K2 H1
  go_upto_region 4 with fail
  rw [← HW3.out]
  go_wp2_with fail
  refine C2.mono ?_
  rintro x w4 ⟨aU, aV, nU, nV, cR', cW', F', M', O', E', c', rfl, K4⟩
  obtain ⟨rfl, rfl, rfl, rfl, rfl, rfl, rfl⟩ := H3.out.2.2.comm.one K4.out.2.2.1
  obtain ⟨w5, hw5⟩ : ∃ w5, w5 = w4.alloc (.cells #[.slice aU cR'.length nU, .slice aV cW'.length nV, .int .i64 F', .int .i64 M', .int .i64 O', .int .i64 E'] 24) := ⟨_, rfl⟩
  have b5 : Below w3.heap.size w3 w5 := by rw [hw5]; exact K4.out.2.2.2.alloc K4.out.2.2.2.size _
  have hY : PolAt w5 w4.heap.size aU aV nU nV cR' cW' F' M' O' E' := by rw [hw5]; exact polAt_new w4 aU aV nU nV cR' cW' F' M' O' E' K4.out.1 K4.out.2.1
  have HW5 : Hid (w5 = w4.alloc (.cells #[.slice aU cR'.length nU, .slice aV cW'.length nV, .int .i64 F', .int .i64 M', .int .i64 O', .int .i64 E'] 24)) := hw5
  have hX5 := H3.out.2.1.under b5
  have C3 := psame_any aX aY aU aV nX nY nU nV cR' cW' cR' cW' F' M' O' E' F' M' O' E' w5 hX5.r hX5.s hY.r hY.s
  rw [Pl.psame_self] at C3
  have H5 : Hid (B3 w w5 g h k ar1 aw1 cr1 cw1 R1 W1 f1 m1 o1 e1 ar2 aw2 cr2 cw2 R2 W2 f2 m2 o2 e2 ar3 aw3 cr3 cw3 R3 W3 f3 m3 o3 e3 ap cp p ∧ PolAt w5 w2.heap.size aX aY nX nY cR' cW' F' M' O' E' ∧ Pl.MeetIs R1 W1 f1 m1 o1 e1 R2 W2 f2 m2 o2 e2 cR' cW' F' M' O' E' c') := ⟨H3.out.1.under b5, hX5, H3.out.2.2⟩
  clear u0 u1 u2 u3 u4 u5 v0 v1 v2 v3 v4 v5
  obtain ⟨u0, u1, u2, u3, u4, u5⟩ := (cells_pol (hX5).x).1
  obtain ⟨v0, v1, v2, v3, v4, v5⟩ := (cells_pol (hY).x).1
  clear hw5 b5 hX5 hY C2 K4 H3 HW3
  go_upto_region 5 with fail
  rw [← HW5.out]
  clear HW5
  go_wp2_with fail
  refine C3.mono ?_
  rintro x w6 ⟨rfl, b6⟩
  have h6 := H5.out.1.under b6
  have hX6 := H5.out.2.1.under b6
  have HI : Hid (Pl.MeetIs R1 W1 f1 m1 o1 e1 R2 W2 f2 m2 o2 e2 cR' cW' F' M' O' E' c') := H5.out.2.2
  generalize w2.heap.size = i at *
  clear u0 u1 u2 u3 u4 u5 v0 v1 v2 v3 v4 v5
  clear C3 H5 b6
  rcases HI.out with ⟨hc, _, _, _, _, _, _, rfl⟩ | ⟨hc, dR, dW, cov1, cov2, ⟨_, _, _, _, _, _, _, rfl⟩ | ⟨⟨lR, lW⟩, rfl, rfl, eF, eM, eO, eE, rfl⟩⟩
  · clear HI
    have hk : Pl.polC R1 W1 f1 m1 o1 e1 = 50 ∨ Pl.polC R1 W1 f1 m1 o1 e1 = 0 ∧ Pl.polC R2 W2 f2 m2 o2 e2 = 50 := by
      rcases Pl.polC_two R1 W1 f1 m1 o1 e1 with q | q
      · unfold Pl.chk2 at hc; rw [if_pos q] at hc; exact .inr ⟨q, hc⟩
      · exact .inl q
    have D1 := check_any ar1 aw1 cr1 cw1 R1 W1 f1 m1 o1 e1 w6 h6.a.r h6.a.s
    obtain ⟨u0, u1, u2, u3, u4, u5⟩ := (cells_pol (h6.a).x).1
    have H6 : Hid (B3 w w6 g h k ar1 aw1 cr1 cw1 R1 W1 f1 m1 o1 e1 ar2 aw2 cr2 cw2 R2 W2 f2 m2 o2 e2 ar3 aw3 cr3 cw3 R3 W3 f3 m3 o3 e3 ap cp p) := h6
    clear h6 hX6 hc
    rcases hk with q | ⟨q, q'⟩
    · rw [q] at D1
      clear q
      go_wp2_with fail
      refine D1.mono ?_
      rintro x w7 ⟨rfl, b7⟩
      have h7 := H6.out.under b7
      obtain ⟨v0, v1, v2, v3, v4, v5⟩ := (cells_pol (h7.b).x).1
      have HB : Hid (Below w.heap.size w w7) := by have := h7.bel; exact this
      clear h7 H6 D1 b7
      clear u0 u1 u2 u3 u4 u5
      go_wp2_with fail
      go_ret
      exact ⟨rfl, HB.out⟩
    · rw [q] at D1
      have D2 : Hid (∀ V, Below w6.heap.size w6 V → Calls Tryz.prog 13 #[.agg #[.slice ar2 R2.length cr2, .slice aw2 W2.length cw2, .int .i64 f2, .int .i64 m2, .int .i64 o2, .int .i64 e2]] V fun x w' => x = .returned (.int .i64 50) ∧ Below V.heap.size V w') := fun V hV => (check_any ar2 aw2 cr2 cw2 R2 W2 f2 m2 o2 e2 V (H6.out.b.r.below hV) (H6.out.b.s.below hV)).mono fun x w' hh => ⟨by rw [hh.1, q']; rfl, hh.2⟩
      clear q q'
      go_wp2_with fail
      refine D1.mono ?_
      rintro x w7 ⟨rfl, b7⟩
      have h7 := H6.out.under b7
      obtain ⟨v0, v1, v2, v3, v4, v5⟩ := (cells_pol (h7.b).x).1
      have D3 := D2.out w7 b7
      clear u0 u1 u2 u3 u4 u5
      clear D1 D2 H6 b7
      have H7 : Hid (B3 w w7 g h k ar1 aw1 cr1 cw1 R1 W1 f1 m1 o1 e1 ar2 aw2 cr2 cw2 R2 W2 f2 m2 o2 e2 ar3 aw3 cr3 cw3 R3 W3 f3 m3 o3 e3 ap cp p) := h7
      clear h7
      go_wp2_with fail
      refine D3.mono ?_
      rintro x w8 ⟨rfl, b8⟩
      have HB : Hid (Below w.heap.size w w8) := (H7.out.under b8).bel
      clear H7 D3 b8
      go_wp2_with fail
      go_ret
      exact ⟨rfl, HB.out⟩
  · have HB : Hid (Below w.heap.size w w6) := h6.bel
    clear h6 hX6 HI hc cov1 cov2
    go_wp2_with fail
    go_ret
    exact ⟨rfl, HB.out⟩
  · clear HI
    obtain ⟨k1, k2⟩ := Pl.chk2_both hc
    have P0 : Pl.polC cR' cW' F' M' O' E' = 0 := by rw [eF, eM, eO, eE]; exact Pl.meet_right k1 k2 cov1 cov2 lR lW
    have A1 : Pl.wthP cR' cW' F' M' O' E' R1 W1 f1 m1 o1 e1 = true := by rw [Pl.wth_r P0 k1, eF, eM, eO, eE]; exact (Pl.meet_wth cov1 cov2).1
    have A2 : Pl.wthP cR' cW' F' M' O' E' R2 W2 f2 m2 o2 e2 = true := by rw [Pl.wth_r P0 k2, eF, eM, eO, eE]; exact (Pl.meet_wth cov1 cov2).2
    have A3 : Pl.mayP cR' cW' F' M' O' E' b p = (Pl.mayP R1 W1 f1 m1 o1 e1 b p && Pl.mayP R2 W2 f2 m2 o2 e2 b p) := by rw [eF, eM, eO, eE]; exact Pl.meet_may b p k1 k2 cov1 cov2 lR lW
    have A4 : (Pl.wthB R3 W3 f3 m3 o3 e3 R1 W1 f1 m1 o1 e1 && Pl.wthB R3 W3 f3 m3 o3 e3 R2 W2 f2 m2 o2 e2) = Pl.wthB R3 W3 f3 m3 o3 e3 cR' cW' F' M' O' E' := by rw [eF, eM, eO, eE]; exact Pl.meet_wide cov1 cov2
    have HA : Hid ((Pl.polC R1 W1 f1 m1 o1 e1 = 0 ∧ Pl.polC R2 W2 f2 m2 o2 e2 = 0 ∧ Pl.polC cR' cW' F' M' O' E' = 0) ∧ Pl.mayP cR' cW' F' M' O' E' b p = (Pl.mayP R1 W1 f1 m1 o1 e1 b p && Pl.mayP R2 W2 f2 m2 o2 e2 b p) ∧ (Pl.wthB R3 W3 f3 m3 o3 e3 R1 W1 f1 m1 o1 e1 && Pl.wthB R3 W3 f3 m3 o3 e3 R2 W2 f2 m2 o2 e2) = Pl.wthB R3 W3 f3 m3 o3 e3 cR' cW' F' M' O' E') := ⟨⟨k1, k2, P0⟩, A3, A4⟩
    have C6 := pwithin_any aX aY nX nY cR' cW' F' M' O' E' ar1 aw1 cr1 cw1 R1 W1 f1 m1 o1 e1 w6 hX6.r hX6.s h6.a.r h6.a.s
    rw [A1, Pl.chk2_r k1, P0] at C6
    have C7 : Hid (∀ V, Below w6.heap.size w6 V → Calls Tryz.prog 21 #[.agg #[.slice aX cR'.length nX, .slice aY cW'.length nY, .int .i64 F', .int .i64 M', .int .i64 O', .int .i64 E'], .agg #[.slice ar2 R2.length cr2, .slice aw2 W2.length cw2, .int .i64 f2, .int .i64 m2, .int .i64 o2, .int .i64 e2]] V fun x w' => x = .returned (.tuple #[.bool true, .int .i64 ((0 : Nat) : Int)]) ∧ Below V.heap.size V w') := fun V hV => (pwithin_any aX aY nX nY cR' cW' F' M' O' E' ar2 aw2 cr2 cw2 R2 W2 f2 m2 o2 e2 V (hX6.r.below hV) (hX6.s.below hV) (h6.b.r.below hV) (h6.b.s.below hV)).mono fun x w' hh => ⟨by rw [hh.1, A2, Pl.chk2_r k2, P0], hh.2⟩
    have H6 : Hid (B3 w w6 g h k ar1 aw1 cr1 cw1 R1 W1 f1 m1 o1 e1 ar2 aw2 cr2 cw2 R2 W2 f2 m2 o2 e2 ar3 aw3 cr3 cw3 R3 W3 f3 m3 o3 e3 ap cp p ∧ PolAt w6 i aX aY nX nY cR' cW' F' M' O' E') := ⟨h6, hX6⟩
    obtain ⟨u0, u1, u2, u3, u4, u5⟩ := (cells_pol (hX6).x).1
    obtain ⟨v0, v1, v2, v3, v4, v5⟩ := (cells_pol (h6.a).x).1
    clear h6 hX6 hc k1 k2 P0 A1 A2 A3 A4 cov1 cov2 lR lW eF eM eO eE
    go_wp2_with fail
    refine C6.mono ?_
    rintro x w7 ⟨rfl, b7⟩
    have D7 := C7.out w7 b7
    clear u0 u1 u2 u3 u4 u5 v0 v1 v2 v3 v4 v5
    obtain ⟨u0, u1, u2, u3, u4, u5⟩ := (cells_pol (H6.out.2.under b7).x).1
    obtain ⟨v0, v1, v2, v3, v4, v5⟩ := (cells_pol ((H6.out.1.under b7).b).x).1
    have H7 : Hid (B3 w w7 g h k ar1 aw1 cr1 cw1 R1 W1 f1 m1 o1 e1 ar2 aw2 cr2 cw2 R2 W2 f2 m2 o2 e2 ar3 aw3 cr3 cw3 R3 W3 f3 m3 o3 e3 ap cp p ∧ PolAt w7 i aX aY nX nY cR' cW' F' M' O' E') := ⟨H6.out.1.under b7, H6.out.2.under b7⟩
    clear C6 C7 H6 b7
    go_wp2_with fail
    refine D7.mono ?_
    rintro x w8 ⟨rfl, b8⟩
    have H8 : Hid (B3 w w8 g h k ar1 aw1 cr1 cw1 R1 W1 f1 m1 o1 e1 ar2 aw2 cr2 cw2 R2 W2 f2 m2 o2 e2 ar3 aw3 cr3 cw3 R3 W3 f3 m3 o3 e3 ap cp p ∧ PolAt w8 i aX aY nX nY cR' cW' F' M' O' E') := ⟨H7.out.1.under b8, H7.out.2.under b8⟩
    have C8 := pnormal_yes ar1 aw1 cr1 cw1 R1 W1 f1 m1 o1 e1 w8 H8.out.1.a.r H8.out.1.a.s HA.out.1.1
    clear u0 u1 u2 u3 u4 u5 v0 v1 v2 v3 v4 v5
    obtain ⟨u0, u1, u2, u3, u4, u5⟩ := (cells_pol (H8.out.1.a).x).1
    clear D7 H7 b8
    go_wp2_with fail
    refine C8.mono ?_
    rintro x w9 ⟨b9, sR, sW, aS, aT, nS, nT, v1, v2, v3, v4, rfl, v5, v6⟩
    obtain ⟨aS', nS', ea, pS⟩ := v5.pts (by omega)
    injection ea with ea _ ea'
    subst ea ea'
    obtain ⟨aT', nT', eb, pT⟩ := v6.pts (by omega)
    injection eb with eb _ eb'
    subst eb eb'
    have hs1 := pS.len
    have hs2 := pT.len
    obtain ⟨w10, hw10⟩ : ∃ w10, w10 = w9.alloc (.cells #[.slice aS sR.length nS, .slice aT sW.length nT, .int .i64 f1, .int .i64 m1, .int .i64 o1, .int .i64 e1] 24) := ⟨_, rfl⟩
    have b10 : Below w8.heap.size w8 w10 := by rw [hw10]; exact b9.alloc b9.size _
    have hN : PolAt w10 w9.heap.size aS aT nS nT sR sW f1 m1 o1 e1 := by rw [hw10]; exact polAt_new w9 aS aT nS nT sR sW f1 m1 o1 e1 pS pT
    have HW10 : Hid (w10 = w9.alloc (.cells #[.slice aS sR.length nS, .slice aT sW.length nT, .int .i64 f1, .int .i64 m1, .int .i64 o1, .int .i64 e1] 24)) := hw10
    have hM : Pl.MeetIs R1 W1 f1 m1 o1 e1 R1 W1 f1 m1 o1 e1 sR sW f1 m1 o1 e1 0 := by
      have ll := Pl.polC_len HA.out.1.1
      exact .inr ⟨(Pl.chk2_r HA.out.1.1).trans HA.out.1.1, sR, sW, Pl.met_self v1, Pl.met_self v2, .inr ⟨⟨by omega, by omega⟩, rfl, rfl, by omega, by omega, by omega, by omega, rfl⟩⟩
    have h10 := H8.out.1.under b10
    have C9 := pmeet_g ar1 aw1 cr1 cw1 R1 W1 f1 m1 o1 e1 ar1 aw1 cr1 cw1 R1 W1 f1 m1 o1 e1 w10 h10.a.r h10.a.s h10.a.r h10.a.s
    have H10 : Hid (B3 w w10 g h k ar1 aw1 cr1 cw1 R1 W1 f1 m1 o1 e1 ar2 aw2 cr2 cw2 R2 W2 f2 m2 o2 e2 ar3 aw3 cr3 cw3 R3 W3 f3 m3 o3 e3 ap cp p ∧ PolAt w10 i aX aY nX nY cR' cW' F' M' O' E' ∧ PolAt w10 w9.heap.size aS aT nS nT sR sW f1 m1 o1 e1 ∧ Pl.MeetIs R1 W1 f1 m1 o1 e1 R1 W1 f1 m1 o1 e1 sR sW f1 m1 o1 e1 0) := ⟨h10, H8.out.2.under b10, hN, hM⟩
    clear u0 u1 u2 u3 u4 u5
    obtain ⟨u0, u1, u2, u3, u4, u5⟩ := (cells_pol (h10.a).x).1
    clear C8 H8 b9 v1 v2 v3 v4 v5 v6 pS pT hw10 b10 hN hM h10
    go_upto_region 12 with fail
    rw [← HW10.out]
    go_wp2_with fail
    refine C9.mono ?_
    rintro x w11 ⟨aP, aQ, nP, nQ, tR, tW, F2, M2, O2, E2, c2, rfl, K11⟩
    obtain ⟨rfl, rfl, rfl, rfl, rfl, rfl, rfl⟩ := H10.out.2.2.2.one K11.out.2.2.1
    obtain ⟨w12, hw12⟩ : ∃ w12, w12 = w11.alloc (.cells #[.slice aP tR.length nP, .slice aQ tW.length nQ, .int .i64 F2, .int .i64 M2, .int .i64 O2, .int .i64 E2] 24) := ⟨_, rfl⟩
    have b12 : Below w10.heap.size w10 w12 := by rw [hw12]; exact K11.out.2.2.2.alloc K11.out.2.2.2.size _
    have hS : PolAt w12 w11.heap.size aP aQ nP nQ tR tW F2 M2 O2 E2 := by rw [hw12]; exact polAt_new w11 aP aQ nP nQ tR tW F2 M2 O2 E2 K11.out.1 K11.out.2.1
    have HW12 : Hid (w12 = w11.alloc (.cells #[.slice aP tR.length nP, .slice aQ tW.length nQ, .int .i64 F2, .int .i64 M2, .int .i64 O2, .int .i64 E2] 24)) := hw12
    have hN12 := H10.out.2.2.1.under b12
    have C10 := psame_any aS aT aP aQ nS nT nP nQ tR tW tR tW F2 M2 O2 E2 F2 M2 O2 E2 w12 hN12.r hN12.s hS.r hS.s
    rw [Pl.psame_self] at C10
    have H12 : Hid (B3 w w12 g h k ar1 aw1 cr1 cw1 R1 W1 F2 M2 O2 E2 ar2 aw2 cr2 cw2 R2 W2 f2 m2 o2 e2 ar3 aw3 cr3 cw3 R3 W3 f3 m3 o3 e3 ap cp p ∧ PolAt w12 i aX aY nX nY cR' cW' F' M' O' E') := ⟨H10.out.1.under b12, H10.out.2.1.under b12⟩
    clear u0 u1 u2 u3 u4 u5
    obtain ⟨u0, u1, u2, u3, u4, u5⟩ := (cells_pol (hN12).x).1
    obtain ⟨v0, v1, v2, v3, v4, v5⟩ := (cells_pol (hS).x).1
    clear C9 HW10 K11 H10 hw12 b12 hS hN12
    go_upto_region 13 with fail
    rw [← HW12.out]
    clear HW12
    go_wp2_with fail
    refine C10.mono ?_
    rintro x w13 ⟨rfl, b13⟩
    have H13 : Hid (B3 w w13 g h k ar1 aw1 cr1 cw1 R1 W1 F2 M2 O2 E2 ar2 aw2 cr2 cw2 R2 W2 f2 m2 o2 e2 ar3 aw3 cr3 cw3 R3 W3 f3 m3 o3 e3 ap cp p ∧ PolAt w13 i aX aY nX nY cR' cW' F' M' O' E') := ⟨H12.out.1.under b13, H12.out.2.under b13⟩
    clear u0 u1 u2 u3 u4 u5 v0 v1 v2 v3 v4 v5
    clear C10 H12 b13
    have k1 : Pl.polC R1 W1 F2 M2 O2 E2 = 0 := HA.out.1.1
    have k2 : Pl.polC R2 W2 f2 m2 o2 e2 = 0 := HA.out.1.2.1
    have P0 : Pl.polC cR' cW' F' M' O' E' = 0 := HA.out.1.2.2
    have D1 : Hid (∀ V, Below w13.heap.size w13 V → Calls Tryz.prog 17 #[.agg #[.slice aX cR'.length nX, .slice aY cW'.length nY, .int .i64 F', .int .i64 M', .int .i64 O', .int .i64 E'], .bool b, .slice ap p.length cp] V fun x w' => x = .returned (.bool (Pl.mayP cR' cW' F' M' O' E' b p)) ∧ Below w13.heap.size w13 w') := fun V hV => (pmay_any aX aY ap nX nY cp cR' cW' F' M' O' E' b p V (H13.out.2.r.below hV) (H13.out.2.s.below hV) (H13.out.1.s.below hV)).mono fun x w' hh => ⟨hh.1, hV.trans (hh.2.mono hV.size)⟩
    have D2 : Hid (∀ V, Below w13.heap.size w13 V → Calls Tryz.prog 17 #[.agg #[.slice ar1 R1.length cr1, .slice aw1 W1.length cw1, .int .i64 F2, .int .i64 M2, .int .i64 O2, .int .i64 E2], .bool b, .slice ap p.length cp] V fun x w' => x = .returned (.bool (Pl.mayP R1 W1 F2 M2 O2 E2 b p)) ∧ Below w13.heap.size w13 w') := fun V hV => (pmay_any ar1 aw1 ap cr1 cw1 cp R1 W1 F2 M2 O2 E2 b p V (H13.out.1.a.r.below hV) (H13.out.1.a.s.below hV) (H13.out.1.s.below hV)).mono fun x w' hh => ⟨hh.1, hV.trans (hh.2.mono hV.size)⟩
    have D3 : Hid (∀ V, Below w13.heap.size w13 V → Calls Tryz.prog 17 #[.agg #[.slice ar2 R2.length cr2, .slice aw2 W2.length cw2, .int .i64 f2, .int .i64 m2, .int .i64 o2, .int .i64 e2], .bool b, .slice ap p.length cp] V fun x w' => x = .returned (.bool (Pl.mayP R2 W2 f2 m2 o2 e2 b p)) ∧ Below w13.heap.size w13 w') := fun V hV => (pmay_any ar2 aw2 ap cr2 cw2 cp R2 W2 f2 m2 o2 e2 b p V (H13.out.1.b.r.below hV) (H13.out.1.b.s.below hV) (H13.out.1.s.below hV)).mono fun x w' hh => ⟨hh.1, hV.trans (hh.2.mono hV.size)⟩
    have hXB := HA.out.2.1
    have HS : Hid (∀ V, Below w13.heap.size w13 V → Below w13.heap.size w13 V ∧ (V.cell? ⟨i, 0, none⟩ = some (.slice aX cR'.length nX) ∧ V.cell? ⟨i, 1, none⟩ = some (.slice aY cW'.length nY) ∧ V.cell? ⟨i, 2, none⟩ = some (.int .i64 F') ∧ V.cell? ⟨i, 3, none⟩ = some (.int .i64 M') ∧ V.cell? ⟨i, 4, none⟩ = some (.int .i64 O') ∧ V.cell? ⟨i, 5, none⟩ = some (.int .i64 E')) ∧ (V.cell? ⟨g, 0, none⟩ = some (.slice ar1 R1.length cr1) ∧ V.cell? ⟨g, 1, none⟩ = some (.slice aw1 W1.length cw1) ∧ V.cell? ⟨g, 2, none⟩ = some (.int .i64 F2) ∧ V.cell? ⟨g, 3, none⟩ = some (.int .i64 M2) ∧ V.cell? ⟨g, 4, none⟩ = some (.int .i64 O2) ∧ V.cell? ⟨g, 5, none⟩ = some (.int .i64 E2)) ∧ (V.cell? ⟨h, 0, none⟩ = some (.slice ar2 R2.length cr2) ∧ V.cell? ⟨h, 1, none⟩ = some (.slice aw2 W2.length cw2) ∧ V.cell? ⟨h, 2, none⟩ = some (.int .i64 f2) ∧ V.cell? ⟨h, 3, none⟩ = some (.int .i64 m2) ∧ V.cell? ⟨h, 4, none⟩ = some (.int .i64 o2) ∧ V.cell? ⟨h, 5, none⟩ = some (.int .i64 e2))) := fun V hV => ⟨hV, (cells_pol (H13.out.2.under hV).x).1, (cells_pol (H13.out.1.a.under hV).x).1, (cells_pol (H13.out.1.b.under hV).x).1⟩
    have b0 : Below w13.heap.size w13 w13.drew := (Below.refl _ w13).drew
    have s0 := HS.out w13.drew b0
    have HK : Hid ((Pl.polC R1 W1 F2 M2 O2 E2 = 0 ∧ Pl.polC R2 W2 f2 m2 o2 e2 = 0 ∧ Pl.polC cR' cW' F' M' O' E' = 0) ∧ (Pl.wthB R3 W3 f3 m3 o3 e3 R1 W1 F2 M2 O2 E2 && Pl.wthB R3 W3 f3 m3 o3 e3 R2 W2 f2 m2 o2 e2) = Pl.wthB R3 W3 f3 m3 o3 e3 cR' cW' F' M' O' E') := ⟨⟨k1, k2, P0⟩, HA.out.2.2⟩
    clear HA k1 k2 P0
    generalize Pl.mayP cR' cW' F' M' O' E' b p = XB at *
    generalize Pl.mayP R1 W1 F2 M2 O2 E2 b p = MA at *
    generalize Pl.mayP R2 W2 f2 m2 o2 e2 b p = MB at *
    go_upto_region 15 with fail
    go_cut [128] (fun v wx => v = .bool false ∧ Below w13.heap.size w13 wx)
    case first =>
      cases MA
      · have hX0 : XB = false := hXB
        subst hX0
        clear hXB
        refine wp_region_noPanic ?_
        refine wp_region_held_drew (S := fun w' => Below w13.heap.size w13 w' ∧ (w'.cell? ⟨i, 0, none⟩ = some (.slice aX cR'.length nX) ∧ w'.cell? ⟨i, 1, none⟩ = some (.slice aY cW'.length nY) ∧ w'.cell? ⟨i, 2, none⟩ = some (.int .i64 F') ∧ w'.cell? ⟨i, 3, none⟩ = some (.int .i64 M') ∧ w'.cell? ⟨i, 4, none⟩ = some (.int .i64 O') ∧ w'.cell? ⟨i, 5, none⟩ = some (.int .i64 E')) ∧ (w'.cell? ⟨g, 0, none⟩ = some (.slice ar1 R1.length cr1) ∧ w'.cell? ⟨g, 1, none⟩ = some (.slice aw1 W1.length cw1) ∧ w'.cell? ⟨g, 2, none⟩ = some (.int .i64 F2) ∧ w'.cell? ⟨g, 3, none⟩ = some (.int .i64 M2) ∧ w'.cell? ⟨g, 4, none⟩ = some (.int .i64 O2) ∧ w'.cell? ⟨g, 5, none⟩ = some (.int .i64 E2)) ∧ (w'.cell? ⟨h, 0, none⟩ = some (.slice ar2 R2.length cr2) ∧ w'.cell? ⟨h, 1, none⟩ = some (.slice aw2 W2.length cw2) ∧ w'.cell? ⟨h, 2, none⟩ = some (.int .i64 f2) ∧ w'.cell? ⟨h, 3, none⟩ = some (.int .i64 m2) ∧ w'.cell? ⟨h, 4, none⟩ = some (.int .i64 o2) ∧ w'.cell? ⟨h, 5, none⟩ = some (.int .i64 e2))) (by kernel_rfl) s0 (fun hHeld => ?_)
        refine wpAnyH_take (i := 0) (oi := { dst := some 114, op := Op.load 24 (Operand.tmp 11), type := 24, pos := "law.go:92", after := #[], guard := none }) (v := .agg #[.slice aX cR'.length nX, .slice aY cW'.length nY, .int .i64 F', .int .i64 M', .int .i64 O', .int .i64 E']) rfl (by kernel_rfl) (by kernel_rfl) (by kernel_rfl) (fun _ _ _ h => h) (Or.inl ⟨by rfl, ?_⟩) (by assumption) ?_
        · intro wq hSw
          go_simp
        try simp only [Act.put, List.setIfInBounds_toArray, List.set_cons_zero, List.set_cons_succ]
        refine wpAnyH_take (i := 1) (oi := { dst := some 115, op := Op.move (Operand.tmp 3), type := 4, pos := "law.go:92", after := #[], guard := none }) (v := .bool b) rfl (by kernel_rfl) (by kernel_rfl) (by kernel_rfl) (fun _ _ _ h => h) (Or.inl ⟨by rfl, ?_⟩) (by assumption) ?_
        · intro wq hSw
          go_simp
        try simp only [Act.put, List.setIfInBounds_toArray, List.set_cons_zero, List.set_cons_succ]
        refine wpAnyH_take (i := 2) (oi := { dst := some 116, op := Op.move (Operand.tmp 4), type := 26, pos := "law.go:92", after := #[], guard := none }) (v := .slice ap p.length cp) rfl (by kernel_rfl) (by kernel_rfl) (by kernel_rfl) (fun _ _ _ h => h) (Or.inl ⟨by rfl, ?_⟩) (by assumption) ?_
        · intro wq hSw
          go_simp
        try simp only [Act.put, List.setIfInBounds_toArray, List.set_cons_zero, List.set_cons_succ]
        refine wpAnyH_take (i := 4) (oi := { dst := some 118, op := Op.load 24 (Operand.tmp 5), type := 24, pos := "law.go:92", after := #[], guard := none }) (v := .agg #[.slice ar1 R1.length cr1, .slice aw1 W1.length cw1, .int .i64 F2, .int .i64 M2, .int .i64 O2, .int .i64 E2]) rfl (by kernel_rfl) (by kernel_rfl) (by kernel_rfl) (fun _ _ _ h => h) (Or.inl ⟨by rfl, ?_⟩) (by assumption) ?_
        · intro wq hSw
          go_simp
        try simp only [Act.put, List.setIfInBounds_toArray, List.set_cons_zero, List.set_cons_succ]
        refine wpAnyH_take (i := 5) (oi := { dst := some 119, op := Op.move (Operand.tmp 3), type := 4, pos := "law.go:92", after := #[], guard := none }) (v := .bool b) rfl (by kernel_rfl) (by kernel_rfl) (by kernel_rfl) (fun _ _ _ h => h) (Or.inl ⟨by rfl, ?_⟩) (by assumption) ?_
        · intro wq hSw
          go_simp
        try simp only [Act.put, List.setIfInBounds_toArray, List.set_cons_zero, List.set_cons_succ]
        refine wpAnyH_take (i := 6) (oi := { dst := some 120, op := Op.move (Operand.tmp 4), type := 26, pos := "law.go:92", after := #[], guard := none }) (v := .slice ap p.length cp) rfl (by kernel_rfl) (by kernel_rfl) (by kernel_rfl) (fun _ _ _ h => h) (Or.inl ⟨by rfl, ?_⟩) (by assumption) ?_
        · intro wq hSw
          go_simp
        try simp only [Act.put, List.setIfInBounds_toArray, List.set_cons_zero, List.set_cons_succ]
        refine wpAnyH_ready (rs := [3]) (by kernel_rfl) (by simp) ?_
        refine AllReadyH.cons (o := { dst := some 117, op := Op.call { callee := Callee.value (Operand.func 17), args := #[Operand.tmp 114, Operand.tmp 115, Operand.tmp 116], argTypes := #[24, 4, 26] }, type := 4, pos := "law.go:92", after := #[{ on := 0, ground := Ground.data }, { on := 1, ground := Ground.data }, { on := 2, ground := Ground.data }], guard := none }) rfl (fun K hK => ?_) AllReadyH.nil
        go_simp
        refine (D1.out _ b0).mono ?_
        rintro x wm ⟨rfl, l8⟩
        go_wp2_with fail
        refine hK.out _ _ (HS.out _ l8) (fun hHeld => ?_)
        clear hK K
        try simp only [Act.put, List.setIfInBounds_toArray, List.set_cons_zero, List.set_cons_succ]
        refine wpAnyH_ready (rs := [7]) (by kernel_rfl) (by simp) ?_
        refine AllReadyH.cons (o := { dst := some 121, op := Op.call { callee := Callee.value (Operand.func 17), args := #[Operand.tmp 118, Operand.tmp 119, Operand.tmp 120], argTypes := #[24, 4, 26] }, type := 4, pos := "law.go:92", after := #[{ on := 4, ground := Ground.data }, { on := 5, ground := Ground.data }, { on := 6, ground := Ground.data }, { on := 3, ground := Ground.chain }], guard := none }) rfl (fun K hK => ?_) AllReadyH.nil
        go_simp
        refine (D2.out _ l8).mono ?_
        rintro x wn ⟨rfl, l9⟩
        go_wp2_with fail
        refine hK.out _ _ (HS.out _ l9) (fun hHeld => ?_)
        clear hK K
        try simp only [Act.put, List.setIfInBounds_toArray, List.set_cons_zero, List.set_cons_succ]
        refine wpAnyH_take (i := 8) (oi := { dst := some 122, op := Op.move (Operand.tmp 121), type := 4, pos := "law.go:92", after := #[{ on := 7, ground := Ground.data }, { on := 7, ground := Ground.chain }], guard := none }) (v := .bool false) rfl (by kernel_rfl) (by kernel_rfl) (by kernel_rfl) (fun _ _ _ h => h) (Or.inl ⟨by rfl, ?_⟩) (by assumption) ?_
        · intro wq hSw
          go_simp
        try simp only [Act.put, List.setIfInBounds_toArray, List.set_cons_zero, List.set_cons_succ]
        refine wpAnyH_take (i := 9) (oi := { dst := some 123, op := Op.load 24 (Operand.tmp 6), type := 24, pos := "law.go:92", after := #[{ on := 8, ground := Ground.guard }], guard := some (8, true) }) (v := undef) rfl (by kernel_rfl) (by kernel_rfl) (by kernel_rfl) (fun _ _ _ h => h) (Or.inr ⟨by rfl, rfl⟩) (by assumption) ?_
        try simp only [Act.put, List.setIfInBounds_toArray, List.set_cons_zero, List.set_cons_succ]
        refine wpAnyH_take (i := 10) (oi := { dst := some 124, op := Op.move (Operand.tmp 3), type := 4, pos := "law.go:92", after := #[{ on := 8, ground := Ground.guard }], guard := some (8, true) }) (v := undef) rfl (by kernel_rfl) (by kernel_rfl) (by kernel_rfl) (fun _ _ _ h => h) (Or.inr ⟨by rfl, rfl⟩) (by assumption) ?_
        try simp only [Act.put, List.setIfInBounds_toArray, List.set_cons_zero, List.set_cons_succ]
        refine wpAnyH_take (i := 11) (oi := { dst := some 125, op := Op.move (Operand.tmp 4), type := 26, pos := "law.go:92", after := #[{ on := 8, ground := Ground.guard }], guard := some (8, true) }) (v := undef) rfl (by kernel_rfl) (by kernel_rfl) (by kernel_rfl) (fun _ _ _ h => h) (Or.inr ⟨by rfl, rfl⟩) (by assumption) ?_
        try simp only [Act.put, List.setIfInBounds_toArray, List.set_cons_zero, List.set_cons_succ]
        refine wpAnyH_take (i := 12) (oi := { dst := some 126, op := Op.call { callee := Callee.value (Operand.func 17), args := #[Operand.tmp 123, Operand.tmp 124, Operand.tmp 125], argTypes := #[24, 4, 26] }, type := 4, pos := "law.go:92", after := #[{ on := 9, ground := Ground.data }, { on := 10, ground := Ground.data }, { on := 11, ground := Ground.data }, { on := 8, ground := Ground.chain }, { on := 8, ground := Ground.guard }], guard := some (8, true) }) (v := undef) rfl (by kernel_rfl) (by kernel_rfl) (by kernel_rfl) (fun _ _ _ h => h) (Or.inr ⟨by rfl, rfl⟩) (by assumption) ?_
        try simp only [Act.put, List.setIfInBounds_toArray, List.set_cons_zero, List.set_cons_succ]
        refine wpAnyH_take (i := 13) (oi := { dst := some 127, op := Op.pick (Operand.tmp 122) (Operand.tmp 126) (Operand.const (Value.bool false)), type := 4, pos := "law.go:92", after := #[{ on := 8, ground := Ground.data }, { on := 12, ground := Ground.data }], guard := none }) (v := .bool false) rfl (by kernel_rfl) (by kernel_rfl) (by kernel_rfl) (fun _ _ _ h => h) (Or.inl ⟨by rfl, ?_⟩) (by assumption) ?_
        · intro wq hSw
          go_simp
        try simp only [Act.put, List.setIfInBounds_toArray, List.set_cons_zero, List.set_cons_succ]
        refine wpAnyH_take (i := 14) (oi := { dst := some 128, op := Op.binOp BinOp.neq 4 (Operand.tmp 117) (Operand.tmp 127) 4, type := 4, pos := "law.go:92", after := #[{ on := 3, ground := Ground.data }, { on := 13, ground := Ground.data }], guard := none }) (v := .bool false) rfl (by kernel_rfl) (by kernel_rfl) (by kernel_rfl) (fun _ _ _ h => h) (Or.inl ⟨by rfl, ?_⟩) (by assumption) ?_
        · intro wq hSw
          go_simp
        try simp only [Act.put, List.setIfInBounds_toArray, List.set_cons_zero, List.set_cons_succ]
        refine wpAnyH_done (by kernel_rfl) ?_ _
        refine NoPanic.normal ?_
        all_goals
          go_wp2_with fail
          go_meet
          case rel => exact ⟨rfl, l9⟩
      · have hX0 : XB = MB := hXB
        subst hX0
        clear hXB
        go_region_held3 (fun w' => Below w13.heap.size w13 w' ∧ (w'.cell? ⟨i, 0, none⟩ = some (.slice aX cR'.length nX) ∧ w'.cell? ⟨i, 1, none⟩ = some (.slice aY cW'.length nY) ∧ w'.cell? ⟨i, 2, none⟩ = some (.int .i64 F') ∧ w'.cell? ⟨i, 3, none⟩ = some (.int .i64 M') ∧ w'.cell? ⟨i, 4, none⟩ = some (.int .i64 O') ∧ w'.cell? ⟨i, 5, none⟩ = some (.int .i64 E')) ∧ (w'.cell? ⟨g, 0, none⟩ = some (.slice ar1 R1.length cr1) ∧ w'.cell? ⟨g, 1, none⟩ = some (.slice aw1 W1.length cw1) ∧ w'.cell? ⟨g, 2, none⟩ = some (.int .i64 F2) ∧ w'.cell? ⟨g, 3, none⟩ = some (.int .i64 M2) ∧ w'.cell? ⟨g, 4, none⟩ = some (.int .i64 O2) ∧ w'.cell? ⟨g, 5, none⟩ = some (.int .i64 E2)) ∧ (w'.cell? ⟨h, 0, none⟩ = some (.slice ar2 R2.length cr2) ∧ w'.cell? ⟨h, 1, none⟩ = some (.slice aw2 W2.length cw2) ∧ w'.cell? ⟨h, 2, none⟩ = some (.int .i64 f2) ∧ w'.cell? ⟨h, 3, none⟩ = some (.int .i64 m2) ∧ w'.cell? ⟨h, 4, none⟩ = some (.int .i64 o2) ∧ w'.cell? ⟨h, 5, none⟩ = some (.int .i64 e2))) ((first | exact s0 | exact HS.out _ l9)) (first
          | (go_at_call_of 17 (aX); refine (D1.out _ (by first | exact l9 | exact b0)).mono ?_; rintro x wn ⟨rfl, l9⟩)
          | (go_at_call_of 17 (ar1); refine (D2.out _ (by first | exact l9 | exact b0)).mono ?_; rintro x wn ⟨rfl, l9⟩)
          | (go_at_call_of 17 (ar2); refine (D3.out _ (by first | exact l9 | exact b0)).mono ?_; rintro x wn ⟨rfl, l9⟩))
        all_goals
          go_wp2_with fail
          go_meet
          case rel => exact ⟨by simp, l9⟩
    case rest =>
      obtain ⟨rfl, hb14⟩ := hcut
      have H14 : Hid (B3 w wc g h k ar1 aw1 cr1 cw1 R1 W1 F2 M2 O2 E2 ar2 aw2 cr2 cw2 R2 W2 f2 m2 o2 e2 ar3 aw3 cr3 cw3 R3 W3 f3 m3 o3 e3 ap cp p ∧ PolAt wc i aX aY nX nY cR' cW' F' M' O' E') := ⟨H13.out.1.under hb14, H13.out.2.under hb14⟩
      clear D1 D2 D3 HS b0 s0 H13 hb14 hXB
      have C14 := pwithin_any ar3 aw3 cr3 cw3 R3 W3 f3 m3 o3 e3 ar1 aw1 cr1 cw1 R1 W1 F2 M2 O2 E2 wc H14.out.1.c.r H14.out.1.c.s H14.out.1.a.r H14.out.1.a.s
      rw [Pl.chk2_r HK.out.1.1] at C14
      have C15 : Hid (∀ V, Below wc.heap.size wc V → Calls Tryz.prog 21 #[.agg #[.slice ar3 R3.length cr3, .slice aw3 W3.length cw3, .int .i64 f3, .int .i64 m3, .int .i64 o3, .int .i64 e3], .agg #[.slice ar2 R2.length cr2, .slice aw2 W2.length cw2, .int .i64 f2, .int .i64 m2, .int .i64 o2, .int .i64 e2]] V fun x w' => x = .returned (.tuple #[.bool (Pl.wthP R3 W3 f3 m3 o3 e3 R2 W2 f2 m2 o2 e2), .int .i64 (Pl.polC R3 W3 f3 m3 o3 e3 : Nat)]) ∧ Below V.heap.size V w') := fun V hV => (pwithin_any ar3 aw3 cr3 cw3 R3 W3 f3 m3 o3 e3 ar2 aw2 cr2 cw2 R2 W2 f2 m2 o2 e2 V (H14.out.1.c.r.below hV) (H14.out.1.c.s.below hV) (H14.out.1.b.r.below hV) (H14.out.1.b.s.below hV)).mono fun x w' hh => ⟨by rw [hh.1, Pl.chk2_r HK.out.1.2.1], hh.2⟩
      have C16 : Hid (∀ V, Below wc.heap.size wc V → Calls Tryz.prog 21 #[.agg #[.slice ar3 R3.length cr3, .slice aw3 W3.length cw3, .int .i64 f3, .int .i64 m3, .int .i64 o3, .int .i64 e3], .agg #[.slice aX cR'.length nX, .slice aY cW'.length nY, .int .i64 F', .int .i64 M', .int .i64 O', .int .i64 E']] V fun x w' => x = .returned (.tuple #[.bool (Pl.wthP R3 W3 f3 m3 o3 e3 cR' cW' F' M' O' E'), .int .i64 (Pl.polC R3 W3 f3 m3 o3 e3 : Nat)]) ∧ Below V.heap.size V w') := fun V hV => (pwithin_any ar3 aw3 cr3 cw3 R3 W3 f3 m3 o3 e3 aX aY nX nY cR' cW' F' M' O' E' V (H14.out.1.c.r.below hV) (H14.out.1.c.s.below hV) (H14.out.2.r.below hV) (H14.out.2.s.below hV)).mono fun x w' hh => ⟨by rw [hh.1, Pl.chk2_r HK.out.1.2.2], hh.2⟩
      have hU : Pl.polC R3 W3 f3 m3 o3 e3 = 0 ∧ (Pl.wthP R3 W3 f3 m3 o3 e3 R1 W1 F2 M2 O2 E2 && Pl.wthP R3 W3 f3 m3 o3 e3 R2 W2 f2 m2 o2 e2) = Pl.wthP R3 W3 f3 m3 o3 e3 cR' cW' F' M' O' E' ∨ Pl.polC R3 W3 f3 m3 o3 e3 = 50 := by
        rcases Pl.polC_two R3 W3 f3 m3 o3 e3 with q | q
        · refine .inl ⟨q, ?_⟩
          rw [Pl.wth_r q HK.out.1.1, Pl.wth_r q HK.out.1.2.1, Pl.wth_r q HK.out.1.2.2]
          exact HK.out.2
        · exact .inr q
      clear HK
      generalize Pl.wthP R3 W3 f3 m3 o3 e3 R1 W1 F2 M2 O2 E2 = U at *
      generalize Pl.wthP R3 W3 f3 m3 o3 e3 R2 W2 f2 m2 o2 e2 = V at *
      generalize Pl.wthP R3 W3 f3 m3 o3 e3 cR' cW' F' M' O' E' = Z at *
      generalize Pl.polC R3 W3 f3 m3 o3 e3 = PC at *
      obtain ⟨u0, u1, u2, u3, u4, u5⟩ := (cells_pol (H14.out.1.c).x).1
      obtain ⟨v0, v1, v2, v3, v4, v5⟩ := (cells_pol (H14.out.1.a).x).1
      go_wp2_with fail
      refine C14.mono ?_
      rintro x w15 ⟨rfl, b15⟩
      have D15 := C15.out w15 b15
      clear u0 u1 u2 u3 u4 u5 v0 v1 v2 v3 v4 v5
      obtain ⟨u0, u1, u2, u3, u4, u5⟩ := (cells_pol (H14.out.1.c.under b15).x).1
      obtain ⟨v0, v1, v2, v3, v4, v5⟩ := (cells_pol (H14.out.1.b.under b15).x).1
      have H15 : Hid (Below wc.heap.size wc w15) := b15
      clear b15 C14 C15
      go_wp2_with fail
      refine D15.mono ?_
      rintro x w16 ⟨rfl, b16⟩
      have b16' := H15.out.trans (b16.mono H15.out.size)
      have D16 := C16.out w16 b16'
      clear u0 u1 u2 u3 u4 u5 v0 v1 v2 v3 v4 v5
      obtain ⟨u0, u1, u2, u3, u4, u5⟩ := (cells_pol (H14.out.1.c.under b16').x).1
      obtain ⟨v0, v1, v2, v3, v4, v5⟩ := (cells_pol (H14.out.2.under b16').x).1
      have H16 : Hid (Below wc.heap.size wc w16) := b16'
      clear b16 b16' H15 D15 C16
      go_wp2_with fail
      refine D16.mono ?_
      rintro x w17 ⟨rfl, b17⟩
      have HB : Hid (Below w.heap.size w w17) := (H14.out.1.under (H16.out.trans (b17.mono H16.out.size))).bel
      clear u0 u1 u2 u3 u4 u5 v0 v1 v2 v3 v4 v5
      clear H14 H16 D16 b17
      rcases hU with ⟨rfl, rfl⟩ | rfl
      · cases U
        · go_wp2_with fail
          go_ret
          exact ⟨by simp, HB.out⟩
        · go_wp2_with fail
          go_ret
          exact ⟨by simp, HB.out⟩
      · go_wp2_with fail
        go_ret
        exact ⟨by simp, HB.out⟩
end Go.Proofs.YtnmplolkbmackaaGreatDoor
