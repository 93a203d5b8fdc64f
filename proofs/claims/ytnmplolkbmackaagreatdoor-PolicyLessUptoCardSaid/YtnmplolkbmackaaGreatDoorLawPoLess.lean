/- PolicyLess: of two policies the one within the other allows no more. -/
import Derived.Test.YtnmplolkbmackaaGreatDoorPoLives
import Derived.Test.YtnmplolkbmackaaGreatDoorPgM
namespace Go.Proofs.YtnmplolkbmackaaGreatDoor
open Go.RowKit

namespace Pl
theorem inside_trans {R S : List (List ByteArray)} {p : List ByteArray} (h : innP R S = true) (hp : insideB R p = true) : insideB S p = true := by
  unfold insideB at hp ⊢
  rw [List.any_eq_true] at hp ⊢
  obtain ⟨q, hq, hw⟩ := hp
  unfold innP at h
  rw [List.all_eq_true] at h
  have h2 := h q hq
  unfold insideB at h2
  rw [List.any_eq_true] at h2
  obtain ⟨r, hr, hw2⟩ := h2
  exact ⟨r, hr, (within_in p r).2 (((within_in p q).1 hw).trans ((within_in q r).1 hw2))⟩
theorem inn_self (R : List (List ByteArray)) : innP R R = true := by
  unfold innP
  rw [List.all_eq_true]
  intro q hq
  unfold insideB
  rw [List.any_eq_true]
  exact ⟨q, hq, (within_in q q).2 (In.refl q)⟩
theorem wth_self (R W : List (List ByteArray)) (f m o e : Int) : wthP R W f m o e R W f m o e = (polC R W f m o e == 0) ∧ chk2 R W f m o e R W f m o e = polC R W f m o e := by
  have h1 : wthB R W f m o e R W f m o e = true := by unfold wthB; rw [inn_self, inn_self]; simp
  have h2 : chk2 R W f m o e R W f m o e = polC R W f m o e := by
    unfold chk2
    rcases polC_two R W f m o e with h | h
    · rw [h]; rfl
    · rw [h]; rfl
  unfold wthP
  rw [h1, h2, Bool.and_true]
  exact ⟨rfl, rfl⟩
theorem may_less {R1 W1 : List (List ByteArray)} {f1 m1 o1 e1 : Int} {R2 W2 : List (List ByteArray)} {f2 m2 o2 e2 : Int} {b : Bool} {p : List ByteArray} (hc : chk2 R1 W1 f1 m1 o1 e1 R2 W2 f2 m2 o2 e2 = 0) (hb : wthB R1 W1 f1 m1 o1 e1 R2 W2 f2 m2 o2 e2 = true) (h : mayP R1 W1 f1 m1 o1 e1 b p = true) : mayP R2 W2 f2 m2 o2 e2 b p = true := by
  unfold wthB at hb
  simp only [Bool.and_eq_true] at hb
  unfold mayP at h ⊢
  simp only [Bool.and_eq_true, beq_iff_eq] at h ⊢
  have h2 : polC R2 W2 f2 m2 o2 e2 = 0 := by
    unfold chk2 at hc
    rw [if_pos h.1] at hc
    exact hc
  refine ⟨h2, h.2.1, ?_⟩
  cases b
  · exact inside_trans hb.1 h.2.2
  · exact inside_trans hb.2.1 h.2.2
theorem wth_nums {R1 W1 : List (List ByteArray)} {f1 m1 o1 e1 : Int} {R2 W2 : List (List ByteArray)} {f2 m2 o2 e2 : Int} (hb : wthB R1 W1 f1 m1 o1 e1 R2 W2 f2 m2 o2 e2 = true) : f1 ≤ f2 ∧ m1 ≤ m2 ∧ o1 ≤ o2 ∧ e1 ≤ e2 := by
  unfold wthB at hb
  simp only [Bool.and_eq_true, decide_eq_true_eq] at hb
  exact ⟨hb.2.2.1, hb.2.2.2.1, hb.2.2.2.2.1, hb.2.2.2.2.2⟩
end Pl

set_option maxRecDepth 100000 in
set_option maxHeartbeats 2000000 in
theorem law_less (ar1 aw1 : Option Addr) (cr1 cw1 : Nat) (R1 W1 : List (List ByteArray)) (f1 m1 o1 e1 : Int) (ar2 aw2 : Option Addr) (cr2 cw2 : Nat) (R2 W2 : List (List ByteArray)) (f2 m2 o2 e2 : Int) (b : Bool) (ap : Option Addr) (cp : Nat) (p : List ByteArray) (w : World) (T : PT w) (hr1 : Pts w ar1 cr1 R1) (hw1 : Pts w aw1 cw1 W1) (hr2 : Pts w ar2 cr2 R2) (hw2 : Pts w aw2 cw2 W2) (hp : Strs w ap cp p) :
    Calls Tryz.prog 8 #[.agg #[.slice ar1 R1.length cr1, .slice aw1 W1.length cw1, .int .i64 f1, .int .i64 m1, .int .i64 o1, .int .i64 e1], .agg #[.slice ar2 R2.length cr2, .slice aw2 W2.length cw2, .int .i64 f2, .int .i64 m2, .int .i64 o2, .int .i64 e2], .bool b, .slice ap p.length cp] w fun x w' => x = .returned (.bool true) ∧ Below w.heap.size w w' := by
  obtain ⟨wa, hwa⟩ : ∃ wa, wa = (w.alloc (.cells #[.slice ar1 R1.length cr1, .slice aw1 W1.length cw1, .int .i64 f1, .int .i64 m1, .int .i64 o1, .int .i64 e1] 24)).alloc (.cells #[.slice ar2 R2.length cr2, .slice aw2 W2.length cw2, .int .i64 f2, .int .i64 m2, .int .i64 o2, .int .i64 e2] 24) := ⟨_, rfl⟩
  have hBa : Below w.heap.size w wa := by rw [hwa]; exact ((Below.refl _ _).alloc (Nat.le_refl _) _).alloc (by simp) _
  have HW : Hid (wa = (w.alloc (.cells #[.slice ar1 R1.length cr1, .slice aw1 W1.length cw1, .int .i64 f1, .int .i64 m1, .int .i64 o1, .int .i64 e1] 24)).alloc (.cells #[.slice ar2 R2.length cr2, .slice aw2 W2.length cw2, .int .i64 f2, .int .i64 m2, .int .i64 o2, .int .i64 e2] 24)) := hwa
  have HT : Hid (Two wa w.heap.size (w.heap.size + 1) ar1 aw1 cr1 cw1 R1 W1 f1 m1 o1 e1 ar2 aw2 cr2 cw2 R2 W2 f2 m2 o2 e2 ∧ Below w.heap.size w wa ∧ Strs wa ap cp p) := ⟨by rw [hwa]; exact two_new w ar1 aw1 cr1 cw1 R1 W1 f1 m1 o1 e1 ar2 aw2 cr2 cw2 R2 W2 f2 m2 o2 e2 hr1 hw1 hr2 hw2, hBa, hp.below hBa⟩
  have HL := plives_any wa (T.under hBa)
  have hlr1 := hr1.len
  have hlr2 := hr2.len
  have hlw1 := hw1.len
  have hlw2 := hw2.len
  have hlp := hp.len
  obtain ⟨hs1, hs2⟩ := Pl.wth_self R1 W1 f1 m1 o1 e1
  have HS : Hid (Pl.wthP R1 W1 f1 m1 o1 e1 R1 W1 f1 m1 o1 e1 = (Pl.polC R1 W1 f1 m1 o1 e1 == 0) ∧ Pl.chk2 R1 W1 f1 m1 o1 e1 R1 W1 f1 m1 o1 e1 = Pl.polC R1 W1 f1 m1 o1 e1) := ⟨hs1, hs2⟩
  clear hwa hBa hr1 hw1 hr2 hw2 hp T hs1 hs2
  go_enter Tryz.func8, Tryz.ntmps8
  go_wp2_with fail
  rw [← HW.out]
  refine HL.mono ?_
  rintro x wb ⟨rfl, hbb⟩
  have H1 : Hid (Two wb w.heap.size (w.heap.size + 1) ar1 aw1 cr1 cw1 R1 W1 f1 m1 o1 e1 ar2 aw2 cr2 cw2 R2 W2 f2 m2 o2 e2 ∧ Below w.heap.size w wb ∧ Strs wb ap cp p) := ⟨HT.out.1.below hbb, HT.out.2.1.trans (hbb.mono HT.out.2.1.size), HT.out.2.2.below hbb⟩
  clear hbb HT HL HW
  generalize hg : w.heap.size = g at *
  have HG : Hid (w.heap.size = g) := hg
  clear hg
  generalize hh : g + 1 = h at *
  clear hh
  have a10 := H1.out.1.g0
  have b10 := H1.out.1.h0
  have a11 := H1.out.1.g1
  have b11 := H1.out.1.h1
  have a12 := H1.out.1.g2
  have b12 := H1.out.1.h2
  have a13 := H1.out.1.g3
  have b13 := H1.out.1.h3
  have a14 := H1.out.1.g4
  have b14 := H1.out.1.h4
  have a15 := H1.out.1.g5
  have b15 := H1.out.1.h5
  go_wp2_with fail
  refine (pwithin_any ar1 aw1 cr1 cw1 R1 W1 f1 m1 o1 e1 ar2 aw2 cr2 cw2 R2 W2 f2 m2 o2 e2 wb H1.out.1.r1 H1.out.1.w1 H1.out.1.r2 H1.out.1.w2).mono ?_
  rintro x w2 ⟨rfl, hb2⟩
  have H2 : Hid (Two w2 g h ar1 aw1 cr1 cw1 R1 W1 f1 m1 o1 e1 ar2 aw2 cr2 cw2 R2 W2 f2 m2 o2 e2 ∧ Below g w w2 ∧ Strs w2 ap cp p) := ⟨H1.out.1.below hb2, H1.out.2.1.trans (hb2.mono (by have := H1.out.1.gl; omega)), H1.out.2.2.below hb2⟩
  clear hb2 H1
  clear a10 b10 a11 b11 a12 b12 a13 b13 a14 b14 a15 b15
  have a20 := H2.out.1.g0
  have b20 := H2.out.1.h0
  have a21 := H2.out.1.g1
  have b21 := H2.out.1.h1
  have a22 := H2.out.1.g2
  have b22 := H2.out.1.h2
  have a23 := H2.out.1.g3
  have b23 := H2.out.1.h3
  have a24 := H2.out.1.g4
  have b24 := H2.out.1.h4
  have a25 := H2.out.1.g5
  have b25 := H2.out.1.h5
  go_wp2_with fail
  refine (pwithin_any ar1 aw1 cr1 cw1 R1 W1 f1 m1 o1 e1 ar1 aw1 cr1 cw1 R1 W1 f1 m1 o1 e1 w2 H2.out.1.r1 H2.out.1.w1 H2.out.1.r1 H2.out.1.w1).mono ?_
  rw [HS.out.1, HS.out.2]
  rintro x w3 ⟨rfl, hb3⟩
  have H3 : Hid (Two w3 g h ar1 aw1 cr1 cw1 R1 W1 f1 m1 o1 e1 ar2 aw2 cr2 cw2 R2 W2 f2 m2 o2 e2 ∧ Below g w w3 ∧ Strs w3 ap cp p) := ⟨H2.out.1.below hb3, H2.out.2.1.trans (hb3.mono (by have := H2.out.1.gl; omega)), H2.out.2.2.below hb3⟩
  clear hb3 H2 HS
  clear a20 b20 a21 b21 a22 b22 a23 b23 a24 b24 a25 b25
  have a30 := H3.out.1.g0
  have b30 := H3.out.1.h0
  have a31 := H3.out.1.g1
  have b31 := H3.out.1.h1
  have a32 := H3.out.1.g2
  have b32 := H3.out.1.h2
  have a33 := H3.out.1.g3
  have b33 := H3.out.1.h3
  have a34 := H3.out.1.g4
  have b34 := H3.out.1.h4
  have a35 := H3.out.1.g5
  have b35 := H3.out.1.h5
  have HC := check_any ar1 aw1 cr1 cw1 R1 W1 f1 m1 o1 e1 w3 H3.out.1.r1 H3.out.1.w1
  have hk : Pl.polC R1 W1 f1 m1 o1 e1 = 0 ∧ Pl.chk2 R1 W1 f1 m1 o1 e1 R2 W2 f2 m2 o2 e2 = 0 ∧ Pl.wthP R1 W1 f1 m1 o1 e1 R2 W2 f2 m2 o2 e2 = Pl.wthB R1 W1 f1 m1 o1 e1 R2 W2 f2 m2 o2 e2 ∨ (Pl.polC R1 W1 f1 m1 o1 e1 = 0 ∨ Pl.polC R1 W1 f1 m1 o1 e1 = 50) ∧ Pl.chk2 R1 W1 f1 m1 o1 e1 R2 W2 f2 m2 o2 e2 = 50 := by
    have q : Pl.wthP R1 W1 f1 m1 o1 e1 R2 W2 f2 m2 o2 e2 = (Pl.chk2 R1 W1 f1 m1 o1 e1 R2 W2 f2 m2 o2 e2 == 0 && Pl.wthB R1 W1 f1 m1 o1 e1 R2 W2 f2 m2 o2 e2) := rfl
    rcases Pl.chk2_two R1 W1 f1 m1 o1 e1 R2 W2 f2 m2 o2 e2 with e | e
    · refine .inl ⟨?_, e, by rw [q, e]; rfl⟩
      rcases Pl.polC_two R1 W1 f1 m1 o1 e1 with k | k
      · exact k
      · unfold Pl.chk2 at e; rw [k] at e; cases e
    · exact .inr ⟨Pl.polC_two R1 W1 f1 m1 o1 e1, e⟩
  rcases hk with ⟨c1, c2, c3⟩ | ⟨c1, c2⟩
  · rw [c1] at HC
    rw [c1, c2, c3]
    have HML : Hid (Pl.wthB R1 W1 f1 m1 o1 e1 R2 W2 f2 m2 o2 e2 = true → Pl.mayP R1 W1 f1 m1 o1 e1 b p = true → Pl.mayP R2 W2 f2 m2 o2 e2 b p = true) := Pl.may_less c2
    have HNu : Hid (Pl.wthB R1 W1 f1 m1 o1 e1 R2 W2 f2 m2 o2 e2 = true → f1 ≤ f2 ∧ m1 ≤ m2 ∧ o1 ≤ o2 ∧ e1 ≤ e2) := Pl.wth_nums
    clear c1 c2 c3
    generalize Pl.wthB R1 W1 f1 m1 o1 e1 R2 W2 f2 m2 o2 e2 = wb2 at *
    go_wp2_with fail
    refine HC.mono ?_
    rintro x w4 ⟨rfl, hb4⟩
    have H4 : Hid (Two w4 g h ar1 aw1 cr1 cw1 R1 W1 f1 m1 o1 e1 ar2 aw2 cr2 cw2 R2 W2 f2 m2 o2 e2 ∧ Below g w w4 ∧ Strs w4 ap cp p) := ⟨H3.out.1.below hb4, H3.out.2.1.trans (hb4.mono (by have := H3.out.1.gl; omega)), H3.out.2.2.below hb4⟩
    clear hb4 H3 HC
    clear a30 b30 a31 b31 a32 b32 a33 b33 a34 b34 a35 b35
    have a40 := H4.out.1.g0
    have b40 := H4.out.1.h0
    have a41 := H4.out.1.g1
    have b41 := H4.out.1.h1
    have a42 := H4.out.1.g2
    have b42 := H4.out.1.h2
    have a43 := H4.out.1.g3
    have b43 := H4.out.1.h3
    have a44 := H4.out.1.g4
    have b44 := H4.out.1.h4
    have a45 := H4.out.1.g5
    have b45 := H4.out.1.h5
    cases wb2
    · go_wp2_with fail
      go_ret
      exact ⟨rfl, by rw [HG.out]; exact H4.out.2.1⟩
    have hnu := HNu.out rfl
    obtain ⟨n1, n2, n3, n4⟩ := hnu
    have d1 : decide (f1 ≤ f2) = true := by simpa using n1
    have d2 : decide (m1 ≤ m2) = true := by simpa using n2
    have d3 : decide (o1 ≤ o2) = true := by simpa using n3
    have d4 : decide (e1 ≤ e2) = true := by simpa using n4
    have HM1 := pmay_any ar1 aw1 ap cr1 cw1 cp R1 W1 f1 m1 o1 e1 b p w4 H4.out.1.r1 H4.out.1.w1 H4.out.2.2
    have HM2 : Hid (∀ w5, Below w4.heap.size w4 w5 → Calls Tryz.prog 17 #[.agg #[.slice ar2 R2.length cr2, .slice aw2 W2.length cw2, .int .i64 f2, .int .i64 m2, .int .i64 o2, .int .i64 e2], .bool b, .slice ap p.length cp] w5 fun x w' => x = .returned (.bool (Pl.mayP R2 W2 f2 m2 o2 e2 b p)) ∧ Below w5.heap.size w5 w') := fun w5 hb => pmay_any ar2 aw2 ap cr2 cw2 cp R2 W2 f2 m2 o2 e2 b p w5 (H4.out.1.r2.below hb) (H4.out.1.w2.below hb) (H4.out.2.2.below hb)
    cases hm1 : Pl.mayP R1 W1 f1 m1 o1 e1 b p
    · rw [hm1] at HM1
      go_wp2_with fail
      refine HM1.mono ?_
      rintro x w5 ⟨rfl, hb5⟩
      have H5 : Hid (Two w5 g h ar1 aw1 cr1 cw1 R1 W1 f1 m1 o1 e1 ar2 aw2 cr2 cw2 R2 W2 f2 m2 o2 e2 ∧ Below g w w5) := ⟨H4.out.1.below hb5, H4.out.2.1.trans (hb5.mono (by have := H4.out.1.gl; omega))⟩
      clear hb5 HM1 HM2 H4 HML HNu
      clear a40 b40 a41 b41 a42 b42 a43 b43 a44 b44 a45 b45
      have a50 := H5.out.1.g0
      have b50 := H5.out.1.h0
      have a51 := H5.out.1.g1
      have b51 := H5.out.1.h1
      have a52 := H5.out.1.g2
      have b52 := H5.out.1.h2
      have a53 := H5.out.1.g3
      have b53 := H5.out.1.h3
      have a54 := H5.out.1.g4
      have b54 := H5.out.1.h4
      have a55 := H5.out.1.g5
      have b55 := H5.out.1.h5
      go_wp2_with fail
      go_ret
      exact ⟨rfl, by rw [HG.out]; exact H5.out.2⟩
    · rw [hm1] at HM1
      have hm2 : Pl.mayP R2 W2 f2 m2 o2 e2 b p = true := HML.out rfl hm1
      rw [hm2] at HM2
      go_wp2_with fail
      refine HM1.mono ?_
      rintro x w5 ⟨rfl, hb5⟩
      have H5 : Hid (Two w5 g h ar1 aw1 cr1 cw1 R1 W1 f1 m1 o1 e1 ar2 aw2 cr2 cw2 R2 W2 f2 m2 o2 e2 ∧ Below g w w5) := ⟨H4.out.1.below hb5, H4.out.2.1.trans (hb5.mono (by have := H4.out.1.gl; omega))⟩
      have HM5 := HM2.out w5 hb5
      clear hb5 HM1 HM2 H4 HML HNu hm1 hm2
      clear a40 b40 a41 b41 a42 b42 a43 b43 a44 b44 a45 b45
      have a50 := H5.out.1.g0
      have b50 := H5.out.1.h0
      have a51 := H5.out.1.g1
      have b51 := H5.out.1.h1
      have a52 := H5.out.1.g2
      have b52 := H5.out.1.h2
      have a53 := H5.out.1.g3
      have b53 := H5.out.1.h3
      have a54 := H5.out.1.g4
      have b54 := H5.out.1.h4
      have a55 := H5.out.1.g5
      have b55 := H5.out.1.h5
      go_wp2_with fail
      refine HM5.mono ?_
      rintro x w6 ⟨rfl, hb6⟩
      have H6 : Hid (Two w6 g h ar1 aw1 cr1 cw1 R1 W1 f1 m1 o1 e1 ar2 aw2 cr2 cw2 R2 W2 f2 m2 o2 e2 ∧ Below g w w6) := ⟨H5.out.1.below hb6, H5.out.2.trans (hb6.mono (by have := H5.out.1.gl; omega))⟩
      clear hb6 HM5 H5
      clear a50 b50 a51 b51 a52 b52 a53 b53 a54 b54 a55 b55
      have a60 := H6.out.1.g0
      have b60 := H6.out.1.h0
      have a61 := H6.out.1.g1
      have b61 := H6.out.1.h1
      have a62 := H6.out.1.g2
      have b62 := H6.out.1.h2
      have a63 := H6.out.1.g3
      have b63 := H6.out.1.h3
      have a64 := H6.out.1.g4
      have b64 := H6.out.1.h4
      have a65 := H6.out.1.g5
      have b65 := H6.out.1.h5
      go_wp2_with fail
      go_ret
      exact ⟨rfl, by rw [HG.out]; exact H6.out.2⟩
  · rcases c1 with c1 | c1
    all_goals
      rw [c1] at HC
      rw [c1, c2]
      clear c1 c2
      generalize Pl.wthP R1 W1 f1 m1 o1 e1 R2 W2 f2 m2 o2 e2 = wb2 at *
      go_wp2_with fail
      refine HC.mono ?_
      rintro x w4 ⟨rfl, hb4⟩
      have H4 : Hid (Below g w w4) := H3.out.2.1.trans (hb4.mono (by have := H3.out.1.gl; omega))
      clear hb4 H3 HC
      go_wp2_with fail
      go_ret
      exact ⟨rfl, by rw [HG.out]; exact H4.out⟩
end Go.Proofs.YtnmplolkbmackaaGreatDoor
