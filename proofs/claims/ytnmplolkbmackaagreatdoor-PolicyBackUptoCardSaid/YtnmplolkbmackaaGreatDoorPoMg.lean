/- What both Meet answer of any two policies, as one relation with one answer. -/
import Derived.Test.YtnmplolkbmackaaGreatDoorPoRMe
import Derived.Test.YtnmplolkbmackaaGreatDoorPoNg
namespace Go.Proofs.YtnmplolkbmackaaGreatDoor
open Go.RowKit

namespace Pl
theorem polC_len {R W : List (List ByteArray)} {f m o e : Int} (h : polC R W f m o e = 0) : R.length ≤ 1024 ∧ W.length ≤ 1024 := by
  unfold polC at h
  split at h
  · rename_i k
    simp only [Bool.and_eq_true, rightsP, decide_eq_true_eq] at k
    exact ⟨k.1.1, k.2.1.1⟩
  · cases h
theorem chk2_both {R1 W1 : List (List ByteArray)} {f1 m1 o1 e1 : Int} {R2 W2 : List (List ByteArray)} {f2 m2 o2 e2 : Int} (hc : chk2 R1 W1 f1 m1 o1 e1 R2 W2 f2 m2 o2 e2 = 0) : polC R1 W1 f1 m1 o1 e1 = 0 ∧ polC R2 W2 f2 m2 o2 e2 = 0 := by
  unfold chk2 at hc
  rcases polC_two R1 W1 f1 m1 o1 e1 with k | k
  · rw [if_pos k] at hc; exact ⟨k, hc⟩
  · rw [if_neg (by rw [k]; decide)] at hc; cases hc
/-- What Meet answers: the policy's lists, its numbers, the error. -/
def MeetIs (R1 W1 : List (List ByteArray)) (f1 m1 o1 e1 : Int) (R2 W2 : List (List ByteArray)) (f2 m2 o2 e2 : Int) (cR cW : List (List ByteArray)) (F M O E : Int) (c : Nat) : Prop :=
  chk2 R1 W1 f1 m1 o1 e1 R2 W2 f2 m2 o2 e2 = 50 ∧ cR = [] ∧ cW = [] ∧ F = 0 ∧ M = 0 ∧ O = 0 ∧ E = 0 ∧ c = 50 ∨
  chk2 R1 W1 f1 m1 o1 e1 R2 W2 f2 m2 o2 e2 = 0 ∧ ∃ dR dW, Cov (metL R1 R2) dR ∧ Cov (metL W1 W2) dW ∧ ((1024 < dR.length ∨ 1024 < dW.length) ∧ cR = [] ∧ cW = [] ∧ F = 0 ∧ M = 0 ∧ O = 0 ∧ E = 0 ∧ c = 3 ∨ (dR.length ≤ 1024 ∧ dW.length ≤ 1024) ∧ cR = dR ∧ cW = dW ∧ F = min f1 f2 ∧ M = min m1 m2 ∧ O = min o1 o2 ∧ E = min e1 e2 ∧ c = 0)
theorem MeetIs.one {R1 W1 : List (List ByteArray)} {f1 m1 o1 e1 : Int} {R2 W2 : List (List ByteArray)} {f2 m2 o2 e2 : Int} {cR cW cR' cW' : List (List ByteArray)} {F M O E F' M' O' E' : Int} {c c' : Nat} (h : MeetIs R1 W1 f1 m1 o1 e1 R2 W2 f2 m2 o2 e2 cR cW F M O E c) (h' : MeetIs R1 W1 f1 m1 o1 e1 R2 W2 f2 m2 o2 e2 cR' cW' F' M' O' E' c') : cR' = cR ∧ cW' = cW ∧ F' = F ∧ M' = M ∧ O' = O ∧ E' = E ∧ c' = c := by
  rcases h with ⟨p, h1, h2, h3, h4, h5, h6, h7⟩ | ⟨p, dR, dW, h1, h2, h3⟩
  · rcases h' with ⟨q, k1, k2, k3, k4, k5, k6, k7⟩ | ⟨q, _⟩
    · exact ⟨k1.trans h1.symm, k2.trans h2.symm, k3.trans h3.symm, k4.trans h4.symm, k5.trans h5.symm, k6.trans h6.symm, k7.trans h7.symm⟩
    · rw [p] at q; cases q
  · rcases h' with ⟨q, _⟩ | ⟨q, eR, eW, k1, k2, k3⟩
    · rw [p] at q; cases q
    · obtain rfl := k1.unique h1
      obtain rfl := k2.unique h2
      rcases h3 with ⟨a0, a1, a2, a3, a4, a5, a6, a7⟩ | ⟨a0, a1, a2, a3, a4, a5, a6, a7⟩
      · rcases k3 with ⟨b0, b1, b2, b3, b4, b5, b6, b7⟩ | ⟨b0, _⟩
        · exact ⟨b1.trans a1.symm, b2.trans a2.symm, b3.trans a3.symm, b4.trans a4.symm, b5.trans a5.symm, b6.trans a6.symm, b7.trans a7.symm⟩
        · omega
      · rcases k3 with ⟨b0, _⟩ | ⟨b0, b1, b2, b3, b4, b5, b6, b7⟩
        · omega
        · exact ⟨b1.trans a1.symm, b2.trans a2.symm, b3.trans a3.symm, b4.trans a4.symm, b5.trans a5.symm, b6.trans a6.symm, b7.trans a7.symm⟩
end Pl
/-- What both Meet leave. -/
def MeetG (w : World) (R1 W1 : List (List ByteArray)) (f1 m1 o1 e1 : Int) (R2 W2 : List (List ByteArray)) (f2 m2 o2 e2 : Int) (x : Ending) (w' : World) : Prop := ∃ aR aW nR nW cR cW F M O E c, x = .returned (.tuple #[.agg #[.slice aR (List.length cR) nR, .slice aW (List.length cW) nW, .int .i64 F, .int .i64 M, .int .i64 O, .int .i64 E], .int .i64 (c : Nat)]) ∧ Hid (Pts w' aR nR cR ∧ Pts w' aW nW cW ∧ Pl.MeetIs R1 W1 f1 m1 o1 e1 R2 W2 f2 m2 o2 e2 cR cW F M O E c ∧ Below w.heap.size w w')
theorem meetG_no {R1 W1 : List (List ByteArray)} {f1 m1 o1 e1 : Int} {R2 W2 : List (List ByteArray)} {f2 m2 o2 e2 : Int} {w w' : World} {x : Ending} (hc : Pl.chk2 R1 W1 f1 m1 o1 e1 R2 W2 f2 m2 o2 e2 = 50) (h : x = .returned (.tuple #[.agg #[.slice none 0 0, .slice none 0 0, .int .i64 0, .int .i64 0, .int .i64 0, .int .i64 0], .int .i64 50]) ∧ Below w.heap.size w w') : MeetG w R1 W1 f1 m1 o1 e1 R2 W2 f2 m2 o2 e2 x w' :=
  ⟨none, none, 0, 0, [], [], 0, 0, 0, 0, 50, h.1, ⟨Pts.empty _, Pts.empty _, .inl ⟨hc, rfl, rfl, rfl, rfl, rfl, rfl, rfl⟩, h.2⟩⟩
theorem meetG_yes {R1 W1 : List (List ByteArray)} {f1 m1 o1 e1 : Int} {R2 W2 : List (List ByteArray)} {f2 m2 o2 e2 : Int} {w w' : World} {x : Ending} (hc : Pl.chk2 R1 W1 f1 m1 o1 e1 R2 W2 f2 m2 o2 e2 = 0) (h : MeetE w R1 W1 f1 m1 o1 e1 R2 W2 f2 m2 o2 e2 x w') : MeetG w R1 W1 f1 m1 o1 e1 R2 W2 f2 m2 o2 e2 x w' := by
  obtain ⟨hb, cR, cW, h1, h2, h3⟩ := h
  rcases h3 with ⟨k1, k2⟩ | ⟨⟨k1, k2⟩, aR, aW, nR, nW, k3, k4, k5⟩
  · exact ⟨none, none, 0, 0, [], [], 0, 0, 0, 0, 3, k2, ⟨Pts.empty _, Pts.empty _, .inr ⟨hc, cR, cW, h1, h2, .inl ⟨k1, rfl, rfl, rfl, rfl, rfl, rfl, rfl⟩⟩, hb⟩⟩
  · obtain ⟨a1, n1, e1, p1⟩ := k4.pts (by omega)
    obtain ⟨a2, n2, e2, p2⟩ := k5.pts (by omega)
    injection e1 with e1 _ e1'
    injection e2 with e2 _ e2'
    subst e1 e1' e2 e2'
    exact ⟨aR, aW, nR, nW, cR, cW, _, _, _, _, 0, k3, ⟨p1, p2, .inr ⟨hc, cR, cW, h1, h2, .inr ⟨⟨k1, k2⟩, rfl, rfl, rfl, rfl, rfl, rfl, rfl⟩⟩, hb⟩⟩
theorem pmeet_g (ar1 aw1 : Option Addr) (cr1 cw1 : Nat) (R1 W1 : List (List ByteArray)) (f1 m1 o1 e1 : Int) (ar2 aw2 : Option Addr) (cr2 cw2 : Nat) (R2 W2 : List (List ByteArray)) (f2 m2 o2 e2 : Int) (w : World) (hr1 : Pts w ar1 cr1 R1) (hw1 : Pts w aw1 cw1 W1) (hr2 : Pts w ar2 cr2 R2) (hw2 : Pts w aw2 cw2 W2) : Calls Tryz.prog 19 #[.agg #[.slice ar1 R1.length cr1, .slice aw1 W1.length cw1, .int .i64 f1, .int .i64 m1, .int .i64 o1, .int .i64 e1], .agg #[.slice ar2 R2.length cr2, .slice aw2 W2.length cw2, .int .i64 f2, .int .i64 m2, .int .i64 o2, .int .i64 e2]] w (MeetG w R1 W1 f1 m1 o1 e1 R2 W2 f2 m2 o2 e2) := by
  rcases Pl.chk2_two R1 W1 f1 m1 o1 e1 R2 W2 f2 m2 o2 e2 with hc | hc
  · obtain ⟨k1, k2⟩ := Pl.chk2_both hc
    have := Pl.polC_len k1
    have := Pl.polC_len k2
    exact (pmeet_yes ar1 aw1 cr1 cw1 R1 W1 f1 m1 o1 e1 ar2 aw2 cr2 cw2 R2 W2 f2 m2 o2 e2 w hr1 hw1 hr2 hw2 hc (by omega) (by omega)).mono fun x w' h => meetG_yes hc h
  · exact (pmeet_no ar1 aw1 cr1 cw1 R1 W1 f1 m1 o1 e1 ar2 aw2 cr2 cw2 R2 W2 f2 m2 o2 e2 w hr1 hw1 hr2 hw2 hc).mono fun x w' h => meetG_no hc h

set_option maxRecDepth 100000 in
set_option maxHeartbeats 2000000 in
theorem rpmeet_no (ar1 aw1 : Option Addr) (cr1 cw1 : Nat) (R1 W1 : List (List ByteArray)) (f1 m1 o1 e1 : Int) (ar2 aw2 : Option Addr) (cr2 cw2 : Nat) (R2 W2 : List (List ByteArray)) (f2 m2 o2 e2 : Int) (w : World) (hr1 : Pts w ar1 cr1 R1) (hw1 : Pts w aw1 cw1 W1) (hr2 : Pts w ar2 cr2 R2) (hw2 : Pts w aw2 cw2 W2) (hc : Pl.chk2 R1 W1 f1 m1 o1 e1 R2 W2 f2 m2 o2 e2 = 50) :
    Calls Tryz.prog 20 #[.agg #[.slice ar1 R1.length cr1, .slice aw1 W1.length cw1, .int .i64 f1, .int .i64 m1, .int .i64 o1, .int .i64 e1], .agg #[.slice ar2 R2.length cr2, .slice aw2 W2.length cw2, .int .i64 f2, .int .i64 m2, .int .i64 o2, .int .i64 e2]] w fun x w' => x = .returned (.tuple #[.agg #[.slice none 0 0, .slice none 0 0, .int .i64 0, .int .i64 0, .int .i64 0, .int .i64 0], .int .i64 50]) ∧ Below w.heap.size w w' := by
  obtain ⟨wa, hwa⟩ : ∃ wa, wa = ((w.alloc (.cells #[.slice ar1 R1.length cr1, .slice aw1 W1.length cw1, .int .i64 f1, .int .i64 m1, .int .i64 o1, .int .i64 e1] 24)).alloc (.cells #[.slice ar2 R2.length cr2, .slice aw2 W2.length cw2, .int .i64 f2, .int .i64 m2, .int .i64 o2, .int .i64 e2] 24)).alloc zPol := ⟨_, rfl⟩
  have hB2 : Below w.heap.size w ((w.alloc (.cells #[.slice ar1 R1.length cr1, .slice aw1 W1.length cw1, .int .i64 f1, .int .i64 m1, .int .i64 o1, .int .i64 e1] 24)).alloc (.cells #[.slice ar2 R2.length cr2, .slice aw2 W2.length cw2, .int .i64 f2, .int .i64 m2, .int .i64 o2, .int .i64 e2] 24)) := ((Below.refl _ _).alloc (Nat.le_refl _) _).alloc (by simp) _
  have hB : Below w.heap.size w wa := by rw [hwa]; exact hB2.alloc hB2.size _
  have hT : Two wa w.heap.size (w.heap.size + 1) ar1 aw1 cr1 cw1 R1 W1 f1 m1 o1 e1 ar2 aw2 cr2 cw2 R2 W2 f2 m2 o2 e2 := by rw [hwa]; exact (two_new w ar1 aw1 cr1 cw1 R1 W1 f1 m1 o1 e1 ar2 aw2 cr2 cw2 R2 W2 f2 m2 o2 e2 hr1 hw1 hr2 hw2).below ((Below.refl _ _).alloc (Nat.le_refl _) _)
  have hz : wa.heap[w.heap.size + 1 + 1]? = some zPol := by rw [hwa, show w.heap.size + 1 + 1 = ((w.alloc (.cells #[.slice ar1 R1.length cr1, .slice aw1 W1.length cw1, .int .i64 f1, .int .i64 m1, .int .i64 o1, .int .i64 e1] 24)).alloc (.cells #[.slice ar2 R2.length cr2, .slice aw2 W2.length cw2, .int .i64 f2, .int .i64 m2, .int .i64 o2, .int .i64 e2] 24)).heap.size from by simp]; exact heap_alloc_new _ _
  have HW : Hid (wa = ((w.alloc (.cells #[.slice ar1 R1.length cr1, .slice aw1 W1.length cw1, .int .i64 f1, .int .i64 m1, .int .i64 o1, .int .i64 e1] 24)).alloc (.cells #[.slice ar2 R2.length cr2, .slice aw2 W2.length cw2, .int .i64 f2, .int .i64 m2, .int .i64 o2, .int .i64 e2] 24)).alloc zPol) := hwa
  have H0 := rRight_any ar1 aw1 cr1 cw1 R1 W1 f1 m1 o1 e1 wa hT.r1 hT.w1
  have H1 : Hid (∀ V, Below wa.heap.size wa V → Calls Tryz.prog 29 #[.agg #[.slice ar2 R2.length cr2, .slice aw2 W2.length cw2, .int .i64 f2, .int .i64 m2, .int .i64 o2, .int .i64 e2]] V fun x w' => x = .returned (.bool (Pl.polC R2 W2 f2 m2 o2 e2 == 0)) ∧ Below V.heap.size V w') := fun V hV => rRight_any ar2 aw2 cr2 cw2 R2 W2 f2 m2 o2 e2 V (hT.r2.below hV) (hT.w2.below hV)
  have hlr1 := hr1.len
  have hlw1 := hw1.len
  have hlr2 := hr2.len
  have hlw2 := hw2.len
  have HZ : Hid (Below w.heap.size w wa ∧ wa.heap[w.heap.size + 1 + 1]? = some zPol ∧ Two wa w.heap.size (w.heap.size + 1) ar1 aw1 cr1 cw1 R1 W1 f1 m1 o1 e1 ar2 aw2 cr2 cw2 R2 W2 f2 m2 o2 e2) := ⟨hB, hz, hT⟩
  clear hwa hB hT hz hB2 hr1 hw1 hr2 hw2
  simp only [zPol] at HW
  have hk : Pl.polC R1 W1 f1 m1 o1 e1 = 50 ∨ Pl.polC R1 W1 f1 m1 o1 e1 = 0 ∧ Pl.polC R2 W2 f2 m2 o2 e2 = 50 := by
    rcases Pl.polC_two R1 W1 f1 m1 o1 e1 with k | k
    · unfold Pl.chk2 at hc; rw [if_pos k] at hc; exact .inr ⟨k, hc⟩
    · exact .inl k
  clear hc
  rcases hk with k | ⟨k, k'⟩
  · rw [k] at H0
    clear k
    go_enter Tryz.func20, Tryz.ntmps20
    go_wp2_with fail
    rw [← HW.out]
    refine H0.mono ?_
    rintro x w1 ⟨rfl, hb1⟩
    have HZ1 : Hid (Below w.heap.size w w1 ∧ w1.heap[w.heap.size + 1 + 1]? = some zPol) := ⟨HZ.out.1.trans (hb1.mono HZ.out.1.size), (hb1.block _ (lt_of_block HZ.out.2.1)).trans HZ.out.2.1⟩
    obtain ⟨⟨p0, p1, p2, p3, p4, p5⟩, pf⟩ := zcells HZ1.out.2
    have t0 := HZ.out.2.2.below hb1
    have y0 := t0.h0
    have y1 := t0.h1
    have y2 := t0.h2
    have y3 := t0.h3
    have y4 := t0.h4
    have y5 := t0.h5
    clear t0 hb1 HZ H1 H0 HW
    go_wp2_with fail
    obtain ⟨z0, z1⟩ := put6_at HZ1.out.2 (.slice none 0 0) (.slice none 0 0) (.int .i64 0) (.int .i64 0) (.int .i64 0) (.int .i64 0)
    refine bodyPost_ret (results_pol2 rfl _ _ (w.heap.size + 1 + 1) _ _ _ _ _ _ rfl z0) rfl ?_
    exact ⟨rfl, HZ1.out.1.trans (z1.below HZ1.out.1.size (fun k e => by omega))⟩
  · rw [k] at H0
    rw [k'] at H1
    clear k k'
    go_enter Tryz.func20, Tryz.ntmps20
    go_wp2_with fail
    rw [← HW.out]
    refine H0.mono ?_
    rintro x w0 ⟨rfl, hb0⟩
    have D1 := H1.out w0 hb0
    have t0 := HZ.out.2.2.below hb0
    have y0 := t0.h0
    have y1 := t0.h1
    have y2 := t0.h2
    have y3 := t0.h3
    have y4 := t0.h4
    have y5 := t0.h5
    clear t0
    go_wp2_with fail
    refine D1.mono ?_
    rintro x w1 ⟨rfl, hb2⟩
    have hb1 := hb0.trans (hb2.mono hb0.size)
    have HZ1 : Hid (Below w.heap.size w w1 ∧ w1.heap[w.heap.size + 1 + 1]? = some zPol) := ⟨HZ.out.1.trans (hb1.mono HZ.out.1.size), (hb1.block _ (lt_of_block HZ.out.2.1)).trans HZ.out.2.1⟩
    obtain ⟨⟨p0, p1, p2, p3, p4, p5⟩, pf⟩ := zcells HZ1.out.2
    clear hb0 hb2 hb1 HZ H1 H0 HW D1 y0 y1 y2 y3 y4 y5
    go_wp2_with fail
    obtain ⟨z0, z1⟩ := put6_at HZ1.out.2 (.slice none 0 0) (.slice none 0 0) (.int .i64 0) (.int .i64 0) (.int .i64 0) (.int .i64 0)
    refine bodyPost_ret (results_pol2 rfl _ _ (w.heap.size + 1 + 1) _ _ _ _ _ _ rfl z0) rfl ?_
    exact ⟨rfl, HZ1.out.1.trans (z1.below HZ1.out.1.size (fun k e => by omega))⟩
theorem rpmeet_g (ar1 aw1 : Option Addr) (cr1 cw1 : Nat) (R1 W1 : List (List ByteArray)) (f1 m1 o1 e1 : Int) (ar2 aw2 : Option Addr) (cr2 cw2 : Nat) (R2 W2 : List (List ByteArray)) (f2 m2 o2 e2 : Int) (w : World) (hr1 : Pts w ar1 cr1 R1) (hw1 : Pts w aw1 cw1 W1) (hr2 : Pts w ar2 cr2 R2) (hw2 : Pts w aw2 cw2 W2) : Calls Tryz.prog 20 #[.agg #[.slice ar1 R1.length cr1, .slice aw1 W1.length cw1, .int .i64 f1, .int .i64 m1, .int .i64 o1, .int .i64 e1], .agg #[.slice ar2 R2.length cr2, .slice aw2 W2.length cw2, .int .i64 f2, .int .i64 m2, .int .i64 o2, .int .i64 e2]] w (MeetG w R1 W1 f1 m1 o1 e1 R2 W2 f2 m2 o2 e2) := by
  rcases Pl.chk2_two R1 W1 f1 m1 o1 e1 R2 W2 f2 m2 o2 e2 with hc | hc
  · obtain ⟨k1, k2⟩ := Pl.chk2_both hc
    have := Pl.polC_len k1
    have := Pl.polC_len k2
    exact (rpmeet_yes ar1 aw1 cr1 cw1 R1 W1 f1 m1 o1 e1 ar2 aw2 cr2 cw2 R2 W2 f2 m2 o2 e2 w hr1 hw1 hr2 hw2 hc (by omega) (by omega)).mono fun x w' h => meetG_yes hc h
  · exact (rpmeet_no ar1 aw1 cr1 cw1 R1 W1 f1 m1 o1 e1 ar2 aw2 cr2 cw2 R2 W2 f2 m2 o2 e2 w hr1 hw1 hr2 hw2 hc).mono fun x w' h => meetG_no hc h
end Go.Proofs.YtnmplolkbmackaaGreatDoor
