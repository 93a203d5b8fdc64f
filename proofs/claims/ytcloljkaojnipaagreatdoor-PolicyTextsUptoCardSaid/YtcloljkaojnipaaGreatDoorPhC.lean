/- What both Normal answer of any policy, as one relation with one answer. What both Meet answer of any two policies, as one relation with one answer. Plain: the meeting of two policies: the same from either side, within both, the widest such; a policy's meeting with itself. -/
import Derived.Test.YtcloljkaojnipaaGreatDoorPgY
import Derived.Test.YtcloljkaojnipaaGreatDoorPgZ
namespace Go.Proofs.YtcloljkaojnipaaGreatDoor
open Go.RowKit

namespace Pl
/-- What Normal answers: the policy's lists, its numbers, the error. -/
def NormIs (R W : List (List ByteArray)) (f m o e : Int) (cR cW : List (List ByteArray)) (F M O E : Int) (c : Nat) : Prop :=
  polC R W f m o e = 0 ∧ Cov R cR ∧ Cov W cW ∧ F = f ∧ M = m ∧ O = o ∧ E = e ∧ c = 0 ∨ polC R W f m o e = 50 ∧ cR = [] ∧ cW = [] ∧ F = 0 ∧ M = 0 ∧ O = 0 ∧ E = 0 ∧ c = 50
theorem NormIs.one {R W : List (List ByteArray)} {f m o e : Int} {cR cW cR' cW' : List (List ByteArray)} {F M O E F' M' O' E' : Int} {c c' : Nat} (h : NormIs R W f m o e cR cW F M O E c) (h' : NormIs R W f m o e cR' cW' F' M' O' E' c') : cR' = cR ∧ cW' = cW ∧ F' = F ∧ M' = M ∧ O' = O ∧ E' = E ∧ c' = c := by
  rcases h with ⟨p, h1, h2, h3, h4, h5, h6, h7⟩ | ⟨p, h1, h2, h3, h4, h5, h6, h7⟩
  · rcases h' with ⟨q, k1, k2, k3, k4, k5, k6, k7⟩ | ⟨q, _⟩
    · exact ⟨k1.unique h1, k2.unique h2, k3.trans h3.symm, k4.trans h4.symm, k5.trans h5.symm, k6.trans h6.symm, k7.trans h7.symm⟩
    · rw [p] at q; cases q
  · rcases h' with ⟨q, _⟩ | ⟨q, k1, k2, k3, k4, k5, k6, k7⟩
    · rw [p] at q; cases q
    · exact ⟨k1.trans h1.symm, k2.trans h2.symm, k3.trans h3.symm, k4.trans h4.symm, k5.trans h5.symm, k6.trans h6.symm, k7.trans h7.symm⟩
theorem psame_self (R W : List (List ByteArray)) (f m o e : Int) : psameP R W R W f m o e f m o e = true := by
  unfold psameP; simp
end Pl
/-- What both Normal leave. -/
def NormG (w : World) (R W : List (List ByteArray)) (f m o e : Int) (x : Ending) (w' : World) : Prop := ∃ aR aW nR nW cR cW F M O E c, x = .returned (.tuple #[.agg #[.slice aR (List.length cR) nR, .slice aW (List.length cW) nW, .int .i64 F, .int .i64 M, .int .i64 O, .int .i64 E], .int .i64 (c : Nat)]) ∧ Hid (Pts w' aR nR cR ∧ Pts w' aW nW cW ∧ Pl.NormIs R W f m o e cR cW F M O E c ∧ Below w.heap.size w w')
theorem normG_no {R W : List (List ByteArray)} {f m o e : Int} {w w' : World} {x : Ending} (hc : Pl.polC R W f m o e = 50) (h : x = .returned (.tuple #[.agg #[.slice none 0 0, .slice none 0 0, .int .i64 0, .int .i64 0, .int .i64 0, .int .i64 0], .int .i64 50]) ∧ Below w.heap.size w w') : NormG w R W f m o e x w' :=
  ⟨none, none, 0, 0, [], [], 0, 0, 0, 0, 50, h.1, ⟨Pts.empty _, Pts.empty _, .inr ⟨hc, rfl, rfl, rfl, rfl, rfl, rfl, rfl⟩, h.2⟩⟩
theorem normG_yes {R W : List (List ByteArray)} {f m o e : Int} {w w' : World} {x : Ending} (hc : Pl.polC R W f m o e = 0) (hlr : R.length ≤ 5864062014806) (hlw : W.length ≤ 5864062014806) (h : NormE w R W f m o e x w') : NormG w R W f m o e x w' := by
  obtain ⟨hb, cR, cW, aR, aW, nR, nW, h1, h2, h3, h4, h5, h6, h7⟩ := h
  obtain ⟨a1, n1, e1, p1⟩ := h6.pts (by omega)
  obtain ⟨a2, n2, e2, p2⟩ := h7.pts (by omega)
  injection e1 with e1 _ e1'
  injection e2 with e2 _ e2'
  subst e1 e1' e2 e2'
  exact ⟨aR, aW, nR, nW, cR, cW, f, m, o, e, 0, h5, ⟨p1, p2, .inl ⟨hc, h1, h2, rfl, rfl, rfl, rfl, rfl⟩, hb⟩⟩
theorem pnormal_g (ar aw : Option Addr) (cr cw : Nat) (R W : List (List ByteArray)) (f m o e : Int) (w : World) (hr : Pts w ar cr R) (hw : Pts w aw cw W) : Calls Tryz.prog 10 #[.agg #[.slice ar R.length cr, .slice aw W.length cw, .int .i64 f, .int .i64 m, .int .i64 o, .int .i64 e]] w (NormG w R W f m o e) := by
  rcases Pl.polC_two R W f m o e with hc | hc
  · exact (pnormal_yes ar aw cr cw R W f m o e w hr hw hc).mono fun x w' h => normG_yes hc hr.len hw.len h
  · exact (pnormal_no ar aw cr cw R W f m o e w hr hw hc).mono fun x w' h => normG_no hc h
theorem rpnormal_g (ar aw : Option Addr) (cr cw : Nat) (R W : List (List ByteArray)) (f m o e : Int) (w : World) (hr : Pts w ar cr R) (hw : Pts w aw cw W) : Calls Tryz.prog 11 #[.agg #[.slice ar R.length cr, .slice aw W.length cw, .int .i64 f, .int .i64 m, .int .i64 o, .int .i64 e]] w (NormG w R W f m o e) := by
  rcases Pl.polC_two R W f m o e with hc | hc
  · exact (rpnormal_yes ar aw cr cw R W f m o e w hr hw hc).mono fun x w' h => normG_yes hc hr.len hw.len h
  · exact (rpnormal_no ar aw cr cw R W f m o e w hr hw hc).mono fun x w' h => normG_no hc h
/-- A policy in a block, readable. -/
structure PolAt (w : World) (g : Nat) (ar aw : Option Addr) (cr cw : Nat) (R W : List (List ByteArray)) (f m o e : Int) : Prop where
  x : w.heap[g]? = some (polO (.slice ar R.length cr) (.slice aw W.length cw) f m o e)
  r : Pts w ar cr R
  s : Pts w aw cw W
theorem PolAt.under {w w' : World} {g : Nat} {ar aw : Option Addr} {cr cw : Nat} {R W : List (List ByteArray)} {f m o e : Int} (h : PolAt w g ar aw cr cw R W f m o e) (hb : Below w.heap.size w w') : PolAt w' g ar aw cr cw R W f m o e := ⟨(hb.block _ (lt_of_block h.x)).trans h.x, h.r.below hb, h.s.below hb⟩
theorem polAt_new (w : World) (ar aw : Option Addr) (cr cw : Nat) (R W : List (List ByteArray)) (f m o e : Int) (hr : Pts w ar cr R) (hw : Pts w aw cw W) : PolAt (w.alloc (.cells #[.slice ar R.length cr, .slice aw W.length cw, .int .i64 f, .int .i64 m, .int .i64 o, .int .i64 e] 24)) w.heap.size ar aw cr cw R W f m o e := ⟨heap_alloc_new _ _, hr.below ((Below.refl _ _).alloc (Nat.le_refl _) _), hw.below ((Below.refl _ _).alloc (Nat.le_refl _) _)⟩
end Go.Proofs.YtcloljkaojnipaaGreatDoor
namespace Go.Proofs.YtcloljkaojnipaaGreatDoor
open Go.RowKit

namespace Pl
theorem polC_len {R W : List (List ByteArray)} {f m o e : Int} (h : polC R W f m o e = 0) : R.length ≤ 1024 ∧ W.length ≤ 1024 := by
  unfold polC at h
  split at h
  · rename_i k
    simp only [Bool.and_eq_true, rightsP, decide_eq_true_eq] at k
    exact ⟨k.1.1, k.2.1.1⟩
  · cases h
theorem chk2_both {R1 W1 : List (List ByteArray)} {f1 m1 o1 e1 : Int} {R2 W2 : List (List ByteArray)} {f2 m2 o2 e2 : Int} (hc : chk2 R1 W1 f1 m1 o1 e1 R2 W2 f2 m2 o2 e2 = 0) : polC R1 W1 f1 m1 o1 e1 = 0 ∧ polC R2 W2 f2 m2 o2 e2 = 0 := by
  unfold chk2 at hc
  rcases polC_two R1 W1 f1 m1 o1 e1 with k | k
  · rw [if_pos k] at hc; exact ⟨k, hc⟩
  · rw [if_neg (by rw [k]; decide)] at hc; cases hc
/-- What Meet answers: the policy's lists, its numbers, the error. -/
def MeetIs (R1 W1 : List (List ByteArray)) (f1 m1 o1 e1 : Int) (R2 W2 : List (List ByteArray)) (f2 m2 o2 e2 : Int) (cR cW : List (List ByteArray)) (F M O E : Int) (c : Nat) : Prop :=
  chk2 R1 W1 f1 m1 o1 e1 R2 W2 f2 m2 o2 e2 = 50 ∧ cR = [] ∧ cW = [] ∧ F = 0 ∧ M = 0 ∧ O = 0 ∧ E = 0 ∧ c = 50 ∨
  chk2 R1 W1 f1 m1 o1 e1 R2 W2 f2 m2 o2 e2 = 0 ∧ ∃ dR dW, Cov (metL R1 R2) dR ∧ Cov (metL W1 W2) dW ∧ ((1024 < dR.length ∨ 1024 < dW.length) ∧ cR = [] ∧ cW = [] ∧ F = 0 ∧ M = 0 ∧ O = 0 ∧ E = 0 ∧ c = 3 ∨ (dR.length ≤ 1024 ∧ dW.length ≤ 1024) ∧ cR = dR ∧ cW = dW ∧ F = min f1 f2 ∧ M = min m1 m2 ∧ O = min o1 o2 ∧ E = min e1 e2 ∧ c = 0)
theorem MeetIs.one {R1 W1 : List (List ByteArray)} {f1 m1 o1 e1 : Int} {R2 W2 : List (List ByteArray)} {f2 m2 o2 e2 : Int} {cR cW cR' cW' : List (List ByteArray)} {F M O E F' M' O' E' : Int} {c c' : Nat} (h : MeetIs R1 W1 f1 m1 o1 e1 R2 W2 f2 m2 o2 e2 cR cW F M O E c) (h' : MeetIs R1 W1 f1 m1 o1 e1 R2 W2 f2 m2 o2 e2 cR' cW' F' M' O' E' c') : cR' = cR ∧ cW' = cW ∧ F' = F ∧ M' = M ∧ O' = O ∧ E' = E ∧ c' = c := by
  rcases h with ⟨p, h1, h2, h3, h4, h5, h6, h7⟩ | ⟨p, dR, dW, h1, h2, h3⟩
  · rcases h' with ⟨q, k1, k2, k3, k4, k5, k6, k7⟩ | ⟨q, _⟩
    · exact ⟨k1.trans h1.symm, k2.trans h2.symm, k3.trans h3.symm, k4.trans h4.symm, k5.trans h5.symm, k6.trans h6.symm, k7.trans h7.symm⟩
    · rw [p] at q; cases q
  · rcases h' with ⟨q, _⟩ | ⟨q, eR, eW, k1, k2, k3⟩
    · rw [p] at q; cases q
    · obtain rfl := k1.unique h1
      obtain rfl := k2.unique h2
      rcases h3 with ⟨a0, a1, a2, a3, a4, a5, a6, a7⟩ | ⟨a0, a1, a2, a3, a4, a5, a6, a7⟩
      · rcases k3 with ⟨b0, b1, b2, b3, b4, b5, b6, b7⟩ | ⟨b0, _⟩
        · exact ⟨b1.trans a1.symm, b2.trans a2.symm, b3.trans a3.symm, b4.trans a4.symm, b5.trans a5.symm, b6.trans a6.symm, b7.trans a7.symm⟩
        · omega
      · rcases k3 with ⟨b0, _⟩ | ⟨b0, b1, b2, b3, b4, b5, b6, b7⟩
        · omega
        · exact ⟨b1.trans a1.symm, b2.trans a2.symm, b3.trans a3.symm, b4.trans a4.symm, b5.trans a5.symm, b6.trans a6.symm, b7.trans a7.symm⟩
end Pl
/-- What both Meet leave. -/
def MeetG (w : World) (R1 W1 : List (List ByteArray)) (f1 m1 o1 e1 : Int) (R2 W2 : List (List ByteArray)) (f2 m2 o2 e2 : Int) (x : Ending) (w' : World) : Prop := ∃ aR aW nR nW cR cW F M O E c, x = .returned (.tuple #[.agg #[.slice aR (List.length cR) nR, .slice aW (List.length cW) nW, .int .i64 F, .int .i64 M, .int .i64 O, .int .i64 E], .int .i64 (c : Nat)]) ∧ Hid (Pts w' aR nR cR ∧ Pts w' aW nW cW ∧ Pl.MeetIs R1 W1 f1 m1 o1 e1 R2 W2 f2 m2 o2 e2 cR cW F M O E c ∧ Below w.heap.size w w')
theorem meetG_no {R1 W1 : List (List ByteArray)} {f1 m1 o1 e1 : Int} {R2 W2 : List (List ByteArray)} {f2 m2 o2 e2 : Int} {w w' : World} {x : Ending} (hc : Pl.chk2 R1 W1 f1 m1 o1 e1 R2 W2 f2 m2 o2 e2 = 50) (h : x = .returned (.tuple #[.agg #[.slice none 0 0, .slice none 0 0, .int .i64 0, .int .i64 0, .int .i64 0, .int .i64 0], .int .i64 50]) ∧ Below w.heap.size w w') : MeetG w R1 W1 f1 m1 o1 e1 R2 W2 f2 m2 o2 e2 x w' :=
  ⟨none, none, 0, 0, [], [], 0, 0, 0, 0, 50, h.1, ⟨Pts.empty _, Pts.empty _, .inl ⟨hc, rfl, rfl, rfl, rfl, rfl, rfl, rfl⟩, h.2⟩⟩
theorem meetG_yes {R1 W1 : List (List ByteArray)} {f1 m1 o1 e1 : Int} {R2 W2 : List (List ByteArray)} {f2 m2 o2 e2 : Int} {w w' : World} {x : Ending} (hc : Pl.chk2 R1 W1 f1 m1 o1 e1 R2 W2 f2 m2 o2 e2 = 0) (h : MeetE w R1 W1 f1 m1 o1 e1 R2 W2 f2 m2 o2 e2 x w') : MeetG w R1 W1 f1 m1 o1 e1 R2 W2 f2 m2 o2 e2 x w' := by
  obtain ⟨hb, cR, cW, h1, h2, h3⟩ := h
  rcases h3 with ⟨k1, k2⟩ | ⟨⟨k1, k2⟩, aR, aW, nR, nW, k3, k4, k5⟩
  · exact ⟨none, none, 0, 0, [], [], 0, 0, 0, 0, 3, k2, ⟨Pts.empty _, Pts.empty _, .inr ⟨hc, cR, cW, h1, h2, .inl ⟨k1, rfl, rfl, rfl, rfl, rfl, rfl, rfl⟩⟩, hb⟩⟩
  · obtain ⟨a1, n1, e1, p1⟩ := k4.pts (by omega)
    obtain ⟨a2, n2, e2, p2⟩ := k5.pts (by omega)
    injection e1 with e1 _ e1'
    injection e2 with e2 _ e2'
    subst e1 e1' e2 e2'
    exact ⟨aR, aW, nR, nW, cR, cW, _, _, _, _, 0, k3, ⟨p1, p2, .inr ⟨hc, cR, cW, h1, h2, .inr ⟨⟨k1, k2⟩, rfl, rfl, rfl, rfl, rfl, rfl, rfl⟩⟩, hb⟩⟩
theorem pmeet_g (ar1 aw1 : Option Addr) (cr1 cw1 : Nat) (R1 W1 : List (List ByteArray)) (f1 m1 o1 e1 : Int) (ar2 aw2 : Option Addr) (cr2 cw2 : Nat) (R2 W2 : List (List ByteArray)) (f2 m2 o2 e2 : Int) (w : World) (hr1 : Pts w ar1 cr1 R1) (hw1 : Pts w aw1 cw1 W1) (hr2 : Pts w ar2 cr2 R2) (hw2 : Pts w aw2 cw2 W2) : Calls Tryz.prog 19 #[.agg #[.slice ar1 R1.length cr1, .slice aw1 W1.length cw1, .int .i64 f1, .int .i64 m1, .int .i64 o1, .int .i64 e1], .agg #[.slice ar2 R2.length cr2, .slice aw2 W2.length cw2, .int .i64 f2, .int .i64 m2, .int .i64 o2, .int .i64 e2]] w (MeetG w R1 W1 f1 m1 o1 e1 R2 W2 f2 m2 o2 e2) := by
  rcases Pl.chk2_two R1 W1 f1 m1 o1 e1 R2 W2 f2 m2 o2 e2 with hc | hc
  · obtain ⟨k1, k2⟩ := Pl.chk2_both hc
    have := Pl.polC_len k1
    have := Pl.polC_len k2
    exact (pmeet_yes ar1 aw1 cr1 cw1 R1 W1 f1 m1 o1 e1 ar2 aw2 cr2 cw2 R2 W2 f2 m2 o2 e2 w hr1 hw1 hr2 hw2 hc (by omega) (by omega)).mono fun x w' h => meetG_yes hc h
  · exact (pmeet_no ar1 aw1 cr1 cw1 R1 W1 f1 m1 o1 e1 ar2 aw2 cr2 cw2 R2 W2 f2 m2 o2 e2 w hr1 hw1 hr2 hw2 hc).mono fun x w' h => meetG_no hc h

set_option maxRecDepth 100000 in
set_option maxHeartbeats 2000000 in
theorem rpmeet_no (ar1 aw1 : Option Addr) (cr1 cw1 : Nat) (R1 W1 : List (List ByteArray)) (f1 m1 o1 e1 : Int) (ar2 aw2 : Option Addr) (cr2 cw2 : Nat) (R2 W2 : List (List ByteArray)) (f2 m2 o2 e2 : Int) (w : World) (hr1 : Pts w ar1 cr1 R1) (hw1 : Pts w aw1 cw1 W1) (hr2 : Pts w ar2 cr2 R2) (hw2 : Pts w aw2 cw2 W2) (hc : Pl.chk2 R1 W1 f1 m1 o1 e1 R2 W2 f2 m2 o2 e2 = 50) :
    Calls Tryz.prog 20 #[.agg #[.slice ar1 R1.length cr1, .slice aw1 W1.length cw1, .int .i64 f1, .int .i64 m1, .int .i64 o1, .int .i64 e1], .agg #[.slice ar2 R2.length cr2, .slice aw2 W2.length cw2, .int .i64 f2, .int .i64 m2, .int .i64 o2, .int .i64 e2]] w fun x w' => x = .returned (.tuple #[.agg #[.slice none 0 0, .slice none 0 0, .int .i64 0, .int .i64 0, .int .i64 0, .int .i64 0], .int .i64 50]) ∧ Below w.heap.size w w' := by
  obtain ⟨wa, hwa⟩ : ∃ wa, wa = ((w.alloc (.cells #[.slice ar1 R1.length cr1, .slice aw1 W1.length cw1, .int .i64 f1, .int .i64 m1, .int .i64 o1, .int .i64 e1] 24)).alloc (.cells #[.slice ar2 R2.length cr2, .slice aw2 W2.length cw2, .int .i64 f2, .int .i64 m2, .int .i64 o2, .int .i64 e2] 24)).alloc zPol := ⟨_, rfl⟩
  have hB2 : Below w.heap.size w ((w.alloc (.cells #[.slice ar1 R1.length cr1, .slice aw1 W1.length cw1, .int .i64 f1, .int .i64 m1, .int .i64 o1, .int .i64 e1] 24)).alloc (.cells #[.slice ar2 R2.length cr2, .slice aw2 W2.length cw2, .int .i64 f2, .int .i64 m2, .int .i64 o2, .int .i64 e2] 24)) := ((Below.refl _ _).alloc (Nat.le_refl _) _).alloc (by simp) _
  have hB : Below w.heap.size w wa := by rw [hwa]; exact hB2.alloc hB2.size _
  have hT : Two wa w.heap.size (w.heap.size + 1) ar1 aw1 cr1 cw1 R1 W1 f1 m1 o1 e1 ar2 aw2 cr2 cw2 R2 W2 f2 m2 o2 e2 := by rw [hwa]; exact (two_new w ar1 aw1 cr1 cw1 R1 W1 f1 m1 o1 e1 ar2 aw2 cr2 cw2 R2 W2 f2 m2 o2 e2 hr1 hw1 hr2 hw2).below ((Below.refl _ _).alloc (Nat.le_refl _) _)
  have hz : wa.heap[w.heap.size + 1 + 1]? = some zPol := by rw [hwa, show w.heap.size + 1 + 1 = ((w.alloc (.cells #[.slice ar1 R1.length cr1, .slice aw1 W1.length cw1, .int .i64 f1, .int .i64 m1, .int .i64 o1, .int .i64 e1] 24)).alloc (.cells #[.slice ar2 R2.length cr2, .slice aw2 W2.length cw2, .int .i64 f2, .int .i64 m2, .int .i64 o2, .int .i64 e2] 24)).heap.size from by simp]; exact heap_alloc_new _ _
  have HW : Hid (wa = ((w.alloc (.cells #[.slice ar1 R1.length cr1, .slice aw1 W1.length cw1, .int .i64 f1, .int .i64 m1, .int .i64 o1, .int .i64 e1] 24)).alloc (.cells #[.slice ar2 R2.length cr2, .slice aw2 W2.length cw2, .int .i64 f2, .int .i64 m2, .int .i64 o2, .int .i64 e2] 24)).alloc zPol) := hwa
  have H0 := rRight_any ar1 aw1 cr1 cw1 R1 W1 f1 m1 o1 e1 wa hT.r1 hT.w1
  have H1 : Hid (∀ V, Below wa.heap.size wa V → Calls Tryz.prog 29 #[.agg #[.slice ar2 R2.length cr2, .slice aw2 W2.length cw2, .int .i64 f2, .int .i64 m2, .int .i64 o2, .int .i64 e2]] V fun x w' => x = .returned (.bool (Pl.polC R2 W2 f2 m2 o2 e2 == 0)) ∧ Below V.heap.size V w') := fun V hV => rRight_any ar2 aw2 cr2 cw2 R2 W2 f2 m2 o2 e2 V (hT.r2.below hV) (hT.w2.below hV)
  have hlr1 := hr1.len
  have hlw1 := hw1.len
  have hlr2 := hr2.len
  have hlw2 := hw2.len
  have HZ : Hid (Below w.heap.size w wa ∧ wa.heap[w.heap.size + 1 + 1]? = some zPol ∧ Two wa w.heap.size (w.heap.size + 1) ar1 aw1 cr1 cw1 R1 W1 f1 m1 o1 e1 ar2 aw2 cr2 cw2 R2 W2 f2 m2 o2 e2) := ⟨hB, hz, hT⟩
  clear hwa hB hT hz hB2 hr1 hw1 hr2 hw2
  simp only [zPol] at HW
  have hk : Pl.polC R1 W1 f1 m1 o1 e1 = 50 ∨ Pl.polC R1 W1 f1 m1 o1 e1 = 0 ∧ Pl.polC R2 W2 f2 m2 o2 e2 = 50 := by
    rcases Pl.polC_two R1 W1 f1 m1 o1 e1 with k | k
    · unfold Pl.chk2 at hc; rw [if_pos k] at hc; exact .inr ⟨k, hc⟩
    · exact .inl k
  clear hc
  rcases hk with k | ⟨k, k'⟩
  · rw [k] at H0
    clear k
    go_enter Tryz.func20, Tryz.ntmps20
    go_wp2_with fail
    rw [← HW.out]
    refine H0.mono ?_
    rintro x w1 ⟨rfl, hb1⟩
    have HZ1 : Hid (Below w.heap.size w w1 ∧ w1.heap[w.heap.size + 1 + 1]? = some zPol) := ⟨HZ.out.1.trans (hb1.mono HZ.out.1.size), (hb1.block _ (lt_of_block HZ.out.2.1)).trans HZ.out.2.1⟩
    obtain ⟨⟨p0, p1, p2, p3, p4, p5⟩, pf⟩ := zcells HZ1.out.2
    have t0 := HZ.out.2.2.below hb1
    have y0 := t0.h0
    have y1 := t0.h1
    have y2 := t0.h2
    have y3 := t0.h3
    have y4 := t0.h4
    have y5 := t0.h5
    clear t0 hb1 HZ H1 H0 HW
    go_wp2_with fail
    obtain ⟨z0, z1⟩ := put6_at HZ1.out.2 (.slice none 0 0) (.slice none 0 0) (.int .i64 0) (.int .i64 0) (.int .i64 0) (.int .i64 0)
    refine bodyPost_ret (results_pol2 rfl _ _ (w.heap.size + 1 + 1) _ _ _ _ _ _ rfl z0) rfl ?_
    exact ⟨rfl, HZ1.out.1.trans (z1.below HZ1.out.1.size (fun k e => by omega))⟩
  · rw [k] at H0
    rw [k'] at H1
    clear k k'
    go_enter Tryz.func20, Tryz.ntmps20
    go_wp2_with fail
    rw [← HW.out]
    refine H0.mono ?_
    rintro x w0 ⟨rfl, hb0⟩
    have D1 := H1.out w0 hb0
    have t0 := HZ.out.2.2.below hb0
    have y0 := t0.h0
    have y1 := t0.h1
    have y2 := t0.h2
    have y3 := t0.h3
    have y4 := t0.h4
    have y5 := t0.h5
    clear t0
    go_wp2_with fail
    refine D1.mono ?_
    rintro x w1 ⟨rfl, hb2⟩
    have hb1 := hb0.trans (hb2.mono hb0.size)
    have HZ1 : Hid (Below w.heap.size w w1 ∧ w1.heap[w.heap.size + 1 + 1]? = some zPol) := ⟨HZ.out.1.trans (hb1.mono HZ.out.1.size), (hb1.block _ (lt_of_block HZ.out.2.1)).trans HZ.out.2.1⟩
    obtain ⟨⟨p0, p1, p2, p3, p4, p5⟩, pf⟩ := zcells HZ1.out.2
    clear hb0 hb2 hb1 HZ H1 H0 HW D1 y0 y1 y2 y3 y4 y5
    go_wp2_with fail
    obtain ⟨z0, z1⟩ := put6_at HZ1.out.2 (.slice none 0 0) (.slice none 0 0) (.int .i64 0) (.int .i64 0) (.int .i64 0) (.int .i64 0)
    refine bodyPost_ret (results_pol2 rfl _ _ (w.heap.size + 1 + 1) _ _ _ _ _ _ rfl z0) rfl ?_
    exact ⟨rfl, HZ1.out.1.trans (z1.below HZ1.out.1.size (fun k e => by omega))⟩
theorem rpmeet_g (ar1 aw1 : Option Addr) (cr1 cw1 : Nat) (R1 W1 : List (List ByteArray)) (f1 m1 o1 e1 : Int) (ar2 aw2 : Option Addr) (cr2 cw2 : Nat) (R2 W2 : List (List ByteArray)) (f2 m2 o2 e2 : Int) (w : World) (hr1 : Pts w ar1 cr1 R1) (hw1 : Pts w aw1 cw1 W1) (hr2 : Pts w ar2 cr2 R2) (hw2 : Pts w aw2 cw2 W2) : Calls Tryz.prog 20 #[.agg #[.slice ar1 R1.length cr1, .slice aw1 W1.length cw1, .int .i64 f1, .int .i64 m1, .int .i64 o1, .int .i64 e1], .agg #[.slice ar2 R2.length cr2, .slice aw2 W2.length cw2, .int .i64 f2, .int .i64 m2, .int .i64 o2, .int .i64 e2]] w (MeetG w R1 W1 f1 m1 o1 e1 R2 W2 f2 m2 o2 e2) := by
  rcases Pl.chk2_two R1 W1 f1 m1 o1 e1 R2 W2 f2 m2 o2 e2 with hc | hc
  · obtain ⟨k1, k2⟩ := Pl.chk2_both hc
    have := Pl.polC_len k1
    have := Pl.polC_len k2
    exact (rpmeet_yes ar1 aw1 cr1 cw1 R1 W1 f1 m1 o1 e1 ar2 aw2 cr2 cw2 R2 W2 f2 m2 o2 e2 w hr1 hw1 hr2 hw2 hc (by omega) (by omega)).mono fun x w' h => meetG_yes hc h
  · exact (rpmeet_no ar1 aw1 cr1 cw1 R1 W1 f1 m1 o1 e1 ar2 aw2 cr2 cw2 R2 W2 f2 m2 o2 e2 w hr1 hw1 hr2 hw2 hc).mono fun x w' h => meetG_no hc h
end Go.Proofs.YtcloljkaojnipaaGreatDoor
namespace Go.Proofs.YtcloljkaojnipaaGreatDoor
open Go.RowKit

namespace Pl
theorem inside_iff (l : List (List ByteArray)) (p : List ByteArray) : insideB l p = true ↔ ∃ q ∈ l, In p q := by
  unfold insideB
  rw [List.any_eq_true]
  exact ⟨fun ⟨q, hq, h⟩ => ⟨q, hq, (within_in p q).1 h⟩, fun ⟨q, hq, h⟩ => ⟨q, hq, (within_in p q).2 h⟩⟩
theorem inn_iff (l m : List (List ByteArray)) : innP l m = true ↔ ∀ p ∈ l, insideB m p = true := by
  unfold innP
  rw [List.all_eq_true]
theorem bool_ext {a b : Bool} (h : a = true ↔ b = true) : a = b := by cases a <;> cases b <;> simp_all
theorem met_mem (l m : List (List ByteArray)) (q : List ByteArray) : q ∈ metL l m ↔ q ∈ l ∧ insideB m q = true ∨ q ∈ m ∧ insideB l q = true := by
  unfold metL
  rw [List.mem_append, List.mem_filter, List.mem_filter]
theorem met_comm {l m c : List (List ByteArray)} (h : Cov (metL l m) c) : Cov (metL m l) c := h.perm fun x => by rw [met_mem, met_mem]; exact Or.comm
/-- What a cover covers is what its list does. -/
theorem cov_inside {l c : List (List ByteArray)} (h : Cov l c) (p : List ByteArray) : insideB c p = insideB l p := bool_ext (by
  rw [inside_iff, inside_iff]
  constructor
  · rintro ⟨q, hq, hi⟩
    exact ⟨q, ((h.mem q).1 hq).1, hi⟩
  · rintro ⟨q, hq, hi⟩
    obtain ⟨m, hm, h1, h2⟩ := least_ex l q.length q (Nat.le_refl _) hq
    exact ⟨m, (h.mem m).2 ⟨hm, h2⟩, hi.trans h1⟩)
theorem in_two {p q r : List ByteArray} (h1 : In p q) (h2 : In p r) : In q r ∨ In r q := by
  obtain ⟨x, rfl⟩ := h1
  obtain ⟨y, h2⟩ := h2
  rcases List.append_eq_append_iff.1 h2 with ⟨a, h3, h4⟩ | ⟨a, h3, h4⟩
  · exact .inr ⟨a, h3⟩
  · exact .inl ⟨a, h3⟩
theorem met_inside (l m : List (List ByteArray)) (p : List ByteArray) : insideB (metL l m) p = (insideB l p && insideB m p) := bool_ext (by
  rw [Bool.and_eq_true, inside_iff, inside_iff, inside_iff]
  constructor
  · rintro ⟨q, hq, hi⟩
    rcases (met_mem l m q).1 hq with ⟨h1, h2⟩ | ⟨h1, h2⟩
    · obtain ⟨r, h3, h4⟩ := (inside_iff m q).1 h2
      exact ⟨⟨q, h1, hi⟩, r, h3, hi.trans h4⟩
    · obtain ⟨r, h3, h4⟩ := (inside_iff l q).1 h2
      exact ⟨⟨r, h3, hi.trans h4⟩, q, h1, hi⟩
  · rintro ⟨⟨q, h1, h2⟩, r, h3, h4⟩
    rcases in_two h2 h4 with h | h
    · exact ⟨q, (met_mem l m q).2 (.inl ⟨h1, (inside_iff m q).2 ⟨r, h3, h⟩⟩), h2⟩
    · exact ⟨r, (met_mem l m r).2 (.inr ⟨h3, (inside_iff l r).2 ⟨q, h1, h⟩⟩), h4⟩)
theorem meet_inside {l m c : List (List ByteArray)} (h : Cov (metL l m) c) (p : List ByteArray) : insideB c p = (insideB l p && insideB m p) := (cov_inside h p).trans (met_inside l m p)
theorem meet_inn {l m c k : List (List ByteArray)} (h : Cov (metL l m) c) : innP k c = (innP k l && innP k m) := bool_ext (by
  rw [Bool.and_eq_true, inn_iff, inn_iff, inn_iff]
  constructor
  · intro hk
    refine ⟨fun p hp => ?_, fun p hp => ?_⟩
    · have := hk p hp; rw [meet_inside h, Bool.and_eq_true] at this; exact this.1
    · have := hk p hp; rw [meet_inside h, Bool.and_eq_true] at this; exact this.2
  · rintro ⟨h1, h2⟩ p hp
    rw [meet_inside h, h1 p hp, h2 p hp]; rfl)
theorem inn_refl (l : List (List ByteArray)) : innP l l = true := (inn_iff l l).2 fun p hp => (inside_iff l p).2 ⟨p, hp, In.refl p⟩
theorem meet_in {l m c : List (List ByteArray)} (h : Cov (metL l m) c) : innP c l = true ∧ innP c m = true := by
  have := meet_inn (k := c) h
  rw [inn_refl] at this
  rwa [eq_comm, Bool.and_eq_true] at this
theorem met_self {l c : List (List ByteArray)} (h : Cov l c) : Cov (metL l l) c := h.perm fun x => by
  rw [met_mem]
  have hi : x ∈ l → insideB l x = true := fun hx => (inside_iff l x).2 ⟨x, hx, In.refl x⟩
  exact ⟨fun hx => .inl ⟨hx, hi hx⟩, fun hx => hx.elim (·.1) (·.1)⟩
theorem all_right {l m c : List (List ByteArray)} (h : Cov (metL l m) c) (h1 : l.all rightP = true) (h2 : m.all rightP = true) : c.all rightP = true := by
  rw [List.all_eq_true] at *
  intro p hp
  rcases (met_mem l m p).1 ((h.mem p).1 hp).1 with h3 | h3
  · exact h1 p h3.1
  · exact h2 p h3.1
theorem okN_min {x y M : Int} (h1 : okN x M) (h2 : okN y M) : okN (min x y) M := by unfold okN at *; omega
theorem polC_ok {R W : List (List ByteArray)} {f m o e : Int} : polC R W f m o e = 0 ↔ rightsP R = true ∧ rightsP W = true ∧ okN f 1073741824 ∧ okN m 1073741824 ∧ okN o 4294967296 ∧ okN e 4294967296 := by
  unfold polC
  split
  · rename_i h; exact ⟨fun _ => h, fun _ => rfl⟩
  · rename_i h; exact ⟨fun k => (by cases k), fun k => absurd k h⟩
/-- The meeting of two right policies, if it is not too long, is right. -/
theorem meet_right {R1 W1 : List (List ByteArray)} {f1 m1 o1 e1 : Int} {R2 W2 : List (List ByteArray)} {f2 m2 o2 e2 : Int} {dR dW : List (List ByteArray)} (h1 : polC R1 W1 f1 m1 o1 e1 = 0) (h2 : polC R2 W2 f2 m2 o2 e2 = 0) (hR : Cov (metL R1 R2) dR) (hW : Cov (metL W1 W2) dW) (lR : dR.length ≤ 1024) (lW : dW.length ≤ 1024) :
    polC dR dW (min f1 f2) (min m1 m2) (min o1 o2) (min e1 e2) = 0 := by
  rw [polC_ok] at *
  obtain ⟨a1, a2, a3, a4, a5, a6⟩ := h1
  obtain ⟨b1, b2, b3, b4, b5, b6⟩ := h2
  unfold rightsP at *
  simp only [Bool.and_eq_true, decide_eq_true_eq] at *
  exact ⟨⟨lR, all_right hR a1.2 b1.2⟩, ⟨lW, all_right hW a2.2 b2.2⟩, okN_min a3 b3, okN_min a4 b4, okN_min a5 b5, okN_min a6 b6⟩
/-- It lies within both. -/
theorem meet_wth {R1 W1 : List (List ByteArray)} {f1 m1 o1 e1 : Int} {R2 W2 : List (List ByteArray)} {f2 m2 o2 e2 : Int} {dR dW : List (List ByteArray)} (hR : Cov (metL R1 R2) dR) (hW : Cov (metL W1 W2) dW) :
    wthB dR dW (min f1 f2) (min m1 m2) (min o1 o2) (min e1 e2) R1 W1 f1 m1 o1 e1 = true ∧ wthB dR dW (min f1 f2) (min m1 m2) (min o1 o2) (min e1 e2) R2 W2 f2 m2 o2 e2 = true := by
  unfold wthB
  rw [(meet_in hR).1, (meet_in hR).2, (meet_in hW).1, (meet_in hW).2]
  have h : ∀ x y : Int, min x y ≤ x ∧ min x y ≤ y := fun x y => by omega
  simp only [Bool.and_eq_true, decide_eq_true_eq]
  exact ⟨⟨trivial, trivial, (h _ _).1, (h _ _).1, (h _ _).1, (h _ _).1⟩, trivial, trivial, (h _ _).2, (h _ _).2, (h _ _).2, (h _ _).2⟩
/-- What lies within both lies within it. -/
theorem meet_wide {R1 W1 : List (List ByteArray)} {f1 m1 o1 e1 : Int} {R2 W2 : List (List ByteArray)} {f2 m2 o2 e2 : Int} {R3 W3 : List (List ByteArray)} {f3 m3 o3 e3 : Int} {dR dW : List (List ByteArray)} (hR : Cov (metL R1 R2) dR) (hW : Cov (metL W1 W2) dW) :
    (wthB R3 W3 f3 m3 o3 e3 R1 W1 f1 m1 o1 e1 && wthB R3 W3 f3 m3 o3 e3 R2 W2 f2 m2 o2 e2) = wthB R3 W3 f3 m3 o3 e3 dR dW (min f1 f2) (min m1 m2) (min o1 o2) (min e1 e2) := bool_ext (by
  unfold wthB
  rw [meet_inn hR, meet_inn hW]
  simp only [Bool.and_eq_true, decide_eq_true_eq]
  constructor
  · rintro ⟨⟨a1, a2, a3, a4, a5, a6⟩, b1, b2, b3, b4, b5, b6⟩
    exact ⟨⟨a1, b1⟩, ⟨a2, b2⟩, by omega, by omega, by omega, by omega⟩
  · rintro ⟨⟨a1, b1⟩, ⟨a2, b2⟩, h3, h4, h5, h6⟩
    exact ⟨⟨a1, a2, by omega, by omega, by omega, by omega⟩, b1, b2, by omega, by omega, by omega, by omega⟩)
/-- It allows what both do. -/
theorem meet_may {R1 W1 : List (List ByteArray)} {f1 m1 o1 e1 : Int} {R2 W2 : List (List ByteArray)} {f2 m2 o2 e2 : Int} {dR dW : List (List ByteArray)} (b : Bool) (p : List ByteArray) (h1 : polC R1 W1 f1 m1 o1 e1 = 0) (h2 : polC R2 W2 f2 m2 o2 e2 = 0) (hR : Cov (metL R1 R2) dR) (hW : Cov (metL W1 W2) dW) (lR : dR.length ≤ 1024) (lW : dW.length ≤ 1024) :
    mayP dR dW (min f1 f2) (min m1 m2) (min o1 o2) (min e1 e2) b p = (mayP R1 W1 f1 m1 o1 e1 b p && mayP R2 W2 f2 m2 o2 e2 b p) := by
  unfold mayP
  rw [meet_right h1 h2 hR hW lR lW, h1, h2]
  cases b
  · simp only [Bool.false_eq_true, if_false, meet_inside hR]
    cases rightP p <;> cases insideB R1 p <;> cases insideB R2 p <;> rfl
  · simp only [if_true, meet_inside hW]
    cases rightP p <;> cases insideB W1 p <;> cases insideB W2 p <;> rfl
theorem chk2_comm (R1 W1 : List (List ByteArray)) (f1 m1 o1 e1 : Int) (R2 W2 : List (List ByteArray)) (f2 m2 o2 e2 : Int) : chk2 R1 W1 f1 m1 o1 e1 R2 W2 f2 m2 o2 e2 = chk2 R2 W2 f2 m2 o2 e2 R1 W1 f1 m1 o1 e1 := by
  unfold chk2
  rcases polC_two R1 W1 f1 m1 o1 e1 with h | h <;> rcases polC_two R2 W2 f2 m2 o2 e2 with k | k <;> rw [h, k] <;> rfl
/-- The meeting from the other side. -/
theorem MeetIs.comm {R1 W1 : List (List ByteArray)} {f1 m1 o1 e1 : Int} {R2 W2 : List (List ByteArray)} {f2 m2 o2 e2 : Int} {cR cW : List (List ByteArray)} {F M O E : Int} {c : Nat} (h : MeetIs R1 W1 f1 m1 o1 e1 R2 W2 f2 m2 o2 e2 cR cW F M O E c) : MeetIs R2 W2 f2 m2 o2 e2 R1 W1 f1 m1 o1 e1 cR cW F M O E c := by
  unfold MeetIs
  rw [← chk2_comm]
  rcases h with h | ⟨h0, dR, dW, h1, h2, h3⟩
  · exact .inl h
  · refine .inr ⟨h0, dR, dW, met_comm h1, met_comm h2, ?_⟩
    rcases h3 with h3 | ⟨k0, k1, k2, k3, k4, k5, k6, k7⟩
    · exact .inl h3
    · exact .inr ⟨k0, k1, k2, by omega, by omega, by omega, by omega, k7⟩
theorem chk2_r {R1 W1 : List (List ByteArray)} {f1 m1 o1 e1 : Int} {R2 W2 : List (List ByteArray)} {f2 m2 o2 e2 : Int} (h : polC R2 W2 f2 m2 o2 e2 = 0) : chk2 R1 W1 f1 m1 o1 e1 R2 W2 f2 m2 o2 e2 = polC R1 W1 f1 m1 o1 e1 := by
  unfold chk2
  rcases polC_two R1 W1 f1 m1 o1 e1 with k | k
  · rw [k, h]; rfl
  · rw [k]; rfl
theorem wth_r {R1 W1 : List (List ByteArray)} {f1 m1 o1 e1 : Int} {R2 W2 : List (List ByteArray)} {f2 m2 o2 e2 : Int} (h1 : polC R1 W1 f1 m1 o1 e1 = 0) (h2 : polC R2 W2 f2 m2 o2 e2 = 0) : wthP R1 W1 f1 m1 o1 e1 R2 W2 f2 m2 o2 e2 = wthB R1 W1 f1 m1 o1 e1 R2 W2 f2 m2 o2 e2 := by
  unfold wthP
  rw [chk2_r h2, h1]
  rfl
end Pl
end Go.Proofs.YtcloljkaojnipaaGreatDoor
