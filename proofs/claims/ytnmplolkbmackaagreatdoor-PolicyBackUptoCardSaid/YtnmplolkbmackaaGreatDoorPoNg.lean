/- What both Normal answer of any policy, as one relation with one answer. -/
import Derived.Test.YtnmplolkbmackaaGreatDoorPoRNm
import Derived.Test.YtnmplolkbmackaaGreatDoorPoSamP
namespace Go.Proofs.YtnmplolkbmackaaGreatDoor
open Go.RowKit

namespace Pl
/-- What Normal answers: the policy's lists, its numbers, the error. -/
def NormIs (R W : List (List ByteArray)) (f m o e : Int) (cR cW : List (List ByteArray)) (F M O E : Int) (c : Nat) : Prop :=
  polC R W f m o e = 0 ∧ Cov R cR ∧ Cov W cW ∧ F = f ∧ M = m ∧ O = o ∧ E = e ∧ c = 0 ∨ polC R W f m o e = 50 ∧ cR = [] ∧ cW = [] ∧ F = 0 ∧ M = 0 ∧ O = 0 ∧ E = 0 ∧ c = 50
theorem NormIs.one {R W : List (List ByteArray)} {f m o e : Int} {cR cW cR' cW' : List (List ByteArray)} {F M O E F' M' O' E' : Int} {c c' : Nat} (h : NormIs R W f m o e cR cW F M O E c) (h' : NormIs R W f m o e cR' cW' F' M' O' E' c') : cR' = cR ∧ cW' = cW ∧ F' = F ∧ M' = M ∧ O' = O ∧ E' = E ∧ c' = c := by
  rcases h with ⟨p, h1, h2, h3, h4, h5, h6, h7⟩ | ⟨p, h1, h2, h3, h4, h5, h6, h7⟩
  · rcases h' with ⟨q, k1, k2, k3, k4, k5, k6, k7⟩ | ⟨q, _⟩
    · exact ⟨k1.unique h1, k2.unique h2, k3.trans h3.symm, k4.trans h4.symm, k5.trans h5.symm, k6.trans h6.symm, k7.trans h7.symm⟩
    · rw [p] at q; cases q
  · rcases h' with ⟨q, _⟩ | ⟨q, k1, k2, k3, k4, k5, k6, k7⟩
    · rw [p] at q; cases q
    · exact ⟨k1.trans h1.symm, k2.trans h2.symm, k3.trans h3.symm, k4.trans h4.symm, k5.trans h5.symm, k6.trans h6.symm, k7.trans h7.symm⟩
theorem psame_self (R W : List (List ByteArray)) (f m o e : Int) : psameP R W R W f m o e f m o e = true := by
  unfold psameP; simp
end Pl
/-- What both Normal leave. -/
def NormG (w : World) (R W : List (List ByteArray)) (f m o e : Int) (x : Ending) (w' : World) : Prop := ∃ aR aW nR nW cR cW F M O E c, x = .returned (.tuple #[.agg #[.slice aR (List.length cR) nR, .slice aW (List.length cW) nW, .int .i64 F, .int .i64 M, .int .i64 O, .int .i64 E], .int .i64 (c : Nat)]) ∧ Hid (Pts w' aR nR cR ∧ Pts w' aW nW cW ∧ Pl.NormIs R W f m o e cR cW F M O E c ∧ Below w.heap.size w w')
theorem normG_no {R W : List (List ByteArray)} {f m o e : Int} {w w' : World} {x : Ending} (hc : Pl.polC R W f m o e = 50) (h : x = .returned (.tuple #[.agg #[.slice none 0 0, .slice none 0 0, .int .i64 0, .int .i64 0, .int .i64 0, .int .i64 0], .int .i64 50]) ∧ Below w.heap.size w w') : NormG w R W f m o e x w' :=
  ⟨none, none, 0, 0, [], [], 0, 0, 0, 0, 50, h.1, ⟨Pts.empty _, Pts.empty _, .inr ⟨hc, rfl, rfl, rfl, rfl, rfl, rfl, rfl⟩, h.2⟩⟩
theorem normG_yes {R W : List (List ByteArray)} {f m o e : Int} {w w' : World} {x : Ending} (hc : Pl.polC R W f m o e = 0) (hlr : R.length ≤ 5864062014806) (hlw : W.length ≤ 5864062014806) (h : NormE w R W f m o e x w') : NormG w R W f m o e x w' := by
  obtain ⟨hb, cR, cW, aR, aW, nR, nW, h1, h2, h3, h4, h5, h6, h7⟩ := h
  obtain ⟨a1, n1, e1, p1⟩ := h6.pts (by omega)
  obtain ⟨a2, n2, e2, p2⟩ := h7.pts (by omega)
  injection e1 with e1 _ e1'
  injection e2 with e2 _ e2'
  subst e1 e1' e2 e2'
  exact ⟨aR, aW, nR, nW, cR, cW, f, m, o, e, 0, h5, ⟨p1, p2, .inl ⟨hc, h1, h2, rfl, rfl, rfl, rfl, rfl⟩, hb⟩⟩
theorem pnormal_g (ar aw : Option Addr) (cr cw : Nat) (R W : List (List ByteArray)) (f m o e : Int) (w : World) (hr : Pts w ar cr R) (hw : Pts w aw cw W) : Calls Tryz.prog 10 #[.agg #[.slice ar R.length cr, .slice aw W.length cw, .int .i64 f, .int .i64 m, .int .i64 o, .int .i64 e]] w (NormG w R W f m o e) := by
  rcases Pl.polC_two R W f m o e with hc | hc
  · exact (pnormal_yes ar aw cr cw R W f m o e w hr hw hc).mono fun x w' h => normG_yes hc hr.len hw.len h
  · exact (pnormal_no ar aw cr cw R W f m o e w hr hw hc).mono fun x w' h => normG_no hc h
theorem rpnormal_g (ar aw : Option Addr) (cr cw : Nat) (R W : List (List ByteArray)) (f m o e : Int) (w : World) (hr : Pts w ar cr R) (hw : Pts w aw cw W) : Calls Tryz.prog 11 #[.agg #[.slice ar R.length cr, .slice aw W.length cw, .int .i64 f, .int .i64 m, .int .i64 o, .int .i64 e]] w (NormG w R W f m o e) := by
  rcases Pl.polC_two R W f m o e with hc | hc
  · exact (rpnormal_yes ar aw cr cw R W f m o e w hr hw hc).mono fun x w' h => normG_yes hc hr.len hw.len h
  · exact (rpnormal_no ar aw cr cw R W f m o e w hr hw hc).mono fun x w' h => normG_no hc h
/-- A policy in a block, readable. -/
structure PolAt (w : World) (g : Nat) (ar aw : Option Addr) (cr cw : Nat) (R W : List (List ByteArray)) (f m o e : Int) : Prop where
  x : w.heap[g]? = some (polO (.slice ar R.length cr) (.slice aw W.length cw) f m o e)
  r : Pts w ar cr R
  s : Pts w aw cw W
theorem PolAt.under {w w' : World} {g : Nat} {ar aw : Option Addr} {cr cw : Nat} {R W : List (List ByteArray)} {f m o e : Int} (h : PolAt w g ar aw cr cw R W f m o e) (hb : Below w.heap.size w w') : PolAt w' g ar aw cr cw R W f m o e := ⟨(hb.block _ (lt_of_block h.x)).trans h.x, h.r.below hb, h.s.below hb⟩
theorem polAt_new (w : World) (ar aw : Option Addr) (cr cw : Nat) (R W : List (List ByteArray)) (f m o e : Int) (hr : Pts w ar cr R) (hw : Pts w aw cw W) : PolAt (w.alloc (.cells #[.slice ar R.length cr, .slice aw W.length cw, .int .i64 f, .int .i64 m, .int .i64 o, .int .i64 e] 24)) w.heap.size ar aw cr cw R W f m o e := ⟨heap_alloc_new _ _, hr.below ((Below.refl _ _).alloc (Nat.le_refl _) _), hw.below ((Below.refl _ _).alloc (Nat.le_refl _) _)⟩
end Go.Proofs.YtnmplolkbmackaaGreatDoor
