/- What both Parse answer of a text, as one relation with one answer; a fault in its block. -/
import Derived.Test.YtcloljkaojnipaaGreatDoorPoRpar
import Derived.Test.YtcloljkaojnipaaGreatDoorPhD
import Derived.Test.YtcloljkaojnipaaGreatDoorPoLives
import Derived.Test.YtcloljkaojnipaaGreatDoorPhC
namespace Go.Proofs.YtcloljkaojnipaaGreatDoor
open Go.RowKit

namespace Pl
/-- What Parse answers: the policy, the error, the fault. -/
def ParIs (r : Sum (Nat × Nat) PSt) (R W : List (List ByteArray)) (f m o e why fl fr : Int) : Prop := match r with
  | .inl x => R = [] ∧ W = [] ∧ f = 0 ∧ m = 0 ∧ o = 0 ∧ e = 0 ∧ why = 51 ∧ fl = (x.1 : Nat) ∧ fr = (x.2 : Nat)
  | .inr S => R = S.R ∧ W = S.W ∧ f = (S.q 0 : Nat) ∧ m = (S.q 1 : Nat) ∧ o = (S.q 2 : Nat) ∧ e = (S.q 3 : Nat) ∧ why = 0 ∧ fl = 0 ∧ fr = 0
theorem ParIs.one {r : Sum (Nat × Nat) PSt} {R W R' W' : List (List ByteArray)} {f m o e why fl fr f' m' o' e' why' fl' fr' : Int} (h : ParIs r R W f m o e why fl fr) (h' : ParIs r R' W' f' m' o' e' why' fl' fr') : R' = R ∧ W' = W ∧ f' = f ∧ m' = m ∧ o' = o ∧ e' = e ∧ why' = why ∧ fl' = fl ∧ fr' = fr := by
  cases r with
  | inl x =>
    obtain ⟨h1, h2, h3, h4, h5, h6, h7, h8, h9⟩ := h
    obtain ⟨k1, k2, k3, k4, k5, k6, k7, k8, k9⟩ := h'
    exact ⟨k1.trans h1.symm, k2.trans h2.symm, k3.trans h3.symm, k4.trans h4.symm, k5.trans h5.symm, k6.trans h6.symm, k7.trans h7.symm, k8.trans h8.symm, k9.trans h9.symm⟩
  | inr S =>
    obtain ⟨h1, h2, h3, h4, h5, h6, h7, h8, h9⟩ := h
    obtain ⟨k1, k2, k3, k4, k5, k6, k7, k8, k9⟩ := h'
    exact ⟨k1.trans h1.symm, k2.trans h2.symm, k3.trans h3.symm, k4.trans h4.symm, k5.trans h5.symm, k6.trans h6.symm, k7.trans h7.symm, k8.trans h8.symm, k9.trans h9.symm⟩
theorem PrintIs.one {R W : List (List ByteArray)} {f m o e : Int} {s t : ByteArray} (h : PrintIs R W f m o e s) (h' : PrintIs R W f m o e t) : t = s := by
  rcases h with ⟨p, cR, cW, h1, h2, rfl⟩ | ⟨p, rfl⟩
  · rcases h' with ⟨_, dR, dW, k1, k2, rfl⟩ | ⟨q, _⟩
    · rw [k1.unique h1, k2.unique h2]
    · rw [p] at q; cases q
  · rcases h' with ⟨q, _⟩ | ⟨_, rfl⟩
    · rw [p] at q; cases q
    · rfl
end Pl
/-- What both Parse leave. -/
def ParG (w : World) (r : Sum (Nat × Nat) Pl.PSt) (x : Ending) (w' : World) : Prop := ∃ (aR aW : Option Addr) (nR nW : Nat) (cR cW : List (List ByteArray)) (F M O E why fl fr : Int), x = .returned (.tuple #[.agg #[.slice aR cR.length nR, .slice aW cW.length nW, .int .i64 F, .int .i64 M, .int .i64 O, .int .i64 E], .int .i64 why, .agg #[.int .i64 fl, .int .i64 fr]]) ∧ Hid (Pts w' aR nR cR ∧ Pts w' aW nW cW ∧ Pl.ParIs r cR cW F M O E why fl fr ∧ Below w.heap.size w w')
theorem parG_of {w w' : World} {r : Sum (Nat × Nat) Pl.PSt} {x : Ending} (h : ParE w r x w') : ParG w r x w' := by
  obtain ⟨hb, h⟩ := h
  cases r with
  | inl y => exact ⟨none, none, 0, 0, [], [], 0, 0, 0, 0, 51, _, _, h, ⟨Pts.empty _, Pts.empty _, ⟨rfl, rfl, rfl, rfl, rfl, rfl, rfl, rfl, rfl⟩, hb⟩⟩
  | inr S =>
    obtain ⟨vR, vW, h1, h2, h3, _, h5, h6⟩ := h
    obtain ⟨aR, nR, rfl, p1⟩ := h2.row.pts (by omega)
    obtain ⟨aW, nW, rfl, p2⟩ := h3.row.pts (by omega)
    exact ⟨aR, aW, nR, nW, S.R, S.W, _, _, _, _, 0, 0, 0, h1, ⟨p1, p2, ⟨rfl, rfl, rfl, rfl, rfl, rfl, rfl, rfl, rfl⟩, hb⟩⟩
theorem pparse_g (s : ByteArray) (w : World) (T : PT w) (hs : s.size ≤ 16777216) : Calls Tryz.prog 23 #[.string s] w (ParG w (Pl.parF Pl.S0 0 (Ln.splB s))) := (parse_big s w T hs).mono fun _ _ h => parG_of h
theorem rpparse_g (s : ByteArray) (w : World) (b0 o0 c0 : Nat) (hw : WT w b0 o0 c0) (hs : s.size ≤ 16777216) : Calls Tryz.prog 24 #[.string s] w (ParG w (Pl.parF Pl.S0 0 (Ln.splB s))) := (rparse_any s w b0 o0 c0 hw hs).mono fun _ _ h => parG_of h

/-- A policy and a fault, each in its block. -/
structure PfAt (w : World) (g : Nat) (aX aY : Option Addr) (nX nY : Nat) (cR cW : List (List ByteArray)) (F M O E fl fr : Int) : Prop where
  p : PolAt w g aX aY nX nY cR cW F M O E
  f : w.heap[g + 1]? = some (.cells #[.int .i64 fl, .int .i64 fr] 40 (0, 0))
theorem PfAt.under {w w' : World} {g : Nat} {aX aY : Option Addr} {nX nY : Nat} {cR cW : List (List ByteArray)} {F M O E fl fr : Int} (h : PfAt w g aX aY nX nY cR cW F M O E fl fr) (hb : Below w.heap.size w w') : PfAt w' g aX aY nX nY cR cW F M O E fl fr := ⟨h.p.under hb, (hb.block _ (lt_of_block h.f)).trans h.f⟩
theorem PfAt.fc {w : World} {g : Nat} {aX aY : Option Addr} {nX nY : Nat} {cR cW : List (List ByteArray)} {F M O E fl fr : Int} (h : PfAt w g aX aY nX nY cR cW F M O E fl fr) : w.cell? ⟨g + 1, 0, none⟩ = some (.int .i64 fl) ∧ w.cell? ⟨g + 1, 1, none⟩ = some (.int .i64 fr) := by
  simp only [World.cell?, h.f]; exact ⟨rfl, rfl⟩
theorem pfAt_new (w : World) (aX aY : Option Addr) (nX nY : Nat) (cR cW : List (List ByteArray)) (F M O E fl fr : Int) (h1 : Pts w aX nX cR) (h2 : Pts w aY nY cW) : PfAt ((w.alloc (.cells #[.slice aX cR.length nX, .slice aY cW.length nY, .int .i64 F, .int .i64 M, .int .i64 O, .int .i64 E] 24)).alloc (.cells #[.int .i64 fl, .int .i64 fr] 40)) w.heap.size aX aY nX nY cR cW F M O E fl fr :=
  ⟨(polAt_new w aX aY nX nY cR cW F M O E h1 h2).under ((Below.refl _ _).alloc (Nat.le_refl _) _), by rw [show w.heap.size + 1 = (w.alloc (.cells #[.slice aX cR.length nX, .slice aY cW.length nY, .int .i64 F, .int .i64 M, .int .i64 O, .int .i64 E] 24)).heap.size from by simp]; exact heap_alloc_new _ _⟩
end Go.Proofs.YtcloljkaojnipaaGreatDoor
