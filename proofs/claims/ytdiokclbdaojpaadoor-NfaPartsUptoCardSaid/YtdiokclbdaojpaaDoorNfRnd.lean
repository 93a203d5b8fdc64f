/- What (*layout).round does: a round copied, where the first is laid. -/
import Derived.Test.YtdiokclbdaojpaaDoorNfAgnL
namespace Go.Proofs.YtdiokclbdaojpaaDoor
open Go.RowKit

namespace Nt
/-- The block g holds a laid. -/
def FL (w : World) (g : Nat) (d : Bool) (a t fr : Nat) : Prop := w.heap[g]? = some (.cells #[.bool d, .int .i64 (a : Int), .int .i64 (t : Int), .int .i64 (fr : Int)] 130 (0, 0))
theorem FL.same {w w' : World} {g : Nat} {d : Bool} {a t fr : Nat} (h : FL w g d a t fr) (hb : w'.heap[g]? = w.heap[g]?) : FL w' g d a t fr := hb.trans h
theorem FL.cells {w : World} {g : Nat} {d : Bool} {a t fr : Nat} (h : FL w g d a t fr) : w.cell? ⟨g, 0, none⟩ = some (.bool d) ∧ w.cell? ⟨g, 1, none⟩ = some (.int .i64 (a : Int)) ∧ w.cell? ⟨g, 2, none⟩ = some (.int .i64 (t : Int)) ∧ w.cell? ⟨g, 3, none⟩ = some (.int .i64 (fr : Int)) :=
  ⟨cell_of_row _ _ _ _ _ _ h, cell_of_row _ _ _ _ _ _ h, cell_of_row _ _ _ _ _ _ h, cell_of_row _ _ _ _ _ _ h⟩
theorem FL.frozen {w : World} {g : Nat} {d : Bool} {a t fr : Nat} (h : FL w g d a t fr) (j : Nat) : w.frozen? ⟨g, j, none⟩ = false := frozen_of_row w g j _ _ h
theorem FL.lt {w : World} {g : Nat} {d : Bool} {a t fr : Nat} (h : FL w g d a t fr) : g < w.heap.size := by
  rcases Nat.lt_or_ge g w.heap.size with h1 | h1
  · exact h1
  · rw [FL, Array.getElem?_eq_none h1] at h; cases h
end Nt
theorem again_all (lb rb cap f fr to : Nat) (A C B : List Nt.Ins) (w : World) (hL : Nt.Ly w lb rb cap (A ++ C ++ B) f) (hT : Nt.Tz lb rb w) (hfr : fr ≤ f) (hok : ∀ x ∈ C, Nt.Ok 16385 16384 x) (hroom : (A ++ C ++ B).length + C.length ≤ cap) (hcap : cap ≤ 16385) (hf : f ≤ 16384) (hto : to = A.length + C.length) :
    Calls Tryd.prog 86 #[.pointer (some ⟨lb, 0, none⟩), .agg #[.bool true, .int .i64 (A.length : Nat), .int .i64 (to : Nat), .int .i64 (fr : Nat)]] w fun e w' => (∃ v, e = .returned v) ∧ Nt.Ly w' lb rb cap (A ++ C ++ B ++ C.map (Nt.shf (C.length + B.length) (f - fr))) f ∧ Nt.Bz lb rb w w' := by
  cases C with
  | nil =>
    obtain rfl : to = A.length := by simpa using hto
    rw [List.map_nil, List.append_nil (A ++ [] ++ B)]
    exact again_nil lb rb cap f fr A.length (A ++ [] ++ B) w hL hfr (by simp) (by simpa using hroom) hcap hf
  | cons c C => exact again_any lb rb cap f fr to A (c :: C) B w hL hT.tab hT.lb2 hT.rb2 hfr hok hroom hcap hf (by simp) hto
set_option maxRecDepth 100000 in
set_option maxHeartbeats 4000000 in
theorem round_again (lb rb cap f fr to g b : Nat) (A C B : List Nt.Ins) (w : World) (hL : Nt.Ly w lb rb cap (A ++ C ++ B) f) (hT : Nt.Tz lb rb w) (hg : Nt.FL w g true A.length to fr) (hfr : fr ≤ f) (hok : ∀ x ∈ C, Nt.Ok 16385 16384 x) (hroom : (A ++ C ++ B).length + C.length ≤ cap) (hcap : cap ≤ 16385) (hf : f ≤ 16384) (hto : to = A.length + C.length) :
    Calls Tryd.prog 78 #[.pointer (some ⟨lb, 0, none⟩), .pointer (some ⟨b, 0, none⟩), .pointer (some ⟨g, 0, none⟩)] w fun e w' => (∃ v, e = .returned v) ∧ Nt.Ly w' lb rb cap (A ++ C ++ B ++ C.map (Nt.shf (C.length + B.length) (f - fr))) f ∧ Nt.Bz lb rb w w' := by
  have HA : Hid _ := again_all lb rb cap f fr to A C B w hL hT hfr hok hroom hcap hf hto
  obtain ⟨g0, g1, g2, g3⟩ := hg.cells
  clear hL hT hok hroom hto hg
  generalize A ++ C ++ B ++ C.map (Nt.shf (C.length + B.length) (f - fr)) = LL at *
  go_enter Tryd.func78, Tryd.ntmps78
  go_wp2_with fail
  refine Calls.mono HA.out ?_
  rintro e w1 ⟨⟨v, rfl⟩, hL1, hz⟩
  go_wp2_with fail
  refine bodyPost_ret (results_none rfl _ _ _) rfl ?_
  exact ⟨⟨_, rfl⟩, hL1, hz⟩
end Go.Proofs.YtdiokclbdaojpaaDoor
