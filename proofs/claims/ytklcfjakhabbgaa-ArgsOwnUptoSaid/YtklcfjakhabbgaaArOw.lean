/- Rows that a law writes over, beside rows that stay. -/
import Derived.Test.YtklcfjakhabbgaaArGt
import Derived.Test.YtklcfjakhabbgaaArAd
namespace Go.Proofs.Ytklcfjakhabbgaa
open Go.RowKit

/-- A row of some content. -/
def OwnX (w : World) (e : TypeId) (size : Nat) (v : Value) (n : Nat) : Prop := ∃ xs, w.ownsRow 0 e size v n xs
theorem OwnX.set {w : World} {e : TypeId} {size : Nat} {v : Value} {n : Nat} (h : OwnX w e size v n) (g j : Nat) (u : Value) : OwnX (w.setCell ⟨g, j, none⟩ u) e size v n := by
  obtain ⟨xs, hxs, h⟩ := h
  rcases h with h | ⟨b, cap, cur, h1, h2, h3, h4, h5, h6, h7⟩
  · exact ⟨xs, hxs, .inl h⟩
  · by_cases hg : b = g
    · subst hg
      have hr := row_set h3 j u
      refine ⟨(cur.setIfInBounds j u).toList.take (n * size), ?_, .inr ⟨b, cap, _, h1, h2, hr, h4, h5, by rw [Array.size_setIfInBounds]; exact h6, rfl⟩⟩
      rw [List.length_take, Array.length_toList, Array.size_setIfInBounds, h6]
      have : n * size ≤ cap * size := Nat.mul_le_mul_right size h4
      omega
    · exact ⟨xs, hxs, .inr ⟨b, cap, cur, h1, h2, by rw [heap_setCell_other w ⟨g, j, none⟩ b u hg]; exact h3, h4, h5, h6, h7⟩⟩
theorem OwnX.below {w w' : World} {e : TypeId} {size : Nat} {v : Value} {n : Nat} (h : OwnX w e size v n) (hb : Below w.heap.size w w') : OwnX w' e size v n := by
  obtain ⟨xs, h⟩ := h
  exact ⟨xs, own_below h hb⟩
/-- Where it lies, if it has elements. -/
theorem OwnX.at' {w : World} {e : TypeId} {size : Nat} {v : Value} {n : Nat} (h : OwnX w e size v n) (hn : 0 < n) : ∃ g cap, v = .slice (some ⟨g, 0, none⟩) n cap ∧ g < w.heap.size ∧ (∀ j, w.frozen? ⟨g, j, none⟩ = false) ∧ (∀ j, j < n * size → ∃ u, w.cell? ⟨g, j, none⟩ = some u) := by
  obtain ⟨xs, hxs, h⟩ := h
  rcases h with ⟨_, h⟩ | ⟨g, cap, cur, rfl, h2, h3, h4, h5, h6, h7⟩
  · omega
  · refine ⟨g, cap, rfl, lt_of_block h3, fun j => free_row h3 j, fun j hj => ?_⟩
    have hj2 : j < cur.size := by rw [h6]; exact Nat.lt_of_lt_of_le hj (Nat.mul_le_mul_right size h4)
    exact ⟨cur[j], by rw [cell_of_row _ _ _ _ _ _ h3]; exact Array.getElem?_eq_getElem hj2⟩
theorem OwnX.slice {w : World} {e : TypeId} {size : Nat} {v : Value} {n : Nat} (h : OwnX w e size v n) : ∃ a c, v = .slice a n c := by
  obtain ⟨xs, h⟩ := h
  exact own_slice h
/-- The memory of ArgsOwn: what may turn are the blocks from N1 to N2 and those from N4 on: the box ga of the first answer, its lists, the arguments that were written. -/
structure Ow (N1 N2 N4 : Nat) (A : World) (ga : Nat) (x : Ar.Av) (vs vn vc : Value) (ns nn p : Nat) (W : World) : Prop where
  tu : Tu (fun k => (N1 ≤ k ∧ k < N2) ∨ N4 ≤ k) A W
  og : N1 ≤ ga ∧ ga < N2
  box : W.heap[ga]? = some (.cells #[.bool x.q, .bool x.e, .bool x.s, .bool x.i, .string x.sf, vs, vn] 28)
  rs : OwnX W 45 2 vs ns
  rn : OwnX W 9 1 vn nn
  rc : OwnX W 9 1 vc p
  os : ∀ k, blk vs = some k → ((N1 ≤ k ∧ k < N2) ∨ N4 ≤ k) ∧ k ≠ ga
  on : ∀ k, blk vn = some k → ((N1 ≤ k ∧ k < N2) ∨ N4 ≤ k) ∧ k ≠ ga
  oc : ∀ k, blk vc = some k → ((N1 ≤ k ∧ k < N2) ∨ N4 ≤ k) ∧ k ≠ ga
  ne : ∀ k, blk vs = some k → blk vn ≠ some k
theorem Ow.cell {N1 N2 N4 : Nat} {A : World} {ga : Nat} {x : Ar.Av} {vs vn vc : Value} {ns nn p : Nat} {W : World} (h : Ow N1 N2 N4 A ga x vs vn vc ns nn p W) (j : Nat) : W.cell? ⟨ga, j, none⟩ = (#[.bool x.q, .bool x.e, .bool x.s, .bool x.i, .string x.sf, vs, vn] : Array Value)[j]? := cell_of_row _ _ _ _ _ _ h.box
/-- A store into one of the lists. -/
theorem Ow.set {N1 N2 N4 : Nat} {A : World} {ga : Nat} {x : Ar.Av} {vs vn vc : Value} {ns nn p : Nat} {W : World} (h : Ow N1 N2 N4 A ga x vs vn vc ns nn p W) (g j : Nat) (u : Value) (hg : ((N1 ≤ g ∧ g < N2) ∨ N4 ≤ g) ∧ g ≠ ga) : Ow N1 N2 N4 A ga x vs vn vc ns nn p (W.setCell ⟨g, j, none⟩ u) :=
  ⟨h.tu.setCell (p := ⟨g, j, none⟩) (fun _ => hg.1) u, h.og, by rw [heap_setCell_other W ⟨g, j, none⟩ ga u (fun e => hg.2 e.symm)]; exact h.box, h.rs.set g j u, h.rn.set g j u, h.rc.set g j u, h.os, h.on, h.oc, h.ne⟩
/-- The names have grown. -/
theorem Ow.growN {N1 N2 N4 : Nat} {A : World} {ga : Nat} {x : Ar.Av} {vs vn vc v' : Value} {ns nn p n' : Nat} {W W' : World} {xs : List Value} (h : Ow N1 N2 N4 A ga x vs vn vc ns nn p W) (hN : N4 ≤ A.heap.size) (hgl : ga < A.heap.size) (o : Obj) (hg : (W.alloc o).grownBy W' vn.ownBlock) (ho : W'.ownsRow 0 9 1 v' n' xs) (hat : v'.ownBlock = vn.ownBlock ∨ v'.ownBlock = some (W.heap.size + 1)) : Ow N1 N2 N4 A ga x vs v' (.slice none 0 0) ns n' 0 (W'.setCell ⟨ga, 6, none⟩ v') ∧ W'.cell? ⟨ga, 6, none⟩ = some vn ∧ W'.frozen? ⟨ga, 6, none⟩ = false := by
  have hsz := h.tu.size
  have hon := h.on
  have hb3 : W'.heap[ga]? = some (.cells #[.bool x.q, .bool x.e, .bool x.s, .bool x.i, .string x.sf, vs, vn] 28) := by
    rw [hg.block ga (by rw [World.size_alloc]; omega) (fun e => (hon ga e.symm).2 rfl), heap_alloc_old W o (by omega)]
    exact h.box
  refine ⟨⟨?_, h.og, row_set hb3 6 v', ?_, OwnX.set (e := 9) ⟨xs, ho⟩ ga 6 v', ⟨[], World.ownsRow_nil _ _ _ _⟩, h.os, fun k e => ?_, fun k e => (by cases e), fun k e e2 => ?_⟩, cell_of_row _ _ _ _ _ _ hb3, free_row hb3 6⟩
  · refine ((h.tu.alloc o).trans (O' := fun k => (N1 ≤ k ∧ k < N2) ∨ N4 ≤ k) (Tu.of_grown hg (fun k e => (hon k e).1)) (fun _ _ h => h)).setCell (p := ⟨ga, 6, none⟩) (fun _ => .inl h.og) v'
  · obtain ⟨ys, hrs⟩ := h.rs
    have h1 : W'.ownsRow 0 45 2 vs ns ys := own_keep hrs (fun k e => by
      have hl := (hrs.lt k e).2
      rw [hg.block k (by rw [World.size_alloc]; omega) (fun e2 => h.ne k e e2.symm), heap_alloc_old W o hl])
    exact OwnX.set ⟨ys, h1⟩ ga 6 v'
  · rcases hat with q | q
    · exact hon k (q.symm.trans e)
    · have := Option.some.inj (q.symm.trans e)
      exact ⟨.inr (by omega), by omega⟩
  · rcases hat with q | q
    · exact h.ne k e (q.symm.trans e2)
    · have := Option.some.inj (q.symm.trans e2)
      obtain ⟨ys, hrs⟩ := h.rs
      have := (hrs.lt k e).2
      omega
/-- The pieces have grown: what stays is told. -/
theorem Ow.growS {N1 N2 N4 : Nat} {A : World} {ga : Nat} {x : Ar.Av} {vs vn vc v' : Value} {ns nn p : Nat} {W W' : World} (h : Ow N1 N2 N4 A ga x vs vn vc ns nn p W) (hgl : ga < A.heap.size) (o : Obj) (hg : (W.alloc o).grownBy W' vs.ownBlock) : Tu (fun k => (N1 ≤ k ∧ k < N2) ∨ N4 ≤ k) A (W'.setCell ⟨ga, 5, none⟩ v') ∧ W'.cell? ⟨ga, 5, none⟩ = some vs ∧ W'.frozen? ⟨ga, 5, none⟩ = false := by
  have hsz := h.tu.size
  have hb3 : W'.heap[ga]? = some (.cells #[.bool x.q, .bool x.e, .bool x.s, .bool x.i, .string x.sf, vs, vn] 28) := by
    rw [hg.block ga (by rw [World.size_alloc]; omega) (fun e => (h.os ga e.symm).2 rfl), heap_alloc_old W o (by omega)]
    exact h.box
  exact ⟨((h.tu.alloc o).trans (O' := fun k => (N1 ≤ k ∧ k < N2) ∨ N4 ≤ k) (Tu.of_grown hg (fun k e => (h.os k e).1)) (fun _ _ h => h)).setCell (p := ⟨ga, 5, none⟩) (fun _ => .inl h.og) v', cell_of_row _ _ _ _ _ _ hb3, free_row hb3 5⟩
end Go.Proofs.Ytklcfjakhabbgaa
