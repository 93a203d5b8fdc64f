/- A row of places beside a laying: what turns and what does not. -/
import Derived.Test.YtdiokclbdaojpaaDoorNfRRd
import Derived.Test.YtdiokclbdaojpaaDoorNfNum
namespace Go.Proofs.YtdiokclbdaojpaaDoor
open Go Go.RowKit

namespace Nt
theorem own_blocks {w w' : World} {base : Nat} {e : TypeId} {size n : Nat} {v : Value} {xs : List Value} (h : w.ownsRow base e size v n xs) (hb : ∀ g, v.ownBlock = some g → w'.heap[g]? = w.heap[g]?) : w'.ownsRow base e size v n xs := by
  refine ⟨h.1, ?_⟩
  rcases h.2 with ⟨hv, hz⟩ | ⟨g, c, cur, hv, hbg, hg, r⟩
  · exact .inl ⟨hv, hz⟩
  · exact .inr ⟨g, c, cur, hv, hbg, by rw [hb g (by rw [hv]; rfl)]; exact hg, r⟩
/-- A row of places of the call's own, apart from the laying and its row. -/
structure Jr (w : World) (base : Nat) (v jv : Value) (J : List Nat) : Prop where
  row : w.ownsRow base 3 1 jv J.length (icellsN J)
  ap : ∀ g, jv.ownBlock = some g → v.ownBlock ≠ some g
theorem Jr.empty (w : World) (base : Nat) (v : Value) : Jr w base v (.slice none 0 0) [] := ⟨World.ownsRow_nil _ _ _ _, fun _ h => by cases h⟩
theorem Jr.rz {w w' : World} {base lb : Nat} {v v' jv : Value} {J : List Nat} (h : Jr w base v jv J) (z : Rz lb v v' w w') (hlb : lb < base) : Jr w' base v' jv J := by
  refine ⟨own_blocks h.row (fun g hg => ?_), fun g hg e => ?_⟩
  · have := h.row.lt g hg
    exact z.block g this.2 (by omega) (fun e => h.ap g hg e.symm)
  · rcases z.row g e with h1 | h1
    · exact h.ap g hg h1
    · have := h.row.lt g hg
      omega
theorem Jr.alloc {w : World} {base : Nat} {v jv : Value} {J : List Nat} (h : Jr w base v jv J) (o : Obj) : Jr (w.alloc o) base v jv J := ⟨h.row.alloc o, h.ap⟩
theorem Jr.form {w : World} {base : Nat} {v jv : Value} {J : List Nat} (h : Jr w base v jv J) : ∃ a cap, jv = .slice a J.length cap := by
  rcases h.row.2 with ⟨hv, hz⟩ | ⟨g, cap, _, hv, _⟩
  · exact ⟨none, 0, by rw [hv, hz]⟩
  · exact ⟨_, cap, hv⟩
/-- The places' row has grown: the laying stands as it stood. -/
theorem Rg.grown {w w' : World} {lb base : Nat} {L : List Ins} {gr sl : Int} {v jv : Value} {J : List Nat} (h : Rg w lb L gr sl v) (hj : Jr w base v jv J) (hlb : lb < base) (hg : w.grownBy w' jv.ownBlock) : Rg w' lb L gr sl v := by
  refine ⟨?_, own_blocks h.row (fun g hgv => hg.block g (h.own g hgv).2 (fun e => hj.ap g e.symm hgv))⟩
  rw [hg.block lb h.lt (fun e => by have := (hj.row.lt lb e.symm).1; omega)]; exact h.blk
theorem Rz.grown {lb : Nat} {v v' : Value} {a b c : World} {row : Option Nat} (x : Rz lb v v' a b) (hg : b.grownBy c row) (hr : ∀ g, row = some g → a.heap.size ≤ g) : Rz lb v v' a c :=
  ⟨hg.os.trans x.os, hg.tape.trans x.tape, hg.output.trans x.output, Nat.le_trans x.size hg.size, fun k hk h1 h2 => (hg.block k (Nat.lt_of_lt_of_le hk x.size) (fun e => by have := hr k e.symm; omega)).trans (x.block k hk h1 h2), x.row⟩
theorem Rz.far {lb : Nat} {v v' : Value} {a b c : World} (x : Rz lb v v' a b) (hb : Below b.heap.size b c) : Rz lb v v' a c :=
  ⟨hb.os.trans x.os, hb.tape.trans x.tape, hb.output.trans x.output, Nat.le_trans x.size hb.size, fun k hk h1 h2 => (hb.block k (Nat.lt_of_lt_of_le hk x.size)).trans (x.block k hk h1 h2), x.row⟩
theorem Jr.under {w w' : World} {base : Nat} {v jv : Value} {J : List Nat} (h : Jr w base v jv J) (hb : Below w.heap.size w w') : Jr w' base v jv J := ⟨own_below h.row hb, h.ap⟩
/-- A place more. -/
theorem Jr.snoc {w w' : World} {base lb : Nat} {L : List Ins} {gr sl : Int} {v jv jv' : Value} {J : List Nat} {q : Nat} (h : Jr w base v jv J) (hR : Rg w lb L gr sl v) (hown : w'.ownsRow base 3 1 jv' (J.length + 1) (icellsN J ++ [.int .i64 (q : Int)])) (hat : ∀ g, jv'.ownBlock = some g → jv.ownBlock = some g ∨ g = w.heap.size) : Jr w' base v jv' (J ++ [q]) := by
  refine ⟨?_, fun g hg e => ?_⟩
  · have e : icellsN (J ++ [q]) = icellsN J ++ [.int .i64 (q : Int)] := by simp [icellsN]
    rw [List.length_append, e]; exact hown
  · rcases hat g hg with h1 | h1
    · exact h.ap g h1 e
    · have := (hR.own g e).2
      omega
theorem Jr.at {w : World} {base : Nat} {v : Value} {a : Option Addr} {cap : Nat} {J : List Nat} (h : Jr w base v (.slice a J.length cap) J) {i : Nat} (hi : i < J.length) : ∃ g, a = some ⟨g, 0, none⟩ ∧ w.cell? ⟨g, i, none⟩ = some (.int .i64 (J[i] : Nat)) := by
  obtain ⟨g, c, hv, _⟩ := h.row.form (by omega)
  have hr := h.row
  rw [hv] at hr
  simp only [Value.slice.injEq, true_and] at hv
  obtain ⟨rfl, rfl⟩ := hv
  exact ⟨g, rfl, by rw [hr.cellAt i (by omega)]; exact icells_at J i hi⟩
end Nt
end Go.Proofs.YtdiokclbdaojpaaDoor
