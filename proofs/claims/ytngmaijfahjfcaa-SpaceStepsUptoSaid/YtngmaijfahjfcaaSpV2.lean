/- Boxes lie beside what a space has. -/
import Derived.Test.YtngmaijfahjfcaaSpU
namespace Go.Proofs.Ytngmaijfahjfcaa
open Go.RowKit

theorem byt_ne {w : World} {v : Value} {l : List UInt8} {tb : Nat} {cs : Array Value} {t : TypeId} {fr : Nat × Nat} (h : Byt w v l) (hb : w.heap[tb]? = some (.cells cs t fr)) (ht : t ≠ 5) : blk v ≠ some tb := by
  intro e
  rcases h with ⟨rfl, _⟩ | ⟨g, o, cap, cur, fr', rfl, h2, _⟩
  · cases e
  · cases e
    rw [hb] at h2
    cases h2
    exact ht rfl
theorem box_ne {w : World} {S : Nat → Prop} {g : Nat} {s : Sc.St} {quota : Nat} {pv hv qv : Value} {tb : Nat} {cs : Array Value} (h : SpV w S g s quota pv hv qv) (hb : w.heap[tb]? = some (.cells cs 71)) : tb ≠ g := by
  rintro rfl
  have := h.cell
  rw [hb] at this
  cases this
/-- A block that is kept reads as it did. -/
theorem kept {O : Nat → Prop} {w w1 : World} (ht : Tu O w w1) {b : Nat} {o : Obj} (hb : w.heap[b]? = some o) (hO : ¬ O b) : (∀ j, w1.cell? ⟨b, j, none⟩ = w.cell? ⟨b, j, none⟩) ∧ ∀ j, w1.frozen? ⟨b, j, none⟩ = w.frozen? ⟨b, j, none⟩ := by
  have e := ht.block b (lt_of_block hb) hO
  constructor
  · intro j
    rw [World.cell?, World.cell?]
    simp only [e]
  · intro j
    unfold World.frozen?
    simp only [e]
end Go.Proofs.Ytngmaijfahjfcaa
