/- What was read, kept while more is read. -/
import Derived.Test.YtklcfjakhabbgaaArRy
namespace Go.Proofs.Ytklcfjakhabbgaa
open Go.RowKit

/-- What was read lies in rows since n, the command line itself in block g. -/
structure Got (n g : Nat) (x : Ar.Av) (a : Option Addr) (c : Nat) (b : Option Addr) (d : Nat) (w : World) : Prop where
  cop : Cop n x a c b d w
  bk : w.heap[g]? = some (.cells (avA x a c b d) 28)
  ng : n ≤ g
theorem Got.keep {n g : Nat} {x : Ar.Av} {a b : Option Addr} {c d : Nat} {w w' : World} (h : Got n g x a c b d w) (hk : ∀ k, n ≤ k → k < w.heap.size → w'.heap[k]? = w.heap[k]?) : Got n g x a c b d w' :=
  ⟨⟨own_keep h.cop.rs (fun k e => hk k (h.cop.rs.lt k e).1 (h.cop.rs.lt k e).2), own_keep h.cop.rn (fun k e => hk k (h.cop.rn.lt k e).1 (h.cop.rn.lt k e).2), h.cop.ne⟩, by rw [hk g h.ng (lt_of_block h.bk)]; exact h.bk, h.ng⟩
theorem Got.below {n g : Nat} {x : Ar.Av} {a b : Option Addr} {c d : Nat} {w w' : World} (h : Got n g x a c b d w) (hb : Below w.heap.size w w') : Got n g x a c b d w' := h.keep (fun k _ hk => hb.block k hk)
/-- A row that lies below n grows: what was read since n stays. -/
theorem Got.grown {n g : Nat} {x : Ar.Av} {a b : Option Addr} {c d : Nat} {w w' : World} {r : Option Nat} (h : Got n g x a c b d w) (hg : w.grownBy w' r) (hr : ∀ k, r = some k → k < n) : Got n g x a c b d w' :=
  h.keep (fun k hk hl => hg.block k hl (fun e => by have := hr k e.symm; omega))
theorem Cop.below {n : Nat} {x : Ar.Av} {a b : Option Addr} {c d : Nat} {w w' : World} (h : Cop n x a c b d w) (hb : Below w.heap.size w w') : Cop n x a c b d w' := ⟨own_below h.rs hb, own_below h.rn hb, h.ne⟩
theorem got_new {n : Nat} {x : Ar.Av} {a b : Option Addr} {c d : Nat} {w : World} (h : Cop n x a c b d w) (hn : n ≤ w.heap.size) : Got n w.heap.size x a c b d (w.alloc (.cells (avA x a c b d) 28)) :=
  ⟨h.below (alloc_below _ _), heap_alloc_new _ _, hn⟩
theorem Got.cells {n g : Nat} {x : Ar.Av} {a b : Option Addr} {c d : Nat} {w : World} (h : Got n g x a c b d w) : (w.cell? ⟨g, 0, none⟩ = some (.bool x.q) ∧ w.cell? ⟨g, 1, none⟩ = some (.bool x.e) ∧ w.cell? ⟨g, 2, none⟩ = some (.bool x.s) ∧ w.cell? ⟨g, 3, none⟩ = some (.bool x.i) ∧ w.cell? ⟨g, 4, none⟩ = some (.string x.sf) ∧ w.cell? ⟨g, 5, none⟩ = some (.slice a x.sc.length c) ∧ w.cell? ⟨g, 6, none⟩ = some (.slice b x.nm.length d)) :=
  ⟨cell_of_row _ _ _ _ _ _ h.bk, cell_of_row _ _ _ _ _ _ h.bk, cell_of_row _ _ _ _ _ _ h.bk, cell_of_row _ _ _ _ _ _ h.bk, cell_of_row _ _ _ _ _ _ h.bk, cell_of_row _ _ _ _ _ _ h.bk, cell_of_row _ _ _ _ _ _ h.bk⟩
/-- Two rows of texts, apart. -/
structure TwoR (B : Nat) (v2 v3 : Value) (X2 X3 : List ByteArray) (w : World) : Prop where
  r2 : w.ownsRow B 9 1 v2 X2.length (X2.map Value.string)
  r3 : w.ownsRow B 9 1 v3 X3.length (X3.map Value.string)
  ne : ∀ k, blk v2 = some k → blk v3 ≠ some k
theorem TwoR.keep {B : Nat} {v2 v3 : Value} {X2 X3 : List ByteArray} {w w' : World} (h : TwoR B v2 v3 X2 X3 w) (hk : ∀ k, B ≤ k → k < w.heap.size → w'.heap[k]? = w.heap[k]?) : TwoR B v2 v3 X2 X3 w' :=
  ⟨own_keep h.r2 (fun k e => hk k (h.r2.lt k e).1 (h.r2.lt k e).2), own_keep h.r3 (fun k e => hk k (h.r3.lt k e).1 (h.r3.lt k e).2), h.ne⟩
theorem TwoR.below {B : Nat} {v2 v3 : Value} {X2 X3 : List ByteArray} {w w' : World} (h : TwoR B v2 v3 X2 X3 w) (hb : Below w.heap.size w w') : TwoR B v2 v3 X2 X3 w' := h.keep (fun k _ hk => hb.block k hk)
theorem TwoR.swap {B : Nat} {v2 v3 : Value} {X2 X3 : List ByteArray} {w : World} (h : TwoR B v2 v3 X2 X3 w) : TwoR B v3 v2 X3 X2 w := ⟨h.r3, h.r2, fun k e e2 => h.ne k e2 e⟩
theorem TwoR.grow {B : Nat} {v2 v3 v' : Value} {X2 X3 X' : List ByteArray} {w w' : World} (h : TwoR B v2 v3 X2 X3 w) (hg : w.grownBy w' v2.ownBlock) (ho : w'.ownsRow B 9 1 v' X'.length (X'.map Value.string)) (hat : v'.ownBlock = v2.ownBlock ∨ v'.ownBlock = some w.heap.size) : TwoR B v' v3 X' X3 w' :=
  ⟨ho, own_keep h.r3 (fun k e => hg.block k (h.r3.lt k e).2 (fun e2 => h.ne k e2.symm e)), fun k e e3 => by
    rcases hat with q | q
    · exact h.ne k (q.symm.trans e) e3
    · have := Option.some.inj (q.symm.trans e)
      have := (h.r3.lt k e3).2
      omega⟩
/-- A list that append made is ready to be read. -/
theorem made_read {w V : World} {B : Nat} {v : Value} (hB : Below w.heap.size w V) (hm : MaxG w) (X : List ByteArray) (hX : X.length ≤ 65536) (hz : ∀ s ∈ X, s.size ≤ 1048576) (ho : V.ownsRow B 9 1 v X.length (X.map Value.string)) : ∃ a c, v = .slice a X.length c ∧ Calls Try.prog 10 #[.slice a X.length c] V (ReadIs X V) := by
  obtain ⟨a, c, rfl, hr⟩ := own_rdy ho (by omega) hz
  exact ⟨a, c, rfl, hr.read (hm.below hB)⟩
end Go.Proofs.Ytklcfjakhabbgaa
