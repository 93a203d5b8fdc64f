/- The memory of args.Read: the reading in its block, the table of options, the arguments. -/
import Derived.Test.YtklcfjakhabbgaaArOp
import Derived.Test.YtklcfjakhabbgaaArCp
import Derived.Deep.RegionLaw
import Derived.BigRegion
namespace Go.Proofs.Ytklcfjakhabbgaa
open Go.RowKit

/-- The reading's cells. -/
def rdA (al : Option Addr) (n cl : Nat) (kb : Nat) (at' : Nat) (x : Ar.Av) (vs vn : Value) : Array Value :=
  #[.slice al n cl, .int .i64 at', .slice (some ⟨kb, 0, none⟩) 6 6, .bool x.q, .bool x.e, .bool x.s, .bool x.i, .string x.sf, vs, vn]
/-- The reading in block g, the table behind B, what is read so far; the arguments L. What lies below n0 is as it was in w0. -/
structure RdM (w0 : World) (n0 : Nat) (g B : Nat) (al : Option Addr) (cl : Nat) (L : List ByteArray) (at' : Nat) (x : Ar.Av) (vs vn : Value) (W : World) : Prop where
  below : Below n0 w0 W
  lo : n0 ≤ B
  bg : B + 12 ≤ g
  rd : W.heap[g]? = some (.cells (rdA al L.length cl (B + 11) at' x vs vn) 52)
  kt : KT B W
  rs : W.ownsRow (g + 1) 45 2 vs x.sc.length (pcells x.sc)
  rn : W.ownsRow (g + 1) 9 1 vn x.nm.length (x.nm.map Value.string)
  ne : ∀ k, blk vs = some k → blk vn ≠ some k
  ar : Strs W al cl L
  af : ∀ ad : Addr, al = some ad → ad.block < n0
  n0 : n0 ≤ w0.heap.size
  len : L.length ≤ 65536
theorem RdM.lt {w0 W : World} {n0 g B : Nat} {al : Option Addr} {cl : Nat} {L : List ByteArray} {at' : Nat} {x : Ar.Av} {vs vn : Value} (h : RdM w0 n0 g B al cl L at' x vs vn W) : g < W.heap.size := lt_of_block h.rd
/-- New blocks turn nothing of it. -/
theorem RdM.still {w0 W W' : World} {n0 g B : Nat} {al : Option Addr} {cl : Nat} {L : List ByteArray} {at' : Nat} {x : Ar.Av} {vs vn : Value} (h : RdM w0 n0 g B al cl L at' x vs vn W) (hb : Below W.heap.size W W') : RdM w0 n0 g B al cl L at' x vs vn W' :=
  ⟨h.below.trans (hb.mono (Nat.le_trans (Nat.le_trans h.lo (by have := h.bg; omega)) (Nat.le_of_lt h.lt))), h.lo, h.bg, by rw [hb.block _ h.lt]; exact h.rd, h.kt.below hb, own_below h.rs hb, own_below h.rn hb, h.ne, h.ar.below hb, h.af, h.n0, h.len⟩
theorem RdM.alloc {w0 W : World} {n0 g B : Nat} {al : Option Addr} {cl : Nat} {L : List ByteArray} {at' : Nat} {x : Ar.Av} {vs vn : Value} (h : RdM w0 n0 g B al cl L at' x vs vn W) (o : Obj) : RdM w0 n0 g B al cl L at' x vs vn (W.alloc o) := h.still (alloc_below _ _)
/-- A store into one of the reading's own cells. -/
theorem RdM.set {w0 W : World} {n0 g B : Nat} {al : Option Addr} {cl : Nat} {L : List ByteArray} {at' at2 : Nat} {x x2 : Ar.Av} {vs vn : Value} (h : RdM w0 n0 g B al cl L at' x vs vn W) (j : Nat) (v : Value) (he : (rdA al L.length cl (B + 11) at' x vs vn).setIfInBounds j v = rdA al L.length cl (B + 11) at2 x2 vs vn) (h1 : x2.sc = x.sc) (h2 : x2.nm = x.nm) : RdM w0 n0 g B al cl L at2 x2 vs vn (W.setCell ⟨g, j, none⟩ v) := by
  have hlo := h.lo
  have hbg := h.bg
  refine ⟨h.below.setCell (p := ⟨g, j, none⟩) (by show n0 ≤ g; omega) v, h.lo, h.bg, ?_, ?_, ?_, ?_, h.ne, ?_, h.af, h.n0, h.len⟩
  · have := row_set h.rd j v
    rw [he] at this
    exact this
  · exact h.kt.keep (fun k _ hk => heap_setCell_other W ⟨g, j, none⟩ k v (by show k ≠ g; omega))
  · rw [h1]; exact own_set h.rs _ _ _ (fun e => by have := (h.rs.lt _ e).1; omega)
  · rw [h2]; exact own_set h.rn _ _ _ (fun e => by have := (h.rn.lt _ e).1; omega)
  · exact h.ar.keep (by simp) (fun ad e _ => heap_setCell_other W ⟨g, j, none⟩ _ v (by have := h.af ad e; show ad.block ≠ g; omega))
/-- The row of the pieces has grown. -/
theorem RdM.grownS {w0 W w3 : World} {n0 g B : Nat} {al : Option Addr} {cl : Nat} {L : List ByteArray} {at' : Nat} {x : Ar.Av} {vs vn v3 : Value} {p : Ar.Pc} (h : RdM w0 n0 g B al cl L at' x vs vn W) (hg : W.grownBy w3 vs.ownBlock) (ho : w3.ownsRow (g + 1) 45 2 v3 (x.sc.length + 1) (pcells x.sc ++ [.bool p.1, .string p.2])) (hat : ∀ k, blk v3 = some k → blk vs = some k ∨ W.heap.size ≤ k) :
    RdM w0 n0 g B al cl L at' { x with sc := x.sc ++ [p] } v3 vn (w3.setCell ⟨g, 8, none⟩ v3) := by
  have hlo := h.lo
  have hbg := h.bg
  have hgl := h.lt
  have same : ∀ k, k < g + 1 → w3.heap[k]? = W.heap[k]? := fun k hk => hg.block k (by omega) (fun e => by have := (h.rs.lt k e.symm).1; omega)
  have hB : Below n0 W w3 := ⟨hg.os, hg.tape, hg.output, hg.size, fun k hk => same k (by omega)⟩
  refine ⟨(below_tr h.below hB).setCell (p := ⟨g, 8, none⟩) (by show n0 ≤ g; omega) v3, h.lo, h.bg, ?_, ?_, ?_, ?_, ?_, ?_, h.af, h.n0, h.len⟩
  · exact row_set ((same g (by omega)).trans h.rd) 8 v3
  · exact h.kt.keep (fun k _ hk => (heap_setCell_other w3 ⟨g, 8, none⟩ k v3 (by show k ≠ g; omega)).trans (same k (by omega)))
  · show (w3.setCell _ v3).ownsRow (g + 1) _ 2 v3 (x.sc ++ [p]).length (pcells (x.sc ++ [p]))
    rw [List.length_append, pcells_append]
    exact own_set ho _ _ _ (fun e => by have := (ho.lt _ e).1; omega)
  · exact own_set (own_keep h.rn (fun k e => hg.block k (h.rn.lt k e).2 (fun e2 => h.ne k e2.symm e))) _ _ _ (fun e => by have := (h.rn.lt _ e).1; omega)
  · intro k e e2
    rcases hat k e with q | q
    · exact h.ne k q e2
    · have := (h.rn.lt k e2).2; omega
  · exact h.ar.keep (by have := hg.size; simp; omega) (fun ad e _ => (heap_setCell_other w3 ⟨g, 8, none⟩ _ v3 (by have := h.af ad e; show ad.block ≠ g; omega)).trans (same _ (by have := h.af ad e; omega)))
end Go.Proofs.Ytklcfjakhabbgaa
