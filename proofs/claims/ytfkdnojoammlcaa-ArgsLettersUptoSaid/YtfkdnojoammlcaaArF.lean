/- The memory of the reference's Read; (*reading).fail, piece, inPlace. -/
import Derived.Test.YtfkdnojoammlcaaArOr
namespace Go.Proofs.Ytfkdnojoammlcaa
open Go.RowKit

/-- The reference's reading's cells. -/
def rfA (al : Option Addr) (n cl : Nat) (at' : Nat) (bad : Int) (x : Ar.Av) (vs vn : Value) : Array Value :=
  #[.slice al n cl, .int .i64 at', .int .i64 bad, .bool x.q, .bool x.e, .bool x.s, .bool x.i, .string x.sf, vs, vn]
/-- The reference's reading in block g, what is read so far; the arguments L. What lies below n0 is as it was in w0. -/
structure RfM (w0 : World) (n0 : Nat) (g : Nat) (al : Option Addr) (cl : Nat) (L : List ByteArray) (at' : Nat) (bad : Int) (x : Ar.Av) (vs vn : Value) (W : World) : Prop where
  below : Below n0 w0 W
  lo : n0 ≤ g
  rd : W.heap[g]? = some (.cells (rfA al L.length cl at' bad x vs vn) 57)
  rs : W.ownsRow (g + 1) 48 2 vs x.sc.length (pcells x.sc)
  rn : W.ownsRow (g + 1) 9 1 vn x.nm.length (x.nm.map Value.string)
  ne : ∀ k, blk vs = some k → blk vn ≠ some k
  ar : Strs W al cl L
  af : ∀ ad : Addr, al = some ad → ad.block < n0
  n0 : n0 ≤ w0.heap.size
  len : L.length ≤ 65536
theorem RfM.lt {w0 W : World} {n0 g : Nat} {al : Option Addr} {cl : Nat} {L : List ByteArray} {at' : Nat} {bad : Int} {x : Ar.Av} {vs vn : Value} (h : RfM w0 n0 g al cl L at' bad x vs vn W) : g < W.heap.size := lt_of_block h.rd
theorem RfM.cell {w0 W : World} {n0 g : Nat} {al : Option Addr} {cl : Nat} {L : List ByteArray} {at' : Nat} {bad : Int} {x : Ar.Av} {vs vn : Value} (h : RfM w0 n0 g al cl L at' bad x vs vn W) (j : Nat) : W.cell? ⟨g, j, none⟩ = (rfA al L.length cl at' bad x vs vn)[j]? := cell_of_row _ _ _ _ _ _ h.rd
theorem RfM.free {w0 W : World} {n0 g : Nat} {al : Option Addr} {cl : Nat} {L : List ByteArray} {at' : Nat} {bad : Int} {x : Ar.Av} {vs vn : Value} (h : RfM w0 n0 g al cl L at' bad x vs vn W) (j : Nat) : W.frozen? ⟨g, j, none⟩ = false := free_row h.rd j
/-- New blocks turn nothing of it. -/
theorem RfM.still {w0 W W' : World} {n0 g : Nat} {al : Option Addr} {cl : Nat} {L : List ByteArray} {at' : Nat} {bad : Int} {x : Ar.Av} {vs vn : Value} (h : RfM w0 n0 g al cl L at' bad x vs vn W) (hb : Below W.heap.size W W') : RfM w0 n0 g al cl L at' bad x vs vn W' :=
  ⟨h.below.trans (hb.mono (Nat.le_trans h.lo (Nat.le_of_lt h.lt))), h.lo, by rw [hb.block _ h.lt]; exact h.rd, own_below h.rs hb, own_below h.rn hb, h.ne, h.ar.below hb, h.af, h.n0, h.len⟩
/-- A store into one of the reading's own cells. -/
theorem RfM.set {w0 W : World} {n0 g : Nat} {al : Option Addr} {cl : Nat} {L : List ByteArray} {at' at2 : Nat} {bad bad2 : Int} {x x2 : Ar.Av} {vs vn : Value} (h : RfM w0 n0 g al cl L at' bad x vs vn W) (j : Nat) (v : Value) (he : (rfA al L.length cl at' bad x vs vn).setIfInBounds j v = rfA al L.length cl at2 bad2 x2 vs vn) (h1 : x2.sc = x.sc) (h2 : x2.nm = x.nm) : RfM w0 n0 g al cl L at2 bad2 x2 vs vn (W.setCell ⟨g, j, none⟩ v) := by
  have hlo := h.lo
  refine ⟨h.below.setCell (p := ⟨g, j, none⟩) (by show n0 ≤ g; omega) v, h.lo, ?_, ?_, ?_, h.ne, ?_, h.af, h.n0, h.len⟩
  · have := row_set h.rd j v
    rw [he] at this
    exact this
  · rw [h1]; exact own_set h.rs _ _ _ (fun e => by have := (h.rs.lt _ e).1; omega)
  · rw [h2]; exact own_set h.rn _ _ _ (fun e => by have := (h.rn.lt _ e).1; omega)
  · exact h.ar.keep (by simp) (fun ad e _ => heap_setCell_other W ⟨g, j, none⟩ _ v (by have := h.af ad e; show ad.block ≠ g; omega))
/-- The row of the pieces has grown. -/
theorem RfM.grownS {w0 W w3 : World} {n0 g : Nat} {al : Option Addr} {cl : Nat} {L : List ByteArray} {at' : Nat} {bad : Int} {x : Ar.Av} {vs vn v3 : Value} {p : Ar.Pc} (h : RfM w0 n0 g al cl L at' bad x vs vn W) (hg : W.grownBy w3 vs.ownBlock) (ho : w3.ownsRow (g + 1) 48 2 v3 (x.sc.length + 1) (pcells x.sc ++ [.bool p.1, .string p.2])) (hat : ∀ k, blk v3 = some k → blk vs = some k ∨ W.heap.size ≤ k) :
    RfM w0 n0 g al cl L at' bad { x with sc := x.sc ++ [p] } v3 vn (w3.setCell ⟨g, 8, none⟩ v3) := by
  have hlo := h.lo
  have hgl := h.lt
  have same : ∀ k, k < g + 1 → w3.heap[k]? = W.heap[k]? := fun k hk => hg.block k (by omega) (fun e => by have := (h.rs.lt k e.symm).1; omega)
  have hB : Below n0 W w3 := ⟨hg.os, hg.tape, hg.output, hg.size, fun k hk => same k (by omega)⟩
  refine ⟨(below_tr h.below hB).setCell (p := ⟨g, 8, none⟩) (by show n0 ≤ g; omega) v3, h.lo, ?_, ?_, ?_, ?_, ?_, h.af, h.n0, h.len⟩
  · exact row_set ((same g (by omega)).trans h.rd) 8 v3
  · show (w3.setCell _ v3).ownsRow (g + 1) _ 2 v3 (x.sc ++ [p]).length (pcells (x.sc ++ [p]))
    rw [List.length_append, pcells_append]
    exact own_set ho _ _ _ (fun e => by have := (ho.lt _ e).1; omega)
  · exact own_set (own_keep h.rn (fun k e => hg.block k (h.rn.lt k e).2 (fun e2 => h.ne k e2.symm e))) _ _ _ (fun e => by have := (h.rn.lt _ e).1; omega)
  · intro k e e2
    rcases hat k e with q | q
    · exact h.ne k q e2
    · have := (h.rn.lt k e2).2; omega
  · exact h.ar.keep (by have := hg.size; simp; omega) (fun ad e _ => (heap_setCell_other w3 ⟨g, 8, none⟩ _ v3 (by have := h.af ad e; show ad.block ≠ g; omega)).trans (same _ (by have := h.af ad e; omega)))
theorem RfM.grownN {w0 W w3 : World} {n0 g : Nat} {al : Option Addr} {cl : Nat} {L : List ByteArray} {at' : Nat} {bad : Int} {x : Ar.Av} {vs vn v3 : Value} {l : List ByteArray} (h : RfM w0 n0 g al cl L at' bad x vs vn W) (hg : W.grownBy w3 vn.ownBlock) (ho : w3.ownsRow (g + 1) 9 1 v3 (x.nm.length + l.length) (x.nm.map Value.string ++ l.map Value.string)) (hat : ∀ k, blk v3 = some k → blk vn = some k ∨ W.heap.size ≤ k) :
    RfM w0 n0 g al cl L at' bad { x with nm := x.nm ++ l } vs v3 (w3.setCell ⟨g, 9, none⟩ v3) := by
  have hlo := h.lo
  have hgl := h.lt
  have same : ∀ k, k < g + 1 → w3.heap[k]? = W.heap[k]? := fun k hk => hg.block k (by omega) (fun e => by have := (h.rn.lt k e.symm).1; omega)
  have hB : Below n0 W w3 := ⟨hg.os, hg.tape, hg.output, hg.size, fun k hk => same k (by omega)⟩
  refine ⟨(below_tr h.below hB).setCell (p := ⟨g, 9, none⟩) (by show n0 ≤ g; omega) v3, h.lo, ?_, ?_, ?_, ?_, ?_, h.af, h.n0, h.len⟩
  · exact row_set ((same g (by omega)).trans h.rd) 9 v3
  · exact own_set (own_keep h.rs (fun k e => hg.block k (h.rs.lt k e).2 (fun e2 => h.ne k e e2.symm))) _ _ _ (fun e => by have := (h.rs.lt _ e).1; omega)
  · show (w3.setCell _ v3).ownsRow (g + 1) _ 1 v3 (x.nm ++ l).length ((x.nm ++ l).map Value.string)
    rw [List.length_append, List.map_append]
    exact own_set ho _ _ _ (fun e => by have := (ho.lt _ e).1; omega)
  · intro k e e2
    rcases hat k e2 with q | q
    · exact h.ne k e q
    · have := (h.rs.lt k e).2; omega
  · exact h.ar.keep (by have := hg.size; simp; omega) (fun ad e _ => (heap_setCell_other w3 ⟨g, 9, none⟩ _ v3 (by have := h.af ad e; show ad.block ≠ g; omega)).trans (same _ (by have := h.af ad e; omega)))

namespace Ar
/-- The first argument at fault stays. -/
def bad2 (bad : Int) (k : Nat) : Int := if bad < 0 then (k : Int) else bad
def badI (v : ByteArray) (bad : Int) (k : Nat) : Int := if sfxB v = true then bad else bad2 bad k
end Ar
set_option maxHeartbeats 1000000 in
/-- What (*reading).fail does: the first argument at fault stays. -/
theorem rfail_any {w0 W : World} {n0 g : Nat} {al : Option Addr} {cl : Nat} {L : List ByteArray} {at' : Nat} {bad : Int} {x : Ar.Av} {vs vn : Value} (h : RfM w0 n0 g al cl L at' bad x vs vn W) (k : Nat) :
    Calls Try.prog 45 #[.pointer (some ⟨g, 0, none⟩), .int .i64 (k : Int)] W fun e w' => e = .returned (.tuple #[]) ∧ RfM w0 n0 g al cl L at' (Ar.bad2 bad k) x vs vn w' := by
  have h2 : W.cell? ⟨g, 2, none⟩ = some (.int .i64 bad) := h.cell 2
  have f2 := h.free 2
  by_cases hb : bad < 0
  · have HF : Hid (RfM w0 n0 g al cl L at' (k : Int) x vs vn (W.setCell ⟨g, 2, none⟩ (.int .i64 (k : Int)))) := h.set 2 (.int .i64 (k : Int)) rfl rfl rfl
    rw [Ar.bad2, if_pos hb]
    clear h
    go_enter Try.func45, Try.ntmps45
    go_wp2_with fail
    go_end0
    exact ⟨rfl, HF.out⟩
  · have HF : Hid (RfM w0 n0 g al cl L at' bad x vs vn W) := h
    rw [Ar.bad2, if_neg hb]
    clear h
    go_enter Try.func45, Try.ntmps45
    go_wp2_with fail
    go_end0
    exact ⟨rfl, HF.out⟩

set_option maxRecDepth 100000 in
set_option maxHeartbeats 2000000 in
theorem rpiece_any {w0 W : World} {n0 g : Nat} {al : Option Addr} {cl : Nat} {L : List ByteArray} {at' : Nat} {bad : Int} {x : Ar.Av} {vs vn : Value} (h : RfM w0 n0 g al cl L at' bad x vs vn W) (b : Bool) (v : ByteArray) (hsc : x.sc.length ≤ 1048576) :
    Calls Try.prog 29 #[.pointer (some ⟨g, 0, none⟩), .bool b, .string v] W fun e w' => e = .returned (.tuple #[]) ∧ ∃ vs', RfM w0 n0 g al cl L at' bad { x with sc := x.sc ++ [(b, v)] } vs' vn w' := by
  obtain ⟨i0, hi0, hz0, hz1, hz2⟩ := info_parts Try.infoPc
  have hg : W.cell? ⟨g, 8, none⟩ = some vs := h.cell 8
  have hf := h.free 8
  have hlt := h.lt
  have Hb : Hid (∀ (w3 : World) (v3 : Value), (W.alloc (.cells #[.bool b, .string v] 48)).grownBy w3 vs.ownBlock → w3.ownsRow (g + 1) 48 2 v3 (x.sc.length + 1) (pcells x.sc ++ [.bool b, .string v]) → (v3.ownBlock = vs.ownBlock ∨ v3.ownBlock = some (W.heap.size + 1)) → RfM w0 n0 g al cl L at' bad { x with sc := x.sc ++ [(b, v)] } v3 vn (w3.setCell ⟨g, 8, none⟩ v3) ∧ w3.cell? ⟨g, 8, none⟩ = some vs ∧ w3.frozen? ⟨g, 8, none⟩ = false) := fun w3 v3 hgr ho hat => by
    have hs3 := hgr.size
    have hg2 : W.grownBy w3 vs.ownBlock := ⟨hgr.os, hgr.tape, hgr.output, by simp at hs3; omega, fun k hk hn => (hgr.block k (by simp; omega) hn).trans (heap_alloc_old W _ hk)⟩
    have h3 : w3.heap[g]? = _ := (hg2.block _ hlt (fun e => by have := (World.ownsRow.lt h.rs _ e.symm).1; omega)).trans h.rd
    refine ⟨h.grownS (p := (b, v)) hg2 ho (fun k' e => ?_), cell_of_row _ _ _ _ _ _ h3, free_row h3 8⟩
    rcases hat with q | q
    · exact .inl (q.symm.trans e)
    · right
      have := Option.some.inj (q.symm.trans e)
      omega
  have HH : Hid _ := h
  clear h
  go_enter Try.func29, Try.ntmps29
  go_wp2_with (at_builtin; refine wpList_append_own_at _ rfl (.tmp 11) (.tmp 15) 26 rfl (g + 1) 48 i0 _ 2 24 Try.underlying26 hi0 hz0 hz1 hz2 rfl (by decide) vs x.sc.length (pcells x.sc) rfl (own_below HH.out.rs (alloc_below _ _)) ⟨W.heap.size, 0, none⟩ 1 1 [.bool b, .string v] rfl rfl (pc_new _ (b, v) _) (pc_one (b, v)) (by unfold maxLen; omega) (by omega) (by simp; omega) ?_)
  intro v3 w3 ho hgr hx hat
  obtain ⟨a3, k3, rfl⟩ := own_slice ho
  obtain ⟨c3, s2, g2⟩ := Hb.out w3 _ hgr ho (by first | exact hat | (simpa using hat))
  have HC3 : Hid _ := c3
  clear c3 ho hgr hat hx Hb
  go_wp2_with fail
  go_end0
  exact ⟨rfl, _, HC3.out⟩

set_option maxRecDepth 100000 in
set_option maxHeartbeats 2000000 in
theorem rinpl_any {w0 W : World} {n0 g : Nat} {al : Option Addr} {cl : Nat} {L : List ByteArray} {at' : Nat} {bad : Int} {x : Ar.Av} {vs vn : Value} (h : RfM w0 n0 g al cl L at' bad x vs vn W) (v : ByteArray) (hv : v.size ≤ maxLen) (k : Nat) :
    Calls Try.prog 44 #[.pointer (some ⟨g, 0, none⟩), .string v, .int .i64 (k : Int)] W fun e w' => e = .returned (.tuple #[]) ∧ RfM w0 n0 g al cl L at' (Ar.badI v bad k) { x with i := true, s := true, sf := v } vs vn w' := by
  have HS : Hid (Calls Try.prog 32 #[.string v] W _) := rsfx_any v W hv
  have HL : Hid (∀ (b2 : Int) (V : World), RfM w0 n0 g al cl L at' b2 x vs vn V → RfM w0 n0 g al cl L at' b2 { x with i := true, s := true, sf := v } vs vn (((V.setCell ⟨g, 6, none⟩ (.bool true)).setCell ⟨g, 5, none⟩ (.bool true)).setCell ⟨g, 7, none⟩ (.string v))) := fun b2 V hV => ((hV.set 6 (.bool true) (x2 := { x with i := true }) rfl rfl rfl).set 5 (.bool true) (x2 := { x with i := true, s := true }) rfl rfl rfl).set 7 (.string v) rfl rfl rfl
  have HF : Hid _ := rfail_any h k
  have HH : Hid _ := h
  clear h
  unfold Ar.badI
  generalize Ar.sfxB v = B at *
  cases B
  · rw [if_neg (by decide)]
    go_enter Try.func44, Try.ntmps44
    go_wp2_with fail
    refine Calls.mono HS.out ?_
    rintro e w1 ⟨rfl, rfl⟩
    go_wp2_with fail
    refine Calls.mono HF.out ?_
    rintro e w2 ⟨rfl, hr2⟩
    have h3 : w2.cell? ⟨g, 6, none⟩ = some (.bool x.i) := hr2.cell 6
    have h4 : w2.cell? ⟨g, 5, none⟩ = some (.bool x.s) := hr2.cell 5
    have h5 : w2.cell? ⟨g, 7, none⟩ = some (.string x.sf) := hr2.cell 7
    have f3 := hr2.free 6
    have f4 := hr2.free 5
    have f5 := hr2.free 7
    have HR : Hid _ := HL.out _ w2 hr2
    clear hr2 HL HF HS HH
    go_wp2_with fail
    go_end0
    exact ⟨rfl, HR.out⟩
  · rw [if_pos rfl]
    have h3 : W.cell? ⟨g, 6, none⟩ = some (.bool x.i) := HH.out.cell 6
    have h4 : W.cell? ⟨g, 5, none⟩ = some (.bool x.s) := HH.out.cell 5
    have h5 : W.cell? ⟨g, 7, none⟩ = some (.string x.sf) := HH.out.cell 7
    have f3 := HH.out.free 6
    have f4 := HH.out.free 5
    have f5 := HH.out.free 7
    have HR : Hid _ := HL.out _ W HH.out
    clear HL HF HH
    go_enter Try.func44, Try.ntmps44
    go_wp2_with fail
    refine Calls.mono HS.out ?_
    rintro e w1 ⟨rfl, rfl⟩
    go_wp2_with fail
    go_end0
    exact ⟨rfl, HR.out⟩
end Go.Proofs.Ytfkdnojoammlcaa
