/- What each option does. -/
import Derived.Test.YtklcfjakhabbgaaArRm
import Derived.Deep.RegionWith
namespace Go.Proofs.Ytklcfjakhabbgaa
open Go.RowKit

/-- The reading's cells, one by one. -/
theorem RdM.cell {w0 W : World} {n0 g B : Nat} {al : Option Addr} {cl : Nat} {L : List ByteArray} {at' : Nat} {x : Ar.Av} {vs vn : Value} (h : RdM w0 n0 g B al cl L at' x vs vn W) (j : Nat) : W.cell? ⟨g, j, none⟩ = (rdA al L.length cl (B + 11) at' x vs vn)[j]? := cell_of_row _ _ _ _ _ _ h.rd
theorem RdM.free {w0 W : World} {n0 g B : Nat} {al : Option Addr} {cl : Nat} {L : List ByteArray} {at' : Nat} {x : Ar.Av} {vs vn : Value} (h : RdM w0 n0 g B al cl L at' x vs vn W) (j : Nat) : W.frozen? ⟨g, j, none⟩ = false := free_row h.rd j

theorem opt1_any (g : Nat) (b : Bool) (W : World) (h : W.cell? ⟨g, 3, none⟩ = some (.bool b)) (hf : W.frozen? ⟨g, 3, none⟩ = false) :
    Calls Try.prog 36 #[.pointer (some ⟨g, 3, none⟩)] W fun e w' => e = .returned (.tuple #[]) ∧ w' = W.setCell ⟨g, 3, none⟩ (.bool true) := by
  go_enter Try.func36, Try.ntmps36
  go_wp2_with fail
  go_end0
  exact ⟨rfl, rfl⟩
theorem opt2_any (g : Nat) (b : Bool) (W : World) (h : W.cell? ⟨g, 4, none⟩ = some (.bool b)) (hf : W.frozen? ⟨g, 4, none⟩ = false) :
    Calls Try.prog 37 #[.pointer (some ⟨g, 3, none⟩)] W fun e w' => e = .returned (.tuple #[]) ∧ w' = W.setCell ⟨g, 4, none⟩ (.bool true) := by
  go_enter Try.func37, Try.ntmps37
  go_wp2_with fail
  go_end0
  exact ⟨rfl, rfl⟩
theorem opt3_any (g : Nat) (b : Bool) (W : World) (h : W.cell? ⟨g, 5, none⟩ = some (.bool b)) (hf : W.frozen? ⟨g, 5, none⟩ = false) :
    Calls Try.prog 38 #[.pointer (some ⟨g, 3, none⟩)] W fun e w' => e = .returned (.tuple #[]) ∧ w' = W.setCell ⟨g, 5, none⟩ (.bool true) := by
  go_enter Try.func38, Try.ntmps38
  go_wp2_with fail
  go_end0
  exact ⟨rfl, rfl⟩
/-- What an option's function does with a reading. -/
def DoesK (w0 : World) (n0 g B : Nat) (al : Option Addr) (cl : Nat) (L : List ByteArray) (at' : Nat) (x : Ar.Av) (vn : Value) (k : Nat) (v : ByteArray) : Ending → World → Prop :=
  fun e w' => e = .returned (.bool (Ar.dov k v x).1) ∧ ∃ vs', RdM w0 n0 g B al cl L at' (Ar.dov k v x).2 vs' vn w'

set_option maxRecDepth 100000 in
set_option maxHeartbeats 1000000 in
theorem does0 {w0 W : World} {n0 g B : Nat} {al : Option Addr} {cl : Nat} {L : List ByteArray} {at' : Nat} {x : Ar.Av} {vs vn : Value} (h : RdM w0 n0 g B al cl L at' x vs vn W) (v : ByteArray) :
    Calls Try.prog 49 #[.pointer (some ⟨g, 3, none⟩), .string v, .pointer (some ⟨B + 1, 0, none⟩)] W (DoesK w0 n0 g B al cl L at' x vn 0 v) := by
  have hc : W.cell? ⟨B + 1, 0, none⟩ = some (.func (.func 36) #[] #[]) := cell_of_row _ _ _ _ _ _ h.kt.s0
  have hg : W.cell? ⟨g, 3, none⟩ = some (.bool x.q) := h.cell 3
  have hf := h.free 3
  have HF : Hid (RdM w0 n0 g B al cl L at' { x with q := true } vs vn (W.setCell ⟨g, 3, none⟩ (.bool true)).drew) := (h.set 3 (.bool true) (at2 := at') (x2 := { x with q := true }) rfl rfl rfl).still (drewN_below _ 1)
  clear h
  go_enter Try.func49, Try.ntmps49
  go_wp2_with fail
  go_region_with (go_at_call 36; refine Calls.mono (opt1_any g x.q _ (by simpa using hg) (by simpa using hf)) ?_; rintro e w1 ⟨rfl, rfl⟩)
  all_goals
    go_wp2_with fail
    go_ret
    exact ⟨rfl, vs, HF.out⟩
set_option maxRecDepth 100000 in
set_option maxHeartbeats 1000000 in
theorem does1 {w0 W : World} {n0 g B : Nat} {al : Option Addr} {cl : Nat} {L : List ByteArray} {at' : Nat} {x : Ar.Av} {vs vn : Value} (h : RdM w0 n0 g B al cl L at' x vs vn W) (v : ByteArray) :
    Calls Try.prog 49 #[.pointer (some ⟨g, 3, none⟩), .string v, .pointer (some ⟨B + 3, 0, none⟩)] W (DoesK w0 n0 g B al cl L at' x vn 1 v) := by
  have hc : W.cell? ⟨B + 3, 0, none⟩ = some (.func (.func 37) #[] #[]) := cell_of_row _ _ _ _ _ _ h.kt.s1
  have hg : W.cell? ⟨g, 4, none⟩ = some (.bool x.e) := h.cell 4
  have hf := h.free 4
  have HF : Hid (RdM w0 n0 g B al cl L at' { x with e := true } vs vn (W.setCell ⟨g, 4, none⟩ (.bool true)).drew) := (h.set 4 (.bool true) (at2 := at') (x2 := { x with e := true }) rfl rfl rfl).still (drewN_below _ 1)
  clear h
  go_enter Try.func49, Try.ntmps49
  go_wp2_with fail
  go_region_with (go_at_call 37; refine Calls.mono (opt2_any g x.e _ (by simpa using hg) (by simpa using hf)) ?_; rintro e w1 ⟨rfl, rfl⟩)
  all_goals
    go_wp2_with fail
    go_ret
    exact ⟨rfl, vs, HF.out⟩
set_option maxRecDepth 100000 in
set_option maxHeartbeats 1000000 in
theorem does2 {w0 W : World} {n0 g B : Nat} {al : Option Addr} {cl : Nat} {L : List ByteArray} {at' : Nat} {x : Ar.Av} {vs vn : Value} (h : RdM w0 n0 g B al cl L at' x vs vn W) (v : ByteArray) :
    Calls Try.prog 49 #[.pointer (some ⟨g, 3, none⟩), .string v, .pointer (some ⟨B + 5, 0, none⟩)] W (DoesK w0 n0 g B al cl L at' x vn 2 v) := by
  have hc : W.cell? ⟨B + 5, 0, none⟩ = some (.func (.func 38) #[] #[]) := cell_of_row _ _ _ _ _ _ h.kt.s2
  have hg : W.cell? ⟨g, 5, none⟩ = some (.bool x.s) := h.cell 5
  have hf := h.free 5
  have HF : Hid (RdM w0 n0 g B al cl L at' { x with s := true } vs vn (W.setCell ⟨g, 5, none⟩ (.bool true)).drew) := (h.set 5 (.bool true) (at2 := at') (x2 := { x with s := true }) rfl rfl rfl).still (drewN_below _ 1)
  clear h
  go_enter Try.func49, Try.ntmps49
  go_wp2_with fail
  go_region_with (go_at_call 38; refine Calls.mono (opt3_any g x.s _ (by simpa using hg) (by simpa using hf)) ?_; rintro e w1 ⟨rfl, rfl⟩)
  all_goals
    go_wp2_with fail
    go_ret
    exact ⟨rfl, vs, HF.out⟩
set_option maxRecDepth 100000 in
set_option maxHeartbeats 2000000 in
theorem doesP {w0 W : World} {n0 g B : Nat} {al : Option Addr} {cl : Nat} {L : List ByteArray} {at' : Nat} {x : Ar.Av} {vs vn : Value} (h : RdM w0 n0 g B al cl L at' x vs vn W) (v : ByteArray) (b : Bool) (pb : Nat) (hp : W.cell? ⟨pb, 0, none⟩ = some (.bool b)) (hsc : x.sc.length ≤ 1048576) :
    Calls Try.prog 50 #[.pointer (some ⟨g, 3, none⟩), .string v, .pointer (some ⟨pb, 0, none⟩)] W fun e w' => e = .returned (.bool true) ∧ ∃ vs', RdM w0 n0 g B al cl L at' { x with sc := x.sc ++ [(b, v)] } vs' vn w' := by
  obtain ⟨i0, hi0, hz0, hz1, hz2⟩ := info_parts Try.infoPc
  have hg : W.cell? ⟨g, 8, none⟩ = some vs := h.cell 8
  have hf := h.free 8
  have hlt := h.lt
  have Hb : Hid (∀ (o : Obj) (w3 : World) (k c3 : Nat), (W.drew.alloc o).grownBy w3 vs.ownBlock → w3.ownsRow (g + 1) 45 2 (.slice (some ⟨k, 0, none⟩) (x.sc.length + 1) c3) (x.sc.length + 1) (pcells x.sc ++ [.bool b, .string v]) → (vs.ownBlock = some k ∨ k = W.heap.size + 1) → RdM w0 n0 g B al cl L at' { x with sc := x.sc ++ [(b, v)] } (.slice (some ⟨k, 0, none⟩) (x.sc.length + 1) c3) vn (w3.setCell ⟨g, 8, none⟩ (.slice (some ⟨k, 0, none⟩) (x.sc.length + 1) c3)) ∧ w3.cell? ⟨g, 8, none⟩ = some vs ∧ w3.frozen? ⟨g, 8, none⟩ = false) := fun o w3 k c3 hgr ho hat => by
    have hs3 := hgr.size
    have hg2 : W.grownBy w3 vs.ownBlock := ⟨hgr.os, hgr.tape, hgr.output, by simp at hs3; omega, fun k hk hn => (hgr.block k (by simp; omega) hn).trans (heap_alloc_old W.drew o hk)⟩
    have h3 : w3.heap[g]? = _ := (hg2.block _ hlt (fun e => by have := (World.ownsRow.lt h.rs _ e.symm).1; omega)).trans h.rd
    refine ⟨h.grownS (p := (b, v)) hg2 ho (fun k' e => ?_), cell_of_row _ _ _ _ _ _ h3, free_row h3 8⟩
    cases e
    rcases hat with q | q
    · exact .inl q
    · right; show W.heap.size ≤ k; omega
  have HH : Hid _ := h
  clear h
  go_enter Try.func50, Try.ntmps50
  go_wp2_with fail
  go_region_law (refine step_append_lies _ rfl (.tmp 10) (.tmp 14) 26 rfl (g + 1) 45 i0 _ 2 24 Try.underlying26 hi0 hz0 hz1 hz2 rfl (by decide) vs x.sc.length (pcells x.sc) (by simp [Act.eval]) (HH.out.rs.drew.alloc _) ⟨W.drew.heap.size, 0, none⟩ 1 1 [.bool b, .string v] (by simp [Act.eval]) rfl (pc_new _ (b, v) _) (pc_one (b, v)) (by decide) (by unfold maxLen; omega) (by omega) (by simp; omega) _ rfl ?_; intro k c3 w3 ho hgr hat hlt3; obtain ⟨c3', s2, g2⟩ := Hb.out _ w3 k _ hgr ho (by simpa using hat); have HC3 : Hid _ := c3'; clear c3' ho hgr hat)
  go_wp2_with fail
  all_goals
    go_ret
    exact ⟨rfl, _, HC3.out⟩
set_option maxRecDepth 100000 in
set_option maxHeartbeats 1000000 in
theorem does5 {w0 W : World} {n0 g B : Nat} {al : Option Addr} {cl : Nat} {L : List ByteArray} {at' : Nat} {x : Ar.Av} {vs vn : Value} (h : RdM w0 n0 g B al cl L at' x vs vn W) (v : ByteArray) (hv : v.size ≤ maxLen) :
    Calls Try.prog 40 #[.pointer (some ⟨g, 3, none⟩), .string v] W (DoesK w0 n0 g B al cl L at' x vn 5 v) := by
  have h3 : W.cell? ⟨g, 6, none⟩ = some (.bool x.i) := h.cell 6
  have h4 : W.cell? ⟨g, 5, none⟩ = some (.bool x.s) := h.cell 5
  have h5 : W.cell? ⟨g, 7, none⟩ = some (.string x.sf) := h.cell 7
  have f3 := h.free 6
  have f4 := h.free 5
  have f5 := h.free 7
  have HF : Hid (RdM w0 n0 g B al cl L at' { x with i := true, s := true, sf := v } vs vn (((W.setCell ⟨g, 6, none⟩ (.bool true)).setCell ⟨g, 5, none⟩ (.bool true)).setCell ⟨g, 7, none⟩ (.string v))) := ((h.set 6 (.bool true) (x2 := { x with i := true }) rfl rfl rfl).set 5 (.bool true) (x2 := { x with i := true, s := true }) rfl rfl rfl).set 7 (.string v) rfl rfl rfl
  have HS : Hid (∀ V, Calls Try.prog 30 #[.string v] V _) := fun V => sfx_any v V hv
  clear h
  go_enter Try.func40, Try.ntmps40
  go_wp2_with (go_at_call 30; refine Calls.mono (HS.out _) ?_; rintro e w1 ⟨rfl, hb⟩)
  go_ret
  exact ⟨rfl, vs, HF.out.still hb⟩
end Go.Proofs.Ytklcfjakhabbgaa
