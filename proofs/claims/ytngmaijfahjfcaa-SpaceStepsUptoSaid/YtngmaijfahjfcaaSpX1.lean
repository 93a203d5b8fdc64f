/- What the reference's done answers: one walk a kind. -/
import Derived.Test.YtngmaijfahjfcaaSpR
import Derived.Laws.Rows
namespace Go.Proofs.Ytngmaijfahjfcaa
open Go.RowKit

theorem alloc3 (w : World) (A B C : Obj) : (((w.alloc A).alloc B).alloc C).heap[w.heap.size + 1 + 1]? = some C := by
  have := heap_alloc_new ((w.alloc A).alloc B) C
  rw [show ((w.alloc A).alloc B).heap.size = w.heap.size + 1 + 1 by simp] at this
  exact this
theorem below3 (w : World) (A B C : Obj) : Below w.heap.size w (((w.alloc A).alloc B).alloc C) := (((Below.refl _ w).alloc (Nat.le_refl _) _).alloc (by simp) _).alloc (by simp; omega) _
set_option maxRecDepth 100000 in
set_option maxHeartbeats 1000000 in
theorem done0 (p h : ByteArray) (a : Option Addr) (n c quota : Nat) (t : ByteArray) (i : Nat) (x : ByteArray) (w : World) (_hp : p.size ≤ 1000000000000000) (_hh : h.size ≤ 1000000000000000) (_ht : t.size ≤ 1000000000000000) :
    Calls Try.prog 33 #[rsV p h (.slice a n c) quota, stV 0 t i x] w fun e w' => e = .returned (rsV t h (.slice a n c) quota) ∧ Below w.heap.size w w' := by
  go_enter Try.func33, Try.ntmps33
  go_wp2
  refine bodyPost_ret (results_cell_row rfl _ _ (w.heap.size + 1 + 1) _ _ _ _ rfl (alloc3 w _ _ _) Try.underlying29 rfl (by kernel_rfl)) rfl ?_
  exact ⟨rfl, below3 w _ _ _⟩
set_option maxRecDepth 100000 in
set_option maxHeartbeats 1000000 in
theorem done1 (p h : ByteArray) (a : Option Addr) (n c quota : Nat) (t : ByteArray) (i : Nat) (x : ByteArray) (w : World) (hp : p.size ≤ 1000000000000000) (_hh : h.size ≤ 1000000000000000) (ht : t.size ≤ 1000000000000000) :
    Calls Try.prog 33 #[rsV p h (.slice a n c) quota, stV 1 t i x] w fun e w' => e = .returned (rsV (p ++ ⟨#[10]⟩ ++ t) h (.slice a n c) quota) ∧ Below w.heap.size w w' := by
  go_enter Try.func33, Try.ntmps33
  go_wp2
  refine bodyPost_ret (results_cell_row rfl _ _ (w.heap.size + 1 + 1) _ _ _ _ rfl (alloc3 w _ _ _) Try.underlying29 rfl (by kernel_rfl)) rfl ?_
  exact ⟨rfl, below3 w _ _ _⟩
set_option maxRecDepth 100000 in
set_option maxHeartbeats 1000000 in
theorem done2 (p h : ByteArray) (a : Option Addr) (n c quota : Nat) (t : ByteArray) (i : Nat) (x : ByteArray) (w : World) (_hp : p.size ≤ 1000000000000000) (_hh : h.size ≤ 1000000000000000) (_ht : t.size ≤ 1000000000000000) :
    Calls Try.prog 33 #[rsV p h (.slice a n c) quota, stV 2 t i x] w fun e w' => e = .returned (rsV h h (.slice a n c) quota) ∧ Below w.heap.size w w' := by
  go_enter Try.func33, Try.ntmps33
  go_wp2
  refine bodyPost_ret (results_cell_row rfl _ _ (w.heap.size + 1 + 1) _ _ _ _ rfl (alloc3 w _ _ _) Try.underlying29 rfl (by kernel_rfl)) rfl ?_
  exact ⟨rfl, below3 w _ _ _⟩
set_option maxRecDepth 100000 in
set_option maxHeartbeats 1000000 in
theorem done3 (p h : ByteArray) (a : Option Addr) (n c quota : Nat) (t : ByteArray) (i : Nat) (x : ByteArray) (w : World) (hp : p.size ≤ 1000000000000000) (hh : h.size ≤ 1000000000000000) (_ht : t.size ≤ 1000000000000000) :
    Calls Try.prog 33 #[rsV p h (.slice a n c) quota, stV 3 t i x] w fun e w' => e = .returned (rsV (p ++ ⟨#[10]⟩ ++ h) h (.slice a n c) quota) ∧ Below w.heap.size w w' := by
  go_enter Try.func33, Try.ntmps33
  go_wp2
  refine bodyPost_ret (results_cell_row rfl _ _ (w.heap.size + 1 + 1) _ _ _ _ rfl (alloc3 w _ _ _) Try.underlying29 rfl (by kernel_rfl)) rfl ?_
  exact ⟨rfl, below3 w _ _ _⟩
set_option maxRecDepth 100000 in
set_option maxHeartbeats 1000000 in
theorem done4 (p h : ByteArray) (a : Option Addr) (n c quota : Nat) (t : ByteArray) (i : Nat) (x : ByteArray) (w : World) (_hp : p.size ≤ 1000000000000000) (_hh : h.size ≤ 1000000000000000) (_ht : t.size ≤ 1000000000000000) :
    Calls Try.prog 33 #[rsV p h (.slice a n c) quota, stV 4 t i x] w fun e w' => e = .returned (rsV p p (.slice a n c) quota) ∧ Below w.heap.size w w' := by
  go_enter Try.func33, Try.ntmps33
  go_wp2
  refine bodyPost_ret (results_cell_row rfl _ _ (w.heap.size + 1 + 1) _ _ _ _ rfl (alloc3 w _ _ _) Try.underlying29 rfl (by kernel_rfl)) rfl ?_
  exact ⟨rfl, below3 w _ _ _⟩
set_option maxRecDepth 100000 in
set_option maxHeartbeats 1000000 in
theorem done5 (p h : ByteArray) (a : Option Addr) (n c quota : Nat) (t : ByteArray) (i : Nat) (x : ByteArray) (w : World) (hp : p.size ≤ 1000000000000000) (hh : h.size ≤ 1000000000000000) (_ht : t.size ≤ 1000000000000000) :
    Calls Try.prog 33 #[rsV p h (.slice a n c) quota, stV 5 t i x] w fun e w' => e = .returned (rsV p (h ++ ⟨#[10]⟩ ++ p) (.slice a n c) quota) ∧ Below w.heap.size w w' := by
  go_enter Try.func33, Try.ntmps33
  go_wp2
  refine bodyPost_ret (results_cell_row rfl _ _ (w.heap.size + 1 + 1) _ _ _ _ rfl (alloc3 w _ _ _) Try.underlying29 rfl (by kernel_rfl)) rfl ?_
  exact ⟨rfl, below3 w _ _ _⟩
set_option maxRecDepth 100000 in
set_option maxHeartbeats 1000000 in
theorem done6 (p h : ByteArray) (a : Option Addr) (n c quota : Nat) (t : ByteArray) (i : Nat) (x : ByteArray) (w : World) (_hp : p.size ≤ 1000000000000000) (_hh : h.size ≤ 1000000000000000) (_ht : t.size ≤ 1000000000000000) :
    Calls Try.prog 33 #[rsV p h (.slice a n c) quota, stV 6 t i x] w fun e w' => e = .returned (rsV h p (.slice a n c) quota) ∧ Below w.heap.size w w' := by
  go_enter Try.func33, Try.ntmps33
  go_wp2
  refine bodyPost_ret (results_cell_row rfl _ _ (w.heap.size + 1 + 1) _ _ _ _ rfl (alloc3 w _ _ _) Try.underlying29 rfl (by kernel_rfl)) rfl ?_
  exact ⟨rfl, below3 w _ _ _⟩
set_option maxRecDepth 100000 in
set_option maxHeartbeats 1000000 in
theorem done9 (p h : ByteArray) (a : Option Addr) (n c quota : Nat) (t : ByteArray) (i : Nat) (x : ByteArray) (w : World) (_hp : p.size ≤ 1000000000000000) (_hh : h.size ≤ 1000000000000000) (_ht : t.size ≤ 1000000000000000) :
    Calls Try.prog 33 #[rsV p h (.slice a n c) quota, stV 9 t i x] w fun e w' => e = .returned (rsV p h (.slice none 0 0) quota) ∧ Below w.heap.size w w' := by
  go_enter Try.func33, Try.ntmps33
  go_wp2
  refine bodyPost_ret (results_cell_row rfl _ _ (w.heap.size + 1 + 1) _ _ _ _ rfl (alloc3 w _ _ _) Try.underlying29 rfl (by kernel_rfl)) rfl ?_
  exact ⟨rfl, below3 w _ _ _⟩
set_option maxRecDepth 100000 in
set_option maxHeartbeats 1000000 in
theorem doneX (p h : ByteArray) (a : Option Addr) (n c quota : Nat) (j : Int) (h0 : j ≠ 0) (h1 : j ≠ 1) (h2 : j ≠ 2) (h3 : j ≠ 3) (h4 : j ≠ 4) (h5 : j ≠ 5) (h6 : j ≠ 6) (h7 : j ≠ 7) (h8 : j ≠ 8) (h9 : j ≠ 9) (t : ByteArray) (i : Nat) (x : ByteArray) (w : World) (_hp : p.size ≤ 1000000000000000) (_hh : h.size ≤ 1000000000000000) (_ht : t.size ≤ 1000000000000000) :
    Calls Try.prog 33 #[rsV p h (.slice a n c) quota, stV j t i x] w fun e w' => e = .returned (rsV p h (.slice a n c) quota) ∧ Below w.heap.size w w' := by
  go_enter Try.func33, Try.ntmps33
  go_wp2
  refine bodyPost_ret (results_cell_row rfl _ _ (w.heap.size + 1 + 1) _ _ _ _ rfl (alloc3 w _ _ _) Try.underlying29 rfl (by kernel_rfl)) rfl ?_
  exact ⟨rfl, below3 w _ _ _⟩
end Go.Proofs.Ytngmaijfahjfcaa
