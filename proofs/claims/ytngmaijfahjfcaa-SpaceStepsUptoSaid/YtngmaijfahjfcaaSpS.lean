/- A space in memory; what New, Pattern, Hold and Used answer. -/
import Derived.Test.YtngmaijfahjfcaaSpG
import Derived.Deep.QuietTactic
import Derived.BigQuiet
namespace Go.Proofs.Ytngmaijfahjfcaa
open Go.RowKit

def qcells (Q : List Sc.It) : List Value := Q.flatMap fun x => [.int .u8 (x.1 : Int), .string x.2]
theorem qcells_append (a b : List Sc.It) : qcells (a ++ b) = qcells a ++ qcells b := by simp [qcells]
theorem qcells_length (l : List Sc.It) : (qcells l).length = l.length * 2 := by
  induction l with
  | nil => rfl
  | cons x r ih => simp only [qcells, List.flatMap_cons, List.length_append] at *; rw [ih]; simp; omega

/-- The block g holds a space: what it has, its quota; its blocks are of S, each for one thing. -/
structure SpV (w : World) (S : Nat → Prop) (g : Nat) (s : Sc.St) (quota : Nat) (pv hv qv : Value) : Prop where
  cell : w.heap[g]? = some (.cells #[pv, hv, qv, .int .i64 (Sc.txts s.q : Nat), .int .i64 (quota : Nat)] 64)
  p : Byt w pv s.p
  h : Byt w hv s.h
  q : w.ownsRow 0 33 2 qv s.q.length (qcells s.q)
  gS : S g
  pS : ∀ b, blk pv = some b → S b ∧ b ≠ g
  hS : ∀ b, blk hv = some b → S b ∧ b ≠ g ∧ blk pv ≠ some b
  qS : ∀ b, blk qv = some b → S b ∧ b ≠ g ∧ blk pv ≠ some b ∧ blk hv ≠ some b
  used : s.used ≤ quota
  quo : quota ≤ 1073741824
def Sp (w : World) (S : Nat → Prop) (g : Nat) (s : Sc.St) (quota : Nat) : Prop := ∃ pv hv qv, SpV w S g s quota pv hv qv
theorem own_keep {w w' : World} {base : Nat} {e : TypeId} {size : Nat} {v : Value} {n : Nat} {xs : List Value} (h : w.ownsRow base e size v n xs) (hk : ∀ b, blk v = some b → w'.heap[b]? = w.heap[b]?) : w'.ownsRow base e size v n xs := by
  refine ⟨h.1, ?_⟩
  rcases h.2 with q | ⟨g, cap, cur, q1, q2, q3, q⟩
  · exact .inl q
  · exact .inr ⟨g, cap, cur, q1, q2, by rw [hk g (by rw [q1]; rfl)]; exact q3, q⟩
theorem own_lt {w : World} {base : Nat} {e : TypeId} {size : Nat} {v : Value} {n : Nat} {xs : List Value} (h : w.ownsRow base e size v n xs) {b : Nat} (hb : blk v = some b) : b < w.heap.size := (h.lt b hb).2
theorem SpV.gl {w : World} {S : Nat → Prop} {g : Nat} {s : Sc.St} {quota : Nat} {pv hv qv : Value} (h : SpV w S g s quota pv hv qv) : g < w.heap.size := lt_of_block h.cell
theorem SpV.tu {O : Nat → Prop} {w w' : World} {S : Nat → Prop} {g : Nat} {s : Sc.St} {quota : Nat} {pv hv qv : Value} (h : SpV w S g s quota pv hv qv) (ht : Tu O w w') (hO : ∀ k, S k → ¬ O k) : SpV w' S g s quota pv hv qv :=
  { h with
    cell := by rw [ht.block g h.gl (hO g h.gS)]; exact h.cell
    p := h.p.tu ht (fun b hb => hO b (h.pS b hb).1)
    h := h.h.tu ht (fun b hb => hO b (h.hS b hb).1)
    q := own_keep h.q (fun b hb => ht.block b (own_lt h.q hb) (hO b (h.qS b hb).1)) }
theorem SpV.mono {w : World} {S S' : Nat → Prop} {g : Nat} {s : Sc.St} {quota : Nat} {pv hv qv : Value} (h : SpV w S g s quota pv hv qv) (hS : ∀ k, S k → S' k) : SpV w S' g s quota pv hv qv :=
  { h with
    gS := hS g h.gS
    pS := fun b hb => ⟨hS b (h.pS b hb).1, (h.pS b hb).2⟩
    hS := fun b hb => ⟨hS b (h.hS b hb).1, (h.hS b hb).2⟩
    qS := fun b hb => ⟨hS b (h.qS b hb).1, (h.qS b hb).2⟩ }
theorem SpV.cells {w : World} {S : Nat → Prop} {g : Nat} {s : Sc.St} {quota : Nat} {pv hv qv : Value} (h : SpV w S g s quota pv hv qv) :
    w.cell? ⟨g, 0, none⟩ = some pv ∧ w.cell? ⟨g, 1, none⟩ = some hv ∧ w.cell? ⟨g, 2, none⟩ = some qv ∧ w.cell? ⟨g, 3, none⟩ = some (.int .i64 (Sc.txts s.q : Nat)) ∧ w.cell? ⟨g, 4, none⟩ = some (.int .i64 (quota : Nat)) := by
  refine ⟨?_, ?_, ?_, ?_, ?_⟩ <;> (rw [cell_of_row w g _ _ _ _ h.cell]; rfl)
theorem SpV.free {w : World} {S : Nat → Prop} {g : Nat} {s : Sc.St} {quota : Nat} {pv hv qv : Value} (h : SpV w S g s quota pv hv qv) (j : Nat) : w.frozen? ⟨g, j, none⟩ = false := by
  unfold World.frozen?
  simp [h.cell]

set_option maxRecDepth 100000 in
set_option maxHeartbeats 1000000 in
theorem pattern_any (S : Nat → Prop) (g : Nat) (s : Sc.St) (quota : Nat) (w : World) (h : Sp w S g s quota) :
    Calls Try.prog 17 #[.pointer (some ⟨g, 0, none⟩)] w fun e w' => e = .returned (.string (Sc.bs s.p)) ∧ w = w' := by
  obtain ⟨pv, hv, qv, h⟩ := h
  obtain ⟨c0, c1, c2, c3, c4⟩ := h.cells
  have cv := byt_string h.p
  clear h
  go_enter Try.func17, Try.ntmps17
  go_wp2
  go_ret
  exact ⟨rfl, rfl⟩
set_option maxRecDepth 100000 in
set_option maxHeartbeats 1000000 in
theorem hold_any (S : Nat → Prop) (g : Nat) (s : Sc.St) (quota : Nat) (w : World) (h : Sp w S g s quota) :
    Calls Try.prog 18 #[.pointer (some ⟨g, 0, none⟩)] w fun e w' => e = .returned (.string (Sc.bs s.h)) ∧ w = w' := by
  obtain ⟨pv, hv, qv, h⟩ := h
  obtain ⟨c0, c1, c2, c3, c4⟩ := h.cells
  have cv := byt_string h.h
  clear h
  go_enter Try.func18, Try.ntmps18
  go_wp2
  go_ret
  exact ⟨rfl, rfl⟩
set_option maxRecDepth 100000 in
set_option maxHeartbeats 1000000 in
theorem used_any (S : Nat → Prop) (g : Nat) (s : Sc.St) (quota : Nat) (w : World) (h : Sp w S g s quota) :
    Calls Try.prog 20 #[.pointer (some ⟨g, 0, none⟩)] w fun e w' => e = .returned (.int .i64 (s.used : Nat)) ∧ ∃ n, w' = w.drewN n := by
  obtain ⟨pv, hv, qv, h⟩ := h
  obtain ⟨c0, c1, c2, c3, c4⟩ := h.cells
  obtain ⟨ap, cp, rfl⟩ := h.p.slice
  obtain ⟨ah, ch, rfl⟩ := h.h.slice
  have hu := h.used
  have hq := h.quo
  unfold Sc.St.used at hu
  have e1 : IntKind.i64.wrap ((s.p.length : Int) + (s.h.length : Int)) = (s.p.length : Int) + (s.h.length : Int) := by rw [IntKind.wrap_i64]; omega
  have e2 : IntKind.i64.wrap ((s.p.length : Int) + (s.h.length : Int) + (Sc.txts s.q : Int)) = (s.p.length : Int) + (s.h.length : Int) + (Sc.txts s.q : Int) := by rw [IntKind.wrap_i64]; omega
  clear h
  go_enter Try.func20, Try.ntmps20
  go_wp2
  go_quiet (fail)
  go_wp2
  go_ret
  exact ⟨ret_int (by unfold Sc.St.used; omega), _, rfl⟩
end Go.Proofs.Ytngmaijfahjfcaa
