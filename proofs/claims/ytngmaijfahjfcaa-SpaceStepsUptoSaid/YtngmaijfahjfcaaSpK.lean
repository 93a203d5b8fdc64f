/- A space beside rows of items that are the law's own. -/
import Derived.Test.YtngmaijfahjfcaaSpM9
import Derived.Test.YtngmaijfahjfcaaSpB
namespace Go.Proofs.Ytngmaijfahjfcaa
open Go.RowKit

theorem Sp.tight {W : World} {S : Nat → Prop} {g : Nat} {s : Sc.St} {quota : Nat} (h : Sp W S g s quota) : Sp W (fun k => S k ∧ k < W.heap.size) g s quota := by
  obtain ⟨pv, hv, qv, h⟩ := h
  exact ⟨pv, hv, qv, { h with
    gS := ⟨h.gS, h.gl⟩
    pS := fun b e => ⟨⟨(h.pS b e).1, h.p.lt e⟩, (h.pS b e).2⟩
    hS := fun b e => ⟨⟨(h.hS b e).1, h.h.lt e⟩, (h.hS b e).2⟩
    qS := fun b e => ⟨⟨(h.qS b e).1, own_lt h.q e⟩, (h.qS b e).2⟩ }⟩
/-- The space s; the row inv of the items IN; rows that read as vals: each for itself, all from B on; ahead of B nothing has turned. -/
def Qi (w1 : World) (B g : Nat) (s : Sc.St) (quota : Nat) (inv : Value) (IN : List Sc.It) (vals : List (Value × List Sc.It)) (W : World) : Prop :=
  ∃ S, Sp W S g s quota ∧ (∀ j, S j → B ≤ j ∧ j < W.heap.size) ∧ Below B w1 W ∧ W.ownsRow B 33 2 inv IN.length (qcells IN) ∧ (∀ b, blk inv = some b → ¬ S b) ∧ ∀ p ∈ vals, Its W p.1 p.2 ∧ ∀ b, blk p.1 = some b → ¬ S b ∧ blk inv ≠ some b
theorem its_lt {w : World} {v : Value} {Q : List Sc.It} (h : Its w v Q) {b : Nat} (hb : blk v = some b) : b < w.heap.size := by
  rcases h with ⟨rfl, _⟩ | ⟨g, o, cap, rfl, hg, _⟩
  · cases hb
  · cases hb; exact hg
theorem Qi.aft {w1 : World} {B g : Nat} {s t : Sc.St} {quota : Nat} {inv : Value} {IN : List Sc.It} {vals : List (Value × List Sc.It)} {W : World} {f : Nat} {args : Array Value} {E : Ending} (h : Qi w1 B g s quota inv IN vals W)
    (hc : ∀ S, Sp W S g s quota → Calls Try.prog f args W fun e w' => e = E ∧ Aft W S g t quota w') : Calls Try.prog f args W fun e w' => e = E ∧ Qi w1 B g t quota inv IN vals w' := by
  obtain ⟨S, h1, h2, h3, h4, h5, h6⟩ := h
  refine (hc S h1).mono ?_
  rintro e w' ⟨rfl, S', q1, q2, q3⟩
  have hg : B ≤ W.heap.size := by obtain ⟨_, _, _, q⟩ := h1; have := h2 g q.gS; omega
  have hs := q2.size
  have key : ∀ b, b < W.heap.size → ¬ S b → ¬ (S' b ∧ b < w'.heap.size) := fun b hb hn e => by
    rcases q3 b e.1 with q | q
    · exact hn q
    · omega
  refine ⟨rfl, _, q1.tight, fun j hj => ⟨?_, hj.2⟩, h3.trans (q2.below hg (fun k e => (h2 k e).1)), own_keep h4 (fun b e => q2.block b (own_lt h4 e) (h5 b e)), fun b e => key b (own_lt h4 e) (h5 b e), fun p hp => ⟨(h6 p hp).1.tu q2 (fun b e => ((h6 p hp).2 b e).1), fun b e => ⟨key b (its_lt (h6 p hp).1 e) ((h6 p hp).2 b e).1, ((h6 p hp).2 b e).2⟩⟩⟩
  rcases q3 j hj.1 with q | q
  · exact (h2 j q).1
  · omega
theorem Qi.tu {w1 : World} {B g : Nat} {s : Sc.St} {quota : Nat} {inv : Value} {IN : List Sc.It} {vals : List (Value × List Sc.It)} {W w' : World} (h : Qi w1 B g s quota inv IN vals W) (ht : Tu (fun _ => False) W w') : Qi w1 B g s quota inv IN vals w' := by
  obtain ⟨S, ⟨pv, hv, qv, h1⟩, h2, h3, h4, h5, h6⟩ := h
  have hg : B ≤ W.heap.size := by have := h2 g h1.gS; omega
  have hs := ht.size
  exact ⟨S, ⟨pv, hv, qv, h1.tu ht (fun _ _ e => e)⟩, fun j hj => ⟨(h2 j hj).1, by have := (h2 j hj).2; omega⟩, h3.trans (ht.below hg (fun _ e => e.elim)), own_keep h4 (fun b e => ht.block b (own_lt h4 e) (fun e => e)), h5, fun p hp => ⟨(h6 p hp).1.tu ht (fun _ _ e => e), (h6 p hp).2⟩⟩
theorem Qi.below {w1 : World} {B g : Nat} {s : Sc.St} {quota : Nat} {inv : Value} {IN : List Sc.It} {vals : List (Value × List Sc.It)} {W : World} (h : Qi w1 B g s quota inv IN vals W) : Below B w1 W := by
  obtain ⟨_, _, _, h3, _⟩ := h
  exact h3
theorem Qi.its {w1 : World} {B g : Nat} {s : Sc.St} {quota : Nat} {inv : Value} {IN : List Sc.It} {vals : List (Value × List Sc.It)} {W : World} (h : Qi w1 B g s quota inv IN vals W) : Its W inv IN ∧ ∀ p ∈ vals, Its W p.1 p.2 := by
  obtain ⟨_, _, _, _, h4, _, h6⟩ := h
  exact ⟨its_own h4, fun p hp => (h6 p hp).1⟩
theorem Qi.used {w1 : World} {B g : Nat} {s : Sc.St} {quota : Nat} {inv : Value} {IN : List Sc.It} {vals : List (Value × List Sc.It)} {W : World} (h : Qi w1 B g s quota inv IN vals W) :
    Calls Try.prog 20 #[.pointer (some ⟨g, 0, none⟩)] W fun e w' => e = .returned (.int .i64 (s.used : Nat)) ∧ ∃ n, w' = W.drewN n := by
  obtain ⟨S, h1, _⟩ := h
  exact used_any S g s quota W h1
/-- What Queue shows is a row of its own. -/
theorem Qi.queue {w1 : World} {B g : Nat} {s : Sc.St} {quota : Nat} {inv : Value} {IN : List Sc.It} {vals : List (Value × List Sc.It)} {W : World} (h : Qi w1 B g s quota inv IN vals W) (hQ : s.q.length * 24 ≤ 140737488355328) :
    Calls Try.prog 19 #[.pointer (some ⟨g, 0, none⟩)] W fun e w' => ∃ v', e = .returned v' ∧ Qi w1 B g s quota inv IN ((v', s.q) :: vals) w' ∧ w'.ownsRow W.heap.size 33 2 v' s.q.length (qcells s.q) ∧ Below W.heap.size W w' := by
  obtain ⟨S, h1, h2, h3, h4, h5, h6⟩ := h
  refine (queue_any S g s quota W h1 hQ).mono ?_
  rintro e w' ⟨v', rfl, q1, q2⟩
  refine ⟨v', rfl, ?_, q1, q2⟩
  have ht : Tu (fun _ => False) W w' := Tu.of_below q2
  have hs := ht.size
  have hg : B ≤ W.heap.size := by obtain ⟨_, _, _, q⟩ := h1; have := h2 g q.gS; omega
  obtain ⟨pv, hv, qv, h1⟩ := h1
  refine ⟨S, ⟨pv, hv, qv, h1.tu ht (fun _ _ e => e)⟩, fun j hj => ⟨(h2 j hj).1, by have := (h2 j hj).2; omega⟩, h3.trans (ht.below hg (fun _ e => e.elim)), own_keep h4 (fun b e => ht.block b (own_lt h4 e) (fun e => e)), h5, fun p hp => ?_⟩
  rcases List.mem_cons.1 hp with rfl | hp
  · refine ⟨its_own q1, fun b e => ?_⟩
    have hb := (q1.lt b e).1
    exact ⟨fun q => by have := (h2 b q).2; omega, fun q => by have := own_lt h4 q; omega⟩
  · exact ⟨(h6 p hp).1.tu ht (fun _ _ e => e), (h6 p hp).2⟩
/-- What Take hands over is no longer the space's. -/
theorem Qi.take {w1 : World} {B g : Nat} {s : Sc.St} {quota : Nat} {inv : Value} {IN : List Sc.It} {vals : List (Value × List Sc.It)} {W : World} (h : Qi w1 B g s quota inv IN vals W) :
    Calls Try.prog 31 #[.pointer (some ⟨g, 0, none⟩)] W fun e w' => ∃ v', e = .returned (.tuple #[v', .int .i64 0]) ∧ Qi w1 B g ⟨s.p, s.h, []⟩ quota inv IN ((v', s.q) :: vals) w' := by
  obtain ⟨S, h1, h2, h3, h4, h5, h6⟩ := h
  refine (take_any S g s quota W h1).mono ?_
  rintro e w' ⟨v', rfl, q1, q2, q3, q4⟩
  refine ⟨v', rfl, ?_⟩
  have hs := q4.size
  have hg : B ≤ W.heap.size ∧ S g ∧ B ≤ g := by obtain ⟨_, _, _, q⟩ := h1; have := h2 g q.gS; exact ⟨by omega, q.gS, by omega⟩
  refine ⟨_, q1, fun j hj => ⟨(h2 j hj.1).1, by have := (h2 j hj.1).2; omega⟩, h3.trans (q4.below hg.1 (fun k e => by rw [e]; exact hg.2.2)), own_keep h4 (fun b e => q4.block b (own_lt h4 e) (fun e' => h5 b e (by rw [e']; exact hg.2.1))), fun b e e' => h5 b e e'.1, fun p hp => ?_⟩
  rcases List.mem_cons.1 hp with rfl | hp
  · exact ⟨q2, fun b e => ⟨fun q => q.2 e, fun q => h5 b q (q3 b e).1⟩⟩
  · exact ⟨(h6 p hp).1.tu q4 (fun b e e' => ((h6 p hp).2 b e).1 (by rw [e']; exact hg.2.1)), fun b e => ⟨fun q => ((h6 p hp).2 b e).1 q.1, ((h6 p hp).2 b e).2⟩⟩
/-- The same beside a row av that is written. -/
def Qj (w1 : World) (B g : Nat) (s : Sc.St) (quota : Nat) (inv : Value) (IN : List Sc.It) (vals : List (Value × List Sc.It)) (av : Value) (W : World) : Prop :=
  ∃ S, Sp W S g s quota ∧ (∀ j, S j → B ≤ j ∧ j < W.heap.size) ∧ Below B w1 W ∧ W.ownsRow B 33 2 inv IN.length (qcells IN) ∧ (∀ b, blk inv = some b → ¬ S b) ∧ (∀ p ∈ vals, Its W p.1 p.2 ∧ ∀ b, blk p.1 = some b → ¬ S b ∧ blk inv ≠ some b) ∧ ∀ b, blk av = some b → B ≤ b ∧ ¬ S b ∧ blk inv ≠ some b ∧ ∀ p ∈ vals, blk p.1 ≠ some b
theorem Qi.beside {w1 : World} {B g : Nat} {s : Sc.St} {quota : Nat} {inv : Value} {IN Q : List Sc.It} {bv av : Value} {W : World} (h : Qi w1 B g s quota inv IN [(bv, Q), (av, Q)] W) (hB : ∀ b, blk av = some b → B ≤ b ∧ blk bv ≠ some b) : Qj w1 B g s quota inv IN [(bv, Q)] av W := by
  obtain ⟨S, h1, h2, h3, h4, h5, h6⟩ := h
  refine ⟨S, h1, h2, h3, h4, h5, fun p hp => h6 p (by simp at hp; simp [hp]), fun b e => ?_⟩
  have := (h6 (av, Q) (by simp)).2 b e
  exact ⟨(hB b e).1, this.1, this.2, fun p hp => by simp at hp; rw [hp]; exact (hB b e).2⟩
theorem Qj.spoil {w1 : World} {B g : Nat} {s : Sc.St} {quota : Nat} {inv : Value} {IN : List Sc.It} {vals : List (Value × List Sc.It)} {av : Value} {W w' : World} (h : Qj w1 B g s quota inv IN vals av W) (ht : Tu (fun k => blk av = some k) W w') : Qj w1 B g s quota inv IN vals av w' := by
  obtain ⟨S, ⟨pv, hv, qv, h1⟩, h2, h3, h4, h5, h6, h7⟩ := h
  have hg : B ≤ W.heap.size := by have := h2 g h1.gS; omega
  have hs := ht.size
  exact ⟨S, ⟨pv, hv, qv, h1.tu ht (fun k e q => (h7 k q).2.1 e)⟩, fun j hj => ⟨(h2 j hj).1, by have := (h2 j hj).2; omega⟩, h3.trans (ht.below hg (fun k e => (h7 k e).1)), own_keep h4 (fun b e => ht.block b (own_lt h4 e) (fun q => (h7 b q).2.2.1 e)), h5, fun p hp => ⟨(h6 p hp).1.tu ht (fun b e q => (h7 b q).2.2.2 p hp e), (h6 p hp).2⟩, h7⟩
theorem Qj.qi {w1 : World} {B g : Nat} {s : Sc.St} {quota : Nat} {inv : Value} {IN : List Sc.It} {vals : List (Value × List Sc.It)} {av : Value} {W : World} (h : Qj w1 B g s quota inv IN vals av W) : Qi w1 B g s quota inv IN vals W := by
  obtain ⟨S, h1, h2, h3, h4, h5, h6, _⟩ := h
  exact ⟨S, h1, h2, h3, h4, h5, h6⟩
/-- One item more stands in the row inv. -/
theorem Qi.put {w1 : World} {B g : Nat} {s : Sc.St} {quota : Nat} {inv v' : Value} {IN IN' : List Sc.It} {W w' : World} (h : Qi w1 B g s quota inv IN [] W) (ht : Tu (fun k => blk inv = some k) W w') (ho : w'.ownsRow B 33 2 v' IN'.length (qcells IN')) (hb : ∀ b, blk v' = some b → blk inv = some b ∨ W.heap.size ≤ b) : Qi w1 B g s quota v' IN' [] w' := by
  obtain ⟨S, ⟨pv, hv, qv, h1⟩, h2, h3, h4, h5, _⟩ := h
  have hg : B ≤ W.heap.size := by have := h2 g h1.gS; omega
  have hs := ht.size
  refine ⟨S, ⟨pv, hv, qv, h1.tu ht (fun k e q => h5 k q e)⟩, fun j hj => ⟨(h2 j hj).1, by have := (h2 j hj).2; omega⟩, h3.trans (ht.below hg (fun k e => (h4.lt k e).1)), ho, fun b e q => ?_, fun p hp => by cases hp⟩
  rcases hb b e with q' | q'
  · exact h5 b q' q
  · have := (h2 b q).2; omega
/-- A cell of a row is written: it stays a row. -/
theorem own_set {w : World} {base : Nat} {e : TypeId} {size n ga cap : Nat} {xs : List Value} (h : w.ownsRow base e size (.slice (some ⟨ga, 0, none⟩) n cap) n xs) (j : Nat) (u : Value) : ∃ ys, (w.setCell ⟨ga, j, none⟩ u).ownsRow base e size (.slice (some ⟨ga, 0, none⟩) n cap) n ys := by
  rcases h.2 with ⟨q, _⟩ | ⟨g, cap1, cur, q1, q2, q3, q4, q5, q6, q7⟩
  · cases q
  · cases q1
    refine ⟨(cur.setIfInBounds j u).toList.take (n * size), ?_, .inr ⟨ga, cap, cur.setIfInBounds j u, rfl, q2, row_set q3 j u, q4, q5, by simpa using q6, rfl⟩⟩
    have := Nat.mul_le_mul_right size q4
    simp
    omega
theorem own_cell {w : World} {base : Nat} {e : TypeId} {size n ga cap : Nat} {xs : List Value} (h : w.ownsRow base e size (.slice (some ⟨ga, 0, none⟩) n cap) n xs) (j : Nat) (hj : j < n * size) : (∃ u, w.cell? ⟨ga, j, none⟩ = some u) ∧ w.frozen? ⟨ga, j, none⟩ = false := by
  rcases h.2 with ⟨q, _⟩ | ⟨g, cap1, cur, q1, q2, q3, q4, q5, q6, q7⟩
  · cases q
  · cases q1
    have := Nat.mul_le_mul_right size q4
    refine ⟨⟨cur[j]'(by omega), ?_⟩, ?_⟩
    · rw [cell_of_row _ _ _ _ _ _ q3]
      simp
    · unfold World.frozen?
      simp [q3]
end Go.Proofs.Ytngmaijfahjfcaa
