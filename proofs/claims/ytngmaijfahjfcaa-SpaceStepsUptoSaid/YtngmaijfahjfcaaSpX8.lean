/- A space beside the law's own blocks. -/
import Derived.Test.YtngmaijfahjfcaaSpX7
namespace Go.Proofs.Ytngmaijfahjfcaa
open Go.RowKit

/-- One step, and what it leaves of the law's own blocks. -/
theorem Qi.step2 {w1 : World} {B g : Nat} {s : Sc.St} {quota : Nat} {vals : List (Value × List Sc.It)} {W : World} (h : Qi w1 B g s quota (.slice none 0 0) [] vals W) (j : Int) (t : ByteArray) (i : Nat) (x : ByteArray) (hx : t.size ≤ 140737488355328) (hi : i < 256) (hy : x.size ≤ 281474976710656) (hQ : (s.q.length + 1) * 24 ≤ 140737488355328) :
    Calls Try.prog 11 #[.pointer (some ⟨g, 0, none⟩), stV j t i x] W fun e w' => ∃ lv, e = .returned (.tuple #[.bool (Sc.more s j), lv, .int .i64 (Sc.step quota s j t i x).1]) ∧ Qi w1 B g (Sc.step quota s j t i x).2 quota (.slice none 0 0) [] ((lv, Sc.took s j) :: vals) w' ∧ ∀ p ∈ vals, ∀ n, blk p.1 = some n → w'.heap[n]? = W.heap[n]? := by
  obtain ⟨S, h1, h2, h3, h4, h5, h6⟩ := h
  refine (do_any S g s quota j t i x W h1 hx hi hy hQ).mono ?_
  rintro e w' ⟨lv, rfl, S', q1, q2, q3, q4, q5⟩
  refine ⟨lv, rfl, ?_, fun p hp n e => q2.block n (its_lt (h6 p hp).1 e) ((h6 p hp).2 n e).1⟩
  have hg : B ≤ W.heap.size := by obtain ⟨_, _, _, q⟩ := h1; have := h2 g q.gS; omega
  have hs := q2.size
  have key : ∀ b, b < W.heap.size → ¬ S b → ¬ (S' b ∧ b < w'.heap.size) := fun b hb hn e => by
    rcases q3 b e.1 with q | q
    · exact hn q
    · omega
  refine ⟨_, q1.tight, fun j hj => ⟨?_, hj.2⟩, h3.trans (q2.below hg (fun k e => (h2 k e).1)), own_keep h4 (fun b e => q2.block b (own_lt h4 e) (h5 b e)), fun b e => (by cases e), fun p hp => ?_⟩
  · rcases q3 j hj.1 with q | q
    · exact (h2 j q).1
    · omega
  · rcases List.mem_cons.1 hp with rfl | hp
    · exact ⟨q4, fun b e => ⟨fun q => q5 b e q.1, fun q => by cases q⟩⟩
    · exact ⟨(h6 p hp).1.tu q2 (fun b e => ((h6 p hp).2 b e).1), fun b e => ⟨key b (its_lt (h6 p hp).1 e) ((h6 p hp).2 b e).1, ((h6 p hp).2 b e).2⟩⟩
/-- A row with nothing in it, at a block of the law's own. -/
def dm (n : Nat) : Value := .slice (some ⟨n, 0, none⟩) 0 0
/-- A row that is made beside a space is none of the space's. -/
theorem Qi.add {w1 : World} {B g : Nat} {s : Sc.St} {quota : Nat} {vals : List (Value × List Sc.It)} {W w' : World} {v : Value} {Q : List Sc.It} (h : Qi w1 B g s quota (.slice none 0 0) [] vals W) (ht : Tu (fun _ => False) W w') (hi : Its w' v Q) (hb : ∀ b, blk v = some b → (∃ p ∈ vals, blk p.1 = some b) ∨ W.heap.size ≤ b) : Qi w1 B g s quota (.slice none 0 0) [] ((v, Q) :: vals) w' := by
  obtain ⟨S, ⟨pv, hv, qv, h1⟩, h2, h3, h4, h5, h6⟩ := h
  have hg : B ≤ W.heap.size := by have := h2 g h1.gS; omega
  have hs := ht.size
  refine ⟨S, ⟨pv, hv, qv, h1.tu ht (fun _ _ e => e)⟩, fun j hj => ⟨(h2 j hj).1, by have := (h2 j hj).2; omega⟩, h3.trans (ht.below hg (fun _ e => e.elim)), own_keep h4 (fun b e => ht.block b (own_lt h4 e) (fun e => e)), h5, fun p hp => ?_⟩
  rcases List.mem_cons.1 hp with rfl | hp
  · refine ⟨hi, fun b e => ⟨fun q => ?_, fun q => by cases q⟩⟩
    rcases hb b e with ⟨p, hp, e'⟩ | q'
    · exact ((h6 p hp).2 b e').1 q
    · have := (h2 b q).2; omega
  · exact ⟨(h6 p hp).1.tu ht (fun _ _ e => e), (h6 p hp).2⟩
theorem dm_its {W : World} {n : Nat} (h : n < W.heap.size) : Its W (dm n) [] := .inr ⟨n, 0, 0, rfl, h, fun j hj => by simp at hj⟩
theorem dm_blk (n : Nat) : blk (dm n) = some n := rfl
theorem Qi.own {w1 : World} {B g : Nat} {s : Sc.St} {quota : Nat} {vals : List (Value × List Sc.It)} {W : World} (h : Qi w1 B g s quota (.slice none 0 0) [] vals W) (o : Obj) : Qi w1 B g s quota (.slice none 0 0) [] ((dm W.heap.size, []) :: vals) (W.alloc o) :=
  h.add ((Tu.refl _ W).alloc o) (dm_its (by simp)) (fun b e => .inr (by rw [dm_blk] at e; cases e; exact Nat.le_refl _))
/-- Rows of items are none where a reference's space lies. -/
theorem its_upd {W w' : World} {v : Value} {Q : List Sc.It} {n : Nat} {a b : ByteArray} {c : Option Addr} {d e : Nat} {f : Int} {T : TypeId} (h : Its W v Q) (hc : W.heap[n]? = some (.cells #[.string a, .string b, .slice c d e, .int .i64 f] T)) (ht : Tu (fun k => k = n) W w') : Its w' v Q := by
  by_cases hb : blk v = some n
  · rcases h with ⟨rfl, rfl⟩ | ⟨g, o, cap, rfl, hg, hj⟩
    · exact .inl ⟨rfl, rfl⟩
    · obtain rfl : g = n := by cases hb; rfl
      cases Q with
      | nil => exact .inr ⟨g, o, cap, rfl, by have := ht.size; omega, fun j hj => by simp at hj⟩
      | cons y r =>
        exfalso
        have h0 := (hj 0 (by simp)).1
        obtain ⟨⟨c0, c1, c2, c3⟩, _⟩ := cells4 hc
        match o, h0 with
        | 0, h0 => simp [c0] at h0
        | 1, h0 => simp [c1] at h0
        | 2, h0 => simp [c2] at h0
        | 3, h0 => simp [c3] at h0
        | o + 4, h0 => simp [World.cell?, hc] at h0
  · exact h.tu ht (fun b e k => hb (by rw [e, k]))
theorem Qi.upd {w1 : World} {B g : Nat} {s : Sc.St} {quota : Nat} {vals : List (Value × List Sc.It)} {W w' : World} {n : Nat} {a b : ByteArray} {c : Option Addr} {d e : Nat} {f : Int} {T : TypeId} (h : Qi w1 B g s quota (.slice none 0 0) [] vals W) (hn : (dm n, []) ∈ vals) (hB : B ≤ n) (hc : W.heap[n]? = some (.cells #[.string a, .string b, .slice c d e, .int .i64 f] T)) (ht : Tu (fun k => k = n) W w') : Qi w1 B g s quota (.slice none 0 0) [] vals w' := by
  obtain ⟨S, ⟨pv, hv, qv, h1⟩, h2, h3, h4, h5, h6⟩ := h
  have hg : B ≤ W.heap.size := by have := h2 g h1.gS; omega
  have hs := ht.size
  have hSn : ¬ S n := ((h6 _ hn).2 n (dm_blk n)).1
  exact ⟨S, ⟨pv, hv, qv, h1.tu ht (fun k q e => hSn (e ▸ q))⟩, fun j hj => ⟨(h2 j hj).1, by have := (h2 j hj).2; omega⟩, h3.trans (ht.below hg (fun k e => e ▸ hB)), own_keep h4 (fun b e => by cases e), h5, fun p hp => ⟨its_upd (h6 p hp).1 hc ht, (h6 p hp).2⟩⟩
end Go.Proofs.Ytngmaijfahjfcaa
