/- Worlds that differ in blocks of a kind alone, what that keeps; and a row of rows of the call's own whose cells are written. -/
import Derived.Test.YtmbpebdceaihaacCopies2
namespace Go.Proofs.Ytmbpebdceaihaac
open Go.RowKit

/-- Of the blocks of w none but those of P has turned. -/
structure Turns (P : Nat → Prop) (w w' : World) : Prop where
  os : w'.os = w.os
  tape : w'.tape = w.tape
  output : w'.output = w.output
  size : w.heap.size ≤ w'.heap.size
  block : ∀ k, k < w.heap.size → ¬ P k → w'.heap[k]? = w.heap[k]?
theorem Turns.refl (P : Nat → Prop) (w : World) : Turns P w w := ⟨rfl, rfl, rfl, Nat.le_refl _, fun _ _ _ => rfl⟩
theorem Turns.trans {P : Nat → Prop} {a b c : World} (h : Turns P a b) (k : Turns P b c) : Turns P a c :=
  ⟨k.os.trans h.os, k.tape.trans h.tape, k.output.trans h.output, Nat.le_trans h.size k.size, fun i hi hp => (k.block i (Nat.lt_of_lt_of_le hi h.size) hp).trans (h.block i hi hp)⟩
theorem Turns.mono {P Q : Nat → Prop} {w w' : World} (h : Turns P w w') (hq : ∀ k, P k → Q k) : Turns Q w w' :=
  ⟨h.os, h.tape, h.output, h.size, fun k hk hp => h.block k hk (fun q => hp (hq k q))⟩
theorem Turns.grown {P : Nat → Prop} {a w w' : World} {row : Option Nat} (h : Turns P a w) (hg : w.grownBy w' row) (hr : ∀ k, row = some k → P k ∨ a.heap.size ≤ k) : Turns P a w' :=
  ⟨hg.os.trans h.os, hg.tape.trans h.tape, hg.output.trans h.output, Nat.le_trans h.size hg.size, fun k hk hp => (hg.block k (Nat.lt_of_lt_of_le hk h.size) (fun e => by
    rcases hr k e.symm with q | q
    · exact hp q
    · omega)).trans (h.block k hk hp)⟩
theorem Turns.alloc {P : Nat → Prop} {a w : World} (h : Turns P a w) (o : Obj) : Turns P a (w.alloc o) := h.grown (World.grownBy_alloc w o none) (fun k e => by cases e)
theorem Turns.drew {P : Nat → Prop} {a w : World} (h : Turns P a w) : Turns P a w.drew := ⟨h.os, h.tape, h.output, h.size, h.block⟩
theorem Turns.below {P : Nat → Prop} {B : Nat} {w w' : World} (h : Turns P w w') (hB : B ≤ w.heap.size) (hp : ∀ k, k < B → ¬ P k) : Below B w w' :=
  ⟨h.os, h.tape, h.output, h.size, fun k hk => h.block k (by omega) (hp k hk)⟩
theorem Turns.of {P : Nat → Prop} {w w' : World} (h : Below w.heap.size w w') : Turns P w w' := ⟨h.os, h.tape, h.output, h.size, fun k hk _ => h.block k hk⟩
theorem own_turns {P : Nat → Prop} {w w' : World} {base : Nat} {e : TypeId} {size : Nat} {v : Value} {n : Nat} {xs : List Value} (h : w.ownsRow base e size v n xs) (ht : Turns P w w') (hp : ∀ g, v.ownBlock = some g → ¬ P g) : w'.ownsRow base e size v n xs := by
  refine ⟨h.1, ?_⟩
  rcases h.2 with h2 | ⟨g, cap, cur, hv, hbg, hg, r⟩
  · exact .inl h2
  · exact .inr ⟨g, cap, cur, hv, hbg, by rw [ht.block g (lt_of_block hg) (hp g (by rw [hv]; rfl))]; exact hg, r⟩
theorem prow2_turns {P : Nat → Prop} {w w' : World} {base : Nat} {v : Value} {l : List (List ByteArray)} (h : PRow2 w base v l) (ht : Turns P w w') (hp : ∀ g, base ≤ g → ¬ P g) : PRow2 w' base v l := by
  obtain ⟨xs, h1, h2⟩ := h
  refine ⟨xs, own_turns h1 ht (fun g hg => hp g (h1.lt g hg).1), fun i hi => ?_, h2.apart⟩
  obtain ⟨u, k1, k2, k3⟩ := h2.own i hi
  exact ⟨u, k1, own_turns k2 ht (fun g hg => hp g (k2.lt g hg).1), k3⟩

/-- The values xs are rows of strings' kind of the call's own, with the cells ys, in blocks of R, apart from one another and from the row v. -/
structure DeepV (R : Nat → Prop) (w : World) (base : Nat) (v : Value) (xs : List Value) (ys : List (List Value)) : Prop where
  own : ∀ i (h : i < ys.length), ∃ u, xs[i]? = some u ∧ w.ownsRow base 9 1 u (ys[i]'h).length (ys[i]'h) ∧ apartV u v ∧ ∀ g, u.ownBlock = some g → R g
  apart : ∀ i j, i ≠ j → i < ys.length → j < ys.length → ∀ u u', xs[i]? = some u → xs[j]? = some u' → apartV u u'
theorem apartV.symm {u v : Value} (h : apartV u v) : apartV v u := by
  unfold apartV at *
  rcases h with h | h
  · rw [h]
    cases hv : v.ownBlock with
    | none => exact .inl rfl
    | some g => exact .inr (fun e => by cases e)
  · exact .inr (Ne.symm h)
theorem Deep2.v {w : World} {base : Nat} {v : Value} {xs : List Value} {l : List (List ByteArray)} (h : Deep2 w base v xs l) : DeepV (fun g => base ≤ g ∧ g < w.heap.size) w base v xs (l.map fun p => p.map Value.string) := by
  refine ⟨fun i hi => ?_, fun i j hij hi hj u u' hu hu' => ?_⟩
  · have hi' : i < l.length := by simpa using hi
    obtain ⟨u, k1, k2, k3, _⟩ := h.own i hi'
    refine ⟨u, k1, ?_, k3, fun g hg => k2.lt g hg⟩
    simpa using k2
  · have hi' : i < l.length := by simpa using hi
    have hj' : j < l.length := by simpa using hj
    rcases Nat.lt_or_ge i j with q | q
    · exact h.apart i j q hj' u u' hu hu'
    · exact (h.apart j i (by omega) hi' u' u hu' hu).symm
theorem DeepV.turns {P R : Nat → Prop} {w w' : World} {base : Nat} {v : Value} {xs : List Value} {ys : List (List Value)} (h : DeepV R w base v xs ys) (ht : Turns P w w') (hp : ∀ g, R g → ¬ P g) : DeepV R w' base v xs ys :=
  ⟨fun i hi => by
    obtain ⟨u, k1, k2, k3, k4⟩ := h.own i hi
    exact ⟨u, k1, own_turns k2 ht (fun g hg => hp g (k4 g hg)), k3, k4⟩, h.apart⟩
theorem DeepV.mono {R Q : Nat → Prop} {w : World} {base : Nat} {v : Value} {xs : List Value} {ys : List (List Value)} (h : DeepV R w base v xs ys) (hq : ∀ g, R g → Q g) : DeepV Q w base v xs ys :=
  ⟨fun i hi => by
    obtain ⟨u, k1, k2, k3, k4⟩ := h.own i hi
    exact ⟨u, k1, k2, k3, fun g hg => hq g (k4 g hg)⟩, h.apart⟩
/-- A row of its own that is written while the others stay: at the same place. -/
theorem DeepV.wrote {R : Nat → Prop} {w w' : World} {base : Nat} {v : Value} {xs : List Value} {ys : List (List Value)} (h : DeepV R w base v xs ys) {i : Nat} {u : Value} {y' : List Value} (hu : xs[i]? = some u) (hi : i < ys.length)
    (ho : w'.ownsRow base 9 1 u y'.length y') (hg : w.grownBy w' u.ownBlock) : DeepV R w' base v xs (ys.set i y') := by
  refine ⟨fun j hj => ?_, fun j k hjk hj hk => h.apart j k hjk (by simpa using hj) (by simpa using hk)⟩
  have hj' : j < ys.length := by simpa using hj
  obtain ⟨z, k1, k2, k3, k4⟩ := h.own j hj'
  refine ⟨z, k1, ?_, k3, k4⟩
  by_cases e : i = j
  · subst e
    rw [hu] at k1
    cases k1
    simpa using ho
  · rw [List.getElem_set_ne e]
    exact k2.kept hg (h.apart j i (Ne.symm e) hj' hi z u k1 hu)
/-- A row of its own that grows, in its place or to a new one; then the value that names it is put into the row v. -/
theorem DeepV.grew {R : Nat → Prop} {w w' w'' : World} {base m : Nat} {v : Value} {xs : List Value} {ys : List (List Value)} (h : DeepV R w base v xs ys) (hxs : xs.length = ys.length) {i : Nat} {u u' : Value} {y' : List Value} (hu : xs[i]? = some u) (hi : i < ys.length)
    (ho : w'.ownsRow base 9 1 u' y'.length y') (hg : w.grownBy w' u.ownBlock) (hat : u'.ownBlock = u.ownBlock ∨ u'.ownBlock = some m) (hm : w.heap.size ≤ m) (hR : R m) (hv : ∀ g, v.ownBlock = some g → g < w.heap.size)
    (hg2 : w'.grownBy w'' v.ownBlock) : DeepV R w'' base v (xs.set i u') (ys.set i y') := by
  have huo := h.own i hi
  obtain ⟨u0, k1, k2, k3, k4⟩ := huo
  rw [hu] at k1
  cases k1
  have hu'v : apartV u' v := by
    rcases hat with e | e
    · unfold apartV; rw [e]; exact k3
    · right; rw [e]; intro q; have := hv m q.symm; omega
  refine ⟨fun j hj => ?_, fun j k hjk hj hk y z hy hz => ?_⟩
  · have hj' : j < ys.length := by simpa using hj
    by_cases e : i = j
    · subst e
      refine ⟨u', by rw [List.getElem?_set_self (by omega)], ?_, hu'v, fun g hgg => ?_⟩
      · simpa using ho.kept hg2 hu'v
      · rcases hat with e | e
        · exact k4 g (by rw [← e]; exact hgg)
        · rw [e] at hgg; cases hgg; exact hR
    · obtain ⟨z, q1, q2, q3, q4⟩ := h.own j hj'
      refine ⟨z, by rw [List.getElem?_set_ne e]; exact q1, ?_, q3, q4⟩
      rw [List.getElem_set_ne e]
      exact (q2.kept hg (h.apart j i (Ne.symm e) hj' hi z u q1 hu)).kept hg2 q3
  · have hj' : j < ys.length := by simpa using hj
    have hk' : k < ys.length := by simpa using hk
    have key : ∀ a, i ≠ a → a < ys.length → ∀ y, xs[a]? = some y → apartV y u' := fun a ha hal y hy => by
      obtain ⟨z, q1, q2, _⟩ := h.own a hal
      rw [hy] at q1
      cases q1
      have hyu := h.apart a i (Ne.symm ha) hal hi y u hy hu
      rcases hat with e | e
      · unfold apartV; rw [e]; exact hyu
      · cases hb : y.ownBlock with
        | none => exact .inl hb
        | some g =>
          right
          rw [hb, e]
          intro q
          have := Option.some.inj q
          have := (q2.lt g hb).2
          omega
    by_cases e : i = j
    · subst e
      rw [List.getElem?_set_self (by omega)] at hy
      cases hy
      rw [List.getElem?_set_ne hjk] at hz
      exact (key k hjk hk' z hz).symm
    · rw [List.getElem?_set_ne e] at hy
      by_cases e2 : i = k
      · subst e2
        rw [List.getElem?_set_self (by omega)] at hz
        cases hz
        exact key j e hj' y hy
      · rw [List.getElem?_set_ne e2] at hz
        exact h.apart j k hjk hj' hk' y z hy hz
end Go.Proofs.Ytmbpebdceaihaac
