/- A row of rows of the call's own, as a whole: what is read of it, a store into one of its rows, a row of it that grows. -/
import Derived.Test.YtmbpebdceaihaacTurns
namespace Go.Proofs.Ytmbpebdceaihaac
open Go.RowKit

structure Cst (R P : Nat → Prop) (w0 w : World) (base g n cap : Nat) (xs : List Value) (ys : List (List Value)) : Prop where
  row : w.ownsRow base 23 1 (.slice (some ⟨g, 0, none⟩) n cap) n xs
  deep : DeepV R w base (.slice (some ⟨g, 0, none⟩) n cap) xs ys
  len : ys.length = n
  turns : Turns P w0 w
theorem Cst.xlen {R P : Nat → Prop} {w0 w : World} {base g n cap : Nat} {xs : List Value} {ys : List (List Value)} (h : Cst R P w0 w base g n cap xs ys) : xs.length = n := by simpa using h.row.1
theorem Cst.look {R P : Nat → Prop} {w0 w : World} {base g n cap : Nat} {xs : List Value} {ys : List (List Value)} (h : Cst R P w0 w base g n cap xs ys) {i : Nat} (hi : i < n) (hi' : i < ys.length) :
    ∃ ad c, xs[i]? = some (.slice ad (ys[i]'hi').length c) ∧ w.cell? ⟨g, i, none⟩ = some (.slice ad (ys[i]'hi').length c) ∧ w.ownsRow base 9 1 (.slice ad (ys[i]'hi').length c) (ys[i]'hi').length (ys[i]'hi') ∧ c ≤ maxLen ∧ (ys[i]'hi').length ≤ c := by
  obtain ⟨u, k1, k2, _⟩ := h.deep.own i hi'
  rcases k2.2 with ⟨hv, hn⟩ | ⟨g', cap', cur, hv, _, _, q1, q2, _⟩
  · rw [← hn] at hv
    subst hv
    exact ⟨none, _, by rw [k1, hn], by rw [h.row.cellAt i (by omega), k1, hn], by rw [hn] at k2 ⊢; exact k2, by rw [hn]; exact Nat.zero_le _, Nat.le_refl _⟩
  · subst hv
    exact ⟨_, _, k1, by rw [h.row.cellAt i (by omega), k1], k2, q2, q1⟩
theorem Cst.store {R P : Nat → Prop} {w0 w : World} {base g n cap : Nat} {xs : List Value} {ys : List (List Value)} (h : Cst R P w0 w base g n cap xs ys) (hRP : ∀ k, R k → P k ∨ w0.heap.size ≤ k) {i gu c : Nat} (hi' : i < ys.length)
    (hx : xs[i]? = some (.slice (some ⟨gu, 0, none⟩) (ys[i]'hi').length c)) (m : Nat) (val : Value) :
    Cst R P w0 (w.setCell ⟨gu, m, none⟩ val) base g n cap xs (ys.set i ((ys[i]'hi').set m val)) := by
  obtain ⟨u, k1, k2, k3, k4⟩ := h.deep.own i hi'
  rw [hx] at k1
  cases k1
  obtain ⟨st, gr⟩ := k2.stored m val
  exact ⟨h.row.kept gr (apartV.symm k3), h.deep.wrote hx hi' (by simpa using st) gr, by simpa using h.len, h.turns.grown gr (fun k hk => hRP k (k4 k hk))⟩
theorem Cst.below {R P : Nat → Prop} {w0 w w' : World} {base g n cap : Nat} {xs : List Value} {ys : List (List Value)} (h : Cst R P w0 w base g n cap xs ys) (hb : Below w.heap.size w w') : Cst R P w0 w' base g n cap xs ys :=
  ⟨own_below h.row hb, h.deep.turns (P := fun _ => False) (Turns.of hb) (fun _ _ q => q), h.len, h.turns.trans (Turns.of hb)⟩
theorem Cst.frozen {R P : Nat → Prop} {w0 w : World} {base g n cap : Nat} {xs : List Value} {ys : List (List Value)} (h : Cst R P w0 w base g n cap xs ys) (i : Nat) : w.frozen? ⟨g, i, none⟩ = false := h.row.frozenAt i
/-- A row that grew, and the value that names it put in its place. -/
theorem Cst.grew {R P : Nat → Prop} {w0 w w' : World} {base g n cap m : Nat} {xs : List Value} {ys : List (List Value)} (h : Cst R P w0 w base g n cap xs ys) (hRP : ∀ k, R k → P k ∨ w0.heap.size ≤ k) {i : Nat} {u u' : Value} {y' : List Value} (hi : i < ys.length) (hx : xs[i]? = some u)
    (ho : w'.ownsRow base 9 1 u' y'.length y') (hg : w.grownBy w' u.ownBlock) (hat : u'.ownBlock = u.ownBlock ∨ u'.ownBlock = some m) (hm : w.heap.size ≤ m) (hR : R m) (hgP : P g ∨ w0.heap.size ≤ g) :
    Cst R P w0 (w'.setCell ⟨g, i, none⟩ u') base g n cap (xs.set i u') (ys.set i y') := by
  obtain ⟨u0, k1, k2, k3, k4⟩ := h.deep.own i hi
  rw [hx] at k1
  cases k1
  obtain ⟨st, gr⟩ := (h.row.kept hg (apartV.symm k3)).stored i u'
  refine ⟨st, h.deep.grew (by rw [h.xlen, h.len]) hx hi ho hg hat hm hR (fun g' hg' => (h.row.lt g' hg').2) gr, by simpa using h.len, ?_⟩
  exact (h.turns.grown hg (fun k hk => hRP k (k4 k hk))).grown gr (fun k hk => by cases hk; exact hgP)

theorem Cst.kept {R P : Nat → Prop} {w0 w w' : World} {base g n cap : Nat} {xs : List Value} {ys : List (List Value)} (h : Cst R P w0 w base g n cap xs ys) {i : Nat} {u : Value} (hi : i < ys.length) (hx : xs[i]? = some u) (hg : w.grownBy w' u.ownBlock) : w'.ownsRow base 23 1 (.slice (some ⟨g, 0, none⟩) n cap) n xs := by
  obtain ⟨u0, k1, k2, k3, k4⟩ := h.deep.own i hi
  rw [hx] at k1
  cases k1
  exact h.row.kept hg (apartV.symm k3)
theorem cell_two_new (w : World) (a b : Value) (t : TypeId) : ∀ j u, [a, b][j]? = some u → (w.alloc (.cells #[a, b] t)).cell? ((⟨w.heap.size, 0, none⟩ : Addr).add j) = some u := by
  intro j u hu
  have hb := heap_alloc_new w (.cells #[a, b] t)
  rw [show ((⟨w.heap.size, 0, none⟩ : Addr).add j) = ⟨w.heap.size, j, none⟩ from by unfold Addr.add; split <;> simp_all]
  rw [cell_of_row _ _ j #[a, b] t (0, 0) hb]
  simpa using hu

/-- The rows have the lengths of the paths K. -/
def LenK (K : List (List ByteArray)) (ys : List (List Value)) : Prop := ∀ j (h : j < ys.length) (h' : j < K.length), (ys[j]'h).length = (K[j]'h').length
def quest : Value := .string ⟨#[63]⟩
def more : Value := .string ⟨#[109, 111, 114, 101]⟩
/-- The rows below k, and of row k the cells below m, hold "?". -/
def DoneQ (ys : List (List Value)) (k m : Nat) : Prop := ∀ j (h : j < ys.length) t (ht : t < (ys[j]'h).length), (j < k ∨ j = k ∧ t < m) → (ys[j]'h)[t]'ht = quest
theorem LenK.start (K : List (List ByteArray)) : LenK K (K.map fun p => p.map Value.string) := fun j h h' => by simp
theorem LenK.set {K : List (List ByteArray)} {ys : List (List Value)} (h : LenK K ys) {i : Nat} {y : List Value} (hy : ∀ hi : i < ys.length, y.length = (ys[i]'hi).length) : LenK K (ys.set i y) := fun j hj h' => by
  have hj' : j < ys.length := by simpa using hj
  by_cases e : i = j
  · subst e
    simp only [List.getElem_set_self]
    rw [hy hj']
    exact h i hj' h'
  · rw [List.getElem_set_ne e]
    exact h j hj' h'
theorem DoneQ.start (ys : List (List Value)) : DoneQ ys 0 0 := fun j _ t _ h => by omega
theorem DoneQ.step {ys : List (List Value)} {k m : Nat} (h : DoneQ ys k m) (hk : k < ys.length) : DoneQ (ys.set k ((ys[k]'hk).set m quest)) k (m + 1) := fun j hj t ht hjt => by
  have hj' : j < ys.length := by simpa using hj
  by_cases e : k = j
  · subst e
    simp only [List.getElem_set_self]
    by_cases e2 : m = t
    · subst e2
      simp
    · rw [List.getElem_set_ne e2]
      have ht' : t < (ys[k]'hk).length := by simpa using ht
      exact h k hk t ht' (by omega)
  · simp only [List.getElem_set_ne e]
    have ht' : t < (ys[j]'hj').length := by simpa [List.getElem_set_ne e] using ht
    exact h j hj' t ht' (by omega)
theorem DoneQ.next {ys : List (List Value)} {k m : Nat} (h : DoneQ ys k m) (hk : k < ys.length) (hm : (ys[k]'hk).length ≤ m) : DoneQ ys (k + 1) 0 := fun j hj t ht hjt => by
  by_cases e : j = k
  · subst e
    exact h j hj t ht (.inr ⟨rfl, by omega⟩)
  · exact h j hj t ht (by omega)
/-- The rows below k have grown by two, the others have not; all others hold "?". -/
def Grew (K : List (List ByteArray)) (ys : List (List Value)) (k : Nat) : Prop := ∀ j (h : j < ys.length) (h' : j < K.length), (ys[j]'h) = List.replicate (K[j]'h').length quest ++ if j < k then [more, more] else []
theorem Grew.start {K : List (List ByteArray)} {ys : List (List Value)} {k : Nat} (h : DoneQ ys k 0) (hl : LenK K ys) (hk : ys.length ≤ k) : Grew K ys 0 := fun j hj h' => by
  simp only [Nat.not_lt_zero, if_false, List.append_nil]
  refine List.ext_getElem (by rw [hl j hj h', List.length_replicate]) (fun t ht ht' => ?_)
  rw [List.getElem_replicate]
  exact h j hj t ht (.inl (by omega))
theorem Grew.at {K : List (List ByteArray)} {ys : List (List Value)} {k : Nat} (h : Grew K ys k) (hk : k < ys.length) (hk' : k < K.length) : (ys[k]'hk) = List.replicate (K[k]'hk').length quest := by
  rw [h k hk hk']; simp
theorem Grew.below {K : List (List ByteArray)} {ys : List (List Value)} {k j : Nat} (h : Grew K ys k) (hj : j < k) (hk : j < ys.length) (hk' : j < K.length) : (ys[j]'hk) = List.replicate (K[j]'hk').length quest ++ [more, more] := by
  rw [h j hk hk', if_pos hj]
theorem Grew.step {K : List (List ByteArray)} {ys : List (List Value)} {k : Nat} (h : Grew K ys k) (hk : k < ys.length) : Grew K (ys.set k ((ys[k]'hk) ++ [more, more])) (k + 1) := fun j hj h' => by
  have hj' : j < ys.length := by simpa using hj
  by_cases e : k = j
  · subst e
    simp only [List.getElem_set_self]
    rw [h.at hk h', if_pos (by omega)]
  · rw [List.getElem_set_ne e, h j hj' h']
    congr 1
    by_cases q : j < k
    · rw [if_pos q, if_pos (by omega)]
    · rw [if_neg q, if_neg (by omega)]
end Go.Proofs.Ytmbpebdceaihaac
