/- The reference's with, plain: as one file put or taken out below a path. -/
import Derived.Test.YtgpheecapbhpkaaDoorTX
namespace Go.Proofs.YtgpheecapbhpkaaDoor
open Go Go.RowKit

namespace Ft
/-- The files of a folder with a file put in (or, if none is given, without the one of the name); b: it is put already. -/
def refN (o : Option FT) (x : ByteArray) : Bool → List FT → List FT
  | b, [] => if b = true then [] else o.toList
  | b, y :: r => (if (!b && !ltN y x) = true then o.toList else []) ++ ((if (y.nm.toList == x.toList) = true then [] else [y]) ++ refN o x (b || !ltN y x) r)
def withG : FT → List ByteArray → Option FT → FT
  | T, [], _ => T
  | T, [x], o => .mk T.nm T.k T.d (refN o x false T.kids)
  | T, x :: y :: r, o => .mk T.nm T.k T.d (T.kids.map fun V => if (V.nm.toList == x.toList) = true then withG V (y :: r) o else V)
theorem ref_none (x : ByteArray) : ∀ (l : List FT) (b b' : Bool), refN none x b l = refN none x b' l
  | [], b, b' => by rw [refN, refN]; cases b <;> cases b' <;> rfl
  | y :: r, b, b' => by
    rw [refN, refN, ref_none x r (b || !ltN y x) (b' || !ltN y x)]
    cases b <;> cases b' <;> cases ltN y x <;> rfl
theorem ref_put (o : Option FT) (x : ByteArray) : ∀ l : List FT, (∀ y ∈ l, (y.nm.toList == x.toList) = false) → refN o x true l = l
  | [], _ => rfl
  | y :: r, h => by
    rw [refN, h y (by simp), Bool.true_or, ref_put o x r (fun z hz => h z (by simp [hz]))]
    rfl
theorem ris_tail {y : FT} {r : List FT} (h : RisN (y :: r)) : RisN r ∧ ∀ z ∈ r, ltN y z.nm = true := by
  refine ⟨fun i j hi hj hij => h (i + 1) (j + 1) (by simpa using hi) (by simpa using hj) (by omega), fun z hz => ?_⟩
  obtain ⟨i, hi, rfl⟩ := List.mem_iff_getElem.1 hz
  exact h 0 (i + 1) (by simp) (by simpa using hi) (by omega)
theorem ris_behind {y : FT} {r : List FT} {x : ByteArray} (h : RisN (y :: r)) (hx : ltN y x = false) : ∀ z ∈ r, (z.nm.toList == x.toList) = false := fun z hz => by
  have h1 := (ris_tail h).2 z hz
  rw [beq_eq_false_iff_ne]
  intro e
  unfold ltN at h1 hx
  rw [e, hx] at h1
  cases h1
theorem ref_ins (o : Option FT) (x : ByteArray) : ∀ l : List FT, RisN l → refN o x false l = insN l x o.toList
  | [], _ => rfl
  | y :: r, h => by
    rw [refN, insN]
    cases hx : ltN y x with
    | true =>
      have hne := ne_less hx
      rw [hne, ← ref_ins o x r (ris_tail h).1]
      rfl
    | false =>
      rw [show (false || !false) = true from rfl, ref_put o x r (ris_behind h hx)]
      cases (y.nm.toList == x.toList) <;> rfl
theorem map_set : ∀ (l : List FT) (x : ByteArray) (V : FT) (f : FT → FT), RisN l → kidN l x = some V → (l.map fun z => if (z.nm.toList == x.toList) = true then f z else z) = setN l x (f V)
  | [], x, V, f, _, h => by rw [kidN] at h; cases h
  | y :: r, x, V, f, hr, h => by
    rw [kidN] at h
    rw [setN, List.map_cons]
    split at h
    · rename_i e
      cases h
      rw [if_pos e, if_pos e]
      have hx : ltN y x = false := lt_self (by simpa using e)
      have hb := ris_behind hr hx
      congr 1
      conv => rhs; rw [← List.map_id r]
      exact List.map_congr_left fun z hz => by rw [if_neg (by rw [hb z hz]; simp)]; rfl
    · rename_i e
      rw [if_neg e, if_neg e, map_set r x V f (ris_tail hr).1 h]
theorem bel_of_kid {T V : FT} {x : ByteArray} {q : List ByteArray} (h : belT T q = none) (hV : kidN T.kids x = some V) : ∃ q', belT V q' = none := by
  obtain ⟨i, hi, e⟩ := kid_mem hV
  exact ⟨_, e ▸ (bel_kid h hi).2⟩
/-- In a right tree the two are one. -/
theorem withG_is : ∀ (p : List ByteArray) (T D : FT) (x : ByteArray) (o : Option FT) (q : List ByteArray), belT T q = none → lookR T p = .inr D → withG T (p ++ [x]) o = withR T p (insN D.kids x o.toList)
  | [], T, D, x, o, q, hb, h => by
    rw [lookR] at h
    cases h
    show FT.mk _ _ _ _ = _
    rw [ref_ins o x T.kids (bel_ris hb)]
    rfl
  | w :: r, T, D, x, o, q, hb, h => by
    obtain ⟨_, V, hV, hD⟩ := look_kid h
    obtain ⟨q', hb'⟩ := bel_of_kid hb hV
    have ih := withG_is r V D x o q' hb' hD
    obtain ⟨y, s, e⟩ : ∃ y s, r ++ [x] = y :: s := by cases r with
      | nil => exact ⟨x, [], rfl⟩
      | cons y s => exact ⟨y, s ++ [x], rfl⟩
    rw [with_kid hV, List.cons_append, e, withG, ← ih, e]
    congr 1
    exact map_set T.kids w V (fun z => withG z (y :: s) o) (bel_ris hb) hV
end Ft
end Go.Proofs.YtgpheecapbhpkaaDoor
