/- Plain facts: the hunks, gathered one whole hunk at a time. -/
import Derived.Test.YtpoimhkfajppmaaDoorLPlainV
namespace Go.Proofs.YtpoimhkfajppmaaDoor
namespace Ln
def IsKeep (l : List Chg) (i : Nat) : Prop := (l[i]?).map (·.1) = some 1
theorem isKeep_of {l : List Chg} {i : Nat} (h : i < l.length) (e : (l[i]'h).1 = 1) : IsKeep l i := by unfold IsKeep; rw [List.getElem?_eq_getElem h]; simp [e]
theorem noKeep_of {l : List Chg} {i : Nat} (h : i < l.length) (e : (l[i]'h).1 ≠ 1) : ¬ IsKeep l i := by unfold IsKeep; rw [List.getElem?_eq_getElem h]; simp [e]
theorem hks_keep {ar : Nat} {l : List Chg} {i : Nat} (h : IsKeep l i) : hks ar l (i + 1) = hks ar l i := by unfold IsKeep at h; rw [hks, if_pos h]
theorem hks_turn {ar : Nat} {l : List Chg} {i : Nat} (h : ¬ IsKeep l i) : hks ar l (i + 1) = hstep ar (hks ar l i) i := by unfold IsKeep at h; rw [hks, if_neg h]
theorem hks_keeps {ar : Nat} {l : List Chg} {a : Nat} : ∀ b, a ≤ b → (∀ j, a ≤ j → j < b → IsKeep l j) → hks ar l b = hks ar l a
  | 0, h, _ => by rw [show a = 0 by omega]
  | b + 1, h, hk => by
    by_cases e : a = b + 1
    · rw [e]
    · rw [hks_keep (hk b (by omega) (by omega)), hks_keeps b (by omega) (fun j h1 h2 => hk j h1 (by omega))]
/-- Ahead of i the hunks are H, and what comes lies apart from the last. -/
def UInv (ar : Nat) (l : List Chg) (i : Nat) (H : List (Nat × Nat)) : Prop := hks ar l i = H ∧ ∀ p, H.getLast? = some p → ∀ j, i ≤ j → j < l.length → ¬ IsKeep l j → p.2 + 2 * ar < j
/-- The hunk that begins at i goes up to last, and from there on all is kept up to k. -/
def VInv (ar : Nat) (l : List Chg) (i : Nat) (H : List (Nat × Nat)) (k last : Nat) : Prop := hks ar l (last + 1) = H ++ [(i, last + 1)] ∧ ∀ j, last < j → j < k → IsKeep l j
theorem u_start (ar : Nat) (l : List Chg) : UInv ar l 0 [] := ⟨rfl, fun p hp => by simp at hp⟩
theorem u_skip {ar : Nat} {l : List Chg} {i : Nat} {H : List (Nat × Nat)} (h : UInv ar l i H) (hk : IsKeep l i) : UInv ar l (i + 1) H := ⟨(hks_keep hk).trans h.1, fun p hp j h1 h2 h3 => h.2 p hp j (by omega) h2 h3⟩
theorem v_start {ar : Nat} {l : List Chg} {i : Nat} {H : List (Nat × Nat)} (h : UInv ar l i H) (hi : i < l.length) (hk : ¬ IsKeep l i) : VInv ar l i H i i := by
  refine ⟨?_, fun j h1 h2 => by omega⟩
  rw [hks_turn hk, h.1]
  unfold hstep
  cases hl : H.getLast? with
  | none => rw [List.getLast?_eq_none_iff] at hl; subst hl; rfl
  | some p =>
    have := h.2 p hl i (Nat.le_refl _) hi hk
    obtain ⟨f, t⟩ := p
    simp only at this ⊢
    rw [if_neg (by omega)]
theorem v_keep {ar : Nat} {l : List Chg} {i k last : Nat} {H : List (Nat × Nat)} (h : VInv ar l i H k last) (hk : IsKeep l k) : VInv ar l i H (k + 1) last := by
  refine ⟨h.1, fun j h1 h2 => ?_⟩
  by_cases e : j = k
  · subst e; exact hk
  · exact h.2 j h1 (by omega)
theorem v_turn {ar : Nat} {l : List Chg} {i k last : Nat} {H : List (Nat × Nat)} (h : VInv ar l i H k last) (hk : ¬ IsKeep l k) (h1 : last ≤ k) (h2 : k ≤ last + 1 + 2 * ar) : VInv ar l i H (k + 1) k := by
  refine ⟨?_, fun j h1 h2 => by omega⟩
  by_cases e : k = last
  · subst e; exact h.1
  · rw [hks_turn hk, hks_keeps k (show last + 1 ≤ k by omega) (fun j h1 h2 => h.2 j (by omega) h2), h.1]
    unfold hstep
    simp only [List.getLast?_concat, List.dropLast_concat]
    rw [if_pos (by omega)]
theorem u_of_v {ar : Nat} {l : List Chg} {i k last : Nat} {H : List (Nat × Nat)} (h : VInv ar l i H k last) (he : l.length ≤ k ∨ last + 1 + 2 * ar < k) : UInv ar l (last + 1) (H ++ [(i, last + 1)]) := by
  refine ⟨h.1, fun p hp j h1 h2 h3 => ?_⟩
  simp only [List.getLast?_concat, Option.some.injEq] at hp
  subst hp
  by_cases e : j < k
  · exact absurd (h.2 j (by omega) e) h3
  · simp only
    omega
theorem u_len {ar : Nat} {l : List Chg} {i : Nat} {H : List (Nat × Nat)} (h : UInv ar l i H) : H.length ≤ i := by rw [← h.1]; exact hks_len ar l i
theorem told_kind {s t : ByteArray} {D : List Chg} (h : diffR (splB s) (splB t) = (D, 0)) : ∀ x ∈ D, x.1 = 1 ∨ x.1 = 2 ∨ x.1 = 3 := by
  unfold diffR at h
  split at h
  · cases h
  · have hD : D = diffP (splB s) (splB t) := (congrArg Prod.fst h).symm
    obtain ⟨_, q2, _⟩ := diff_of _ (splB s) (splB t) (Nat.le_refl _)
    rw [← hD] at q2
    exact fun x hx => (q2 x hx).1
end Ln
end Go.Proofs.YtpoimhkfajppmaaDoor
