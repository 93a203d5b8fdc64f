/- Plain facts on the changes that make one list of lines of another: how many can be kept, which are told, what they make. -/
import Derived.Test.YtpoimhkfajppmaaDoorLPlainS
namespace Go.Proofs.YtpoimhkfajppmaaDoor
namespace Ln
def keptP {α : Type} (l : List (Nat × α)) : Nat := (l.filter fun c => c.1 == 1).length
theorem keptP_cons {α : Type} (k : Nat) (x : α) (r : List (Nat × α)) : keptP ((k, x) :: r) = (if k = 1 then 1 else 0) + keptP r := by
  unfold keptP
  by_cases h : k = 1
  · subst h; simp; omega
  · simp [h]
section
variable {α : Type} [DecidableEq α]

/-- How many can be kept of both. -/
def lcs : List α → List α → Nat
  | [], _ => 0
  | _ :: _, [] => 0
  | x :: a, y :: b => if x = y then lcs a b + 1 else max (lcs a (y :: b)) (lcs (x :: a) b)
  termination_by a b => a.length + b.length
theorem lcs_nil_left (b : List α) : lcs [] b = 0 := by rw [lcs]
theorem lcs_nil_right (a : List α) : lcs a [] = 0 := by cases a <;> rw [lcs]
theorem lcs_hit (x : α) (a b : List α) : lcs (x :: a) (x :: b) = lcs a b + 1 := by rw [lcs, if_pos rfl]
theorem lcs_miss {x y : α} (h : ¬ x = y) (a b : List α) : lcs (x :: a) (y :: b) = max (lcs a (y :: b)) (lcs (x :: a) b) := by rw [lcs, if_neg h]
theorem lcs_steps : ∀ (n : Nat) (a b : List α), a.length + b.length ≤ n → ((∀ x, lcs a b ≤ lcs (x :: a) b ∧ lcs (x :: a) b ≤ lcs a b + 1) ∧ (∀ y, lcs a b ≤ lcs a (y :: b) ∧ lcs a (y :: b) ≤ lcs a b + 1))
  | 0, a, b, h => by
    have ha : a = [] := List.eq_nil_of_length_eq_zero (by omega)
    have hb : b = [] := List.eq_nil_of_length_eq_zero (by omega)
    subst ha; subst hb
    exact ⟨fun x => by rw [lcs_nil_left, lcs_nil_right]; omega, fun y => by rw [lcs_nil_left, lcs_nil_left]; omega⟩
  | n + 1, a, b, h => by
    refine ⟨fun x => ?_, fun y => ?_⟩
    · cases b with
      | nil => rw [lcs_nil_right, lcs_nil_right]; omega
      | cons y b =>
        have i1 := lcs_steps n a b (by simp at h; omega)
        by_cases e : x = y
        · subst e
          rw [lcs_hit]
          have := i1.2 x
          omega
        · rw [lcs_miss e]
          have h1 := i1.1 x
          have h2 := i1.2 y
          omega
    · cases a with
      | nil => rw [lcs_nil_left, lcs_nil_left]; omega
      | cons x a =>
        have i1 := lcs_steps n a b (by simp at h; omega)
        by_cases e : x = y
        · subst e
          rw [lcs_hit]
          have := i1.1 x
          omega
        · rw [lcs_miss e]
          have h1 := i1.1 x
          have h2 := i1.2 y
          omega
theorem lcs_left (x : α) (a b : List α) : lcs a b ≤ lcs (x :: a) b ∧ lcs (x :: a) b ≤ lcs a b + 1 := (lcs_steps _ a b (Nat.le_refl _)).1 x
theorem lcs_right (y : α) (a b : List α) : lcs a b ≤ lcs a (y :: b) ∧ lcs a (y :: b) ≤ lcs a b + 1 := (lcs_steps _ a b (Nat.le_refl _)).2 y
/-- The reference's way to the same number. -/
theorem lcs_ref (x y : α) (a b : List α) : lcs (x :: a) (y :: b) = if x = y then max (max (lcs a (y :: b)) (lcs (x :: a) b)) (lcs a b + 1) else max (lcs a (y :: b)) (lcs (x :: a) b) := by
  by_cases e : x = y
  · subst e
    rw [if_pos rfl, lcs_hit]
    have h1 := (lcs_left x a b).2
    have h2 := (lcs_right x a b).2
    omega
  · rw [if_neg e, lcs_miss e]
theorem lcs_le : ∀ (a b : List α), lcs a b ≤ a.length
  | [], b => by rw [lcs_nil_left]; exact Nat.zero_le _
  | x :: a, b => by
    have h1 := (lcs_left x a b).2
    have h2 := lcs_le a b
    simp; omega
theorem lcs_self : ∀ a : List α, lcs a a = a.length
  | [] => lcs_nil_left _
  | x :: a => by rw [lcs_hit, lcs_self a]; simp

/-- The changes that are told: 1 keep, 2 drop, 3 add. -/
def diffP : List α → List α → List (Nat × α)
  | [], [] => []
  | [], y :: b => (3, y) :: diffP [] b
  | x :: a, [] => (2, x) :: diffP a []
  | x :: a, y :: b => if x = y then (1, x) :: diffP a b else if lcs a (y :: b) = lcs (x :: a) (y :: b) then (2, x) :: diffP a (y :: b) else (3, y) :: diffP (x :: a) b
  termination_by a b => a.length + b.length
/-- What changes make of a list, if they are of it. -/
def applyP : List α → List (Nat × α) → Option (List α)
  | a, [] => if a = [] then some [] else none
  | a, (k, x) :: r =>
    if k = 1 ∨ k = 2 then
      match a with
      | [] => none
      | y :: a' => if y = x then (if k = 1 then (applyP a' r).map (x :: ·) else applyP a' r) else none
    else if k = 3 then (applyP a r).map (x :: ·) else none
theorem apply_keep (x : α) (a : List α) (r : List (Nat × α)) : applyP (x :: a) ((1, x) :: r) = (applyP a r).map (x :: ·) := by simp [applyP]
theorem apply_drop (x : α) (a : List α) (r : List (Nat × α)) : applyP (x :: a) ((2, x) :: r) = applyP a r := by simp [applyP]
theorem apply_add (x : α) (a : List α) (r : List (Nat × α)) : applyP a ((3, x) :: r) = (applyP a r).map (x :: ·) := by simp [applyP]
/-- The changes that are told make the one list of the other, and keep as many as can be. -/
theorem diff_makes : ∀ (n : Nat) (a b : List α), a.length + b.length ≤ n → applyP a (diffP a b) = some b ∧ keptP (diffP a b) = lcs a b
  | n, [], [], _ => by rw [diffP, lcs_nil_left]; simp [applyP, keptP]
  | 0, [], _ :: _, h => by simp at h
  | 0, _ :: _, _, h => by simp at h
  | n + 1, [], y :: b, h => by
    obtain ⟨h1, h2⟩ := diff_makes n [] b (by simp at h ⊢; omega)
    rw [diffP, apply_add, h1, keptP_cons, h2, lcs_nil_left, lcs_nil_left]
    simp
  | n + 1, x :: a, [], h => by
    obtain ⟨h1, h2⟩ := diff_makes n a [] (by simp at h ⊢; omega)
    rw [diffP, apply_drop, h1, keptP_cons, h2, lcs_nil_right, lcs_nil_right]
    simp
  | n + 1, x :: a, y :: b, h => by
    rw [diffP]
    by_cases e : x = y
    · subst e
      obtain ⟨h1, h2⟩ := diff_makes n a b (by simp at h; omega)
      rw [if_pos rfl, apply_keep, h1, keptP_cons, h2, lcs_hit]
      simp; omega
    · rw [if_neg e]
      by_cases e2 : lcs a (y :: b) = lcs (x :: a) (y :: b)
      · obtain ⟨h1, h2⟩ := diff_makes n a (y :: b) (by simp at h ⊢; omega)
        rw [if_pos e2, apply_drop, h1, keptP_cons, h2, e2]
        simp
      · obtain ⟨h1, h2⟩ := diff_makes n (x :: a) b (by simp at h ⊢; omega)
        rw [if_neg e2, apply_add, h1, keptP_cons, h2]
        have h3 := lcs_miss e a b
        refine ⟨by simp, ?_⟩
        simp
        omega
/-- No changes that make the one of the other keep more. -/
theorem kept_most : ∀ (l : List (Nat × α)) (a b : List α), applyP a l = some b → keptP l ≤ lcs a b
  | [], a, b, _ => by simp [keptP]
  | (k, x) :: r, a, b, h => by
    rw [keptP_cons]
    by_cases h3 : k = 3
    · subst h3
      rw [apply_add] at h
      cases hr : applyP a r with
      | none => rw [hr] at h; cases h
      | some c =>
        rw [hr] at h
        cases h
        have h1 := kept_most r a c hr
        have h2 := (lcs_right x a c).1
        simp
        omega
    · by_cases h12 : k = 1 ∨ k = 2
      · cases a with
        | nil => simp [applyP, h12] at h
        | cons y a =>
          by_cases hy : y = x
          · subst hy
            by_cases h1 : k = 1
            · subst h1
              rw [apply_keep] at h
              cases hr : applyP a r with
              | none => rw [hr] at h; cases h
              | some c =>
                rw [hr] at h
                cases h
                have h1 := kept_most r a c hr
                rw [lcs_hit]
                simp
                omega
            · obtain rfl : k = 2 := by omega
              rw [apply_drop] at h
              have h1 := kept_most r a b h
              have h2 := (lcs_left y a b).1
              simp
              omega
          · simp [applyP, h12, hy] at h
      · simp [applyP, h12, h3] at h
end
end Ln
end Go.Proofs.YtpoimhkfajppmaaDoor
