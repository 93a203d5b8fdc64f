/- Plain facts for LinesChanged. -/
import Derived.Test.YtpoimhkfajppmaaDoorLPlainV
namespace Go.Proofs.YtpoimhkfajppmaaDoor
namespace Ln
def putP (l : List Chg) : List (ByteArray × Bool) := (l.filter fun c => c.1 != 2).map (·.2)
theorem putP_snoc (l : List Chg) (k : Nat) (h : k < l.length) : putP (l.take (k + 1)) = putP (l.take k) ++ (if (l[k]'h).1 = 2 then [] else [(l[k]'h).2]) := by
  unfold putP
  rw [List.take_succ_eq_append_getElem h, List.filter_append, List.map_append]
  by_cases e : (l[k]'h).1 = 2
  · simp [e]
  · simp [e]
theorem putP_len (l : List Chg) : (putP l).length ≤ l.length := by
  unfold putP
  rw [List.length_map]
  exact List.length_filter_le _ _
theorem putP_mem {l : List Chg} {x : ByteArray × Bool} (h : x ∈ putP l) : ∃ c ∈ l, c.2 = x := by
  unfold putP at h
  obtain ⟨c, hc, rfl⟩ := List.mem_map.1 h
  exact ⟨c, (List.mem_filter.1 hc).1, rfl⟩
/-- What changes make is what they put. -/
theorem apply_put : ∀ (l : List Chg) (a r : List (ByteArray × Bool)), applyP a l = some r → r = putP l
  | [], a, r, h => by
    unfold applyP at h
    split at h
    · cases h; rfl
    · cases h
  | (k, x) :: l, a, r, h => by
    by_cases h3 : k = 3
    · subst h3
      rw [apply_add] at h
      cases hr : applyP a l with
      | none => rw [hr] at h; cases h
      | some c =>
        rw [hr] at h
        cases h
        have := apply_put l a c hr
        subst this
        rfl
    · by_cases h12 : k = 1 ∨ k = 2
      · cases a with
        | nil => simp [applyP, h12] at h
        | cons y a =>
          by_cases hy : y = x
          · subst hy
            by_cases h1 : k = 1
            · subst h1
              rw [apply_keep] at h
              cases hr : applyP a l with
              | none => rw [hr] at h; cases h
              | some c =>
                rw [hr] at h
                cases h
                have := apply_put l a c hr
                subst this
                rfl
            · obtain rfl : k = 2 := by omega
              rw [apply_drop] at h
              have := apply_put l a r h
              subst this
              rfl
          · simp [applyP, h12, hy] at h
      · simp [applyP, h12, h3] at h
theorem same_eq : ∀ (a b : List (ByteArray × Bool)), sameL a b = true → a = b
  | [], [], _ => rfl
  | [], _ :: _, h => by simp [sameL] at h
  | _ :: _, [], h => by simp [sameL] at h
  | x :: a, y :: b, h => by
    simp only [sameL, Bool.and_eq_true] at h
    have h1 := (line_eq x y).2 (by simp only [Bool.and_eq_true]; exact h.1)
    rw [h1, same_eq a b h.2]
/-- More kept: then the lines are put together otherwise. -/
theorem more_kept {a b : List (ByteArray × Bool)} {l : List Chg} (h : (applyR a l).2 = 0) (hk : lcs a b < keptP l) : sameL (putP l) b = false := by
  cases hs : sameL (putP l) b
  · rfl
  · have e := same_eq _ _ hs
    unfold applyR at h
    cases hr : applyP a l with
    | none => rw [hr] at h; simp at h
    | some r =>
      have := apply_put l a r hr
      rw [this, e] at hr
      have := kept_most l a b hr
      omega
theorem apply_told (s t : ByteArray) : applyR (splB s) (diffP (splB s) (splB t)) = (t.data.toList, 0) := by
  unfold applyR
  rw [(diff_makes _ (splB s) (splB t) (Nat.le_refl _)).1]
  show (joinL (splB t), 0) = _
  rw [join_splB]
theorem kept_told (a b : List (ByteArray × Bool)) : keptP (diffP a b) = lcs a b := (diff_makes _ a b (Nat.le_refl _)).2
theorem diffR_cases (a b : List (ByteArray × Bool)) : (diffR a b = ([], 3) ∧ (4096 < a.length ∨ 4096 < b.length)) ∨ (diffR a b = (diffP a b, 0) ∧ a.length ≤ 4096 ∧ b.length ≤ 4096) := by
  unfold diffR
  by_cases h : 4096 < a.length ∨ 4096 < b.length
  · left; rw [if_pos h]; exact ⟨rfl, h⟩
  · right; rw [if_neg h]; exact ⟨rfl, by omega, by omega⟩
end Ln
end Go.Proofs.YtpoimhkfajppmaaDoor
