/- Plain facts on the changes that are told, step by step. -/
import Derived.Test.YtpoimhkfajppmaaDoorLPlainC
namespace Go.Proofs.YtpoimhkfajppmaaDoor
namespace Ln
def diffR (a b : List (ByteArray × Bool)) : List (Nat × (ByteArray × Bool)) × Nat := if 4096 < a.length ∨ 4096 < b.length then ([], 3) else (diffP a b, 0)
def DiffInv (a b : List (ByteArray × Bool)) (i j : Nat) (J : List (Nat × (ByteArray × Bool))) : Prop := J ++ diffP (a.drop i) (b.drop j) = diffP a b
theorem diff_start (a b : List (ByteArray × Bool)) : DiffInv a b 0 0 [] := by simp [DiffInv]
theorem diff_keep {a b : List (ByteArray × Bool)} {i j : Nat} {J : List (Nat × (ByteArray × Bool))} (h : DiffInv a b i j J) (hi : i < a.length) (hj : j < b.length) (e : a[i] = b[j]) : DiffInv a b (i + 1) (j + 1) (J ++ [(1, a[i])]) := by
  unfold DiffInv at *
  rw [List.drop_eq_getElem_cons hi, List.drop_eq_getElem_cons hj, diffP, if_pos e] at h
  simpa using h
theorem diff_drop {a b : List (ByteArray × Bool)} {i j : Nat} {J : List (Nat × (ByteArray × Bool))} (h : DiffInv a b i j J) (hi : i < a.length) (ne : ∀ hj : j < b.length, ¬ a[i] = b[j]) (e : lcs (a.drop (i + 1)) (b.drop j) = lcs (a.drop i) (b.drop j)) : DiffInv a b (i + 1) j (J ++ [(2, a[i])]) := by
  unfold DiffInv at *
  by_cases hj : j < b.length
  · rw [List.drop_eq_getElem_cons hi, List.drop_eq_getElem_cons hj] at h e
    rw [diffP, if_neg (ne hj), if_pos e] at h
    rw [List.drop_eq_getElem_cons hj]
    simpa using h
  · have hb : b.drop j = [] := List.drop_eq_nil_of_le (by omega)
    rw [List.drop_eq_getElem_cons hi, hb, diffP] at h
    rw [hb]
    simpa using h
theorem diff_add {a b : List (ByteArray × Bool)} {i j : Nat} {J : List (Nat × (ByteArray × Bool))} (h : DiffInv a b i j J) (hj : j < b.length) (ne : ∀ hi : i < a.length, ¬ a[i] = b[j] ∧ ¬ lcs (a.drop (i + 1)) (b.drop j) = lcs (a.drop i) (b.drop j)) : DiffInv a b i (j + 1) (J ++ [(3, b[j])]) := by
  unfold DiffInv at *
  by_cases hi : i < a.length
  · obtain ⟨n1, n2⟩ := ne hi
    rw [List.drop_eq_getElem_cons hi, List.drop_eq_getElem_cons hj] at h n2
    rw [diffP, if_neg n1, if_neg n2] at h
    rw [List.drop_eq_getElem_cons hi]
    simpa using h
  · have ha : a.drop i = [] := List.drop_eq_nil_of_le (by omega)
    rw [ha, List.drop_eq_getElem_cons hj, diffP] at h
    rw [ha]
    simpa using h
theorem diff_end {a b : List (ByteArray × Bool)} {i j : Nat} {J : List (Nat × (ByteArray × Bool))} (h : DiffInv a b i j J) (hi : a.length ≤ i) (hj : b.length ≤ j) : J = diffP a b := by
  unfold DiffInv at h
  rw [List.drop_eq_nil_of_le hi, List.drop_eq_nil_of_le hj, diffP] at h
  simpa using h
theorem diff_no {a b : List (ByteArray × Bool)} {i : Nat} {j : Nat} (hj : b.length ≤ j) : lcs (a.drop (i + 1)) (b.drop j) = lcs (a.drop i) (b.drop j) := by
  rw [List.drop_eq_nil_of_le hj, lcs_nil_right, lcs_nil_right]
/-- What is told is of the two lists, and no longer than both. -/
theorem diff_of : ∀ (n : Nat) (a b : List (ByteArray × Bool)), a.length + b.length ≤ n → (diffP a b).length ≤ a.length + b.length ∧ (∀ x ∈ diffP a b, (x.1 = 1 ∨ x.1 = 2 ∨ x.1 = 3) ∧ (x.2 ∈ a ∨ x.2 ∈ b)) ∧ tot ((diffP a b).map (·.2)) ≤ tot a + tot b
  | n, [], [], _ => by rw [diffP]; simp [tot]
  | 0, [], _ :: _, h => by simp at h
  | 0, _ :: _, _, h => by simp at h
  | n + 1, [], y :: b, h => by
    obtain ⟨h1, h2, h3⟩ := diff_of n [] b (by simp at h ⊢; omega)
    rw [diffP]
    refine ⟨by simp at h1 ⊢; omega, fun x hx => ?_, by simp [tot] at h3 ⊢; omega⟩
    rcases List.mem_cons.1 hx with rfl | hx
    · simp
    · obtain ⟨q1, q2⟩ := h2 x hx
      exact ⟨q1, .inr (by rcases q2 with q | q <;> simp_all)⟩
  | n + 1, x :: a, [], h => by
    obtain ⟨h1, h2, h3⟩ := diff_of n a [] (by simp at h ⊢; omega)
    rw [diffP]
    refine ⟨by simp at h1 ⊢; omega, fun z hx => ?_, by simp [tot] at h3 ⊢; omega⟩
    rcases List.mem_cons.1 hx with rfl | hx
    · simp
    · obtain ⟨q1, q2⟩ := h2 z hx
      exact ⟨q1, .inl (by rcases q2 with q | q <;> simp_all)⟩
  | n + 1, x :: a, y :: b, h => by
    rw [diffP]
    by_cases e : x = y
    · obtain ⟨h1, h2, h3⟩ := diff_of n a b (by simp at h ⊢; omega)
      rw [if_pos e]
      refine ⟨by simp at h1 ⊢; omega, fun z hx => ?_, by simp [tot] at h3 ⊢; omega⟩
      rcases List.mem_cons.1 hx with rfl | hx
      · simp
      · obtain ⟨q1, q2⟩ := h2 z hx
        exact ⟨q1, by rcases q2 with q | q <;> simp_all⟩
    · rw [if_neg e]
      by_cases e2 : lcs a (y :: b) = lcs (x :: a) (y :: b)
      · obtain ⟨h1, h2, h3⟩ := diff_of n a (y :: b) (by simp at h ⊢; omega)
        rw [if_pos e2]
        refine ⟨by simp at h1 ⊢; omega, fun z hx => ?_, by simp [tot] at h3 ⊢; omega⟩
        rcases List.mem_cons.1 hx with rfl | hx
        · simp
        · obtain ⟨q1, q2⟩ := h2 z hx
          exact ⟨q1, by rcases q2 with q | q <;> simp_all⟩
      · obtain ⟨h1, h2, h3⟩ := diff_of n (x :: a) b (by simp at h ⊢; omega)
        rw [if_neg e2]
        refine ⟨by simp at h1 ⊢; omega, fun z hx => ?_, by simp [tot] at h3 ⊢; omega⟩
        rcases List.mem_cons.1 hx with rfl | hx
        · simp
        · obtain ⟨q1, q2⟩ := h2 z hx
          exact ⟨q1, by rcases q2 with q | q <;> simp_all⟩
end Ln
end Go.Proofs.YtpoimhkfajppmaaDoor
