/- Plain facts on the table of how many lines can be kept. -/
import Derived.Test.YtpoimhkfajppmaaDoorLPlainA
namespace Go.Proofs.YtpoimhkfajppmaaDoor
namespace Ln
/-- The cells of the table that are filled: all rows from q on, the last column, and of row q - 1 the columns from r on. -/
def Filled (a b : List (ByteArray × Bool)) (KV : List Nat) (q r : Nat) : Prop :=
  KV.length = (a.length + 1) * (b.length + 1) ∧ ∀ i j, i ≤ a.length → j ≤ b.length → (q ≤ i ∨ j = b.length ∨ (i + 1 = q ∧ r ≤ j)) → KV[i * (b.length + 1) + j]? = some (lcs (a.drop i) (b.drop j))
theorem at_lt {i j n m : Nat} (hi : i ≤ n) (hj : j ≤ m) : i * (m + 1) + j < (n + 1) * (m + 1) := by
  have : i * (m + 1) ≤ n * (m + 1) := Nat.mul_le_mul_right _ hi
  rw [Nat.add_mul]
  omega
theorem at_inj {i j i' j' m : Nat} (hj : j ≤ m) (hj' : j' ≤ m) (h : i * (m + 1) + j = i' * (m + 1) + j') : i = i' ∧ j = j' := by
  have h1 : (i * (m + 1) + j) / (m + 1) = i := by
    rw [Nat.mul_comm, Nat.mul_add_div (by omega), Nat.div_eq_of_lt (by omega)]; omega
  have h2 : (i' * (m + 1) + j') / (m + 1) = i' := by
    rw [Nat.mul_comm, Nat.mul_add_div (by omega), Nat.div_eq_of_lt (by omega)]; omega
  have e : i = i' := by rw [← h1, ← h2, h]
  subst e
  exact ⟨rfl, by omega⟩
theorem filled_start (a b : List (ByteArray × Bool)) : Filled a b (List.replicate ((a.length + 1) * (b.length + 1)) 0) a.length b.length := by
  refine ⟨by simp, fun i j hi hj h => ?_⟩
  rw [List.getElem?_replicate, if_pos (at_lt hi hj)]
  rcases h with h | h | ⟨h, h'⟩
  · rw [List.drop_eq_nil_of_le (show a.length ≤ i by omega), lcs_nil_left]
  · rw [List.drop_eq_nil_of_le (show b.length ≤ j by omega), lcs_nil_right]
  · rw [List.drop_eq_nil_of_le (show b.length ≤ j by omega), lcs_nil_right]
theorem filled_row {a b : List (ByteArray × Bool)} {KV : List Nat} {q : Nat} (h : Filled a b KV q 0) : Filled a b KV (q - 1) b.length := by
  refine ⟨h.1, fun i j hi hj c => h.2 i j hi hj ?_⟩
  rcases c with c | c | ⟨c, c'⟩
  · by_cases e : q ≤ i
    · exact .inl e
    · exact .inr (.inr ⟨by omega, Nat.zero_le _⟩)
  · exact .inr (.inl c)
  · exact .inr (.inl (by omega))
/-- The next cell, from the three beside it. -/
theorem filled_step {a b : List (ByteArray × Bool)} {KV : List Nat} {i j : Nat} (h : Filled a b KV (i + 1) (j + 1)) (hi : i < a.length) (hj : j < b.length) {v : Nat}
    (hv : v = if a[i] = b[j] then lcs (a.drop (i + 1)) (b.drop (j + 1)) + 1 else max (lcs (a.drop (i + 1)) (b.drop j)) (lcs (a.drop i) (b.drop (j + 1)))) : Filled a b (KV.set (i * (b.length + 1) + j) v) (i + 1) j := by
  refine ⟨by simpa using h.1, fun i' j' hi' hj' c => ?_⟩
  by_cases e : i * (b.length + 1) + j = i' * (b.length + 1) + j'
  · obtain ⟨rfl, rfl⟩ := at_inj (by omega) hj' e
    rw [List.getElem?_set_self (by rw [h.1]; exact at_lt (by omega) (by omega)), hv]
    congr 1
    rw [List.drop_eq_getElem_cons hi, List.drop_eq_getElem_cons hj]
    by_cases q : a[i] = b[j]
    · rw [if_pos q, q, lcs_hit]
    · rw [if_neg q, lcs_miss q]
  · rw [List.getElem?_set_ne e]
    refine h.2 i' j' hi' hj' ?_
    rcases c with c | c | ⟨c1, c2⟩
    · exact .inl c
    · exact .inr (.inl c)
    · refine .inr (.inr ⟨c1, ?_⟩)
      have : j ≠ j' := fun q => e (by rw [show i = i' by omega, q])
      omega
end Ln
end Go.Proofs.YtpoimhkfajppmaaDoor
