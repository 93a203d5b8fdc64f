/- Plain facts on quoted texts: what is written is read as it was. -/
import Derived.Test.YtmbpebdceaihaacDoorLUnq
import Derived.Test.YtmbpebdceaihaacDoorLQuote
import Derived.Test.YtmbpebdceaihaacDoorLBytes
namespace Go.Proofs.YtmbpebdceaihaacDoor
namespace Ln

theorem untold_let : ∀ b : UInt8, b ≠ 92 → letB b ≠ 0 → UInt8.ofNat (letB b) ≠ 92 ∧ letF (UInt8.ofNat (letB b)) 14 < 14 ∧ UInt8.ofNat (letF (UInt8.ofNat (letB b)) 14) = b := all_bytes (by decide +kernel)
theorem untold_oct0 : ∀ b : UInt8, b ≠ 92 → letB b = 0 → octB b.toNat b.toNat = true → (48 + b / 64 ≠ 92 ∧ ¬ letF (48 + b / 64) 14 < 14) ∧ octGo 3 64 0 [48 + b / 64, 48 + b / 8 % 8, 48 + b % 8] 0 = (b, 3, true) := all_bytes (by decide +kernel)
theorem untold_plain : ∀ b : UInt8, b ≠ 92 → letB b = 0 → octB b.toNat b.toNat = false → 32 ≤ b.toNat ∧ b.toNat < 127 := all_bytes (by decide +kernel)
theorem octGo_rest : ∀ (f rest v : Nat) (l r : List UInt8) (off d : Nat), f ≤ l.length → octGo f rest v (l ++ r) (off + d) = ((octGo f rest v l off).1, (octGo f rest v l off).2.1 + d, (octGo f rest v l off).2.2)
  | 0, _, _, _, _, _, _, _ => rfl
  | f + 1, _, _, [], _, _, _, h => absurd h (by simp)
  | f + 1, rest, v, c :: l, r, off, d, h => by
    rw [List.cons_append, octGo, octGo]
    split
    · rfl
    · split
      · rfl
      · have := octGo_rest f (rest / 8) (v * 8 + (c.toNat - 48)) l r (off + 1) d (by simpa using h)
        rw [show off + d + 1 = off + 1 + d by omega, this]
/-- A told byte is read as it was, whatever stands behind it. -/
theorem untold (b : UInt8) (rest : List UInt8) (off : Nat) : untP (toldL b ++ rest) off = (b, off + (toldL b).length, true) := by
  by_cases h1 : b = 92
  · subst h1
    have e : toldL 92 = [92, 92] := by decide
    rw [e]; rfl
  have h1' : ((b.toNat : Int) == 92) = false := by
    rw [beq_eq_false_iff_ne]; intro e; apply h1; rw [← UInt8.toNat_inj]; simp; omega
  by_cases h2 : letB b = 0
  · cases h3 : octB b.toNat b.toNat
    · obtain ⟨p1, p2⟩ := untold_plain b h1 h2 h3
      rw [told_plain h1' h2 h3, List.singleton_append, unt_plain h1, plainP, if_neg (by omega)]
      rfl
    · obtain ⟨⟨p1, p2⟩, p3⟩ := untold_oct0 b h1 h2 h3
      rw [told_oct h1' h2 h3]
      rw [show [92, 48 + b / 64, 48 + b / 8 % 8, 48 + b % 8] ++ rest = 92 :: (48 + b / 64) :: ([48 + b / 8 % 8, 48 + b % 8] ++ rest) from rfl, unt_oct p1 p2, octP]
      have := octGo_rest 3 64 0 [48 + b / 64, 48 + b / 8 % 8, 48 + b % 8] rest 0 (off + 1) (by simp)
      rw [p3, Nat.zero_add] at this
      rw [show (48 + b / 64) :: ([48 + b / 8 % 8, 48 + b % 8] ++ rest) = [48 + b / 64, 48 + b / 8 % 8, 48 + b % 8] ++ rest from rfl, this]
      simp
      omega
  · obtain ⟨p1, p2, p3⟩ := untold_let b h1 h2
    rw [told_let h1' h2]
    rw [show [92, UInt8.ofNat (letB b)] ++ rest = 92 :: UInt8.ofNat (letB b) :: rest from rfl, unt_let p1 p2, p3]
    rfl

theorem told_first : ∀ b : UInt8, (toldL b).head? ≠ some 10 ∧ (toldL b ≠ [36] → (toldL b).head? ≠ some 36) ∧ ((toldL b).head? = some 92 → (toldL b)[1]? ≠ some 10 ∧ (toldL b)[1]? ≠ some 34 ∧ 2 ≤ (toldL b).length) ∧ (b ≠ 34 → (toldL b).head? ≠ some 34) := all_bytes (by decide +kernel)
theorem told_print : ∀ b : UInt8, (toldL b).all (fun c => 32 ≤ c.toNat && c.toNat ≤ 126) = true := all_bytes (by decide +kernel)
theorem told_ne (b : UInt8) : toldL b ≠ [] := fun e => by have := told_len b; rw [e] at this; simp at this

theorem head_app {a b : List UInt8} (h : a ≠ []) : (a ++ b).head? = a.head? := by
  cases a with
  | nil => exact absurd rfl h
  | cons x r => rfl
theorem beg_told92 {b : UInt8} {rest : List UInt8} {c : UInt8} (hc : c = 10 ∨ c = 34) : begL (toldL b ++ rest) 92 c = false := by
  obtain ⟨h1, h2, h3, _⟩ := told_first b
  cases ht : toldL b with
  | nil => exact absurd ht (told_ne b)
  | cons x t =>
    by_cases hx : x = 92
    · rw [ht, hx] at h3
      obtain ⟨p1, p2, p3⟩ := h3 rfl
      cases t with
      | nil => simp at p3
      | cons y r =>
        rw [List.cons_append, List.cons_append, beg_two]
        have : y ≠ c := fun q => by
          subst q
          simp at p1 p2
          rcases hc with h | h
          · exact p1 h
          · exact p2 h
        simp [this]
    · cases hr : t ++ rest with
      | nil => rw [List.cons_append, hr]; rfl
      | cons y r => rw [List.cons_append, hr, beg_two]; simp [hx]

theorem drop_pre (P l : List UInt8) : (P ++ l).drop P.length = l := by simp
/-- What is quoted is read as it was, whatever stands behind it. -/
theorem unq_tail (t : List UInt8) : ∀ (l P : List UInt8) (f : Nat) (out : List UInt8), l.length < f → unqGo (P ++ (l.flatMap qL ++ 34 :: t)) f P.length out = (out ++ l, (P ++ l.flatMap qL).length + 1, 0, 0)
  | [], P, f + 1, out, _ => by
    rw [unq_end (by rw [drop_pre]; rfl)]; simp
  | b :: r, P, f + 1, out, hf => by
    simp only [List.length_cons] at hf
    have e : (b :: r).flatMap qL ++ 34 :: t = qL b ++ (r.flatMap qL ++ 34 :: t) := by simp
    rw [e]
    by_cases hb : b = 34
    · have e2 : qL b = [92, 34] := by rw [qL, if_pos hb]
      rw [e2, unq_quote (by rw [drop_pre]; simp) (by rw [drop_pre]; rfl)]
      rw [show P ++ ([92, 34] ++ (r.flatMap qL ++ 34 :: t)) = (P ++ [92, 34]) ++ (r.flatMap qL ++ 34 :: t) by simp, show P.length + 2 = (P ++ [92, 34]).length by simp, unq_tail t r _ f _ (by omega)]
      subst hb
      simp [e2]
    · have e2 : qL b = toldL b := by rw [qL, if_neg hb]
      have hu := untold b (r.flatMap qL ++ 34 :: t) P.length
      have h34 : ¬ (toldL b ++ (r.flatMap qL ++ 34 :: t)).head? = some 34 := by
        rw [head_app (told_ne b)]; exact (told_first b).2.2.2 hb
      rw [e2, unq_on (by rw [drop_pre]; exact h34) (by rw [drop_pre]; exact beg_told92 (.inr rfl)) (by rw [drop_pre, hu])]
      rw [drop_pre, hu]
      simp only
      rw [← List.append_assoc, ← List.length_append, unq_tail t r _ f _ (by omega)]
      simp [e2]
theorem qL_pos (b : UInt8) : 1 ≤ (qL b).length := by
  unfold qL; split
  · simp
  · exact (told_len b).1
theorem qLs_len : ∀ l : List UInt8, l.length ≤ (l.flatMap qL).length
  | [] => by simp
  | b :: r => by have := qLs_len r; have := qL_pos b; simp only [List.flatMap_cons, List.length_append, List.length_cons]; omega
theorem unq_quoted (s t : ByteArray) : unqP (quoP s ++ t) = (s.data.toList, (quoP s).size, 0, 0) := by
  have e : (quoP s ++ t).data.toList = [34] ++ (s.data.toList.flatMap qL ++ 34 :: t.data.toList) := by
    simp [quoP, quoS, bs]
  have hz : (quoP s).size = (s.data.toList.flatMap qL).length + 2 := by
    rw [← szL]; simp [quoP, quoS, bs]
  have hz2 : (quoP s ++ t).size = (s.data.toList.flatMap qL).length + 2 + t.size := by simp [hz]
  have hl := qLs_len s.data.toList
  rw [unqP, if_pos (by rw [e]; rfl), e, show (1 : Nat) = ([34] : List UInt8).length from rfl, unq_tail t.data.toList s.data.toList [34] _ [] (by omega), hz]
  simp
end Ln
end Go.Proofs.YtmbpebdceaihaacDoor
