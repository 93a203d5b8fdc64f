/- Plain: what Read makes of arguments that stand behind others. -/
import Derived.Test.YtklcfjakhabbgaaArBkP
namespace Go.Proofs.Ytklcfjakhabbgaa
namespace Ar
theorem getD_shift (A R : List ByteArray) (a : Nat) : (A ++ R).getD (A.length + a) (bs []) = R.getD a (bs []) := by
  rw [List.getD_eq_getElem?_getD, List.getD_eq_getElem?_getD, List.getElem?_append_right (Nat.le_add_right _ _), Nat.add_sub_cancel_left]
/-- What was answered, further on. -/
def sh (m : Nat) (y : Bool × Nat × Av) : Bool × Nat × Av := (y.1, m + y.2.1, y.2.2)
theorem letters_sh (A R : List ByteArray) : ∀ (l : List UInt8) (a : Nat) (x : Av), lettersF (A ++ R) l (A.length + a) x = sh A.length (lettersF R l a x)
  | [], _, _ => rfl
  | c :: r, a, x => by
    have hl : (A.length + a + 1 < (A ++ R).length) ↔ (a + 1 < R.length) := by rw [List.length_append]; omega
    have hg : (A ++ R).getD (A.length + a + 1) (bs []) = R.getD (a + 1) (bs []) := getD_shift A R (a + 1)
    rw [lettersF, lettersF]
    by_cases h1 : 6 ≤ idxC c
    · rw [if_pos h1, if_pos h1]; rfl
    rw [if_neg h1, if_neg h1]
    by_cases h2 : idxC c < 3
    · rw [if_pos h2, if_pos h2]; exact letters_sh A R r a _
    rw [if_neg h2, if_neg h2]
    by_cases h3 : idxC c < 5 ∧ r = []
    · rw [if_pos h3, if_pos h3]
      by_cases h4 : a + 1 < R.length
      · rw [if_pos (hl.2 h4), if_pos h4, hg]; rfl
      · rw [if_neg (fun h => h4 (hl.1 h)), if_neg h4]; rfl
    · rw [if_neg h3, if_neg h3]; rfl
theorem long_sh (m : Nat) (s : List UInt8) (a : Nat) (x : Av) : longF s (m + a) x = sh m (longF s a x) := by
  unfold longF
  dsimp only
  split
  · rfl
  · split <;> rfl
theorem option_sh (A R : List ByteArray) (l : List UInt8) (a : Nat) (x : Av) : optionF (A ++ R) l (A.length + a) x = sh A.length (optionF R l a x) := by
  unfold optionF
  split
  · exact long_sh _ _ _ _
  · exact letters_sh A R l a x
theorem opts_sh (A R : List ByteArray) : ∀ (n a : Nat) (x : Av), optsF (A ++ R) n (A.length + a) x = sh A.length (optsF R n a x)
  | 0, _, _ => rfl
  | n + 1, a, x => by
    have hl : ((A ++ R).length ≤ A.length + a) ↔ (R.length ≤ a) := by rw [List.length_append]; omega
    rw [optsF, optsF]
    by_cases h1 : R.length ≤ a
    · rw [if_pos (hl.2 h1), if_pos h1]; rfl
    rw [if_neg (fun h => h1 (hl.1 h)), if_neg h1, getD_shift]
    dsimp only
    rw [option_sh]
    by_cases h2 : (R.getD a (bs [])).data.toList = [45, 45]
    · rw [if_pos h2, if_pos h2]; rfl
    rw [if_neg h2, if_neg h2]
    by_cases h3 : (R.getD a (bs [])).data.toList.head? ≠ some 45 ∨ (R.getD a (bs [])).data.toList = [45]
    · rw [if_pos h3, if_pos h3]; rfl
    rw [if_neg h3, if_neg h3]
    generalize optionF R (List.drop 1 (R.getD a (bs [])).data.toList) a x = y
    obtain ⟨b, a', x'⟩ := y
    cases b
    · rfl
    · show optsF (A ++ R) n (A.length + a' + 1) x' = sh A.length (optsF R n (a' + 1) x')
      exact opts_sh A R n (a' + 1) x'
theorem opts_fuel (L : List ByteArray) : ∀ (n n' a : Nat) (x : Av), L.length ≤ a + n → L.length ≤ a + n' → optsF L n a x = optsF L n' a x
  | 0, 0, _, _, _, _ => rfl
  | 0, n' + 1, a, x, h, _ => by rw [optsF, optsF, if_pos (by omega)]
  | n + 1, 0, a, x, _, h => by rw [optsF, optsF, if_pos (by omega)]
  | n + 1, n' + 1, a, x, h, h' => by
    rw [optsF, optsF]
    split
    · rfl
    · rename_i h1
      dsimp only
      split
      · rfl
      · split
        · rfl
        · have hf := option_fine L (List.drop 1 (L.getD a (bs [])).data.toList) a x (by omega)
          generalize optionF L (List.drop 1 (L.getD a (bs [])).data.toList) a x = y at *
          split
          · exact opts_fuel L n n' _ _ (by have := hf.1; omega) (by have := hf.1; omega)
          · rfl
theorem oper_sh (A R : List ByteArray) (a : Nat) (x : Av) : operF (A ++ R) (A.length + a) x = sh A.length (operF R a x) := by
  have hl : (A.length + a < (A ++ R).length) ↔ (a < R.length) := by rw [List.length_append]; omega
  have hd : ∀ k, (A ++ R).drop (A.length + k) = R.drop k := fun k => by rw [List.drop_append, List.drop_eq_nil_of_le (Nat.le_add_right _ _), List.nil_append, Nat.add_sub_cancel_left]
  unfold operF
  by_cases h1 : x.sc = []
  · rw [if_pos h1, if_pos h1]
    by_cases h2 : a < R.length
    · rw [if_pos (hl.2 h2), if_pos h2, getD_shift, show A.length + a + 1 = A.length + (a + 1) by omega, hd]; rfl
    · rw [if_neg (fun h => h2 (hl.1 h)), if_neg h2]; rfl
  · rw [if_neg h1, if_neg h1, hd]; rfl
/-- What Read answers behind m arguments that came to x. -/
def rdB (R : List ByteArray) (x : Av) (m : Nat) : Av × Int × Nat :=
  let y := optsF R R.length 0 x
  if y.1 then
    let z := operF R y.2.1 y.2.2
    if z.1 then (z.2.2, 0, 0) else (av0', 260, m + z.2.1)
  else (av0', 260, m + y.2.1)
theorem read_behind {A R : List ByteArray} {x : Av} (h : A.length + R.length ≤ 65536) (hg : Goes (A ++ R) 0 av0' A.length x) : readF (A ++ R) = rdB R x A.length := by
  obtain ⟨n', hn, e⟩ := hg (A ++ R).length (by omega)
  have e2 : optsF (A ++ R) n' A.length x = sh A.length (optsF R R.length 0 x) := by
    rw [show optsF (A ++ R) n' A.length x = optsF (A ++ R) n' (A.length + 0) x from rfl, opts_sh, opts_fuel R n' R.length 0 x (by rw [List.length_append] at hn; omega) (by omega)]
  unfold readF rdB
  rw [if_neg (by rw [List.length_append]; omega), e, e2]
  dsimp only
  generalize optsF R R.length 0 x = y
  obtain ⟨b, a, x'⟩ := y
  cases b
  · rfl
  · show (if (operF (A ++ R) (A.length + a) x').1 = true then ((operF (A ++ R) (A.length + a) x').2.2, (0 : Int), 0) else (av0', 260, (operF (A ++ R) (A.length + a) x').2.1)) = _
    rw [oper_sh]
    rfl
/-- It hangs on the number ahead by the place of the fault alone. -/
theorem rdB_at (R : List ByteArray) (x : Av) (m : Nat) : (rdB R x m).1 = (rdB R x 0).1 ∧ (rdB R x m).2.1 = (rdB R x 0).2.1 ∧ ((rdB R x m).2.1 = 0 → (rdB R x m).2.2 = 0) ∧ ((rdB R x m).2.1 ≠ 0 → (rdB R x m).2.2 = m + (rdB R x 0).2.2) := by
  unfold rdB
  dsimp only
  generalize optsF R R.length 0 x = y
  obtain ⟨b, a, x'⟩ := y
  cases b
  · simp
  · simp only [if_true]
    generalize operF R a x' = z
    obtain ⟨b2, a2, x2⟩ := z
    cases b2 <;> simp
end Ar
end Go.Proofs.Ytklcfjakhabbgaa
