/- What stands in a code, plain: kinds that there are, places and slots within bounds. -/
import Derived.Test.YtdiokclbdaojpaaDoorNfM1
import Derived.Test.YtdiokclbdaojpaaDoorNfM3
namespace Go.Proofs.YtdiokclbdaojpaaDoor
namespace Nt
/-- An instruction of a kind that there is, its place and slot within bounds. -/
structure Ok (M S : Nat) (x : Ins) : Prop where
  k1 : 1 ≤ x.k
  k2 : x.k ≤ 12
  t1 : 0 ≤ x.to
  t2 : x.to ≤ (M : Int)
  s1 : 0 ≤ x.sl
  s2 : x.sl ≤ (S : Int)
theorem ok_split {M S t : Nat} (h : t ≤ M) : Ok M S (iSplit t) := ⟨(show 1 ≤ 2 by decide), (show 2 ≤ 12 by decide), by show (0 : Int) ≤ (t : Int); omega, by show (t : Int) ≤ (M : Int); omega, by show (0 : Int) ≤ 0; omega, by show (0 : Int) ≤ (S : Int); omega⟩
theorem ok_jump {M S t : Nat} (h : t ≤ M) : Ok M S (iJump t) := ⟨(show 1 ≤ 3 by decide), (show 3 ≤ 12 by decide), by show (0 : Int) ≤ (t : Int); omega, by show (t : Int) ≤ (M : Int); omega, by show (0 : Int) ≤ 0; omega, by show (0 : Int) ≤ (S : Int); omega⟩
theorem ok_mark {M S n : Nat} (h : n ≤ S) : Ok M S (iMark n) := ⟨(show 1 ≤ 7 by decide), (show 7 ≤ 12 by decide), by show (0 : Int) ≤ 0; omega, by show (0 : Int) ≤ (M : Int); omega, by show (0 : Int) ≤ (n : Int); omega, by show (n : Int) ≤ (S : Int); omega⟩
theorem ok_moved {M S n : Nat} (h : n ≤ S) : Ok M S (iMoved n) := ⟨(show 1 ≤ 8 by decide), (show 8 ≤ 12 by decide), by show (0 : Int) ≤ 0; omega, by show (0 : Int) ≤ (M : Int); omega, by show (0 : Int) ≤ (n : Int); omega, by show (n : Int) ≤ (S : Int); omega⟩
theorem ok_plain {M S k : Nat} {s : Nat → Bool} {g l : Int} (h1 : 1 ≤ k) (h2 : k ≤ 12) : Ok M S ⟨k, s, 0, g, l, 0⟩ := ⟨h1, h2, by show (0 : Int) ≤ 0; omega, by show (0 : Int) ≤ (M : Int); omega, by show (0 : Int) ≤ 0; omega, by show (0 : Int) ≤ (S : Int); omega⟩
theorem codeL_ok (M S : Nat) (l : List NT) (C : Nat) (hl : ∀ x ∈ l, cnt x ≤ C) (ih : ∀ x ∈ l, ∀ p f, p + sz x ≤ M → f + cnt x ≤ S → ∀ y ∈ code x p f, Ok M S y) : ∀ p f, p + sz.szL l ≤ M → f + C ≤ S → ∀ y ∈ codeL l p f, Ok M S y := by
  induction l with
  | nil => intro p f _ _ y hy; rw [codeL] at hy; cases hy
  | cons x l ihl =>
    intro p f h1 h2 y hy
    rw [sz.szL] at h1
    rw [codeL] at hy
    rcases List.mem_append.1 hy with h | h
    · exact ih x (by simp) p f (by omega) (by have := hl x (by simp); omega) y h
    · exact ihl (fun z hz => hl z (by simp [hz])) (fun z hz => ih z (by simp [hz])) (p + sz x) f (by omega) h2 y h
theorem altL_ok (M S : Nat) (l : List NT) (C : Nat) (hl : ∀ x ∈ l, cnt x ≤ C) (ih : ∀ x ∈ l, ∀ p f, p + sz x ≤ M → f + cnt x ≤ S → ∀ y ∈ code x p f, Ok M S y) : ∀ p fin f, p + (sz.szL l + 2 * (l.length - 1)) ≤ M → fin ≤ M → f + C ≤ S → ∀ y ∈ altL l p fin f, Ok M S y := by
  induction l with
  | nil => intro p fin f _ _ _ y hy; rw [altL] at hy; cases hy
  | cons x l ihl =>
    intro p fin f h1 hf h2 y hy
    rw [sz.szL] at h1
    rw [altL] at hy
    cases l with
    | nil =>
      simp only [List.isEmpty_nil, if_true] at hy
      exact ih x (by simp) p f (by simp [sz.szL] at h1; omega) (by have := hl x (by simp); omega) y hy
    | cons z l =>
      simp only [List.isEmpty_cons, Bool.false_eq_true, if_false, List.length_cons] at hy h1
      rcases List.mem_append.1 hy with h | h
      · rcases List.mem_cons.1 h with rfl | h
        · exact ok_split (by omega)
        · exact ih x (by simp) (p + 1) f (by omega) (by have := hl x (by simp); omega) y h
      · rcases List.mem_cons.1 h with rfl | h
        · exact ok_jump hf
        · exact ihl (fun u hu => hl u (by simp [hu])) (fun u hu => ih u (by simp [hu])) (p + sz x + 2) fin f (by simp; omega) hf h2 y h
theorem rndC_ok (M S : Nat) (g : Bool) (lo hi : Int) (C : Nat → Nat → List Ins) (n D : Nat) (hC : ∀ p f, p + n ≤ M → f + D ≤ S → ∀ y ∈ C p f, Ok M S y) (p f : Nat) (h1 : p + (if g then n + 1 else n) ≤ M) (h2 : f + D ≤ S) : ∀ y ∈ rndC g lo hi C p f, Ok M S y := by
  intro y hy
  unfold rndC at hy
  cases g
  · simp only [Bool.false_eq_true, if_false] at hy h1
    exact hC p f h1 h2 y hy
  · simp only [if_true] at hy h1
    rcases List.mem_cons.1 hy with rfl | h
    · exact ok_plain (by decide) (by decide)
    · exact hC (p + 1) f (by omega) h2 y h
theorem code_ok (M S : Nat) (T : NT) : ∀ p f, p + sz T ≤ M → f + cnt T ≤ S → ∀ y ∈ code T p f, Ok M S y := by
  induction T using NT.ind with
  | h T ih =>
    intro p f h1 h2
    have ihm : ∀ x ∈ T.kids, ∀ p f, p + sz x ≤ M → f + cnt x ≤ S → ∀ y ∈ code x p f, Ok M S y := fun x hx => by
      obtain ⟨i, hi, rfl⟩ := List.getElem_of_mem hx
      exact ih i hi
    have hcl : ∀ x ∈ T.kids, cnt x ≤ cnt T - 1 := fun x hx => by
      obtain ⟨i, hi, rfl⟩ := List.getElem_of_mem hx
      have := cntL_kid hi
      omega
    have hc1 : 1 ≤ cnt T := by rw [cnt, kinds_eq]; simp
    have hl := codeL_ok M S T.kids (cnt T - 1) hcl ihm
    have hz := sz_eq T
    unfold szN at hz
    rw [code_eq]
    by_cases k2 : T.k = 2
    · simp only [k2]; intro y hy; rw [List.mem_singleton.1 hy]; exact ok_plain (by decide) (by decide)
    by_cases k7 : T.k = 7
    · simp only [k7]; intro y hy; rw [List.mem_singleton.1 hy]; exact ok_plain (by decide) (by decide)
    by_cases k8 : T.k = 8
    · simp only [k8]; intro y hy; rw [List.mem_singleton.1 hy]; exact ok_plain (by decide) (by decide)
    by_cases k9 : T.k = 9
    · simp only [k9]; intro y hy; rw [List.mem_singleton.1 hy]; exact ok_plain (by decide) (by decide)
    by_cases k6 : T.k = 6
    · simp only [k6]
      simp [k6] at hz
      intro y hy
      rcases List.mem_append.1 hy with h | h
      · rcases List.mem_cons.1 h with rfl | h
        · exact ok_plain (by decide) (by decide)
        · exact hl (p + 1) f (by omega) (by omega) y h
      · rw [List.mem_singleton.1 h]; exact ok_plain (by decide) (by decide)
    by_cases k4 : T.k = 4
    · simp [k4] at hz
      have := altL_ok M S T.kids (cnt T - 1) hcl ihm p (p + sz T) f (by omega) h1 (by omega)
      simp only [k4]
      exact this
    by_cases k5 : T.k = 5
    · have hr := rndC_ok M (S) (decide (0 < grps.grpsL T.kids)) (glo T) (ghi T) (codeL T.kids) (sz.szL T.kids) (cnt T - 1) hl
      have hz2 : sz T = rndN T.mn T.mx (if decide (0 < grps.grpsL T.kids) then sz.szL T.kids + 1 else sz.szL T.kids) := by rw [hz, k5]; rfl
      simp only [k5]
      show ∀ y ∈ repC _ _ _ _ _ _ _, _
      clear hz
      generalize (if decide (0 < grps.grpsL T.kids) then sz.szL T.kids + 1 else sz.szL T.kids) = r at *
      unfold rndN at hz2
      intro y hy
      unfold repC at hy
      have hr' : ∀ p f, p + r ≤ M → f + (cnt T - 1) ≤ S → ∀ y ∈ rndC (decide (0 < grps.grpsL T.kids)) (glo T) (ghi T) (codeL T.kids) p f, Ok M S y := hr
      rcases List.mem_append.1 hy with h | h
      · have hm : p + T.mn.toNat * r ≤ M := by
          split at hz2 <;> omega
        clear hy
        have key : ∀ n p, p + n * r ≤ M → ∀ y ∈ mustC n r (rndC (decide (0 < grps.grpsL T.kids)) (glo T) (ghi T) (codeL T.kids)) p f, Ok M S y := by
          intro n
          induction n with
          | zero => intro p _ y hy; rw [mustC] at hy; cases hy
          | succ n ihn =>
            intro p h1 y hy
            rw [Nat.succ_mul] at h1
            rw [mustC] at hy
            rcases List.mem_append.1 hy with h | h
            · exact hr' p f (by omega) (by omega) y h
            · exact ihn (p + r) (by omega) y h
        exact key _ p hm y h
      · cases hm : (T.mx == -1)
        · rw [hm] at h hz2
          simp only [Bool.false_eq_true, if_false] at h hz2
          have key2 : ∀ n q, q + n * (r + 3) ≤ M → ∀ y ∈ mayC n r (p + sz T) (rndC (decide (0 < grps.grpsL T.kids)) (glo T) (ghi T) (codeL T.kids)) q f, Ok M S y := by
            intro n
            induction n with
            | zero => intro q _ y hy; rw [mayC] at hy; cases hy
            | succ n ihn =>
              intro q h1' y hy
              rw [Nat.succ_mul] at h1'
              rw [mayC] at hy
              rcases List.mem_append.1 hy with h | h
              · rcases List.mem_append.1 h with h | h
                · rcases List.mem_cons.1 h with rfl | h
                  · exact ok_split h1
                  · rcases List.mem_cons.1 h with rfl | h
                    · exact ok_mark (by omega)
                    · exact hr' (q + 2) (f + 1) (by omega) (by omega) y h
                · rw [List.mem_singleton.1 h]; exact ok_moved (by omega)
              · exact ihn (q + (r + 3)) (by omega) y h
          exact key2 _ _ (by omega) y h
        · rw [hm] at h hz2
          simp only [if_true] at h hz2
          rcases List.mem_append.1 h with h | h
          · rcases List.mem_cons.1 h with rfl | h
            · exact ok_split h1
            · rcases List.mem_cons.1 h with rfl | h
              · exact ok_mark (by omega)
              · exact hr' _ (f + 1) (by omega) (by omega) y h
          · rcases List.mem_cons.1 h with rfl | h
            · exact ok_moved (by omega)
            · rw [List.mem_singleton.1 h]; exact ok_jump (by omega)
    simp [k2, k7, k8, k9, k6, k4, k5] at hz ⊢
    exact hl p f (by omega) (by omega)
end Nt
end Go.Proofs.YtdiokclbdaojpaaDoor
