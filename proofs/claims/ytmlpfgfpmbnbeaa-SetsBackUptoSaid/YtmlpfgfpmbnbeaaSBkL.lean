/- A bracket expression is read the same, whatever stands behind it. -/
import Derived.Test.YtmlpfgfpmbnbeaaSBkP
namespace Go.Proofs.Ytmlpfgfpmbnbeaa
namespace St

theorem bt_list (s : ByteArray) (j : Nat) : bt s j = ((s.data.toList[j]?).map UInt8.toNat).getD 256 := by
  have := bt_at (s := s) (pre := []) (L := s.data.toList) rfl j
  simpa using this
/-- The two texts have the same first n bytes. -/
def Ag (s X : ByteArray) (n : Nat) : Prop := n ≤ s.size ∧ n ≤ X.size ∧ X.data.toList.take n = s.data.toList.take n
theorem Ag.bt {s X : ByteArray} {n j : Nat} (h : Ag s X n) (hj : j < n) : bt X j = bt s j := by
  rw [bt_list, bt_list, ← List.getElem?_take_of_lt hj, h.2.2, List.getElem?_take_of_lt hj]
theorem Ag.cut {s X : ByteArray} {n a b : Nat} (h : Ag s X n) (hb : b ≤ n) : cutL X a b = cutL s a b := by
  unfold cutL
  rw [← List.drop_take, ← List.drop_take]
  have e : ∀ l : List UInt8, l.take b = (l.take n).take b := fun l => by rw [List.take_take, Nat.min_eq_left hb]
  rw [e X.data.toList, e s.data.toList, h.2.2]
theorem Ag.pre2 {s X : ByteArray} {m k a b : Nat} (h : Ag s X (m + 1)) (h93 : St.bt s m = 93) (hk : k ≤ m) (ha : a ≠ 93) : St.pre2 X k a b = St.pre2 s k a b := by
  unfold St.pre2
  rw [h.bt (show k < m + 1 by omega)]
  by_cases e : k = m
  · subst e
    rw [h93]
    have : ((93 : Nat) == a) = false := by simpa using fun h => ha h.symm
    rw [this]; rfl
  · rw [h.bt (show k + 1 < m + 1 by omega)]
theorem Ag.pre1 {s X : ByteArray} {m k a : Nat} (h : Ag s X (m + 1)) (hk : k ≤ m) : St.pre1 X k a = St.pre1 s k a := by
  unfold St.pre1
  rw [h.bt (show k < m + 1 by omega)]
theorem Ag.one {s X : ByteArray} {m i : Nat} (h : Ag s X (m + 1)) (hi : oneOk s i = true) (hm : oneN s i ≤ m) : oneOk X i = true ∧ oneC X i = oneC s i ∧ oneN X i = oneN s i := by
  have h5 := (one_yes hi).2
  have hX : oneOk X i = true := by
    have hi' := hi
    unfold oneOk at hi' ⊢
    rw [h.bt (show i + 3 < m + 1 by omega), h.bt (show i + 1 < m + 1 by omega), h.bt (show i + 4 < m + 1 by omega)]
    rw [Bool.and_eq_true] at hi'
    rw [hi'.2, Bool.and_true, decide_eq_true_iff]
    have := h.2.1
    omega
  refine ⟨hX, ?_, ?_⟩
  · rw [(one_yes hi).1, (one_yes hX).1, h.bt (show i + 2 < m + 1 by omega)]
  · rw [(one_yes hi).2, (one_yes hX).2]
theorem Ag.elem {s X : ByteArray} {m i : Nat} (h : Ag s X (m + 1)) (h93 : St.bt s m = 93) (hi : i ≤ m) (hok : (elemP s i).2.2 = true) (hm : (elemP s i).2.1 ≤ m) : elemP X i = elemP s i := by
  revert hok hm
  unfold elemP
  rw [h.bt (show i < m + 1 by omega), h.pre2 h93 hi (by decide), h.pre2 h93 hi (by decide), h.pre2 h93 hi (by decide), h.pre2 h93 hi (by decide)]
  split
  · intro _ _; rfl
  split
  · intro _ _; rfl
  split
  · intro h1 h2
    obtain ⟨x1, x2, x3⟩ := h.one h1 h2
    have h1 : oneOk s i = true := h1
    rw [x1, x2, x3, h1]
  split
  · intro _ _; rfl
  · intro _ _; rfl
theorem Ag.itemP {s X : ByteArray} {m i : Nat} (h : Ag s X (m + 1)) (h93 : St.bt s m = 93) (hi : i ≤ m) (hok : (itemP s i).2.2 = true) (hm : (itemP s i).2.1 ≤ m) : St.itemP X i = St.itemP s i := by
  revert hok hm
  unfold St.itemP
  rw [h.pre2 h93 hi (by decide)]
  split
  · intro h1 h2
    obtain ⟨x1, x2, x3⟩ := h.one h1 h2
    have h1 : oneOk s i = true := h1
    rw [x1, x2, x3, h1]
  cases he : (elemP s i).2.2
  · intro h1 _
    simp only [Bool.not_false, Bool.true_or, if_true] at h1
    cases h1
  have key : (elemP s i).2.1 ≤ m → elemP X i = elemP s i := fun h1 => h.elem h93 hi he h1
  cases hq : (!St.pre1 s (elemP s i).2.1 45 || St.pre2 s (elemP s i).2.1 45 93)
  · simp only [Bool.not_true, Bool.false_or, Bool.false_eq_true, if_false]
    cases he2 : (elemP s ((elemP s i).2.1 + 1)).2.2
    · intro h1 _
      simp only [Bool.not_false, Bool.true_or, if_true] at h1
      cases h1
    · cases hd : decide ((elemP s ((elemP s i).2.1 + 1)).1 < (elemP s i).1)
      · simp only [Bool.not_true, Bool.false_or, Bool.false_eq_true, if_false]
        intro _ h2
        have hmore := elem_more s _ he2
        have e1 := key (by omega)
        have e2 := h.elem h93 (show (elemP s i).2.1 + 1 ≤ m by omega) he2 h2
        rw [e1, e2, he, he2, hd, h.pre1 (show (elemP s i).2.1 ≤ m by omega), h.pre2 h93 (show (elemP s i).2.1 ≤ m by omega) (by decide), hq]
        simp
      · intro h1 _
        simp only [Bool.not_true, Bool.false_or, if_true] at h1
        cases h1
  · simp only [Bool.not_true, Bool.false_or, if_true]
    intro _ h2
    have e1 := key h2
    rw [e1, he, h.pre1 h2, h.pre2 h93 h2 (by decide), hq]
    simp
theorem endC_is {s : ByteArray} : ∀ {f k m : Nat}, k ≤ m → m < k + f → pre2 s m 58 93 = true → (∀ j, k ≤ j → j < m → pre2 s j 58 93 = false) → endC s f k = some m
  | 0, k, m, h1, h2, _, _ => by omega
  | f + 1, k, m, h1, h2, h3, h4 => by
    rw [endC]
    by_cases e : k = m
    · subst e
      rw [if_pos h3]
    · rw [if_neg (by rw [h4 k (Nat.le_refl _) (by omega)]; decide)]
      exact endC_is (by omega) (by omega) h3 (fun j a b => h4 j (by omega) b)
theorem Ag.item {s X : ByteArray} {m i : Nat} (h : Ag s X (m + 1)) (h93 : St.bt s m = 93) (hi : i ≤ m) (hok : (itemA s i).2.2 = true) (hm : (itemA s i).2.1 ≤ m) : itemA X i = itemA s i := by
  revert hok hm
  unfold itemA
  rw [h.pre2 h93 hi (by decide)]
  split
  · unfold clsI
    cases he : endC s s.size (i + 2) with
    | none => intro h; cases h
    | some k =>
      have h1 := endC_some he
      simp only
      cases hc : clsB (cutL s (i + 2) k)
      · intro h; cases h
      · intro _ hm
        have hm : k + 2 ≤ m := hm
        have hX : endC X X.size (i + 2) = some k := by
          refine endC_is h1.1 ?_ ?_ ?_
          · have := h.2.1
            omega
          · rw [h.pre2 h93 (by omega) (by decide)]; exact h1.2.1
          · intro j a b
            rw [h.pre2 h93 (by omega) (by decide)]; exact h1.2.2 j a b
        rw [hX]
        simp only
        rw [h.cut (show k ≤ m + 1 by omega), hc]
        simp
  · exact h.itemP h93 hi
/-- Where a bracket expression that is one ends. -/
theorem brGo_at {s : ByteArray} {none : Bool} : ∀ {f k : Nat} {first : Bool} {acc b : Nat → Bool} {n : Nat}, k ≤ s.size → brGo (itemA s) s none f k first acc = (b, n, 0, 0) → k < n ∧ n ≤ s.size ∧ bt s (n - 1) = 93 ∧ (first = true → k + 1 < n)
  | 0, k, first, acc, b, n, _, h => by
    rw [brGo] at h
    injection h with _ h; injection h with _ h; injection h with h _; cases h
  | f + 1, k, first, acc, b, n, hk, h => by
    cases hc : (first || (decide (k < s.size) && !(bt s k == 93)))
    · by_cases e : k = s.size
      · rw [brGo_end hc e] at h
        injection h with _ h; injection h with _ h; injection h with h _; cases h
      · rw [brGo_ok hc e] at h
        injection h with _ h; injection h with h _
        subst h
        rw [Bool.or_eq_false_iff, decide_eq_true (show k < s.size by omega)] at hc
        refine ⟨by omega, by omega, ?_, fun h => ?_⟩
        · have := hc.2
          simpa using this
        · rw [h] at hc; cases hc.1
    · cases hi : (itemA s k).2.2
      · rw [brGo_bad hc hi] at h
        injection h with _ h; injection h with _ h; injection h with h _; cases h
      · rw [brGo_go hc hi] at h
        have h1 := itemA_ok hi
        have h2 := brGo_at h1.2 h
        exact ⟨by omega, h2.2.1, h2.2.2.1, fun _ => by omega⟩
theorem brGo_same {s X : ByteArray} {none : Bool} {n : Nat} (hA : Ag s X n) : ∀ {f k f' : Nat} {first : Bool} {acc b : Nat → Bool}, k ≤ s.size → X.size < k + f' → brGo (itemA s) s none f k first acc = (b, n, 0, 0) → brGo (itemA X) X none f' k first acc = (b, n, 0, 0)
  | 0, k, f', first, acc, b, _, _, h => by
    rw [brGo] at h
    injection h with _ h; injection h with _ h; injection h with h _; cases h
  | f + 1, k, f', first, acc, b, hk, hf, h => by
    have hat := brGo_at hk h
    have hX := hA.2.1
    obtain ⟨g, rfl⟩ : ∃ g, f' = g + 1 := ⟨f' - 1, by omega⟩
    obtain ⟨m, rfl⟩ : ∃ m, n = m + 1 := ⟨n - 1, by omega⟩
    have h93 : bt s m = 93 := hat.2.2.1
    have hcc : (first || (decide (k < X.size) && !(bt X k == 93))) = (first || (decide (k < s.size) && !(bt s k == 93))) := by
      rw [hA.bt hat.1, decide_eq_true (show k < X.size by omega), decide_eq_true (show k < s.size by omega)]
    cases hc : (first || (decide (k < s.size) && !(bt s k == 93)))
    · rw [hc] at hcc
      rw [brGo_ok hc (by omega)] at h
      rw [brGo_ok hcc (by omega)]
      exact h
    · rw [hc] at hcc
      cases hi : (itemA s k).2.2
      · rw [brGo_bad hc hi] at h
        injection h with _ h; injection h with _ h; injection h with h _; cases h
      · rw [brGo_go hc hi] at h
        have h1 := itemA_ok hi
        have h2 := brGo_at h1.2 h
        have e := hA.item h93 (show k ≤ m by omega) hi (by omega)
        rw [brGo_go hcc (by rw [e]; exact hi), e]
        exact brGo_same hA h1.2 (by omega) h
theorem brP_at {s : ByteArray} {b : Nat → Bool} {n : Nat} (h : brP (itemA s) s = (b, n, 0, 0)) : 2 ≤ n ∧ n ≤ s.size ∧ bt s (n - 1) = 93 := by
  unfold brP at h
  have hk : (if pre1 s 0 94 then 1 else 0) ≤ s.size := by
    split
    · rename_i hp
      rw [pre1_of] at hp
      have := (bt_lt_iff (s := s) (k := 0)).1 (by rw [eq_of_beq hp]; decide)
      omega
    · omega
  have := brGo_at hk h
  have h2 := this.2.2.2 rfl
  exact ⟨by omega, this.2.1, this.2.2.1⟩
theorem brP_same {s X : ByteArray} {b : Nat → Bool} {n : Nat} (h : brP (itemA s) s = (b, n, 0, 0)) (hA : Ag s X n) : brP (itemA X) X = (b, n, 0, 0) := by
  have hat := brP_at h
  obtain ⟨m, rfl⟩ : ∃ m, n = m + 1 := ⟨n - 1, by omega⟩
  unfold brP at h ⊢
  rw [hA.pre1 (Nat.zero_le _)]
  refine brGo_same hA ?_ ?_ h
  · split <;> omega
  · omega
theorem brGo_err {IP : Nat → (Nat → Bool) × Nat × Bool} {s : ByteArray} {none : Bool} : ∀ {f k : Nat} {first : Bool} {acc : Nat → Bool}, ((brGo IP s none f k first acc).2.2.1 = 0 ∧ (brGo IP s none f k first acc).2.2.2 = 0) ∨ ((brGo IP s none f k first acc).1 = inL [] ∧ (brGo IP s none f k first acc).2.1 = 0 ∧ (brGo IP s none f k first acc).2.2.1 = 70)
  | 0, k, first, acc => Or.inr ⟨rfl, rfl, rfl⟩
  | f + 1, k, first, acc => by
    cases hc : (first || (decide (k < s.size) && !(bt s k == 93)))
    · by_cases e : k = s.size
      · rw [brGo_end hc e]; exact Or.inr ⟨rfl, rfl, rfl⟩
      · rw [brGo_ok hc e]; exact Or.inl ⟨rfl, rfl⟩
    · cases hi : (IP k).2.2
      · rw [brGo_bad hc hi]; exact Or.inr ⟨rfl, rfl, rfl⟩
      · rw [brGo_go hc hi]; exact brGo_err
/-- What is printed is short. -/
theorem run_len (a b : Nat) : (runB a b).length ≤ 11 := by
  unfold runB
  have h1 := elt_len a
  have h2 := elt_len b
  split
  · simp; omega
  · split <;> simp <;> omega
theorem prGo_len (q : Nat → Bool) : ∀ (f k : Nat), (prGo q f k []).length ≤ 11 * f
  | 0, k => by rw [prGo]; simp
  | f + 1, k => by
    by_cases hk : k < 256
    · cases hq : q k
      · rw [prGo_no hk hq]
        have := prGo_len q f (k + 1)
        omega
      · rw [prGo_yes hk hq, prGo_app, List.length_append, List.nil_append]
        have := prGo_len q f (toP q 256 k + 1)
        have := run_len k (toP q 256 k)
        omega
    · rw [prGo_end (by omega)]; simp
theorem print_len (p : Nat → Bool) : (printB p).length ≤ 3000 := by
  unfold printB
  rw [prGo_app]
  have := prGo_len (if negP p then (fun x => !p x) else p) 257 0
  have h2 : (if negP p then [94] else [] : List UInt8).length ≤ 1 := by split <;> simp
  simp only [List.length_append, List.length_cons, List.length_nil]
  omega
/-- What is printed, with more behind it, is read as the set. -/
theorem print_more (p : Nat → Bool) (X : ByteArray) (more : List UInt8) (hX : X.data.toList = printB p ++ more) : ∃ b, brP (itemA X) X = (b, (printB p).length, 0, 0) ∧ setV b = setV p := by
  obtain ⟨b, h1, h2⟩ := print_back p
  refine ⟨b, brP_same h1 ⟨?_, ?_, ?_⟩, setV_congr h2⟩
  · rw [← Ln.szL]; exact Nat.le_refl _
  · rw [← Ln.szL, hX]; simp
  · rw [hX]; simp
/-- A bracket expression, cut behind its end and with more behind it, is read the same. -/
theorem cut_more {s X : ByteArray} {b : Nat → Bool} {n : Nat} (more : List UInt8) (h : brP (itemA s) s = (b, n, 0, 0)) (hX : X.data.toList = s.data.toList.take n ++ more) : brP (itemA X) X = (b, n, 0, 0) := by
  have hat := brP_at h
  have hl : (s.data.toList.take n).length = n := by rw [List.length_take, Ln.szL]; omega
  refine brP_same h ⟨hat.2.1, ?_, ?_⟩
  · rw [← Ln.szL, hX, List.length_append, hl]; omega
  · rw [hX]
    have := List.take_left (l₁ := s.data.toList.take n) (l₂ := more)
    rw [hl] at this
    exact this
end St
end Go.Proofs.Ytmlpfgfpmbnbeaa
