/- Plain facts on comparing: a three-way comparison carried to lists is one. -/
import Derived.Test.YtfbhofomcenabaaGreatDoorPlain
import GoSem.Op.String
namespace Go.Proofs.YtfbhofomcenabaaGreatDoor
namespace Pl

def lex {α : Type} (c : α → α → Int) : List α → List α → Int
  | [], [] => 0
  | [], _ :: _ => -1
  | _ :: _, [] => 1
  | a :: r, b :: t => if c a b = 0 then lex c r t else c a b

structure Cmp {α : Type} (c : α → α → Int) : Prop where
  rng : ∀ a b, c a b = -1 ∨ c a b = 0 ∨ c a b = 1
  neg : ∀ a b, c a b = - c b a
  eq : ∀ a b, c a b = 0 ↔ a = b
  trans : ∀ a b d, c a b ≤ 0 → c b d ≤ 0 → c a d ≤ 0

theorem Cmp.strict {α : Type} {c : α → α → Int} (h : Cmp c) (a b d : α) (h1 : c a b < 0) (h2 : c b d ≤ 0) : c a d < 0 := by
  have h3 := h.trans a b d (by omega) h2
  have h4 : c a d ≠ 0 := fun e => by
    have := (h.eq a d).1 e
    subst this
    have := h.neg a b
    omega
  omega
theorem Cmp.strict' {α : Type} {c : α → α → Int} (h : Cmp c) (a b d : α) (h1 : c a b ≤ 0) (h2 : c b d < 0) : c a d < 0 := by
  have h3 := h.trans a b d h1 (by omega)
  have h4 : c a d ≠ 0 := fun e => by
    have := (h.eq a d).1 e
    subst this
    have := h.neg a b
    omega
  omega

theorem Cmp.lex {α : Type} {c : α → α → Int} (h : Cmp c) : Cmp (lex c) where
  rng := by
    intro a
    induction a with
    | nil => intro b; cases b <;> simp [Pl.lex]
    | cons x r ih =>
      intro b
      cases b with
      | nil => simp [Pl.lex]
      | cons y t =>
        simp only [Pl.lex]
        split
        · exact ih t
        · exact h.rng x y
  neg := by
    intro a
    induction a with
    | nil => intro b; cases b <;> simp [Pl.lex]
    | cons x r ih =>
      intro b
      cases b with
      | nil => simp [Pl.lex]
      | cons y t =>
        simp only [Pl.lex]
        have := h.neg x y
        by_cases e : c x y = 0
        · rw [if_pos e, if_pos (by omega)]; exact ih t
        · rw [if_neg e, if_neg (by omega)]; exact this
  eq := by
    intro a
    induction a with
    | nil => intro b; cases b <;> simp [Pl.lex]
    | cons x r ih =>
      intro b
      cases b with
      | nil => simp [Pl.lex]
      | cons y t =>
        simp only [Pl.lex]
        by_cases e : c x y = 0
        · rw [if_pos e, ih t, (h.eq x y).1 e]; simp
        · rw [if_neg e]
          have := h.eq x y
          constructor
          · intro q; exact absurd q e
          · intro q; cases q; exact absurd (this.2 rfl) e
  trans := by
    intro a
    induction a with
    | nil => intro b d h1 h2; cases d <;> simp [Pl.lex]
    | cons x r ih =>
      intro b d h1 h2
      cases b with
      | nil => simp [Pl.lex] at h1
      | cons y t =>
        cases d with
        | nil => simp [Pl.lex] at h2
        | cons z u =>
          simp only [Pl.lex] at h1 h2 ⊢
          by_cases e1 : c x y = 0
          · have := (h.eq x y).1 e1
            subst this
            rw [if_pos e1] at h1
            by_cases e2 : c x z = 0
            · rw [if_pos e2] at h2 ⊢; exact ih t u h1 h2
            · rw [if_neg e2] at h2 ⊢; exact h2
          · rw [if_neg e1] at h1
            have h3 : c y z ≤ 0 := by
              by_cases e2 : c y z = 0
              · omega
              · rw [if_neg e2] at h2; exact h2
            have h4 := h.strict x y z (by omega) h3
            rw [if_neg (by omega)]; omega

theorem Cmp.on {α β : Type} {c : α → α → Int} (h : Cmp c) (f : β → α) (hf : ∀ x y, f x = f y → x = y) : Cmp (fun x y => c (f x) (f y)) where
  rng := fun a b => h.rng _ _
  neg := fun a b => h.neg _ _
  eq := fun a b => (h.eq _ _).trans ⟨hf a b, fun e => by rw [e]⟩
  trans := fun a b d => h.trans _ _ _

def cmpB (a b : UInt8) : Int := if a < b then -1 else if a = b then 0 else 1
theorem cmpB_cmp : Cmp cmpB where
  rng := by
    intro a b
    unfold cmpB
    by_cases h1 : a < b
    · rw [if_pos h1]; exact .inl rfl
    · rw [if_neg h1]
      by_cases h2 : a = b
      · rw [if_pos h2]; exact .inr (.inl rfl)
      · rw [if_neg h2]; exact .inr (.inr rfl)
  neg := by
    intro a b
    simp only [cmpB, UInt8.lt_iff_toNat_lt, ← UInt8.toNat_inj]
    by_cases h1 : a.toNat < b.toNat
    · rw [if_pos h1, if_neg (by omega), if_neg (by omega)]
    · by_cases h2 : a.toNat = b.toNat
      · rw [if_neg h1, if_pos h2, if_neg (by omega), if_pos h2.symm]; rfl
      · rw [if_neg h1, if_neg h2, if_pos (by omega)]; rfl
  eq := by
    intro a b
    simp only [cmpB, UInt8.lt_iff_toNat_lt]
    by_cases h1 : a.toNat < b.toNat
    · rw [if_pos h1]; constructor
      · intro h; omega
      · intro h; subst h; omega
    · rw [if_neg h1]
      by_cases h2 : a = b <;> simp [h2]
  trans := by
    intro a b d
    simp only [cmpB, UInt8.lt_iff_toNat_lt, ← UInt8.toNat_inj]
    intro h1 h2
    have h3 : a.toNat ≤ b.toNat := by
      by_cases h : a.toNat < b.toNat
      · omega
      · rw [if_neg h] at h1
        by_cases h' : a.toNat = b.toNat
        · omega
        · rw [if_neg h'] at h1; omega
    have h4 : b.toNat ≤ d.toNat := by
      by_cases h : b.toNat < d.toNat
      · omega
      · rw [if_neg h] at h2
        by_cases h' : b.toNat = d.toNat
        · omega
        · rw [if_neg h'] at h2; omega
    by_cases h : a.toNat < d.toNat
    · rw [if_pos h]; omega
    · rw [if_neg h, if_pos (by omega)]; omega

def cmpS (x y : ByteArray) : Int := lex cmpB x.data.toList y.data.toList
def cmpP (p q : List ByteArray) : Int := lex cmpS p q
theorem data_inj (x y : ByteArray) (h : x.data.toList = y.data.toList) : x = y := by
  cases x; cases y; simp at h; rw [h]
theorem cmpS_cmp : Cmp cmpS := (cmpB_cmp.lex).on (fun x : ByteArray => x.data.toList) data_inj
theorem cmpP_cmp : Cmp cmpP := cmpS_cmp.lex

theorem less_lex : ∀ (x y : List UInt8), Op.bytesLess x y = decide (lex cmpB x y = -1)
  | [], [] => by simp [Op.bytesLess, lex]
  | [], _ :: _ => by simp [Op.bytesLess, lex]
  | _ :: _, [] => by simp [Op.bytesLess, lex]
  | a :: x, b :: y => by
    simp only [Op.bytesLess, lex, less_lex x y]
    by_cases h1 : a < b
    · have : cmpB a b = -1 := by simp [cmpB, h1]
      simp [h1, this]
    · by_cases h2 : a = b
      · subst h2
        have : cmpB a a = 0 := (cmpB_cmp.eq a a).2 rfl
        simp [this]
      · have : cmpB a b = 1 := by simp [cmpB, h1, h2]
        simp [h1, h2, this]
theorem cmpS_less {x y : ByteArray} (h : Op.bytesLess x.toList y.toList = true) : cmpS x y = -1 := by
  rw [toL, toL, less_lex] at h; simpa [cmpS] using h
theorem cmpS_eq {x y : ByteArray} (h : (x.toList == y.toList) = true) : cmpS x y = 0 := by
  rw [toL, toL] at h; exact (cmpB_cmp.lex.eq _ _).2 (by simpa using h)
theorem cmpS_more {x y : ByteArray} (h1 : Op.bytesLess x.toList y.toList = false) (h2 : (x.toList == y.toList) = false) : cmpS x y = 1 := by
  rw [toL, toL] at h1 h2
  rw [less_lex] at h1
  have h3 := cmpB_cmp.lex.rng x.data.toList y.data.toList
  have h4 : ¬ lex cmpB x.data.toList y.data.toList = 0 := fun e => by rw [(cmpB_cmp.lex.eq _ _).1 e] at h2; simp at h2
  simp at h1
  unfold cmpS
  omega

theorem cmpP_step {a b : List ByteArray} {k : Nat} (ha : k < a.length) (hb : k < b.length) (h : cmpS (a[k]'ha) (b[k]'hb) = 0) : cmpP (a.drop k) (b.drop k) = cmpP (a.drop (k + 1)) (b.drop (k + 1)) := by
  rw [List.drop_eq_getElem_cons ha, List.drop_eq_getElem_cons hb]; simp only [cmpP, lex, h, if_true]
theorem cmpP_stop {a b : List ByteArray} {k : Nat} (ha : k < a.length) (hb : k < b.length) (h : ¬ cmpS (a[k]'ha) (b[k]'hb) = 0) : cmpP (a.drop k) (b.drop k) = cmpS (a[k]'ha) (b[k]'hb) := by
  rw [List.drop_eq_getElem_cons ha, List.drop_eq_getElem_cons hb]; simp only [cmpP, lex, h, if_false]
theorem cmpP_more {a b : List ByteArray} {k : Nat} (ha : k < a.length) (hb : ¬ k < b.length) : cmpP (a.drop k) (b.drop k) = 1 := by
  rw [List.drop_eq_getElem_cons ha, List.drop_eq_nil_of_le (as := b) (by omega)]; rfl
theorem cmpP_less {a b : List ByteArray} {k : Nat} (ha : ¬ k < a.length) (hb : k < b.length) : cmpP (a.drop k) (b.drop k) = -1 := by
  rw [List.drop_eq_getElem_cons hb, List.drop_eq_nil_of_le (as := a) (by omega)]; rfl
theorem cmpP_end {a b : List ByteArray} {k : Nat} (ha : ¬ k < a.length) (hb : ¬ k < b.length) : cmpP (a.drop k) (b.drop k) = 0 := by
  rw [List.drop_eq_nil_of_le (as := a) (by omega), List.drop_eq_nil_of_le (as := b) (by omega)]; rfl

/-- Lying within, said by lists. -/
theorem com_le : ∀ (p q : List ByteArray), com p q ≤ q.length ∧ com p q ≤ p.length
  | [], q => by simp [com_nil_left]
  | _ :: _, [] => by simp [com]
  | a :: r, b :: t => by
    have := com_le r t
    simp only [com]
    split <;> simp <;> omega
theorem within_iff : ∀ (p q : List ByteArray), withinP p q = true ↔ ∃ r, p = q ++ r
  | p, [] => by simp [withinP, com_nil_right]
  | [], b :: t => by simp [withinP, com_nil_left]; omega
  | a :: r, b :: t => by
    have ih := within_iff r t
    simp only [withinP, beq_iff_eq] at ih ⊢
    simp only [com]
    by_cases h : (a.toList == b.toList) = true
    · rw [if_pos h]
      have e : a = b := data_inj a b (by rw [toL, toL] at h; simpa using h)
      subst e
      simp only [List.cons_append, List.cons.injEq, true_and, ← ih, List.length_cons]
      omega
    · rw [if_neg h]
      simp only [List.cons_append, List.cons.injEq, List.length_cons]
      constructor
      · intro q; omega
      · rintro ⟨_, e, _⟩; subst e; simp at h
theorem same_iff (p q : List ByteArray) : sameP p q = true ↔ p = q := by
  have h := within_iff p q
  simp only [withinP, beq_iff_eq] at h
  simp only [sameP, Bool.and_eq_true, beq_iff_eq]
  constructor
  · rintro ⟨h1, h2⟩
    obtain ⟨r, e⟩ := h.1 (by omega)
    have : r = [] := List.eq_nil_of_length_eq_zero (by have := congrArg List.length e; simp at this; omega)
    rw [e, this]; simp
  · rintro rfl
    exact ⟨rfl, h.2 ⟨[], by simp⟩⟩
theorem cmpP_prefix : ∀ (q r : List ByteArray), cmpP q (q ++ r) ≤ 0
  | [], [] => by simp [cmpP, lex]
  | [], _ :: _ => by simp [cmpP, lex]
  | a :: q, r => by
    have := cmpP_prefix q r
    simp only [cmpP, List.cons_append, lex] at this ⊢
    rw [if_pos ((cmpS_cmp.eq a a).2 rfl)]; exact this

end Pl
end Go.Proofs.YtfbhofomcenabaaGreatDoor
