/- Plain facts on covers: the rising paths of a list that lie within no other one of it are one list; two ways to come by it. -/
import Derived.Test.YtmbpebdceaihaacPlainCmp
namespace Go.Proofs.Ytmbpebdceaihaac
namespace Pl

/-- p lies within q. -/
def In (p q : List ByteArray) : Prop := ∃ r, p = q ++ r
theorem In.refl (p : List ByteArray) : In p p := ⟨[], by simp⟩
theorem In.trans {p q r : List ByteArray} (h1 : In p q) (h2 : In q r) : In p r := by
  obtain ⟨x, rfl⟩ := h1; obtain ⟨y, rfl⟩ := h2; exact ⟨y ++ x, by simp⟩
theorem In.len {p q : List ByteArray} (h : In p q) : q.length ≤ p.length := by obtain ⟨x, rfl⟩ := h; simp
theorem In.eq {p q : List ByteArray} (h : In p q) (hl : p.length ≤ q.length) : p = q := by
  obtain ⟨x, rfl⟩ := h
  have : x = [] := List.eq_nil_of_length_eq_zero (by simp at hl; omega)
  subst this; simp
theorem In.cmp {p q : List ByteArray} (h : In p q) : cmpP q p ≤ 0 := by obtain ⟨x, rfl⟩ := h; exact cmpP_prefix q x
theorem within_in (p q : List ByteArray) : withinP p q = true ↔ In p q := within_iff p q
/-- What lies between a path and one within it lies within it. -/
theorem In.between : ∀ {m y r : List ByteArray}, cmpP m y ≤ 0 → cmpP y (m ++ r) ≤ 0 → In y m
  | [], y, _, _, _ => ⟨y, rfl⟩
  | a :: m, [], r, h1, _ => by simp [cmpP, lex] at h1
  | a :: m, b :: y, r, h1, h2 => by
    simp only [cmpP, lex, List.cons_append] at h1 h2
    have hn := cmpS_cmp.neg a b
    by_cases e : cmpS a b = 0
    · have e' : cmpS b a = 0 := by omega
      rw [if_pos e] at h1
      rw [if_pos e'] at h2
      obtain ⟨x, hx⟩ := In.between (m := m) (y := y) (r := r) h1 h2
      have := (cmpS_cmp.eq a b).1 e
      subst this
      exact ⟨x, by rw [hx]; rfl⟩
    · have e' : ¬ cmpS b a = 0 := by omega
      rw [if_neg e] at h1
      rw [if_neg e'] at h2
      omega
theorem cmp_eq {p q : List ByteArray} (h1 : cmpP p q ≤ 0) (h2 : cmpP q p ≤ 0) : p = q := by
  have := cmpP_cmp.neg p q
  exact (cmpP_cmp.eq p q).1 (by omega)

/-- p lies within no other one of l. -/
def Least (l : List (List ByteArray)) (p : List ByteArray) : Prop := ∀ q ∈ l, In p q → q = p
/-- c is the cover of l. -/
structure Cov (l c : List (List ByteArray)) : Prop where
  up : c.Pairwise fun a b => cmpP a b < 0
  mem : ∀ p, p ∈ c ↔ p ∈ l ∧ Least l p

theorem up_unique : ∀ {a b : List (List ByteArray)}, a.Pairwise (fun a b => cmpP a b < 0) → b.Pairwise (fun a b => cmpP a b < 0) → (∀ x, x ∈ a ↔ x ∈ b) → a = b
  | [], [], _, _, _ => rfl
  | [], y :: t, _, _, h => absurd ((h y).2 (by simp)) (by simp)
  | x :: s, [], _, _, h => absurd ((h x).1 (by simp)) (by simp)
  | x :: s, y :: t, ha, hb, h => by
    obtain ⟨hx, hs⟩ := List.pairwise_cons.1 ha
    obtain ⟨hy, ht⟩ := List.pairwise_cons.1 hb
    have e : x = y := by
      rcases List.mem_cons.1 ((h x).1 (by simp)) with e | m1
      · exact e
      · rcases List.mem_cons.1 ((h y).2 (by simp)) with e | m2
        · exact e.symm
        · have h1 := hx y m2
          have h2 := hy x m1
          have := cmpP_cmp.neg x y
          omega
    subst e
    have : s = t := up_unique hs ht fun z => by
      constructor
      · intro hz
        rcases List.mem_cons.1 ((h z).1 (by simp [hz])) with e | m
        · subst e
          have := hx z hz
          have := (cmpP_cmp.eq z z).2 rfl
          omega
        · exact m
      · intro hz
        rcases List.mem_cons.1 ((h z).2 (by simp [hz])) with e | m
        · subst e
          have := hy z hz
          have := (cmpP_cmp.eq z z).2 rfl
          omega
        · exact m
    rw [this]
theorem Cov.unique {l c d : List (List ByteArray)} (h : Cov l c) (h' : Cov l d) : c = d := up_unique h.up h'.up fun x => by rw [h.mem, h'.mem]
theorem Cov.perm {l l' c : List (List ByteArray)} (h : Cov l c) (hm : ∀ x, x ∈ l ↔ x ∈ l') : Cov l' c :=
  ⟨h.up, fun p => by rw [h.mem, hm]; exact and_congr_right fun _ => ⟨fun k q hq => k q ((hm q).2 hq), fun k q hq => k q ((hm q).1 hq)⟩⟩
/-- Each one of a list lies within a least one of it. -/
theorem least_ex (l : List (List ByteArray)) : ∀ (n : Nat) (p : List ByteArray), p.length ≤ n → p ∈ l → ∃ m ∈ l, In p m ∧ Least l m
  | n, p, hn, hp => by
    by_cases h : Least l p
    · exact ⟨p, hp, In.refl p, h⟩
    · have : ∃ q ∈ l, In p q ∧ q ≠ p := by
        apply Classical.byContradiction
        intro hc
        apply h
        intro q hq hi
        apply Classical.byContradiction
        intro hne
        exact hc ⟨q, hq, hi, hne⟩
      obtain ⟨q, hq, hi, hne⟩ := this
      have hl : q.length < p.length := by
        rcases Nat.lt_or_ge q.length p.length with h | h
        · exact h
        · exact absurd (hi.eq h).symm hne
      match n, hn with
      | 0, hn => exact absurd hl (by omega)
      | n + 1, hn =>
        obtain ⟨m, hm, h1, h2⟩ := least_ex l n q (by omega) hq
        exact ⟨m, hm, hi.trans h1, h2⟩
theorem Cov.self {l c : List (List ByteArray)} (h : Cov l c) : Cov c c := by
  refine ⟨h.up, fun p => ⟨fun hp => ⟨hp, fun q hq hi => ?_⟩, fun hp => hp.1⟩⟩
  exact ((h.mem p).1 hp).2 q ((h.mem q).1 hq).1 hi

/-- The first way: the list rises; what lies within the last one that was taken is passed over. -/
theorem cov_nil : Cov [] [] := ⟨List.Pairwise.nil, fun p => by simp⟩
theorem cov_ne {t out : List (List ByteArray)} (h : Cov t out) (hout : out = []) : t = [] := by
  cases t with
  | nil => rfl
  | cons x r =>
    obtain ⟨m, hm, _, hl⟩ := least_ex (x :: r) x.length x (Nat.le_refl _) (by simp)
    have := (h.mem m).2 ⟨hm, hl⟩
    rw [hout] at this; cases this
theorem least_snoc {t : List (List ByteArray)} {x p : List ByteArray} (hr : ∀ y ∈ t, cmpP y x ≤ 0) (hp : p ∈ t) : Least (t ++ [x]) p ↔ Least t p := by
  constructor
  · intro h q hq hi; exact h q (by simp [hq]) hi
  · intro h q hq hi
    rcases List.mem_append.1 hq with hq | hq
    · exact h q hq hi
    · simp at hq; subst hq; exact cmp_eq hi.cmp (hr p hp)
theorem cov_first {x : List ByteArray} : Cov [x] [x] :=
  ⟨by simp, fun p => ⟨fun hp => ⟨hp, fun q hq _ => by simp at hp hq; rw [hp, hq]⟩, fun hp => hp.1⟩⟩
theorem cov_pass {t out : List (List ByteArray)} {x last : List ByteArray} (h : Cov t out) (hr : ∀ y ∈ t, cmpP y x ≤ 0) (hl : last ∈ out) (hi : In x last) : Cov (t ++ [x]) out := by
  have hlt := ((h.mem last).1 hl).1
  refine ⟨h.up, fun p => ?_⟩
  constructor
  · intro hp
    obtain ⟨h1, h2⟩ := (h.mem p).1 hp
    exact ⟨by simp [h1], (least_snoc hr h1).2 h2⟩
  · rintro ⟨hp, hle⟩
    rcases List.mem_append.1 hp with hp | hp
    · exact (h.mem p).2 ⟨hp, (least_snoc hr hp).1 hle⟩
    · simp at hp; subst hp
      have := hle last (by simp [hlt]) hi
      rw [← this]; exact hl
theorem cov_take {t out : List (List ByteArray)} {x last : List ByteArray} (h : Cov t (out ++ [last])) (hr : ∀ y ∈ t, cmpP y x ≤ 0) (hi : ¬ In x last) : Cov (t ++ [x]) (out ++ [last] ++ [x]) := by
  have hlt := (h.mem last).1 (by simp)
  have hup := h.up
  have hll : ∀ y ∈ out ++ [last], cmpP y last ≤ 0 := fun y hy => by
    rcases List.mem_append.1 hy with hy | hy
    · have := (List.pairwise_append.1 hup).2.2 y hy last (by simp); omega
    · simp at hy; subst hy; have := (cmpP_cmp.eq y y).2 rfl; omega
  have hlx : cmpP last x < 0 := by
    have h1 := hr last hlt.1
    have h2 : ¬ cmpP last x = 0 := fun e => hi (by rw [(cmpP_cmp.eq _ _).1 e]; exact In.refl _)
    omega
  refine ⟨?_, fun p => ?_⟩
  · rw [List.pairwise_append]
    refine ⟨hup, by simp, fun a ha b hb => ?_⟩
    simp at hb; subst hb
    exact cmpP_cmp.strict' a last b (hll a ha) hlx
  · have hxl : Least (t ++ [x]) x := fun q hq hqi => by
      rcases List.mem_append.1 hq with hq | hq
      · exfalso
        obtain ⟨m, hm, h1, h2⟩ := least_ex t q.length q (Nat.le_refl _) hq
        have hmo := (h.mem m).2 ⟨hm, h2⟩
        have hxm : In x m := hqi.trans h1
        have h3 := hll m hmo
        obtain ⟨r, hxr⟩ := hxm
        have h4 : In last m := In.between (r := r) h3 (by rw [← hxr]; omega)
        have h5 := hlt.2 m hm h4
        rw [h5] at hxr
        exact hi ⟨r, hxr⟩
      · simp at hq; exact hq
    constructor
    · intro hp
      rcases List.mem_append.1 hp with hp | hp
      · obtain ⟨h1, h2⟩ := (h.mem p).1 hp
        exact ⟨by simp [h1], (least_snoc hr h1).2 h2⟩
      · simp at hp; subst hp; exact ⟨by simp, hxl⟩
    · rintro ⟨hp, hle⟩
      rcases List.mem_append.1 hp with hp | hp
      · exact List.mem_append_left _ ((h.mem p).2 ⟨hp, (least_snoc hr hp).1 hle⟩)
      · exact List.mem_append_right _ hp

/-- The second way: each one that is kept is put in its place. -/
def keepB (l : List (List ByteArray)) (i : Nat) : Prop := ∀ k (hk : k < l.length) (hi : i < l.length), ¬ (In l[i] l[k] ∧ (l[k].length < l[i].length ∨ k < i))
/-- Of the first i ones those that are kept, rising. -/
structure CovR (l : List (List ByteArray)) (i : Nat) (c : List (List ByteArray)) : Prop where
  up : c.Pairwise fun a b => cmpP a b < 0
  mem : ∀ p, p ∈ c ↔ ∃ j, ∃ h : j < l.length, j < i ∧ l[j] = p ∧ keepB l j
theorem covR_zero (l : List (List ByteArray)) : CovR l 0 [] := ⟨List.Pairwise.nil, fun p => by simp⟩
theorem covR_skip {l c : List (List ByteArray)} {i : Nat} (h : CovR l i c) (hk : ¬ keepB l i) : CovR l (i + 1) c := by
  refine ⟨h.up, fun p => ?_⟩
  rw [h.mem]
  constructor
  · rintro ⟨j, hj, h1, h2, h3⟩; exact ⟨j, hj, by omega, h2, h3⟩
  · rintro ⟨j, hj, h1, h2, h3⟩
    refine ⟨j, hj, ?_, h2, h3⟩
    rcases Nat.lt_or_ge j i with h | h
    · exact h
    · have : j = i := by omega
      subst this; exact absurd h3 hk
theorem keep_new {l c : List (List ByteArray)} {i : Nat} (hi : i < l.length) (h : CovR l i c) (hk : keepB l i) : l[i] ∉ c := fun hm => by
  obtain ⟨j, hj, h1, h2, _⟩ := (h.mem _).1 hm
  exact hk j hj hi ⟨by rw [h2]; exact In.refl _, .inr h1⟩
theorem covR_put {l a b : List (List ByteArray)} {i : Nat} (hi : i < l.length) (h : CovR l i (a ++ b)) (hk : keepB l i) (ha : ∀ y ∈ a, cmpP y l[i] < 0) (hb : ∀ y ∈ b, cmpP l[i] y < 0) : CovR l (i + 1) (a ++ l[i] :: b) := by
  obtain ⟨ua, ub, uab⟩ := List.pairwise_append.1 h.up
  refine ⟨List.pairwise_append.2 ⟨ua, List.pairwise_cons.2 ⟨hb, ub⟩, fun x hx y hy => ?_⟩, fun p => ?_⟩
  · rcases List.mem_cons.1 hy with rfl | hy
    · exact ha x hx
    · exact uab x hx y hy
  · have e : p ∈ a ++ l[i] :: b ↔ p = l[i] ∨ p ∈ a ++ b := by
      simp only [List.mem_append, List.mem_cons]
      constructor
      · rintro (h | h | h)
        · exact .inr (.inl h)
        · exact .inl h
        · exact .inr (.inr h)
      · rintro (h | h | h)
        · exact .inr (.inl h)
        · exact .inl h
        · exact .inr (.inr h)
    rw [e, h.mem]
    constructor
    · rintro (rfl | ⟨j, hj, h1, h2, h3⟩)
      · exact ⟨i, hi, by omega, rfl, hk⟩
      · exact ⟨j, hj, by omega, h2, h3⟩
    · rintro ⟨j, hj, h1, h2, h3⟩
      rcases Nat.lt_or_ge j i with h | h
      · exact .inr ⟨j, hj, h, h2, h3⟩
      · have : j = i := by omega
        subst this; exact .inl h2.symm
theorem least_keep {l : List (List ByteArray)} {p : List ByteArray} (hp : p ∈ l) (hl : Least l p) : ∃ j, ∃ h : j < l.length, l[j] = p ∧ keepB l j := by
  have key : ∀ n, n ≤ l.length → (∃ j, ∃ h : j < l.length, j < n ∧ l[j] = p) → ∃ j, ∃ h : j < l.length, l[j] = p ∧ ∀ k (hk : k < l.length), k < j → l[k] ≠ p := by
    intro n
    induction n with
    | zero => rintro _ ⟨j, _, h, _⟩; omega
    | succ n ih =>
      intro hn hex
      by_cases hq : ∃ j, ∃ h : j < l.length, j < n ∧ l[j] = p
      · exact ih (by omega) hq
      · obtain ⟨j, hj, h1, h2⟩ := hex
        have hjn : j = n := by
          rcases Nat.lt_or_ge j n with h | h
          · exact absurd ⟨j, hj, h, h2⟩ hq
          · omega
        subst hjn
        exact ⟨j, hj, h2, fun k hk hkj e => hq ⟨k, hk, hkj, e⟩⟩
  obtain ⟨i, hi, e⟩ := List.getElem_of_mem hp
  obtain ⟨j, hj, h1, h2⟩ := key l.length (Nat.le_refl _) ⟨i, hi, hi, e⟩
  refine ⟨j, hj, h1, fun k hk hj' hc => ?_⟩
  have h3 := hl l[k] (List.getElem_mem hk) (by rw [← h1]; exact hc.1)
  rcases hc.2 with h | h
  · rw [h3, h1] at h; omega
  · exact h2 k hk h h3
theorem covR_end {l c : List (List ByteArray)} (h : CovR l l.length c) : Cov l c := by
  refine ⟨h.up, fun p => ?_⟩
  rw [h.mem]
  constructor
  · rintro ⟨j, hj, _, rfl, hk⟩
    refine ⟨List.getElem_mem hj, fun q hq hi => ?_⟩
    obtain ⟨k, hkl, rfl⟩ := List.getElem_of_mem hq
    have h1 := hk k hkl hj
    have h2 : ¬ l[k].length < l[j].length := fun hlt => h1 ⟨hi, .inl hlt⟩
    exact (hi.eq (by omega)).symm
  · rintro ⟨hp, hl⟩
    obtain ⟨j, hj, h1, h2⟩ := least_keep hp hl
    exact ⟨j, hj, hj, h1, h2⟩
end Pl
end Go.Proofs.Ytmbpebdceaihaac
