/- Plain facts on paths' texts with a slash behind: lying within is beginning so. -/
import Derived.Test.YtmbpebdceaihaacDoorPlainNorm
namespace Go.Proofs.YtmbpebdceaihaacDoor
namespace Pl

/-- The names of a path, a slash behind each. -/
def slA : List ByteArray → List UInt8
  | [] => []
  | x :: r => x.data.toList ++ 47 :: slA r
def slF (p : List ByteArray) : List UInt8 := 47 :: slA p
theorem text_sl : ∀ p : List ByteArray, textF p ++ [47] = slF p
  | [] => rfl
  | x :: r => by
    have := text_sl r
    simp only [slF] at this ⊢
    simp only [textF, slA, List.cons_append, List.append_assoc]
    rw [this]
theorem no_slash_cut : ∀ {x y a b : List UInt8}, (∀ c ∈ x, (c == 47) = false) → (∀ c ∈ y, (c == 47) = false) → (x ++ 47 :: a <+: y ++ 47 :: b ↔ x = y ∧ a <+: b)
  | [], [], a, b, _, _ => by simp [List.cons_prefix_cons]
  | [], y :: t, a, b, _, hy => by
    have h := hy y (by simp)
    simp only [List.nil_append, List.cons_append, List.cons_prefix_cons]
    constructor
    · rintro ⟨e, _⟩; subst e; simp at h
    · rintro ⟨e, _⟩; cases e
  | x :: s, [], a, b, hx, _ => by
    have h := hx x (by simp)
    simp only [List.nil_append, List.cons_append, List.cons_prefix_cons]
    constructor
    · rintro ⟨e, _⟩; subst e; simp at h
    · rintro ⟨e, _⟩; cases e
  | x :: s, y :: t, a, b, hx, hy => by
    have ih := no_slash_cut (x := s) (y := t) (a := a) (b := b) (fun c hc => hx c (by simp [hc])) (fun c hc => hy c (by simp [hc]))
    simp only [List.cons_append, List.cons_prefix_cons, ih, List.cons.injEq]
    exact ⟨fun ⟨h1, h2, h3⟩ => ⟨⟨h1, h2⟩, h3⟩, fun ⟨⟨h1, h2⟩, h3⟩ => ⟨h1, h2, h3⟩⟩
theorem slA_prefix : ∀ {q p : List ByteArray}, q.all nameB = true → p.all nameB = true → (slA q <+: slA p ↔ ∃ r, p = q ++ r)
  | [], p, _, _ => by simp [slA]
  | x :: t, [], _, _ => by
    simp only [slA, List.prefix_nil]
    constructor
    · intro h; simp at h
    · rintro ⟨r, h⟩; simp at h
  | x :: t, y :: u, hq, hp => by
    simp only [List.all_cons, Bool.and_eq_true] at hq hp
    have ih := slA_prefix (q := t) (p := u) hq.2 hp.2
    simp only [slA]
    rw [no_slash_cut (name_no_slash hq.1) (name_no_slash hp.1), ih]
    constructor
    · rintro ⟨e, r, h⟩
      exact ⟨r, by rw [h, data_inj _ _ e]; rfl⟩
    · rintro ⟨r, h⟩
      simp only [List.cons_append, List.cons.injEq] at h
      exact ⟨by rw [h.1], r, h.2⟩
def slB (p : List ByteArray) : ByteArray := bs (slF p)
theorem slB_size (p : List ByteArray) : 1 ≤ (slB p).size := by rw [slB, bs_size]; simp [slF]
theorem within_sl {p q : List ByteArray} (hp : rightP p = true) (hq : rightP q = true) : withinP p q = (decide ((slB q).size ≤ (slB p).size) && ((slB p).extract 0 (slB q).size).toList == (slB q).toList) := by
  have e : ((slB p).extract 0 (slB q).size).toList = (slF p).take (slF q).length := by
    rw [extract_bs, bs_toList, List.drop_zero, slB, slB, data_bs, bs_size]; simp
  have h1 : withinP p q = true ↔ slF q <+: slF p := by
    rw [within_iff, slF, slF, List.cons_prefix_cons, slA_prefix (right_names hq) (right_names hp)]; simp
  rw [e, slB, slB, bs_size, bs_size, bs_toList]
  rw [Bool.eq_iff_iff, h1]
  simp only [Bool.and_eq_true, decide_eq_true_eq, beq_iff_eq]
  constructor
  · intro h; exact ⟨h.length_le, (List.prefix_iff_eq_take.1 h).symm⟩
  · rintro ⟨_, h⟩; exact List.prefix_iff_eq_take.2 h.symm
theorem text_root : ∀ p : List ByteArray, p.all nameB = true → ((textP p).toList == [47]) = p.isEmpty
  | [], _ => by decide +kernel
  | x :: r, h => by
    simp only [List.all_cons, Bool.and_eq_true] at h
    rw [textP, if_neg (by simp), bs_toList, List.isEmpty_cons, beq_eq_false_iff_ne]
    intro e
    have hx : ¬ x.data.toList = [] := fun q => by
      have := name_empty (s := x) (by rw [toL]; exact q)
      rw [this] at h; exact absurd h.1 (by simp)
    simp only [textF, List.cons.injEq, true_and, List.append_eq_nil_iff] at e
    exact hx e.1
/-- A right path's own text, and the text with a slash behind. -/
theorem text_top {p : List ByteArray} (hr : rightP p = true) : ∃ t : ByteArray, printP p = (t, 0) ∧ t.size ≤ 1024 ∧ (∀ q, rightP q = true → (normalP q t).1 = p ∧ (normalP q t).2.2 = 0) ∧
    (((t.toList != [47]) = false ∧ t = slB p) ∨ ((t.toList != [47]) = true ∧ t ++ ⟨#[47]⟩ = slB p)) := by
  refine ⟨textP p, print_right hr, by rw [text_size]; exact right_size hr, fun q hq => normal_text hr hq, ?_⟩
  have h := text_root p (right_names hr)
  by_cases h0 : p = []
  · subst h0
    exact .inl ⟨by decide +kernel, rfl⟩
  · right
    refine ⟨by rw [bne, h]; cases p with
      | nil => exact absurd rfl h0
      | cons => rfl, ?_⟩
    apply data_inj
    rw [slB, data_bs, ← text_sl, textP, if_neg (fun q => h0 (List.eq_nil_of_length_eq_zero q))]
    simp [bs]
end Pl
end Go.Proofs.YtmbpebdceaihaacDoor
