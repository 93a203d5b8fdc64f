/- Plain facts on listings and quoted texts: what is written is read as it was; a listing's rows. -/
import Derived.Test.YtmbpebdceaihaaaDoorLUnl
import Derived.Test.YtmbpebdceaihaaaDoorLQuote
import Derived.Test.YtmbpebdceaihaaaDoorLBytes
import Derived.Test.YtmbpebdceaihaaaDoorLPlainS
namespace Go.Proofs.YtmbpebdceaihaaaDoor
namespace Ln

/-- The rest of a listing behind a row of q bytes. -/
def tailL (width : Int) : Nat → List UInt8 → List UInt8
  | _, [] => [36, 10]
  | q, b :: r => if 1 < width ∧ 0 < q ∧ width - 1 < (q : Int) + (toldL b).length then [92, 10] ++ (toldL b ++ tailL width (toldL b).length r) else toldL b ++ tailL width (q + (toldL b).length) r
theorem list_tail (width : Int) : ∀ (l : List UInt8) (st : List UInt8 × Nat), (l.foldl (listStep width) st).1 ++ [36, 10] = st.1 ++ tailL width st.2 l
  | [], st => rfl
  | b :: r, st => by
    rw [List.foldl_cons, list_tail width r, tailL]
    by_cases h : 1 < width ∧ 0 < st.2 ∧ width - 1 < (st.2 : Int) + (toldL b).length
    · rw [list_break h, if_pos h]; simp
    · rw [list_on h, if_neg h]; simp
theorem list_is (width : Int) (l : List UInt8) : (listSt width l).1 ++ [36, 10] = tailL width 0 l := by
  have := list_tail width l ([], 0)
  rw [List.nil_append] at this
  exact this

theorem untold_let : ∀ b : UInt8, b ≠ 92 → letB b ≠ 0 → UInt8.ofNat (letB b) ≠ 92 ∧ letF (UInt8.ofNat (letB b)) 14 < 14 ∧ UInt8.ofNat (letF (UInt8.ofNat (letB b)) 14) = b := all_bytes (by decide +kernel)
theorem untold_oct0 : ∀ b : UInt8, b ≠ 92 → letB b = 0 → octB b.toNat b.toNat = true → (48 + b / 64 ≠ 92 ∧ ¬ letF (48 + b / 64) 14 < 14) ∧ octGo 3 64 0 [48 + b / 64, 48 + b / 8 % 8, 48 + b % 8] 0 = (b, 3, true) := all_bytes (by decide +kernel)
theorem untold_plain : ∀ b : UInt8, b ≠ 92 → letB b = 0 → octB b.toNat b.toNat = false → 32 ≤ b.toNat ∧ b.toNat < 127 := all_bytes (by decide +kernel)
theorem octGo_rest : ∀ (f rest v : Nat) (l r : List UInt8) (off d : Nat), f ≤ l.length → octGo f rest v (l ++ r) (off + d) = ((octGo f rest v l off).1, (octGo f rest v l off).2.1 + d, (octGo f rest v l off).2.2)
  | 0, _, _, _, _, _, _, _ => rfl
  | f + 1, _, _, [], _, _, _, h => absurd h (by simp)
  | f + 1, rest, v, c :: l, r, off, d, h => by
    rw [List.cons_append, octGo, octGo]
    split
    · rfl
    · split
      · rfl
      · have := octGo_rest f (rest / 8) (v * 8 + (c.toNat - 48)) l r (off + 1) d (by simpa using h)
        rw [show off + d + 1 = off + 1 + d by omega, this]
/-- A told byte is read as it was, whatever stands behind it. -/
theorem untold (b : UInt8) (rest : List UInt8) (off : Nat) : untP (toldL b ++ rest) off = (b, off + (toldL b).length, true) := by
  by_cases h1 : b = 92
  · subst h1
    have e : toldL 92 = [92, 92] := by decide
    rw [e]; rfl
  have h1' : ((b.toNat : Int) == 92) = false := by
    rw [beq_eq_false_iff_ne]; intro e; apply h1; rw [← UInt8.toNat_inj]; simp; omega
  by_cases h2 : letB b = 0
  · cases h3 : octB b.toNat b.toNat
    · obtain ⟨p1, p2⟩ := untold_plain b h1 h2 h3
      rw [told_plain h1' h2 h3, List.singleton_append, unt_plain h1, plainP, if_neg (by omega)]
      rfl
    · obtain ⟨⟨p1, p2⟩, p3⟩ := untold_oct0 b h1 h2 h3
      rw [told_oct h1' h2 h3]
      rw [show [92, 48 + b / 64, 48 + b / 8 % 8, 48 + b % 8] ++ rest = 92 :: (48 + b / 64) :: ([48 + b / 8 % 8, 48 + b % 8] ++ rest) from rfl, unt_oct p1 p2, octP]
      have := octGo_rest 3 64 0 [48 + b / 64, 48 + b / 8 % 8, 48 + b % 8] rest 0 (off + 1) (by simp)
      rw [p3, Nat.zero_add] at this
      rw [show (48 + b / 64) :: ([48 + b / 8 % 8, 48 + b % 8] ++ rest) = [48 + b / 64, 48 + b / 8 % 8, 48 + b % 8] ++ rest from rfl, this]
      simp
      omega
  · obtain ⟨p1, p2, p3⟩ := untold_let b h1 h2
    rw [told_let h1' h2]
    rw [show [92, UInt8.ofNat (letB b)] ++ rest = 92 :: UInt8.ofNat (letB b) :: rest from rfl, unt_let p1 p2, p3]
    rfl

theorem told_first : ∀ b : UInt8, (toldL b).head? ≠ some 10 ∧ (toldL b ≠ [36] → (toldL b).head? ≠ some 36) ∧ ((toldL b).head? = some 92 → (toldL b)[1]? ≠ some 10 ∧ (toldL b)[1]? ≠ some 34 ∧ 2 ≤ (toldL b).length) ∧ (b ≠ 34 → (toldL b).head? ≠ some 34) := all_bytes (by decide +kernel)
theorem told_print : ∀ b : UInt8, (toldL b).all (fun c => 32 ≤ c.toNat && c.toNat ≤ 126) = true := all_bytes (by decide +kernel)
theorem told_ne (b : UInt8) : toldL b ≠ [] := fun e => by have := told_len b; rw [e] at this; simp at this

theorem head_app {a b : List UInt8} (h : a ≠ []) : (a ++ b).head? = a.head? := by
  cases a with
  | nil => exact absurd rfl h
  | cons x r => rfl
theorem tail_first (width : Int) (q : Nat) (l : List UInt8) : (tailL width q l).head? ≠ some 10 := by
  cases l with
  | nil => simp [tailL]
  | cons b r =>
    rw [tailL]
    split
    · simp
    · rw [head_app (told_ne b)]; exact (told_first b).1
theorem beg_told {b : UInt8} {rest : List UInt8} (h : rest.head? ≠ some 10) : begL (toldL b ++ rest) 36 10 = false := by
  obtain ⟨h1, h2, h3, _⟩ := told_first b
  by_cases e : toldL b = [36]
  · rw [e]
    cases rest with
    | nil => rfl
    | cons c r =>
      rw [show ([36] : List UInt8) ++ c :: r = 36 :: c :: r from rfl, beg_two]
      have : c ≠ 10 := fun q => by rw [q] at h; simp at h
      simp [this]
  · have hh := h2 e
    cases ht : toldL b with
    | nil => exact absurd ht (told_ne b)
    | cons x t =>
      rw [ht] at hh
      have : x ≠ 36 := fun q => by rw [q] at hh; simp at hh
      cases hr : t ++ rest with
      | nil => rw [List.cons_append, hr]; rfl
      | cons y r => rw [List.cons_append, hr, beg_two]; simp [this]
theorem beg_told92 {b : UInt8} {rest : List UInt8} {c : UInt8} (hc : c = 10 ∨ c = 34) : begL (toldL b ++ rest) 92 c = false := by
  obtain ⟨h1, h2, h3, _⟩ := told_first b
  cases ht : toldL b with
  | nil => exact absurd ht (told_ne b)
  | cons x t =>
    by_cases hx : x = 92
    · rw [ht, hx] at h3
      obtain ⟨p1, p2, p3⟩ := h3 rfl
      cases t with
      | nil => simp at p3
      | cons y r =>
        rw [List.cons_append, List.cons_append, beg_two]
        have : y ≠ c := fun q => by
          subst q
          simp at p1 p2
          rcases hc with h | h
          · exact p1 h
          · exact p2 h
        simp [this]
    · cases hr : t ++ rest with
      | nil => rw [List.cons_append, hr]; rfl
      | cons y r => rw [List.cons_append, hr, beg_two]; simp [hx]

theorem drop_pre (P l : List UInt8) : (P ++ l).drop P.length = l := by simp
theorem unl_told {P l rest : List UInt8} {b : UInt8} {f : Nat} {br : Bool} {out : List UInt8} (hl : l = toldL b ++ rest) (hlk : lookB (P ++ l) P.length br out) :
    unlGo (P ++ l) (f + 1) P.length br out = unlGo ((P ++ toldL b) ++ rest) f (P ++ toldL b).length false (out ++ [b]) := by
  have hu := untold b rest P.length
  have e : (P ++ l).drop P.length = toldL b ++ rest := by rw [drop_pre, hl]
  rw [unl_on hlk (by rw [e, hu]), e, hu, hl, ← List.append_assoc, List.length_append]
theorem tail_len (width : Int) : ∀ (l : List UInt8) (q : Nat), l.length + 2 ≤ (tailL width q l).length
  | [], _ => by simp [tailL]
  | b :: r, q => by
    have := (told_len b).1
    rw [tailL]
    split
    · have := tail_len width r (toldL b).length; simp; omega
    · have := tail_len width r (q + (toldL b).length); simp; omega
/-- What is listed is read as it was. -/
theorem unl_tail (width : Int) : ∀ (l P : List UInt8) (q f : Nat) (out : List UInt8), (0 < q → out ≠ []) → (tailL width q l).length ≤ f → unlGo (P ++ tailL width q l) f P.length false out = (out ++ l, 0, 0)
  | [], P, q, f0, out, _, hf => by
    have := tail_len width [] q
    obtain ⟨f, rfl⟩ : ∃ f, f0 = f + 1 := ⟨f0 - 1, by omega⟩
    rw [unl_end (by rw [drop_pre]; rfl) (by simp [tailL])]; simp
  | b :: r, P, q, f0, out, hq, hf => by
    have h1 := (told_len b).1
    have h2 := tail_len width (b :: r) q
    obtain ⟨f, rfl⟩ : ∃ f, f0 = f + 1 := ⟨f0 - 1, by omega⟩
    by_cases h : 1 < width ∧ 0 < q ∧ width - 1 < (q : Int) + (toldL b).length
    · have e : tailL width q (b :: r) = [92, 10] ++ (toldL b ++ tailL width (toldL b).length r) := by rw [tailL, if_pos h]
      rw [e] at hf
      simp only [List.length_append, List.length_cons, List.length_nil] at hf
      obtain ⟨f', rfl⟩ : ∃ f', f = f' + 1 := ⟨f - 1, by omega⟩
      rw [e, unl_break (by rw [drop_pre]; rfl) (hq h.2.1) (by rw [drop_pre]; rfl)]
      have e2 : P ++ ([92, 10] ++ (toldL b ++ tailL width (toldL b).length r)) = (P ++ [92, 10]) ++ (toldL b ++ tailL width (toldL b).length r) := by simp
      rw [e2, show P.length + 2 = (P ++ [92, 10]).length by simp, unl_told rfl (.inl rfl), unl_tail width r _ _ f' _ (by simp) (by omega)]
      simp
    · have e : tailL width q (b :: r) = toldL b ++ tailL width (q + (toldL b).length) r := by rw [tailL, if_neg h]
      rw [e] at hf
      simp only [List.length_append] at hf
      rw [e, unl_told rfl (.inr ⟨by rw [drop_pre]; exact beg_told (tail_first _ _ _), .inr (by rw [drop_pre]; exact beg_told92 (.inl rfl))⟩), unl_tail width r _ _ f _ (by simp) (by omega)]
      simp
theorem unl_list {width : Int} (h : ¬ width < 0) (s : ByteArray) : unlP (listP s width).1 = (s.data.toList, 0, 0) := by
  rw [listP, if_neg h]
  simp only [unlP, data_bs, bs_size, list_is]
  have := unl_tail width s.data.toList [] 0 ((tailL width 0 s.data.toList).length + 1) [] (by simp) (by omega)
  simpa using this

/-- What is quoted is read as it was, whatever stands behind it. -/
theorem unq_tail (t : List UInt8) : ∀ (l P : List UInt8) (f : Nat) (out : List UInt8), l.length < f → unqGo (P ++ (l.flatMap qL ++ 34 :: t)) f P.length out = (out ++ l, (P ++ l.flatMap qL).length + 1, 0, 0)
  | [], P, f + 1, out, _ => by
    rw [unq_end (by rw [drop_pre]; rfl)]; simp
  | b :: r, P, f + 1, out, hf => by
    simp only [List.length_cons] at hf
    have e : (b :: r).flatMap qL ++ 34 :: t = qL b ++ (r.flatMap qL ++ 34 :: t) := by simp
    rw [e]
    by_cases hb : b = 34
    · have e2 : qL b = [92, 34] := by rw [qL, if_pos hb]
      rw [e2, unq_quote (by rw [drop_pre]; simp) (by rw [drop_pre]; rfl)]
      rw [show P ++ ([92, 34] ++ (r.flatMap qL ++ 34 :: t)) = (P ++ [92, 34]) ++ (r.flatMap qL ++ 34 :: t) by simp, show P.length + 2 = (P ++ [92, 34]).length by simp, unq_tail t r _ f _ (by omega)]
      subst hb
      simp [e2]
    · have e2 : qL b = toldL b := by rw [qL, if_neg hb]
      have hu := untold b (r.flatMap qL ++ 34 :: t) P.length
      have h34 : ¬ (toldL b ++ (r.flatMap qL ++ 34 :: t)).head? = some 34 := by
        rw [head_app (told_ne b)]; exact (told_first b).2.2.2 hb
      rw [e2, unq_on (by rw [drop_pre]; exact h34) (by rw [drop_pre]; exact beg_told92 (.inr rfl)) (by rw [drop_pre, hu])]
      rw [drop_pre, hu]
      simp only
      rw [← List.append_assoc, ← List.length_append, unq_tail t r _ f _ (by omega)]
      simp [e2]
theorem qL_pos (b : UInt8) : 1 ≤ (qL b).length := by
  unfold qL; split
  · simp
  · exact (told_len b).1
theorem qLs_len : ∀ l : List UInt8, l.length ≤ (l.flatMap qL).length
  | [] => by simp
  | b :: r => by have := qLs_len r; have := qL_pos b; simp only [List.flatMap_cons, List.length_append, List.length_cons]; omega
theorem unq_quoted (s t : ByteArray) : unqP (quoP s ++ t) = (s.data.toList, (quoP s).size, 0, 0) := by
  have e : (quoP s ++ t).data.toList = [34] ++ (s.data.toList.flatMap qL ++ 34 :: t.data.toList) := by
    simp [quoP, quoS, bs]
  have hz : (quoP s).size = (s.data.toList.flatMap qL).length + 2 := by
    rw [← szL]; simp [quoP, quoS, bs]
  have hz2 : (quoP s ++ t).size = (s.data.toList.flatMap qL).length + 2 + t.size := by simp [hz]
  have hl := qLs_len s.data.toList
  rw [unqP, if_pos (by rw [e]; rfl), e, show (1 : Nat) = ([34] : List UInt8).length from rfl, unq_tail t.data.toList s.data.toList [34] _ [] (by omega), hz]
  simp
/-- A row that may stand in a listing. -/
def goodR (width : Int) (x : List UInt8 × Bool) : Prop := x.2 = true ∧ x.1 ≠ [] ∧ (x.1.all fun c => 32 ≤ c.toNat && c.toNat ≤ 126) = true ∧ (4 < width → (x.1.length : Int) ≤ width)
theorem print_nolf {l : List UInt8} (h : (l.all fun c => 32 ≤ c.toNat && c.toNat ≤ 126) = true) : ∀ c ∈ l, (c == 10) = false := fun c hc => by
  have := List.all_eq_true.1 h c hc
  simp at this
  rw [beq_eq_false_iff_ne]; intro e; subst e; simp at this
theorem spl_row {a b : List UInt8} (h : ∀ c ∈ a, (c == 10) = false) : spl (a ++ 10 :: b) = (a, true) :: spl b := by
  induction a with
  | nil => exact spl_lf b
  | cons x r ih =>
    rw [List.cons_append, spl_other (h x (by simp)), ih (fun c hc => h c (by simp [hc]))]
    rfl
theorem rows_tail (width : Int) : ∀ (l p : List UInt8), (p.all fun c => 32 ≤ c.toNat && c.toNat ≤ 126) = true → (4 < width → (p.length : Int) ≤ width - 1) →
    ∃ rows, spl (p ++ tailL width p.length l) = rows ∧ rows ≠ [] ∧ (∀ x ∈ rows, goodR width x) ∧ (width ≤ 1 → rows.length = 1)
  | [], p, hp, hw => by
    refine ⟨[(p ++ [36], true)], ?_, by simp, fun x hx => ?_, fun _ => rfl⟩
    · rw [show p ++ tailL width p.length [] = (p ++ [36]) ++ 10 :: [] by simp [tailL], spl_row]
      · rfl
      · exact print_nolf (by simp [List.all_append, hp])
    · simp at hx; subst hx
      exact ⟨rfl, by simp, by simp [List.all_append, hp], fun h => by have := hw h; simp; omega⟩
  | b :: r, p, hp, hw => by
    have ht := told_print b
    have hl := told_len b
    by_cases h : 1 < width ∧ 0 < p.length ∧ width - 1 < (p.length : Int) + (toldL b).length
    · obtain ⟨rows, e, h1, h2, _⟩ := rows_tail width r (toldL b) ht (fun h4 => by omega)
      refine ⟨(p ++ [92], true) :: rows, ?_, by simp, fun x hx => ?_, fun h1 => by omega⟩
      · rw [tailL, if_pos h, show p ++ ([92, 10] ++ (toldL b ++ tailL width (toldL b).length r)) = (p ++ [92]) ++ 10 :: (toldL b ++ tailL width (toldL b).length r) by simp, spl_row (print_nolf (by simp [List.all_append, hp])), e]
      · rcases List.mem_cons.1 hx with rfl | hx
        · exact ⟨rfl, by simp, by simp [List.all_append, hp], fun h => by have := hw h; simp; omega⟩
        · exact h2 x hx
    · obtain ⟨rows, e, h1, h2, h3⟩ := rows_tail width r (p ++ toldL b) (by rw [List.all_append, hp, ht]; rfl) (fun h4 => by
        rw [List.length_append]
        by_cases h0 : 0 < p.length
        · have : ¬ (width - 1 < (p.length : Int) + (toldL b).length) := fun hq => h ⟨by omega, h0, hq⟩
          omega
        · omega)
      refine ⟨rows, ?_, h1, h2, h3⟩
      rw [tailL, if_neg h, ← List.append_assoc, ← List.length_append, e]
def goodB (width : Int) (x : ByteArray × Bool) : Prop := x.2 = true ∧ 0 < x.1.size ∧ (∀ i (h : i < x.1.size), 32 ≤ x.1[i].toNat ∧ x.1[i].toNat ≤ 126) ∧ (4 < width → (x.1.size : Int) ≤ width)
theorem rows_list {width : Int} (h : ¬ width < 0) (s : ByteArray) : splB (listP s width).1 ≠ [] ∧ (∀ x ∈ splB (listP s width).1, goodB width x) ∧ (width ≤ 1 → (splB (listP s width).1).length = 1) := by
  obtain ⟨rows, e, h1, h2, h3⟩ := rows_tail width s.data.toList [] (by simp) (fun _ => by simp; omega)
  have e2 : splB (listP s width).1 = rows.map lnB := by
    rw [listP, if_neg h, splB, data_bs, list_is]
    simp only [List.nil_append, List.length_nil] at e
    rw [e]
  rw [e2]
  refine ⟨by simpa using h1, fun x hx => ?_, by simpa using h3⟩
  obtain ⟨y, hy, rfl⟩ := List.mem_map.1 hx
  obtain ⟨g1, g2, g3, g4⟩ := h2 y hy
  refine ⟨g1, ?_, fun i hi => ?_, fun h4 => ?_⟩
  · show 0 < (bs y.1).size
    rw [bs_size]; exact List.length_pos_iff.2 g2
  · have hi' : i < y.1.length := by rw [← bs_size]; exact hi
    have := List.all_eq_true.1 g3 (y.1[i]) (List.getElem_mem hi')
    simp at this
    exact this
  · show ((bs y.1).size : Int) ≤ width
    rw [bs_size]; exact g4 h4
theorem list_size {width : Int} (s : ByteArray) : (listP s width).1.size ≤ 6 * s.size + 2 := by
  unfold listP
  split
  · rw [bs_size]; simp
  · have := (listSt_le width s.data.toList).1
    rw [szL] at this
    rw [bs_size, List.length_append]; simp; omega
end Ln
end Go.Proofs.YtmbpebdceaihaaaDoor
