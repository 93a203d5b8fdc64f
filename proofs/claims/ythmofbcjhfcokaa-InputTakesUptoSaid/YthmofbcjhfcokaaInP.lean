/- Plain: what an input tells, Take by Take. -/
import Derived.Test.YthmofbcjhfcokaaInE
namespace Go.Proofs.Ythmofbcjhfcokaa
theorem Ln.first_spl : ∀ (l p : List UInt8), (p ≠ [] ∨ l ≠ []) → Ln.glue p (Ln.spl l) = ((Ln.firstP p l).1, (Ln.firstP p l).2.2) :: Ln.spl (Ln.firstP p l).2.1
  | [], p, h => by
    have hp : p.isEmpty = false := by simpa using h
    simp [Ln.spl, Ln.glue, Ln.firstP, hp]
  | c :: r, p, _ => by
    cases hc : (c == 10)
    · rw [Ln.spl_other hc, Ln.glue_glue, Ln.first_other hc]
      exact Ln.first_spl r (p ++ [c]) (.inl (by simp))
    · have : c = 10 := by simpa using hc
      subst this
      rw [Ln.spl_lf, Ln.first_lf]
      simp [Ln.glue]
theorem Ln.first_splB (s : ByteArray) (h : s.data.toList ≠ []) : Ln.splB s = (Ln.bs (Ln.firstP [] s.data.toList).1, (Ln.firstP [] s.data.toList).2.2) :: Ln.splB (Ln.bs (Ln.firstP [] s.data.toList).2.1) := by
  have := Ln.first_spl s.data.toList [] (.inr h)
  rw [Ln.glue_nil] at this
  unfold Ln.splB
  rw [this, List.map_cons, Ln.data_bs]
  rfl
theorem Ln.first_len : ∀ (l p : List UInt8), (Ln.firstP p l).2.1.length ≤ l.length
  | [], p => by simp [Ln.firstP]
  | c :: r, p => by
    cases hc : (c == 10)
    · rw [Ln.first_other hc]
      have := Ln.first_len r (p ++ [c])
      simp; omega
    · have : c = 10 := by simpa using hc
      subst this
      rw [Ln.first_lf]
      simp
theorem Ln.splB_nil {s : ByteArray} (h : s.data.toList = []) : Ln.splB s = [] := by simp [Ln.splB, h, Ln.spl]
theorem Ln.splB_ne {s : ByteArray} (h : s.data.toList ≠ []) : Ln.splB s ≠ [] := by rw [Ln.first_splB s h]; simp
namespace In
theorem emp_iff (s : ByteArray) : s.toList.isEmpty = true ↔ s.data.toList = [] := by rw [Lib.toList_data]; simp
theorem emp_not (s : ByteArray) : s.toList.isEmpty = false ↔ s.data.toList ≠ [] := by rw [Lib.toList_data]; simp
/-- The lines of inputs ahead of the first one that has an error, and the number of that. -/
def ahF : Nat → List Tl → List ((ByteArray × Bool) × Nat) × Nat
  | k, [] => ([], k)
  | k, (d, y) :: r => if y = 31 then ahF (k + 1) r else if y = 0 then ((Ln.splB d).map (fun x => (x, k)) ++ (ahF (k + 1) r).1, (ahF (k + 1) r).2) else ([], k)
def ls (T : List Tl) : List ((ByteArray × Bool) × Nat) := (ahF 0 T).1
def fin (T : List Tl) : Nat := (ahF 0 T).2
def tsz (T : List Tl) : Nat := (T.map (·.1.size)).sum
theorem tsz_mem : ∀ {T : List Tl} {k : Nat} (h : k < T.length), (T[k]'h).1.size ≤ tsz T
  | x :: r, 0, _ => by simp [tsz]
  | x :: r, k + 1, h => by
    have := tsz_mem (T := r) (k := k) (by simpa using h)
    simp only [tsz, List.map_cons, List.sum_cons, List.getElem_cons_succ] at *
    omega
def psd (T : List Tl) (n : Nat) : Bool := (T.take n).any (fun x => x.2 == 31)
/-- What a state has to do with the lines, when t of them were taken. -/
structure Rel (T : List Tl) (t : Nat) (s : St) : Prop where
  le : s.asked ≤ T.length
  t_le : t ≤ (ls T).length
  rem : s.why = 0 → (ls T).drop t = (Ln.splB s.rest).map (fun x => (x, s.asked - 1)) ++ (ahF s.asked (T.drop s.asked)).1
  fin : s.why = 0 → fin T = (ahF s.asked (T.drop s.asked)).2
  bad : s.why ≠ 0 → (ls T).length = t ∧ s.rest.data.toList = [] ∧ 1 ≤ s.asked ∧ In.fin T = s.asked - 1 ∧ ∃ d, T[s.asked - 1]? = some (d, s.why)
  passed : s.passed = psd T s.asked
  text : s.rest.data.toList ≠ [] → 1 ≤ s.asked ∧ T[s.asked - 1]? = some (s.text, 0)
  sz : s.rest.size ≤ tsz T
theorem rel_0 (T : List Tl) : Rel T 0 st0 := by
  refine ⟨Nat.zero_le _, Nat.zero_le _, fun _ => ?_, fun _ => rfl, fun h => absurd rfl h, rfl, fun h => absurd rfl h, Nat.zero_le _⟩
  simp [st0, ls, Ln.splB, Ln.spl]
theorem psd_step {T : List Tl} {n : Nat} (h : n < T.length) : psd T (n + 1) = (psd T n || ((T[n]'h).2 == 31)) := by
  unfold psd
  rw [List.take_succ_eq_append_getElem h, List.any_append]
  simp
theorem ask_ln (T : List Tl) (s : St) : (ask T s).ln = s.ln := by
  unfold ask
  split
  · rfl
  · split
    · rfl
    · split <;> rfl
theorem rel_ask {T : List Tl} {t : Nat} {s : St} (h : Rel T t s) (h1 : s.rest.data.toList = []) (h2 : s.why = 0) (h3 : s.asked < T.length) : Rel T t (ask T s) := by
  have hrem := h.rem h2
  have hfin := h.fin h2
  rw [Ln.splB_nil h1, List.drop_eq_getElem_cons h3] at hrem
  rw [List.drop_eq_getElem_cons h3] at hfin
  have hp := psd_step h3
  have hsz := tsz_mem h3
  by_cases e0 : (T[s.asked]'h3).2 = 0
  · rw [ask_ok h3 e0]
    generalize hx : T[s.asked]'h3 = x at *
    obtain ⟨d, y⟩ := x
    simp only at e0
    subst e0
    simp only [ahF] at hrem hfin
    refine ⟨h3, h.t_le, fun _ => ?_, fun _ => hfin, fun q => absurd h2 q, ?_, fun _ => ⟨by simp, ?_⟩, hsz⟩
    · simpa using hrem
    · simp only [hp, ← h.passed]; simp
    · simp [hx, h3]
  · by_cases e1 : (T[s.asked]'h3).2 = 31
    · rw [ask_none h3 e1]
      generalize hx : T[s.asked]'h3 = x at *
      obtain ⟨d, y⟩ := x
      simp only at e1
      subst e1
      simp only [ahF] at hrem hfin
      refine ⟨h3, h.t_le, fun _ => ?_, fun _ => hfin, fun q => absurd h2 q, ?_, fun q => absurd h1 q, h.sz⟩
      · rw [Ln.splB_nil h1]
        simpa using hrem
      · simp only [hp]; simp
    · rw [ask_bad h3 e0 e1]
      generalize hx : T[s.asked]'h3 = x at *
      obtain ⟨d, y⟩ := x
      simp only at e0 e1
      simp only [ahF, if_neg e1, if_neg e0] at hrem hfin
      have hl : (ls T).length = t := by
        have := congrArg List.length hrem
        have ht := h.t_le
        simp at this
        omega
      refine ⟨h3, h.t_le, fun q => absurd q e0, fun q => absurd q e0, fun _ => ⟨hl, h1, by simp, by simpa using hfin, d, by simp [hx, h3]⟩, ?_, fun q => absurd h1 q, h.sz⟩
      simp only [hp, ← h.passed]
      simp [e1]
theorem rel_look {T : List Tl} {t : Nat} : ∀ (f : Nat) (s : St), Rel T t s → T.length - s.asked ≤ f → Rel T t (look T f s) ∧ (look T f s).ln = s.ln ∧ ((look T f s).rest.data.toList = [] → (look T f s).why = 0 → (look T f s).asked = T.length)
  | 0, s, h, hf => ⟨h, rfl, fun _ _ => by have := h.le; simp only [look]; omega⟩
  | f + 1, s, h, hf => by
    unfold look
    split
    · rename_i hc
      obtain ⟨h1, h2, h3⟩ := rel_look f (ask T s) (rel_ask h ((emp_iff _).1 hc.1) hc.2.1 hc.2.2) (by rw [ask_asked hc.2.2]; omega)
      exact ⟨h1, h2.trans (ask_ln T s), h3⟩
    · rename_i hc
      refine ⟨h, rfl, fun e1 e2 => ?_⟩
      have := h.le
      have : ¬ s.asked < T.length := fun e => hc ⟨(emp_iff _).2 e1, e2, e⟩
      omega
/-- Behind a look. -/
structure Cur (T : List Tl) (t : Nat) (s : St) : Prop where
  rel : Rel T t s
  look : s.rest.data.toList = [] → s.why = 0 → s.asked = T.length
theorem cur_lk {T : List Tl} {t : Nat} {s : St} (h : Rel T t s) : Cur T t (lk T s) ∧ (lk T s).ln = s.ln := by
  obtain ⟨h1, h2, h3⟩ := rel_look (T.length - s.asked) s h (Nat.le_refl _)
  exact ⟨⟨h1, h3⟩, h2⟩
theorem cur_0 (T : List Tl) : Cur T 0 (lk T st0) ∧ (lk T st0).ln = st0.ln := cur_lk (rel_0 T)
theorem Cur.found {T : List Tl} {t : Nat} {s : St} (h : Cur T t s) : s.rest.data.toList = [] ↔ (ls T).length = t := by
  have ht := h.rel.t_le
  by_cases hy : s.why = 0
  · have hr := congrArg List.length (h.rel.rem hy)
    constructor
    · intro e
      have ha := h.look e hy
      rw [Ln.splB_nil e, ha, List.drop_length] at hr
      simp [ahF] at hr
      omega
    · intro e
      refine Classical.byContradiction fun hn => ?_
      have hne := Ln.splB_ne hn
      have : 0 < (Ln.splB s.rest).length := List.length_pos_iff.2 hne
      simp at hr
      omega
  · have hb := h.rel.bad hy
    exact ⟨fun _ => hb.1, fun _ => hb.2.1⟩
theorem Cur.why0 {T : List Tl} {t : Nat} {s : St} (h : Cur T t s) (hn : s.rest.data.toList ≠ []) : s.why = 0 := Classical.byContradiction fun hy => hn (h.rel.bad hy).2.1
/-- The line that is next. -/
theorem Cur.nextL {T : List Tl} {t : Nat} {s : St} (h : Cur T t s) (hn : s.rest.data.toList ≠ []) : ∃ ht : t < (ls T).length, (ls T)[t] = ((Ln.bs (Ln.firstP [] s.rest.data.toList).1, (Ln.firstP [] s.rest.data.toList).2.2), s.asked - 1) := by
  have ht : t < (ls T).length := by
    have := h.rel.t_le
    have : ¬ (ls T).length = t := fun e => hn (h.found.2 e)
    omega
  refine ⟨ht, ?_⟩
  have hr := h.rel.rem (h.why0 hn)
  rw [List.drop_eq_getElem_cons ht, Ln.first_splB s.rest hn, List.map_cons, List.cons_append] at hr
  exact (List.cons.inj hr).1
theorem Cur.took {T : List Tl} {t : Nat} {s : St} (h : Cur T t s) (hn : s.rest.data.toList ≠ []) : Cur T (t + 1) (tkS T s) ∧ (tkS T s).ln = s.ln := by
  obtain ⟨ht, _⟩ := h.nextL hn
  have hy := h.why0 hn
  have hr := h.rel.rem hy
  rw [List.drop_eq_getElem_cons ht, Ln.first_splB s.rest hn, List.map_cons, List.cons_append] at hr
  refine cur_lk (s := { s with rest := Ln.bs (Ln.firstP [] s.rest.data.toList).2.1 }) ⟨h.rel.le, ht, fun _ => (List.cons.inj hr).2, h.rel.fin, fun q => absurd hy q, h.rel.passed, fun _ => h.rel.text hn, Nat.le_trans ?_ h.rel.sz⟩
  show (Ln.bs (Ln.firstP [] s.rest.data.toList).2.1).size ≤ _
  rw [Ln.bs_size, ← Ln.szL]
  exact Ln.first_len _ _
/-- How many inputs were asked for. -/
theorem Cur.asked {T : List Tl} {t : Nat} {s : St} (h : Cur T t s) : s.asked = if ht : t < (ls T).length then (ls T)[t].2 + 1 else if fin T < T.length then fin T + 1 else T.length := by
  by_cases hn : s.rest.data.toList = []
  · have e := h.found.1 hn
    rw [dif_neg (by omega)]
    by_cases hy : s.why = 0
    · have ha := h.look hn hy
      have hf := h.rel.fin hy
      rw [ha, List.drop_length] at hf
      simp only [ahF] at hf
      rw [if_neg (by omega), ha]
    · obtain ⟨_, _, h1, h2, d, h3⟩ := h.rel.bad hy
      have := h.rel.le
      rw [if_pos (by omega)]
      omega
  · obtain ⟨ht, e⟩ := h.nextL hn
    have := (h.rel.text hn).1
    rw [dif_pos ht, e]
    omega
theorem Cur.err {T : List Tl} {t : Nat} {s : St} (h : Cur T t s) : s.why = if t < (ls T).length then 0 else if hf : fin T < T.length then T[fin T].2 else 0 := by
  by_cases hn : s.rest.data.toList = []
  · have e := h.found.1 hn
    rw [if_neg (by omega)]
    by_cases hy : s.why = 0
    · have ha := h.look hn hy
      have hf := h.rel.fin hy
      rw [ha, List.drop_length] at hf
      simp only [ahF] at hf
      rw [dif_neg (by omega), hy]
    · obtain ⟨_, _, h1, h2, d, h3⟩ := h.rel.bad hy
      have := h.rel.le
      rw [dif_pos (by omega)]
      have h4 : T[s.asked - 1]'(by omega) = (d, s.why) := by rw [List.getElem?_eq_getElem (by omega)] at h3; exact Option.some.inj h3
      simp only [h2, h4]
  · rw [if_pos (h.nextL hn).1, h.why0 hn]
end In
end Go.Proofs.Ythmofbcjhfcokaa
