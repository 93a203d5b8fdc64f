/- Plain: what is told of the line that was taken last. -/
import Derived.Test.YthmofbcjhfcokaaInP
namespace Go.Proofs.Ythmofbcjhfcokaa
namespace In
theorem ahF_ge : ∀ (T : List Tl) (k : Nat), ∀ x ∈ (ahF k T).1, k ≤ x.2 ∧ x.2 < k + T.length
  | [], k, x, h => by cases h
  | (d, y) :: r, k, x, h => by
    unfold ahF at h
    split at h
    · have := ahF_ge r (k + 1) x h; simp; omega
    · split at h
      · rcases List.mem_append.1 h with h | h
        · obtain ⟨z, _, rfl⟩ := List.mem_map.1 h; simp
        · have := ahF_ge r (k + 1) x h; simp; omega
      · cases h
theorem ahF_rise : ∀ (T : List Tl) (k : Nat), (ahF k T).1.Pairwise (fun x y => x.2 ≤ y.2)
  | [], _ => List.Pairwise.nil
  | (d, y) :: r, k => by
    unfold ahF
    split
    · exact ahF_rise r (k + 1)
    · split
      · refine List.pairwise_append.2 ⟨?_, ahF_rise r (k + 1), fun x hx z hz => ?_⟩
        · exact List.pairwise_map.2 (List.Pairwise.imp (fun _ => Nat.le_refl _) (List.pairwise_of_forall (l := Ln.splB d) (R := fun _ _ => True) (fun _ _ => trivial)))
        · obtain ⟨q, _, rfl⟩ := List.mem_map.1 hx
          have := ahF_ge r (k + 1) z hz
          simp only []
          omega
      · exact List.Pairwise.nil
/-- The input of a line. -/
def inp (L : List ((ByteArray × Bool) × Nat)) (i : Nat) : Nat := ((L[i]?).map (·.2)).getD 0
theorem inp_at {L : List ((ByteArray × Bool) × Nat)} {i : Nat} (h : i < L.length) : inp L i = (L[i]'h).2 := by simp [inp, h]
def num (L : List ((ByteArray × Bool) × Nat)) (sep : Bool) (t p : Nat) : Nat := ((L.take t).filter (fun x => !sep || x.2 == p)).length
/-- What is told of the line that was taken last, when t were taken. -/
def lnAt (T : List Tl) (sep : Bool) (t : Nat) : Tk :=
  ⟨inp (ls T) (t - 1), num (ls T) sep t (inp (ls T) (t - 1)), decide (t = (ls T).length) || (sep && decide (inp (ls T) t ≠ inp (ls T) (t - 1))), decide (1 < t) && decide (inp (ls T) (t - 2) ≠ inp (ls T) (t - 1)), ((T[inp (ls T) (t - 1)]?).map (·.1)).getD ⟨#[]⟩⟩
theorem num_step {L : List ((ByteArray × Bool) × Nat)} {t : Nat} (h : t < L.length) (sep : Bool) (p : Nat) : num L sep (t + 1) p = num L sep t p + if (!sep || (L[t]'h).2 == p) = true then 1 else 0 := by
  unfold num
  rw [List.take_succ_eq_append_getElem h, List.filter_append, List.length_append]
  congr 1
  cases hc : (!sep || (L[t]'h).2 == p) <;> simp [List.filter, hc]
theorem num_le (L : List ((ByteArray × Bool) × Nat)) (sep : Bool) (t p : Nat) : num L sep t p ≤ t := by
  unfold num
  exact Nat.le_trans (List.length_filter_le _ _) (by simp; omega)
theorem num_all {L : List ((ByteArray × Bool) × Nat)} {t p : Nat} (h : t ≤ L.length) : num L false t p = t := by
  unfold num
  have e : (L.take t).filter (fun x => !false || x.2 == p) = L.take t := List.filter_eq_self.2 (fun _ _ => rfl)
  rw [e]
  simp; omega
theorem num_new {L : List ((ByteArray × Bool) × Nat)} (hr : L.Pairwise (fun x y => x.2 ≤ y.2)) {t : Nat} (h0 : 0 < t) (h : t < L.length) (hne : (L[t]'h).2 ≠ (L[t - 1]'(by omega)).2) : num L true t (L[t]'h).2 = 0 := by
  unfold num
  rw [List.length_eq_zero_iff, List.filter_eq_nil_iff]
  intro x hx
  obtain ⟨i, hi, rfl⟩ := List.mem_take_iff_getElem.1 hx
  have hi' : i < t := by omega
  have h1 : (L[i]'(by omega)).2 ≤ (L[t - 1]'(by omega)).2 := by
    by_cases e : i = t - 1
    · subst e; exact Nat.le_refl _
    · exact List.pairwise_iff_getElem.1 hr i (t - 1) (by omega) (by omega) (by omega)
  have h2 : (L[t - 1]'(by omega)).2 ≤ (L[t]'h).2 := List.pairwise_iff_getElem.1 hr (t - 1) t (by omega) h (by omega)
  simp only [Bool.not_true, Bool.false_or, beq_iff_eq]
  omega
theorem num_pos {L : List ((ByteArray × Bool) × Nat)} {t : Nat} (sep : Bool) (h0 : 0 < t) (h : t ≤ L.length) : 0 < num L sep t (inp L (t - 1)) := by
  have e : t = (t - 1) + 1 := by omega
  have := num_step (L := L) (t := t - 1) (by omega) sep (inp L (t - 1))
  rw [← e, inp_at (by omega)] at this
  rw [inp_at (by omega), this]
  simp
/-- What is told, Take by Take. -/
def Lnv (T : List Tl) (sep : Bool) (t : Nat) (s : St) : Prop := if t = 0 then s.ln = st0.ln else s.ln = lnAt T sep t
theorem lnv_next {T : List Tl} {sep : Bool} {t : Nat} {s : St} (h : Cur T t s) (hl : Lnv T sep t s) (hn : s.rest.data.toList ≠ []) : lnOf sep s (tkS T s) = lnAt T sep (t + 1) := by
  obtain ⟨ht, e⟩ := h.nextL hn
  have h1 := (h.took hn).1
  have hp : s.asked - 1 = inp (ls T) t := by rw [inp_at ht, e]
  obtain ⟨ha, htx⟩ := h.rel.text hn
  have hrise : (ls T).Pairwise (fun x y => x.2 ≤ y.2) := ahF_rise T 0
  have hfr : (decide (0 < s.ln.no) && decide (s.asked - 1 ≠ s.ln.pl)) = (decide (1 < t + 1) && decide (inp (ls T) (t - 1) ≠ inp (ls T) t)) := by
    unfold Lnv at hl
    by_cases t0 : t = 0
    · rw [if_pos t0] at hl
      simp [hl, st0, t0]
    · rw [if_neg t0] at hl
      have := num_pos (L := ls T) sep (by omega) h.rel.t_le
      have e1 : s.ln.no = num (ls T) sep t (inp (ls T) (t - 1)) := by rw [hl]; rfl
      have e2 : s.ln.pl = inp (ls T) (t - 1) := by rw [hl]; rfl
      rw [e1, e2, hp, decide_eq_true (by omega : 0 < num (ls T) sep t (inp (ls T) (t - 1))), decide_eq_true (by omega : 1 < t + 1)]
      simp only [Bool.true_and]
      exact decide_eq_decide.2 ⟨fun q r => q r.symm, fun q r => q r.symm⟩
  have hlast : ((tkS T s).rest.toList.isEmpty || (sep && decide ((tkS T s).asked - 1 ≠ s.asked - 1))) = (decide (t + 1 = (ls T).length) || (sep && decide (inp (ls T) (t + 1) ≠ inp (ls T) t))) := by
    by_cases e1 : (tkS T s).rest.data.toList = []
    · have := h1.found.1 e1
      rw [(emp_iff _).2 e1, decide_eq_true this.symm]
      simp
    · have h2 : ¬ t + 1 = (ls T).length := fun q => e1 (h1.found.2 q.symm)
      obtain ⟨ht', e'⟩ := h1.nextL e1
      rw [(emp_not _).2 e1, decide_eq_false h2, hp, inp_at ht', e']
  have hnum : (if sep && (decide (0 < s.ln.no) && decide (s.asked - 1 ≠ s.ln.pl)) then 1 else s.ln.no + 1) = num (ls T) sep (t + 1) (inp (ls T) t) := by
    rw [hfr, num_step ht, inp_at ht]
    simp only [beq_self_eq_true, Bool.or_true, if_true]
    unfold Lnv at hl
    by_cases t0 : t = 0
    · rw [if_pos t0] at hl
      subst t0
      simp [hl, st0, num]
    · rw [if_neg t0] at hl
      have e1 : s.ln.no = num (ls T) sep t (inp (ls T) (t - 1)) := by rw [hl]; rfl
      cases sep
      · rw [e1, num_all h.rel.t_le, num_all h.rel.t_le]; simp
      · by_cases hq : inp (ls T) (t - 1) = inp (ls T) t
        · rw [e1, hq, ← inp_at ht]; simp
        · have e2 := num_new hrise (by omega) ht (by rw [← inp_at ht, ← inp_at (by omega)]; exact fun q => hq q.symm)
          rw [e2]
          simp only [Bool.true_and, decide_eq_true (by omega : 1 < t + 1)]
          rw [← inp_at ht, decide_eq_true (show inp (ls T) (t - 1) ≠ inp (ls T) t from hq)]
          simp
  have hd : ((T[inp (ls T) t]?).map (·.1)).getD ⟨#[]⟩ = s.text := by rw [← hp, htx]; rfl
  unfold lnOf lnAt next
  rw [Tk.mk.injEq]
  rw [show t + 1 - 2 = t - 1 by omega, show t + 1 - 1 = t by omega]
  exact ⟨hp, hnum, hlast, hfr, hd.symm⟩
theorem lnv_0 (T : List Tl) (sep : Bool) : Lnv T sep 0 (lk T st0) := by unfold Lnv; rw [if_pos rfl]; exact (cur_0 T).2
/-- A Take that finds a line and the one behind it. -/
theorem take_yes {T : List Tl} {sep : Bool} {t : Nat} {s : St} (h : Cur T t s) (hl : Lnv T sep t s) (hn : s.rest.data.toList ≠ []) (hy : (tkS T s).why = 0) :
    ∃ ht : t < (ls T).length, (takeR T sep s).1 = (ls T)[t].1 ∧ (takeR T sep s).2.1 = true ∧ (takeR T sep s).2.2.1 = 0 ∧ Cur T (t + 1) (takeR T sep s).2.2.2 ∧ Lnv T sep (t + 1) (takeR T sep s).2.2.2 := by
  obtain ⟨ht, e⟩ := h.nextL hn
  refine ⟨ht, ?_⟩
  unfold takeR
  rw [if_pos ⟨h.why0 hn, (emp_not _).2 hn⟩, if_pos hy]
  refine ⟨by rw [e], rfl, rfl, ⟨?_, (h.took hn).1.look⟩, ?_⟩
  · obtain ⟨q1, q2, q3, q4, q5, q6, q7, q8⟩ := (h.took hn).1.rel
    exact ⟨q1, q2, q3, q4, q5, q6, q7, q8⟩
  · unfold Lnv
    rw [if_neg (by omega)]
    exact lnv_next h hl hn
/-- A Take behind which looking ends by an error. -/
theorem take_bad {T : List Tl} {sep : Bool} {t : Nat} {s : St} (h : Cur T t s) (hn : s.rest.data.toList ≠ []) (hy : (tkS T s).why ≠ 0) :
    takeR T sep s = ((⟨#[]⟩, false), false, (tkS T s).why, tkS T s) ∧ Cur T (t + 1) (tkS T s) := by
  refine ⟨?_, (h.took hn).1⟩
  unfold takeR
  rw [if_pos ⟨h.why0 hn, (emp_not _).2 hn⟩, if_neg hy]
theorem take_none {T : List Tl} {sep : Bool} {t : Nat} {s : St} (_h : Cur T t s) (hn : s.rest.data.toList = []) : takeR T sep s = ((⟨#[]⟩, false), false, s.why, s) := by
  unfold takeR
  rw [if_neg (fun q => by have := (emp_iff s.rest).2 hn; rw [this] at q; cases q.2)]
end In
end Go.Proofs.Ythmofbcjhfcokaa
