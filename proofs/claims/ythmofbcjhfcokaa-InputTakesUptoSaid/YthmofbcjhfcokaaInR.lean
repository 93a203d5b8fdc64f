/- Plain: inputs without errors, Take by Take. -/
import Derived.Test.YthmofbcjhfcokaaInQ
namespace Go.Proofs.Ythmofbcjhfcokaa
def allB (l : List ByteArray) : List (ByteArray × Bool) := l.flatMap Ln.splB
def tlT (l : List ByteArray) : List In.Tl := l.map (fun s => (s, 0))
theorem tlT_len (l : List ByteArray) : (tlT l).length = l.length := by simp [tlT]
namespace In
theorem ahF_all : ∀ (l : List ByteArray) (k : Nat), ((ahF k (tlT l)).1.map (·.1)) = allB l ∧ (ahF k (tlT l)).2 = k + l.length
  | [], k => ⟨rfl, rfl⟩
  | s :: r, k => by
    obtain ⟨h1, h2⟩ := ahF_all r (k + 1)
    have e : tlT (s :: r) = (s, 0) :: tlT r := rfl
    rw [e]
    unfold ahF
    rw [if_neg (by decide), if_pos rfl]
    constructor
    · simp only [List.map_append, h1]
      simp [allB, Function.comp_def]
    · simp only [h2, List.length_cons]; omega
theorem ls_all (l : List ByteArray) : (ls (tlT l)).map (·.1) = allB l := (ahF_all l 0).1
theorem ls_len (l : List ByteArray) : (ls (tlT l)).length = (allB l).length := by rw [← ls_all]; simp
theorem fin_all (l : List ByteArray) : fin (tlT l) = l.length := by have := (ahF_all l 0).2; unfold fin; omega
theorem Cur.no_err {l : List ByteArray} {t : Nat} {s : St} (h : Cur (tlT l) t s) : s.why = 0 := by
  have := h.err
  rw [fin_all, dif_neg (by rw [tlT_len]; omega)] at this
  rw [this]
  split <;> rfl
theorem psd_all (l : List ByteArray) (n : Nat) : psd (tlT l) n = false := by
  unfold psd
  rw [List.any_eq_false]
  intro x hx
  have := List.mem_of_mem_take hx
  obtain ⟨y, _, rfl⟩ := List.mem_map.1 this
  simp
/-- At the end all were asked for. -/
theorem Cur.end_all {l : List ByteArray} {t : Nat} {s : St} (h : Cur (tlT l) t s) (hn : s.rest.data.toList = []) : t = (allB l).length ∧ s.asked = l.length ∧ s.passed = false := by
  refine ⟨?_, ?_, ?_⟩
  · rw [← ls_len]; exact (h.found.1 hn).symm
  · rw [← tlT_len]; exact h.look hn h.no_err
  · rw [h.rel.passed, psd_all]
/-- What a Take tells that finds a line. -/
structure Next (l : List ByteArray) (sep : Bool) (t : Nat) (s s' : St) (p : Nat) (x : ByteArray × Bool) : Prop where
  ans : takeR (tlT l) sep s = (x, true, 0, s')
  cur : Cur (tlT l) (t + 1) s'
  lnv : Lnv (tlT l) sep (t + 1) s'
  lt : t < (allB l).length
  line : (allB l).take (t + 1) = (allB l).take t ++ [x]
  pl : s'.ln.pl = p
  p_lt : p < l.length
  data : s'.ln.data = l[p]
  first : t = 0 → s'.ln.no = 1 ∧ s'.ln.fresh = false
  more : 0 < t → s.ln.pl ≤ p ∧ s'.ln.fresh = decide (p ≠ s.ln.pl) ∧ s'.ln.no = (if sep && decide (p ≠ s.ln.pl) then 1 else s.ln.no + 1) ∧ s.ln.last = (sep && decide (p ≠ s.ln.pl))
  no_le : s.ln.no ≤ t
theorem Cur.next_all {l : List ByteArray} {sep : Bool} {t : Nat} {s : St} (h : Cur (tlT l) t s) (hl : Lnv (tlT l) sep t s) (hn : s.rest.data.toList ≠ []) : ∃ s' p x, Next l sep t s s' p x := by
  obtain ⟨ht, h1, h2, h3, h4, h5⟩ := take_yes h hl hn (h.took hn).1.no_err
  obtain ⟨X, hX⟩ : ∃ X, X = takeR (tlT l) sep s := ⟨_, rfl⟩
  rw [← hX] at h1 h2 h3 h4 h5
  obtain ⟨x, o, y, s'⟩ := X
  simp only at h1 h2 h3 h4 h5
  subst h2; subst h3
  have hll := ls_len l
  have hls : s'.ln = lnAt (tlT l) sep (t + 1) := by have := h5; unfold Lnv at this; rw [if_neg (by omega)] at this; exact this
  have hln := lnv_next h hl hn
  have hp : inp (ls (tlT l)) t = (ls (tlT l))[t].2 := inp_at ht
  have hb := ahF_ge (tlT l) 0 _ (List.getElem_mem ht)
  rw [tlT_len] at hb
  have hpl : s'.ln.pl = (ls (tlT l))[t].2 := by rw [hls, ← hp]; rfl
  have hpt : (ls (tlT l))[t].2 < l.length := by omega
  have hda : s'.ln.data = l[(ls (tlT l))[t].2] := by
    rw [hls]
    show (((tlT l)[inp (ls (tlT l)) t]?).map (·.1)).getD ⟨#[]⟩ = _
    rw [hp, List.getElem?_eq_getElem (by rw [tlT_len]; exact hpt)]
    simp [tlT]
  have hle : ∀ q, 0 < t → q = inp (ls (tlT l)) (t - 1) → q ≤ (ls (tlT l))[t].2 := by
    intro q h0 e
    rw [e, inp_at (by omega)]
    exact List.pairwise_iff_getElem.1 (ahF_rise (tlT l) 0) (t - 1) t (by show t - 1 < (ls (tlT l)).length; omega) ht (by omega)
  refine ⟨s', (ls (tlT l))[t].2, x, hX.symm, h4, h5, by omega, ?_, hpl, hpt, hda, fun t0 => ?_, fun t0 => ?_, ?_⟩
  · rw [List.take_succ_eq_append_getElem (by omega : t < (allB l).length)]
    congr 2
    rw [h1]
    simp only [← ls_all]
    simp
  · unfold Lnv at hl
    rw [if_pos t0] at hl
    rw [hls, ← hln]
    unfold lnOf next
    simp [hl, st0]
  · unfold Lnv at hl
    rw [if_neg (by omega)] at hl
    have e2 : s.ln.pl = inp (ls (tlT l)) (t - 1) := by rw [hl]; rfl
    have e1 : 0 < s.ln.no := by rw [hl]; exact num_pos sep t0 h.rel.t_le
    have ea : s.asked - 1 = (ls (tlT l))[t].2 := by
      obtain ⟨_, e⟩ := h.nextL hn
      rw [e]
    refine ⟨hle _ t0 e2, ?_, ?_, ?_⟩
    · rw [hls, ← hln]
      show (decide (0 < s.ln.no) && decide (s.asked - 1 ≠ s.ln.pl)) = _
      rw [ea, decide_eq_true e1, Bool.true_and]
    · rw [hls, ← hln]
      show (if sep && (decide (0 < s.ln.no) && decide (s.asked - 1 ≠ s.ln.pl)) then 1 else s.ln.no + 1) = _
      rw [ea, decide_eq_true e1, Bool.true_and]
    · conv => lhs; rw [hl]
      show (decide (t = (ls (tlT l)).length) || (sep && decide (inp (ls (tlT l)) t ≠ inp (ls (tlT l)) (t - 1)))) = _
      rw [decide_eq_false (by omega), Bool.false_or, hp, e2]
  · unfold Lnv at hl
    split at hl
    · rw [hl]; exact Nat.zero_le _
    · rw [hl]; exact num_le _ _ _ _
end In
end Go.Proofs.Ythmofbcjhfcokaa
