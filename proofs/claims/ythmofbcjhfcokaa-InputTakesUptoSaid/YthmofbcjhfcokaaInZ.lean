/- Plain: what the reference tells of a state. -/
import Derived.Test.YthmofbcjhfcokaaInW
namespace Go.Proofs.Ythmofbcjhfcokaa
namespace In
theorem Cur.askF {T : List Tl} {t : Nat} {s : St} (h : Cur T t s) : askF T t = s.asked := by
  rw [h.asked]
  unfold In.askF
  by_cases ht : t < (ls T).length
  · rw [if_pos ht, dif_pos ht, inp_at ht]
  · rw [if_neg ht, dif_neg ht]
theorem Cur.errF {T : List Tl} {t : Nat} {s : St} (h : Cur T t s) : errF T t = s.why := by
  rw [h.err]
  unfold In.errF
  by_cases ht : t < (ls T).length
  · rw [if_pos ht, if_pos ht]
  · rw [if_neg ht, if_neg ht]
    by_cases hf : fin T < T.length
    · rw [dif_pos hf, List.getElem?_eq_getElem hf]; rfl
    · rw [dif_neg hf, List.getElem?_eq_none (by omega)]; rfl
/-- The line that was taken last. -/
def lin (T : List Tl) (t : Nat) : ByteArray × Bool := if t = 0 then (⟨#[]⟩, false) else (((ls T)[t - 1]?).map (·.1)).getD (⟨#[]⟩, false)
theorem Cur.bh {T : List Tl} {sep : Bool} {t : Nat} {s : St} (h : Cur T t s) (hl : Lnv T sep t s) : bh T sep t = bhA s.why s.ln s.passed s.asked (lin T t) (decide (t < (ls T).length)) := by
  unfold In.bh
  rw [h.askF, h.errF, ← h.rel.passed]
  have e : s.ln = if t = 0 then st0.ln else lnAt T sep t := by
    unfold Lnv at hl
    split
    · rename_i q; rw [if_pos q] at hl; exact hl
    · rename_i q; rw [if_neg q] at hl; exact hl
  rw [← e]
  rfl
theorem Cur.bhE {T : List Tl} {sep : Bool} {t : Nat} {s : St} (h : Cur T t s) : ∃ K, In.bh T sep t = bhA s.why K s.passed s.asked (lin T t) (decide (t < (ls T).length)) := by
  refine ⟨if t = 0 then st0.ln else lnAt T sep t, ?_⟩
  unfold In.bh
  rw [h.askF, h.errF, ← h.rel.passed]
  rfl
theorem lin_succ {T : List Tl} {t : Nat} (h : t < (ls T).length) : lin T (t + 1) = (ls T)[t].1 := by
  unfold lin
  rw [if_neg (by omega), Nat.add_sub_cancel, List.getElem?_eq_getElem h]
  rfl
theorem Lnv.no_le {T : List Tl} {sep : Bool} {t : Nat} {s : St} (hl : Lnv T sep t s) : s.ln.no ≤ t := by
  unfold Lnv at hl
  split at hl
  · rw [hl]; exact Nat.zero_le _
  · rw [hl]; exact num_le _ _ _ _
end In
end Go.Proofs.Ythmofbcjhfcokaa
