/- Plain facts on the changes as they are written: hunks, places, rows. -/
import Derived.Test.YtpoimhkfajppmaaDoorLPlainE
import Derived.Lib.ItoaNum
namespace Go.Proofs.YtpoimhkfajppmaaDoor
namespace Ln
abbrev Chg := Nat × (ByteArray × Bool)
def cntO (l : List Chg) : Nat := (l.filter fun c => c.1 != 3).length
def cntN (l : List Chg) : Nat := (l.filter fun c => c.1 != 2).length
theorem cntO_append (a b : List Chg) : cntO (a ++ b) = cntO a + cntO b := by simp [cntO]
theorem cntN_append (a b : List Chg) : cntN (a ++ b) = cntN a + cntN b := by simp [cntN]
theorem cntO_le (l : List Chg) : cntO l ≤ l.length := List.length_filter_le _ _
theorem cntN_le (l : List Chg) : cntN l ≤ l.length := List.length_filter_le _ _
def placeP (ahead n : Nat) : List UInt8 := if n = 0 then Lib.decDigits ahead ++ [44, 48] else if n = 1 then Lib.decDigits (ahead + 1) else Lib.decDigits (ahead + 1) ++ [44] ++ Lib.decDigits n
def signP (k : Nat) : UInt8 := if k = 2 then 45 else if k = 3 then 43 else 32
def noNl : List UInt8 := [92, 32, 78, 111, 32, 110, 101, 119, 108, 105, 110, 101, 32, 97, 116, 32, 101, 110, 100, 32, 111, 102, 32, 102, 105, 108, 101, 10]
def chB (c : Chg) : List UInt8 := signP c.1 :: (c.2.1.data.toList ++ [10] ++ (if c.2.2 then [] else noNl))
def sub (l : List Chg) (f t : Nat) : List Chg := (l.drop f).take (t - f)
theorem sub_length {l : List Chg} {f t : Nat} (h1 : f ≤ t) (h2 : t ≤ l.length) : (sub l f t).length = t - f := by simp [sub]; omega
theorem take_sub {l : List Chg} {f t : Nat} (h1 : f ≤ t) : l.take t = l.take f ++ sub l f t := by
  unfold sub
  rw [show t = f + (t - f) by omega, List.take_add]
  simp
def hunkB (l : List Chg) (f t : Nat) : List UInt8 :=
  [64, 64, 32, 45] ++ placeP (cntO (l.take f)) (cntO (sub l f t)) ++ [32, 43] ++ placeP (cntN (l.take f)) (cntN (sub l f t)) ++ [32, 64, 64, 10] ++ (sub l f t).flatMap chB
/-- One more change that is no keep. -/
def hstep (ar : Nat) (out : List (Nat × Nat)) (i : Nat) : List (Nat × Nat) :=
  match out.getLast? with
  | some (f, t) => if i ≤ t + 2 * ar then out.dropLast ++ [(f, i + 1)] else out ++ [(i, i + 1)]
  | none => [(i, i + 1)]
def hks (ar : Nat) (l : List Chg) : Nat → List (Nat × Nat)
  | 0 => []
  | i + 1 => if (l[i]?).map (·.1) = some 1 then hks ar l i else hstep ar (hks ar l i) i
/-- The hunks lie apart, ahead of i. -/
def Sep (ar : Nat) (n : Nat) (out : List (Nat × Nat)) : Prop :=
  (∀ k (h : k < out.length), (out[k]'h).1 < (out[k]'h).2 ∧ (out[k]'h).2 ≤ n) ∧ ∀ k (h : k + 1 < out.length), (out[k]'(by omega)).2 + 2 * ar < (out[k + 1]'h).1
theorem sep_mono {ar n m : Nat} {out : List (Nat × Nat)} (h : Sep ar n out) (hm : n ≤ m) : Sep ar m out := ⟨fun k hk => ⟨(h.1 k hk).1, Nat.le_trans (h.1 k hk).2 hm⟩, h.2⟩
theorem sep_step {ar i : Nat} {out : List (Nat × Nat)} (h : Sep ar i out) : Sep ar (i + 1) (hstep ar out i) := by
  unfold hstep
  cases hl : out.getLast? with
  | none =>
    refine ⟨fun k hk => ?_, fun k hk => ?_⟩
    · simp at hk; subst hk; simp
    · simp at hk
  | some p =>
    obtain ⟨f, t⟩ := p
    have hne : out ≠ [] := by rintro rfl; simp at hl
    have hlen : 0 < out.length := List.length_pos_iff.2 hne
    have hlast : out[out.length - 1]'(by omega) = (f, t) := by
      rw [List.getLast?_eq_getElem?, List.getElem?_eq_getElem (by omega)] at hl
      exact Option.some.inj hl
    have hft := h.1 (out.length - 1) (by omega)
    rw [hlast] at hft
    simp only at hft
    dsimp only
    by_cases c : i ≤ t + 2 * ar
    · rw [if_pos c]
      have hdl : out.dropLast.length = out.length - 1 := by simp
      refine ⟨fun k hk => ?_, fun k hk => ?_⟩
      · by_cases e : k < out.length - 1
        · rw [List.getElem_append_left (by omega), List.getElem_dropLast]
          exact ⟨(h.1 k (by omega)).1, Nat.le_succ_of_le (h.1 k (by omega)).2⟩
        · have : k = out.length - 1 := by simp at hk; omega
          subst this
          rw [List.getElem_append_right (by omega)]
          simp
          omega
      · have hk' : k + 1 < out.length := by simp at hk; omega
        have h2 := h.2 k hk'
        by_cases e : k + 1 < out.length - 1
        · rw [List.getElem_append_left (by omega), List.getElem_append_left (by omega), List.getElem_dropLast, List.getElem_dropLast]
          exact h2
        · have e2 : k + 1 = out.length - 1 := by omega
          rw [List.getElem_append_left (by omega), List.getElem_append_right (by omega), List.getElem_dropLast]
          simp only [e2, hlast] at h2
          simpa using h2
    · rw [if_neg c]
      refine ⟨fun k hk => ?_, fun k hk => ?_⟩
      · by_cases e : k < out.length
        · rw [List.getElem_append_left e]
          exact ⟨(h.1 k e).1, Nat.le_succ_of_le (h.1 k e).2⟩
        · have : k = out.length := by simp at hk; omega
          subst this
          rw [List.getElem_append_right (by omega)]
          simp
      · by_cases e : k + 1 < out.length
        · rw [List.getElem_append_left (by omega), List.getElem_append_left e]
          exact h.2 k e
        · have e2 : k = out.length - 1 := by simp at hk; omega
          subst e2
          rw [List.getElem_append_left (by omega), List.getElem_append_right (by omega), hlast]
          simp
          omega
theorem sep_hks (ar : Nat) (l : List Chg) : ∀ i, Sep ar i (hks ar l i)
  | 0 => ⟨fun k hk => by simp [hks] at hk, fun k hk => by simp [hks] at hk⟩
  | i + 1 => by
    unfold hks
    split
    · exact sep_mono (sep_hks ar l i) (Nat.le_succ _)
    · exact sep_step (sep_hks ar l i)
theorem hstep_len (ar : Nat) (out : List (Nat × Nat)) (i : Nat) : (hstep ar out i).length ≤ out.length + 1 := by
  unfold hstep
  split
  · split
    · simp
    · simp
  · simp
theorem hks_len (ar : Nat) (l : List Chg) : ∀ i, (hks ar l i).length ≤ i
  | 0 => by simp [hks]
  | i + 1 => by
    unfold hks
    split
    · exact Nat.le_succ_of_le (hks_len ar l i)
    · exact Nat.le_trans (hstep_len ar _ i) (Nat.succ_le_succ (hks_len ar l i))
def clampP (ar n : Nat) (h : Nat × Nat) : Nat × Nat := (h.1 - ar, min (h.2 + ar) n)
def hunksP (ar : Nat) (l : List Chg) : List (Nat × Nat) := (hks ar l l.length).map (clampP ar l.length)
/-- The hunks, as they are written, rise and lie apart. -/
theorem hunks_rise (ar : Nat) (l : List Chg) : (∀ k (h : k < (hunksP ar l).length), ((hunksP ar l)[k]'h).1 < ((hunksP ar l)[k]'h).2 ∧ ((hunksP ar l)[k]'h).2 ≤ l.length) ∧ ∀ k (h : k + 1 < (hunksP ar l).length), ((hunksP ar l)[k]'(by omega)).2 ≤ ((hunksP ar l)[k + 1]'h).1 := by
  have hs := sep_hks ar l l.length
  refine ⟨fun k hk => ?_, fun k hk => ?_⟩
  · have hk' : k < (hks ar l l.length).length := by simpa [hunksP] using hk
    have := hs.1 k hk'
    simp only [hunksP, List.getElem_map, clampP]
    omega
  · have hk' : k + 1 < (hks ar l l.length).length := by simpa [hunksP] using hk
    have h1 := hs.2 k hk'
    simp only [hunksP, List.getElem_map, clampP]
    omega
def uniB (q : List UInt8) (l : List Chg) (ar : Nat) : List UInt8 := [45, 45, 45, 32] ++ q ++ [10, 43, 43, 43, 32] ++ q ++ [10] ++ (hunksP ar l).flatMap fun h => hunkB l h.1 h.2
end Ln
end Go.Proofs.YtpoimhkfajppmaaDoor
