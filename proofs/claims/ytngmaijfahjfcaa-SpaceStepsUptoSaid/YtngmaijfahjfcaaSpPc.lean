/- Plain: the first line feed of a text, what stands ahead of it, what behind it. -/
import Derived.Test.YtngmaijfahjfcaaSpPl
import Derived.Lib.Bytealg
import Derived.Lib.Bytes
namespace Go.Proofs.Ytngmaijfahjfcaa
namespace Sc

/-- Where the first line feed stands. -/
def lf : List UInt8 → Option Nat
  | [] => none
  | b :: r => if b == 10 then some 0 else (lf r).map (· + 1)
/-- The first line. -/
def fst (l : List UInt8) : List UInt8 := match lf l with | none => l | some k => l.take k
/-- What is left without it. -/
def rst (l : List UInt8) : List UInt8 := match lf l with | none => [] | some k => l.drop (k + 1)
def idx (l : List UInt8) : Int := match lf l with | none => -1 | some k => k
theorem lf_lt : ∀ {l : List UInt8} {k : Nat}, lf l = some k → k < l.length
  | [], k, h => by simp [lf] at h
  | b :: r, k, h => by
    unfold lf at h
    split at h
    · cases h; simp
    · cases hr : lf r with
      | none => rw [hr] at h; cases h
      | some j =>
        rw [hr] at h
        cases h
        have := lf_lt hr
        simp
        omega
theorem index_lf : ∀ l : List UInt8, Lib.indexByte l 10 = idx l
  | [] => rfl
  | b :: r => by
    have ih := index_lf r
    unfold Lib.indexByte
    rw [ih]
    unfold idx
    conv => rhs; unfold lf
    cases hb : (b == 10)
    · cases hr : lf r with
      | none => simp
      | some j =>
        have h1 : ((j : Int) == -1) = false := by simp
        simp [h1]
    · simp
theorem fst_len (l : List UInt8) : (fst l).length ≤ l.length := by
  unfold fst
  split
  · exact Nat.le_refl _
  · simp; omega
theorem rst_len (l : List UInt8) : (rst l).length ≤ l.length := by
  unfold rst
  split
  · simp
  · simp
theorem lf_parts : ∀ {l : List UInt8}, (lf l).isSome = true → l = fst l ++ 10 :: rst l
  | [], h => by simp [lf] at h
  | b :: r, h => by
    unfold lf at h
    cases hb : (b == 10)
    · rw [hb] at h
      simp at h
      have ih := lf_parts h
      obtain ⟨k, hk⟩ := Option.isSome_iff_exists.1 h
      have e : lf (b :: r) = some (k + 1) := by conv => lhs; unfold lf
                                                rw [hb, hk]; rfl
      have f1 : fst (b :: r) = b :: fst r := by unfold fst; rw [e, hk]; rfl
      have f2 : rst (b :: r) = rst r := by unfold rst; rw [e, hk]; rfl
      rw [f1, f2, List.cons_append, ← ih]
    · have e : lf (b :: r) = some 0 := by unfold lf; rw [hb]; rfl
      have f1 : fst (b :: r) = [] := by unfold fst; rw [e]; rfl
      have f2 : rst (b :: r) = r := by unfold rst; rw [e]; rfl
      rw [f1, f2, eq_of_beq hb]
      rfl
theorem lf_none {l : List UInt8} (h : (lf l).isSome = false) : fst l = l ∧ rst l = [] := by
  have : lf l = none := by cases hl : lf l <;> simp [hl] at h ⊢
  unfold fst rst
  rw [this]
  exact ⟨rfl, rfl⟩
end Sc
end Go.Proofs.Ytngmaijfahjfcaa
