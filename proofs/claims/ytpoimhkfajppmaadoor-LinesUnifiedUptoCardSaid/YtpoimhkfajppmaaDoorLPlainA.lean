/- Plain facts on what changes make of a text, step by step. -/
import Derived.Test.YtpoimhkfajppmaaDoorLPlainD
namespace Go.Proofs.YtpoimhkfajppmaaDoor
namespace Ln
theorem bytes_ext {x y : ByteArray} (h : x.toList = y.toList) : x = y := by
  rw [toL, toL] at h
  cases x; cases y
  simpa using h
theorem line_eq (x y : ByteArray × Bool) : x = y ↔ ((x.1.toList == y.1.toList) && (x.2 == y.2)) = true := by
  constructor
  · rintro rfl; simp
  · intro h
    simp at h
    obtain ⟨x1, x2⟩ := x
    obtain ⟨y1, y2⟩ := y
    rw [Prod.mk.injEq]
    exact ⟨bytes_ext h.1, h.2⟩
def applyR (a : List (ByteArray × Bool)) (l : List (Nat × (ByteArray × Bool))) : List UInt8 × Nat :=
  match applyP a l with
  | some r => (joinL r, 0)
  | none => ([], 11)
/-- What is left of both, and what is made so far. -/
def AppInv (a : List (ByteArray × Bool)) (l : List (Nat × (ByteArray × Bool))) (A J : List (ByteArray × Bool)) (k : Nat) : Prop :=
  applyP a l = (applyP A (l.drop k)).map (J ++ ·) ∧ tot J + tot ((l.drop k).map (·.2)) ≤ tot (l.map (·.2))
theorem app_start (a : List (ByteArray × Bool)) (l : List (Nat × (ByteArray × Bool))) : AppInv a l a [] 0 := by
  refine ⟨?_, by simp [tot]⟩
  cases h : applyP a l <;> simp [h]
theorem app_keep {a : List (ByteArray × Bool)} {l : List (Nat × (ByteArray × Bool))} {A J : List (ByteArray × Bool)} {k : Nat} {x : ByteArray × Bool} (h : AppInv a l (x :: A) J k) (hk : k < l.length) (hx : l[k] = (1, x)) : AppInv a l A (J ++ [x]) (k + 1) := by
  obtain ⟨h1, h2⟩ := h
  rw [List.drop_eq_getElem_cons hk, hx] at h1 h2
  refine ⟨?_, ?_⟩
  · rw [h1, apply_keep]
    cases applyP A (l.drop (k + 1)) <;> simp
  · rw [tot_append]; simp [tot] at h2 ⊢; omega
theorem app_drop {a : List (ByteArray × Bool)} {l : List (Nat × (ByteArray × Bool))} {A J : List (ByteArray × Bool)} {k : Nat} {x : ByteArray × Bool} (h : AppInv a l (x :: A) J k) (hk : k < l.length) (hx : l[k] = (2, x)) : AppInv a l A J (k + 1) := by
  obtain ⟨h1, h2⟩ := h
  rw [List.drop_eq_getElem_cons hk, hx] at h1 h2
  refine ⟨?_, ?_⟩
  · rw [h1, apply_drop]
  · simp [tot] at h2 ⊢; omega
theorem app_add {a : List (ByteArray × Bool)} {l : List (Nat × (ByteArray × Bool))} {A J : List (ByteArray × Bool)} {k : Nat} {x : ByteArray × Bool} (h : AppInv a l A J k) (hk : k < l.length) (hx : l[k] = (3, x)) : AppInv a l A (J ++ [x]) (k + 1) := by
  obtain ⟨h1, h2⟩ := h
  rw [List.drop_eq_getElem_cons hk, hx] at h1 h2
  refine ⟨?_, ?_⟩
  · rw [h1, apply_add]
    cases applyP A (l.drop (k + 1)) <;> simp
  · rw [tot_append]; simp [tot] at h2 ⊢; omega
theorem app_bad {a : List (ByteArray × Bool)} {l : List (Nat × (ByteArray × Bool))} {A J : List (ByteArray × Bool)} {k kd : Nat} {x : ByteArray × Bool} (h : AppInv a l A J k) (hk : k < l.length) (hx : l[k] = (kd, x))
    (hb : (kd ≠ 1 ∧ kd ≠ 2 ∧ kd ≠ 3) ∨ ((kd = 1 ∨ kd = 2) ∧ (A = [] ∨ ∃ y r, A = y :: r ∧ ¬ y = x))) : applyR a l = ([], 11) := by
  obtain ⟨h1, h2⟩ := h
  rw [List.drop_eq_getElem_cons hk, hx] at h1
  have hn : applyP A ((kd, x) :: l.drop (k + 1)) = none := by
    rcases hb with ⟨b1, b2, b3⟩ | ⟨hk, rfl | ⟨y, r, rfl, hne⟩⟩
    · cases A <;> simp [applyP, b1, b2, b3]
    · simp [applyP, hk]
    · simp [applyP, hk, hne]
  rw [hn] at h1
  unfold applyR
  rw [h1]; rfl
theorem app_end {a : List (ByteArray × Bool)} {l : List (Nat × (ByteArray × Bool))} {J : List (ByteArray × Bool)} {k : Nat} (h : AppInv a l [] J k) (hk : l.length ≤ k) : applyR a l = (joinL J, 0) ∧ tot J ≤ tot (l.map (·.2)) := by
  obtain ⟨h1, h2⟩ := h
  rw [List.drop_eq_nil_of_le hk] at h1 h2
  refine ⟨?_, by simp [tot] at h2; omega⟩
  unfold applyR
  rw [h1]
  simp [applyP]
theorem app_left {a : List (ByteArray × Bool)} {l : List (Nat × (ByteArray × Bool))} {A J : List (ByteArray × Bool)} {k : Nat} (h : AppInv a l A J k) (hk : l.length ≤ k) (hA : A ≠ []) : applyR a l = ([], 11) := by
  obtain ⟨h1, h2⟩ := h
  rw [List.drop_eq_nil_of_le hk] at h1
  unfold applyR
  rw [h1]
  simp [applyP, hA]
end Ln
end Go.Proofs.YtpoimhkfajppmaaDoor
