/- Plain: command lines; what may be a suffix; which are right; what is written of them. -/
import Derived.Lib.Strings
import Derived.Lib.IndexBytes
namespace Go.Proofs.Ytklcfjakhabbgaa
namespace Ar
/-- A piece of the script: whether it names a file, and its text. -/
abbrev Pc := Bool × ByteArray
/-- A command line. -/
structure Av where
  q : Bool
  e : Bool
  s : Bool
  i : Bool
  sf : ByteArray
  sc : List Pc
  nm : List ByteArray
theorem toL (s : ByteArray) : s.toList = s.data.toList := Lib.toList_data s
theorem szL (s : ByteArray) : s.data.toList.length = s.size := (Lib.size_eq s).symm
theorem take_snoc (s : ByteArray) (k : Nat) (h : k < s.size) : s.data.toList.take (k + 1) = s.data.toList.take k ++ [s[k]] := by
  rw [List.take_succ_eq_append_getElem (by simpa using h)]; rfl
theorem ba_ext {a b : ByteArray} (h : a.data.toList = b.data.toList) : a = b := by
  cases a; cases b; simp at h; simp [h]
def okc (c : UInt8) : Bool := !(c == 47 || c == 0)
/-- May it be a suffix? -/
def sfxB (s : ByteArray) : Bool := decide (s.size ≤ 255) && s.data.toList.all okc
theorem okc_of {c : UInt8} (h1 : ((c.toNat : Int) == 47) = false) (h2 : ((c.toNat : Int) == 0) = false) : okc c = true := by
  have a1 : c ≠ 47 := by intro e; subst e; simp at h1
  have a2 : c ≠ 0 := by intro e; subst e; simp at h2
  simp [okc, a1, a2]
theorem okc_no {c : UInt8} (h : ((c.toNat : Int) == 47) = true ∨ ((c.toNat : Int) == 0) = true) : okc c = false := by
  have : c = 47 ∨ c = 0 := by
    rcases h with h | h
    · left
      have h1 : (c.toNat : Int) = 47 := by simpa using h
      have : c.toNat = 47 := by omega
      exact UInt8.toNat_inj.1 this
    · right
      have h1 : (c.toNat : Int) = 0 := by simpa using h
      have : c.toNat = 0 := by omega
      exact UInt8.toNat_inj.1 this
  rcases this with rfl | rfl <;> rfl
/-- Which command lines are right. -/
def rightB (x : Av) : Bool := decide (0 < x.sc.length) && (sfxB x.sf && ((x.i || x.sf.toList.isEmpty) && (x.s || !x.i)))
/-- -i and a suffix. -/
def ip (s : ByteArray) : ByteArray := ⟨#[45, 105]⟩ ++ s
def optL (x : Av) : List ByteArray :=
  (((if x.q then [⟨#[45, 110]⟩] else []) ++ (if x.e then [⟨#[45, 69]⟩] else [])) ++ (if x.s && !x.i then [⟨#[45, 115]⟩] else [])) ++ (if x.i then [ip x.sf] else [])
def scL (l : List Pc) : List ByteArray := l.flatMap fun p => if p.1 then [⟨#[45, 102]⟩, p.2] else [⟨#[45, 101]⟩, p.2]
def printL (x : Av) : List ByteArray := ((optL x ++ scL x.sc) ++ [⟨#[45, 45]⟩]) ++ x.nm
/-- The error of what is written. -/
def printE (x : Av) : Int := if rightB x = false then 260 else if 65536 < (printL x).length then 3 else 0
theorem scL_length (l : List Pc) : (scL l).length = 2 * l.length := by
  induction l with
  | nil => rfl
  | cons p r ih =>
    have : (scL (p :: r)).length = 2 + (scL r).length := by
      simp only [scL, List.flatMap_cons, List.length_append]
      split <;> rfl
    rw [this, ih, List.length_cons]; omega
theorem scL_snoc (l : List Pc) (p : Pc) : scL (l ++ [p]) = scL l ++ (if p.1 then [⟨#[45, 102]⟩, p.2] else [⟨#[45, 101]⟩, p.2]) := by simp [scL]
theorem optL_length (x : Av) : (optL x).length ≤ 4 := by
  unfold optL
  cases x.q <;> cases x.e <;> cases x.s <;> cases x.i <;> simp
theorem printL_length (x : Av) : (printL x).length = (optL x).length + 2 * x.sc.length + 1 + x.nm.length := by
  simp only [printL, List.length_append, scL_length, List.length_cons, List.length_nil]
/-- Are two command lines the same? -/
def sameO (a b : Av) : Bool := (a.q == b.q) && ((a.e == b.e) && ((a.s == b.s) && ((a.i == b.i) && (a.sf.toList == b.sf.toList))))
def sameS (a b : List Pc) : Bool := decide (a = b)
def sameA (a b : Av) : Bool := sameO a b && (decide (a.sc = b.sc) && decide (a.nm = b.nm))
theorem sameA_refl (a : Av) : sameA a a = true := by simp [sameA, sameO]
theorem sameA_iff (a b : Av) : sameA a b = true ↔ a = b := by
  cases a; cases b
  simp only [sameA, sameO, Bool.and_eq_true, beq_iff_eq, decide_eq_true_eq, Av.mk.injEq]
  constructor
  · rintro ⟨⟨rfl, rfl, rfl, rfl, h⟩, rfl, rfl⟩
    exact ⟨rfl, rfl, rfl, rfl, ba_ext (by rw [← toL, ← toL]; exact h), rfl, rfl⟩
  · rintro ⟨rfl, rfl, rfl, rfl, rfl, rfl, rfl⟩
    exact ⟨⟨rfl, rfl, rfl, rfl, rfl⟩, rfl, rfl⟩
end Ar
end Go.Proofs.Ytklcfjakhabbgaa
