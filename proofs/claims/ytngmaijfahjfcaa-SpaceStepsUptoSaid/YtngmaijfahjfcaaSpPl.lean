/- Plain: what a space holds, and what each call makes of it; texts as lists of bytes. -/
import Derived.Lib.Strings
import Derived.Lib.IndexBytes
namespace Go.Proofs.Ytngmaijfahjfcaa
namespace Sc

theorem szL (s : ByteArray) : s.data.toList.length = s.size := (Lib.size_eq s).symm
def bs (l : List UInt8) : ByteArray := ⟨l.toArray⟩
theorem bs_data (x : ByteArray) : bs x.data.toList = x := by cases x; rfl
theorem data_bs (l : List UInt8) : (bs l).data.toList = l := rfl
theorem bs_size (l : List UInt8) : (bs l).size = l.length := by rw [← szL]; rfl
theorem bs_inj {a b : List UInt8} (h : bs a = bs b) : a = b := by
  have := congrArg (fun x : ByteArray => x.data.toList) h
  exact this
theorem bs_append (a b : List UInt8) : bs a ++ bs b = bs (a ++ b) := by
  rw [← bs_data (bs a ++ bs b)]
  congr 1

/-- An item: its kind, its text. -/
abbrev It := Nat × ByteArray
def txts : List It → Nat
  | [] => 0
  | x :: r => x.2.size + txts r
theorem txts_append (a b : List It) : txts (a ++ b) = txts a + txts b := by
  induction a with
  | nil => simp [txts]
  | cons x r ih => simp only [List.cons_append, txts, ih]; omega

/-- Both texts and the queue. -/
structure St where
  p : List UInt8
  h : List UInt8
  q : List It
def St.used (s : St) : Nat := s.p.length + s.h.length + txts s.q
def St.nil : St := ⟨[], [], []⟩
/-- What a call makes of s within a quota, t being what it would be: the error and what there is then. -/
def ask (quota : Nat) (s t : St) : Int × St := if t.used ≤ quota then (0, t) else (180, s)
end Sc
end Go.Proofs.Ytngmaijfahjfcaa
