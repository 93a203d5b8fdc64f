/- Steps in memory, as they are handed in. -/
import Derived.Test.YtngmaijfahjfcaaSpA
namespace Go.Proofs.Ytngmaijfahjfcaa
open Go.RowKit

/-- A step: the call's number, its text, its item. -/
structure Stp where
  k : Int
  t : ByteArray
  i : Nat
  x : ByteArray
abbrev stV (k : Int) (t : ByteArray) (i : Nat) (x : ByteArray) : Value := .agg #[.int .i64 k, .string t, .int .u8 (i : Int), .string x]
/-- The steps l lie at a. -/
structure Stps (w : World) (a : Option Addr) (cap : Nat) (l : List Stp) : Prop where
  len : l.length ≤ maxLen
  le : l.length ≤ cap
  cell : ∀ j (h : j < l.length), ∃ b off, a = some ⟨b, off, none⟩ ∧ b < w.heap.size ∧ w.cell? ⟨b, off + j * 4, none⟩ = some (.int .i64 (l[j]'h).k) ∧ w.cell? ⟨b, off + j * 4 + 1, none⟩ = some (.string (l[j]'h).t) ∧ w.cell? ⟨b, off + j * 4 + 2, none⟩ = some (.int .u8 ((l[j]'h).i : Int)) ∧ w.cell? ⟨b, off + j * 4 + 3, none⟩ = some (.string (l[j]'h).x)
theorem Stps.below {w w' : World} {a : Option Addr} {cap : Nat} {l : List Stp} (h : Stps w a cap l) (hb : Below w.heap.size w w') : Stps w' a cap l :=
  ⟨h.len, h.le, fun j hj => by
    obtain ⟨b, off, rfl, q, c0, c1, c2, c3⟩ := h.cell j hj
    have hs := hb.size
    exact ⟨b, off, rfl, by omega, by rw [hb.cell (p := ⟨b, _, none⟩) q]; exact c0, by rw [hb.cell (p := ⟨b, _, none⟩) q]; exact c1, by rw [hb.cell (p := ⟨b, _, none⟩) q]; exact c2, by rw [hb.cell (p := ⟨b, _, none⟩) q]; exact c3⟩⟩
end Go.Proofs.Ytngmaijfahjfcaa
