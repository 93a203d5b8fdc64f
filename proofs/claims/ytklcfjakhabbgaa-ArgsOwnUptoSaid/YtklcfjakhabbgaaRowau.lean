/- The rows' frame of the command lines, with the place where a list among the arguments lies. -/
import Derived.Test.YtklcfjakhabbgaaRowat
namespace Go.Proofs.Ytklcfjakhabbgaa
open Go.RowKit

set_option maxRecDepth 100000 in
/-- The block of a list among the arguments is there. -/
theorem sl_lt {W : World} {base : Nat} {a : Option Addr} {n c : Nat} (hok : Value.okWide Try.prog W .any base 22 (.slice a n c)) : ∀ ad : Addr, a = some ad → ad.block < W.heap.size := by
  rintro ad rfl
  unfold Value.okWide at hok
  rw [Try.underlying22] at hok
  unfold Cell.okWide at hok
  rw [Try.underlying22] at hok
  unfold Cell.ok at hok
  rw [Try.underlying22] at hok
  obtain ⟨_, _, _, _, row, cells, hs, _⟩ := hok
  unfold World.shape? at hs
  rcases Nat.lt_or_ge ad.block W.heap.size with h | h
  · exact h
  · rw [Array.getElem?_eq_none h] at hs
    exact nomatch hs
theorem tbk_sz {l : List ByteArray} {s : ByteArray} {n : Nat} (h : s ∈ l) (hn : tbk l ≤ n) : s.size ≤ n := by
  have := tbk_mem h
  omega
theorem pbk_sz {l : List Ar.Pc} {p : Ar.Pc} {n : Nat} (h : p ∈ l) (hn : pbk l ≤ n) : p.2.size ≤ n := by
  have := pbk_mem h
  omega
end Go.Proofs.Ytklcfjakhabbgaa
