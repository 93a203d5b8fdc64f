/- The rows' frame of the command lines, with texts and with lists whose texts are told one by one. -/
import Derived.Test.YtklcfjakhabbgaaRowar
namespace Go.Proofs.Ytklcfjakhabbgaa
open Go.RowKit

set_option maxRecDepth 100000 in
theorem text_open {H : Type} {enc : TypeId × Value → H} {W : World} {base : Nat} {v : Value} {d : DataW H} {p : List MemPlace}
    (hok : Value.okWide Try.prog W .any base 9 v) (h : DataW.Trod enc Try.prog W 0 (fun _ => true) true 9 v d p) : ∃ s : ByteArray, v = .string s ∧ s.size + 1 ≤ Rows.uptoBulk d := by
  obtain ⟨s, rfl, rfl, rfl, hs⟩ := Go.ChangeMaps.open_string Try.underlying9 hok h
  exact ⟨s, rfl, by simp [Rows.uptoBulk]⟩
theorem tbk_at (l : List ByteArray) (i : Nat) (h : i < l.length) : (l[i]'h).size ≤ tbk l := by
  have := tbk_mem (List.getElem_mem h)
  omega
/-- The variable's block is there. -/
theorem maxL_lt {W : World} (h : MaxL W) : 0 < W.heap.size := by
  obtain ⟨m, hm⟩ := h
  unfold World.cell? at hm
  rcases Nat.lt_or_ge 0 W.heap.size with h | h
  · exact h
  · rw [Array.getElem?_eq_none (by exact h)] at hm
    exact nomatch hm
end Go.Proofs.Ytklcfjakhabbgaa
