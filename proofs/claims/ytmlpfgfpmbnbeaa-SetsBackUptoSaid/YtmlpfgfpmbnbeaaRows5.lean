/- Of a row over sets: a byte, a text among the arguments, opened. -/
import Derived.Test.YtmlpfgfpmbnbeaaRows4
namespace Go.Proofs.Ytmlpfgfpmbnbeaa
open Go.ChangeShapes Go.WideShapes Go.ChangeAt Go.RowKit

theorem byte_open {W : World} {base : Nat} {v : Value} (hok : Value.okWide Try.prog W .any base 5 v) : ∃ n : Nat, n < 256 ∧ v = .int .u8 (n : Int) := by
  simp only [Value.okWide, Try.underlying5] at hok
  have h : Cell.okWide Try.prog W .any base 5 v := by
    first
      | exact hok
      | (obtain ⟨_, h⟩ := hok; exact h)
  simp only [Cell.okWide, Try.underlying5] at h
  cases v <;> simp_all [Cell.ok]
  rename_i k x
  have h2 : (0 : Int) ≤ x ∧ x ≤ 255 := by first | exact h.2 | exact hok.2 | omega
  exact ⟨x.toNat, by omega, by omega⟩

theorem text_open {H : Type} {enc : TypeId × Value → H} {W : World} {base : Nat} {v : Value} {d : DataW H} {p : List MemPlace}
    (hok : Value.okWide Try.prog W .any base 9 v) (h : DataW.Trod enc Try.prog W 0 (fun _ => true) true 9 v d p)
    (hsz : ∀ n ∈ d.weights Try.prog 9, n ≤ reachBytes) : ∃ s : ByteArray, v = .string s ∧ s.size ≤ 140737488351232 := by
  obtain ⟨s, rfl, rfl, rfl, hs⟩ := Go.ChangeMaps.open_string Try.underlying9 hok h
  refine ⟨s, rfl, ?_⟩
  have := hsz s.data.toList.length (by simp [DataW.weights])
  simp only [reachBytes] at this
  simpa using this
end Go.Proofs.Ytmlpfgfpmbnbeaa
