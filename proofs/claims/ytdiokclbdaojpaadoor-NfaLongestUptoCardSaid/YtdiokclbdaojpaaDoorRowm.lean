/- The frame of the nfa's rows that have a text or a number beside. -/
import Derived.Test.YtdiokclbdaojpaaDoorRown
import Derived.ChangeMaps
namespace Go.Proofs.YtdiokclbdaojpaaDoor
open Go.ChangeShapes Go.WideShapes Go.ChangeAt Go.RowKit

set_option maxRecDepth 100000 in
theorem text_open {H : Type} {enc : TypeId × Value → H} {W : World} {base : Nat} {v : Value} {d : DataW H} {p : List MemPlace}
    (hok : Value.okWide Tryd.prog W .any base 9 v) (h : DataW.Trod enc Tryd.prog W 0 (fun _ => true) true 9 v d p) : ∃ s : ByteArray, v = .string s ∧ s.size + 1 ≤ Rows.uptoBulk d := by
  obtain ⟨s, rfl, rfl, rfl, hs⟩ := Go.ChangeMaps.open_string Tryd.underlying9 hok h
  exact ⟨s, rfl, by simp [Rows.uptoBulk]⟩
set_option maxRecDepth 100000 in
theorem number_open {H : Type} {enc : TypeId × Value → H} {W : World} {base : Nat} {v : Value} {d : DataW H} {p : List MemPlace}
    (hok : Value.okWide Tryd.prog W .any base 3 v) (h : DataW.Trod enc Tryd.prog W 0 (fun _ => true) true 3 v d p) : ∃ n : Int, v = .int .i64 n ∧ -9223372036854775808 ≤ n ∧ n ≤ 9223372036854775807 ∧ 1 ≤ Rows.uptoBulk d := by
  obtain ⟨n, rfl, rfl, _, hn⟩ := open_int Tryd.underlying3 hok h
  exact ⟨n, rfl, (bounds_i64 hn).1, (bounds_i64 hn).2, by simp [Rows.uptoBulk]⟩
end Go.Proofs.YtdiokclbdaojpaaDoor
