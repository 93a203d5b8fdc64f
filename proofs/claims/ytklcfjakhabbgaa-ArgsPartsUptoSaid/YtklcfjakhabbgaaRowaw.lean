/- The rows' frame of the command lines, with numbers among the arguments. -/
import Derived.Test.YtklcfjakhabbgaaRowau
namespace Go.Proofs.Ytklcfjakhabbgaa
open Go.ChangeShapes Go.WideShapes Go.ChangeAt Go.RowKit

set_option maxRecDepth 100000 in
/-- A number among the arguments. -/
theorem int_open {H : Type} {enc : TypeId × Value → H} {W : World} {base : Nat} {v : Value} {d : DataW H} {p : List MemPlace}
    (hok : Value.okWide Try.prog W .any base 3 v) (_h : DataW.Trod enc Try.prog W 0 (fun _ => true) true 3 v d p) : ∃ n : Int, v = .int .i64 n ∧ (IntKind.i64.min ≤ n ∧ n ≤ IntKind.i64.max) := by
  obtain ⟨n, rfl⟩ := Go.WideShapes.okWide_int Try.underlying3 hok
  refine ⟨n, rfl, ?_⟩
  simp only [Value.okWide, Try.underlying3, Cell.okWide, Cell.ok, IntKind.has] at hok
  exact hok.2
end Go.Proofs.Ytklcfjakhabbgaa
