/- What is opened among the arguments of the inputs' laws: a number. -/
import Derived.Test.YthmofbcjhfcokaaRowsp
namespace Go.Proofs.Ythmofbcjhfcokaa
open Go.ChangeShapes Go.WideShapes Go.ChangeAt Go.RowKit

/-- A number among the arguments. -/
theorem int_open {H : Type} {enc : TypeId × Value → H} {W : World} {base : Nat} {v : Value} {d : DataW H} {p : List MemPlace}
    (hok : Value.okWide Try.prog W .any base 3 v) (h : DataW.Trod enc Try.prog W 0 (fun _ => true) true 3 v d p) : ∃ n : Int, v = .int .i64 n ∧ -9223372036854775808 ≤ n ∧ n ≤ 9223372036854775807 := by
  obtain ⟨n, rfl, rfl, rfl, hw⟩ := open_int Try.underlying3 hok h
  have := bounds_i64 hw
  exact ⟨n, rfl, by omega, by omega⟩
end Go.Proofs.Ythmofbcjhfcokaa
