/- The frame of a row of the second form: a number and steps among the arguments. -/
import Derived.Test.YtngmaijfahjfcaaRowst
import Derived.JoinedCond
import Derived.Shelf.Vars
namespace Go.Proofs.Ytngmaijfahjfcaa
open Go.ChangeShapes Go.WideShapes Go.ChangeAt Go.RowKit

/-- A row of the second form, by what is called in a world that fits. -/
theorem handed_upto {H : Type} {enc : TypeId × Value → H} {os : Os} {f : FuncId} {fn : Func} {c : ChangeSpec} {F : Stop.Interp} {conds : List PathCond} (started : os.Started) (noInit : Try.prog.inits.idxOf? f = none) (hfn : Try.prog.funcs[f]? = some fn)
    (wit : ∃ (w : World) (tape : Tape) (i : Input), w.os = os ∧ (w.forCall tape i).Shaped Try.prog ∧ i.vars = [] ∧ Input.okWide Try.prog (w.forCall tape i) .any w.heap.size f i ∧
      (Rows.OpenSpec.upto c).pre6 enc Try.prog fn conds false (w.forCall tape i).memory i.args ∧ ({} : Assume).holds Try.prog (lone (Frame.enter Try.prog f i.args .normal) [] (w.forCall tape i)))
    (law : ∀ (W : World) (base : Nat) (args : Array Value) (ds gs : List (DataW H)) (before : List MemPlace), (∀ (j : Nat) t v, fn.params[j]? = some t → args[j]? = some v → Value.okWide Try.prog W .any base t v) →
      DataW.Whole enc Try.prog fn.params.toList (Rows.OpenSpec.upto c).vars false W args.toList ds gs before → Rows.uptoBulkAll (ds ++ gs) ≤ 1048576 →
      Calls Try.prog f args W fun e W' => ∃ v, e = .returned v ∧ ((Rows.OpenSpec.upto c).at F).post enc Try.prog fn false true false false W args v W') :
    ReturnsInHanded {} Try.checked os f .any ((Rows.OpenSpec.upto c).pre6 enc Try.prog fn conds false) (((Rows.OpenSpec.upto c).at F).post enc Try.prog fn false true false false) := by
  refine returnsInHanded_of_calls (C := Try.checked) Try.own started noInit wit ?_
  intro w tape i _ _ _ fits before _
  obtain ⟨_, _, _, fn', hfn', _, _, _, _, vals⟩ := fits
  obtain rfl : fn = fn' := Option.some.inj (hfn.symm.trans hfn')
  obtain ⟨ds, gs, pl, whole, _, small⟩ := (OpenSpec.pre_some (s := Rows.OpenSpec.upto c) (k := Rows.uptoSmall) rfl conds false _ _).1 before.1
  have whole' := DataW.Whole.of_heap (w' := w.forCall tape i) (by rfl) whole
  refine (law (w.forCall tape i) w.heap.size i.args ds gs pl vals whole' (of_decide_eq_true small)).mono fun e W' ⟨v, he, hp⟩ => ?_
  subst he
  exact ChangeSpec.post_blind hp

/-- A number among the arguments. -/
theorem int_open {H : Type} {enc : TypeId × Value → H} {W : World} {base : Nat} {v : Value} {d : DataW H} {p : List MemPlace}
    (hok : Value.okWide Try.prog W .any base 3 v) (h : DataW.Trod enc Try.prog W 0 (fun _ => true) true 3 v d p) : ∃ n : Int, v = .int .i64 n := by
  obtain ⟨n, rfl, _⟩ := open_int Try.underlying3 hok h
  exact ⟨n, rfl⟩
theorem stot_mem : ∀ {l : List Stp} {y : Stp}, y ∈ l → y.t.size + y.x.size + 6 ≤ stot l
  | s :: r, y, h => by
    rcases List.mem_cons.1 h with rfl | h
    · unfold stot; omega
    · have := stot_mem h
      unfold stot
      omega
theorem stot_len : ∀ l : List Stp, l.length * 6 ≤ stot l
  | [] => by simp
  | s :: r => by
    have := stot_len r
    unfold stot
    simp
    omega
end Go.Proofs.Ytngmaijfahjfcaa
