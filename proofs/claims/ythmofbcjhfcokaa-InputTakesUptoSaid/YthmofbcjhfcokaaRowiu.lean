/- The frame of a row of the second form: texts, what inputs are told to be, a bool and a number among the arguments. -/
import Derived.Test.YthmofbcjhfcokaaRowin
import Derived.Test.YthmofbcjhfcokaaInR
import Derived.Deep.SlicePairs
import Derived.ChangeArms
import Derived.JoinedCond
import Derived.Shelf.Vars
namespace Go.Proofs.Ythmofbcjhfcokaa
open Go.ChangeShapes Go.WideShapes Go.ChangeAt Go.RowKit

/-- A row of the second form, by what is called in a world that fits. -/
theorem handed_upto {H : Type} {enc : TypeId × Value → H} {os : Os} {f : FuncId} {fn : Func} {c : ChangeSpec} {F : Stop.Interp} {conds : List PathCond} (started : os.Started) (noInit : Try.prog.inits.idxOf? f = none) (hfn : Try.prog.funcs[f]? = some fn)
    (wit : ∃ (w : World) (tape : Tape) (i : Input), w.os = os ∧ (w.forCall tape i).Shaped Try.prog ∧ i.vars = [] ∧ Input.okWide Try.prog (w.forCall tape i) .any w.heap.size f i ∧
      (Rows.OpenSpec.upto c).pre6 enc Try.prog fn conds false (w.forCall tape i).memory i.args ∧ ({} : Assume).holds Try.prog (lone (Frame.enter Try.prog f i.args .normal) [] (w.forCall tape i)))
    (law : ∀ (W : World) (base : Nat) (args : Array Value) (ds gs : List (DataW H)) (before : List MemPlace), (∀ (j : Nat) t v, fn.params[j]? = some t → args[j]? = some v → Value.okWide Try.prog W .any base t v) →
      DataW.Whole enc Try.prog fn.params.toList (Rows.OpenSpec.upto c).vars false W args.toList ds gs before → Rows.uptoBulkAll (ds ++ gs) ≤ 1048576 →
      Calls Try.prog f args W fun e W' => ∃ v, e = .returned v ∧ ((Rows.OpenSpec.upto c).at F).post enc Try.prog fn false true false false W args v W') :
    ReturnsInHanded {} Try.checked os f .any ((Rows.OpenSpec.upto c).pre6 enc Try.prog fn conds false) (((Rows.OpenSpec.upto c).at F).post enc Try.prog fn false true false false) := by
  refine returnsInHanded_of_calls (C := Try.checked) Try.own started noInit wit ?_
  intro w tape i _ _ _ fits before _
  obtain ⟨_, _, _, fn', hfn', _, _, _, _, vals⟩ := fits
  obtain rfl : fn = fn' := Option.some.inj (hfn.symm.trans hfn')
  obtain ⟨ds, gs, pl, whole, _, small⟩ := (OpenSpec.pre_some (s := Rows.OpenSpec.upto c) (k := Rows.uptoSmall) rfl conds false _ _).1 before.1
  have whole' := DataW.Whole.of_heap (w' := w.forCall tape i) (by rfl) whole
  refine (law (w.forCall tape i) w.heap.size i.args ds gs pl vals whole' (of_decide_eq_true small)).mono fun e W' ⟨v, he, hp⟩ => ?_
  subst he
  exact ChangeSpec.post_blind hp
theorem Try.cellsS : Try.prog.cellsOf 9 = 1 := by kernel_rfl
theorem Try.cellsT : Try.prog.cellsOf 48 = 2 := by kernel_rfl
theorem Try.cellsE : Try.prog.cellsOf 32 = 1 := by kernel_rfl
/-- A bool among the arguments. -/
theorem bool_open {H : Type} {enc : TypeId × Value → H} {W : World} {base : Nat} {v : Value} {d : DataW H} {p : List MemPlace}
    (hok : Value.okWide Try.prog W .any base 4 v) (h : DataW.Trod enc Try.prog W 0 (fun _ => true) true 4 v d p) : ∃ b : Bool, v = .bool b := by
  obtain ⟨b, rfl, _⟩ := open_bool Try.underlying4 hok h
  exact ⟨b, rfl⟩
/-- Texts among the arguments. -/
theorem texts_open {H : Type} {enc : TypeId × Value → H} {W : World} {base : Nat} {v : Value} {d : DataW H} {p : List MemPlace}
    (hok : Value.okWide Try.prog W .any base 45 v) (h : DataW.Trod enc Try.prog W 0 (fun _ => true) true 45 v d p) (hlt : ∀ x ∈ p, x.block < W.heap.size) :
    ∃ a cap, ∃ l : List ByteArray, v = .slice a l.length cap ∧ l.length ≤ cap ∧ (∀ i (h : i < l.length), ∃ b off, a = some ⟨b, off, none⟩ ∧ b < W.heap.size ∧ W.cell? ⟨b, off + i, none⟩ = some (.string (l[i]'h))) ∧ (l.map (fun s => s.size + 1)).sum + 1 ≤ Rows.uptoBulk d := by
  obtain ⟨a0, len, cap, rfl⟩ := okWide_slice Try.underlying45 hok
  obtain ⟨fuel, hf⟩ := h
  rcases Deep.open_slice Try.underlying45 hf with ⟨hcs, hx⟩ | ⟨a, len', cap', m, n, D, Pl, hcs, _, hl, hm, hmm, hx, hcell⟩
  · simp [Value.cells] at hcs
    obtain ⟨rfl, rfl, rfl⟩ := hcs
    simp only [Prod.mk.injEq] at hx
    obtain ⟨rfl, rfl⟩ := hx
    exact ⟨none, 0, [], rfl, Nat.le_refl _, fun j hj => by simp at hj, by simp [Rows.uptoBulk]⟩
  · simp [Value.cells] at hcs
    obtain ⟨rfl, rfl, rfl⟩ := hcs
    simp only [if_true] at hmm
    subst hmm
    simp only [Prod.mk.injEq] at hx
    obtain ⟨rfl, rfl⟩ := hx
    have each : ∀ i, i < m → ∃ x : ByteArray, W.cell? (a.add i) = some (.string x) ∧ D i = .lit (.string x.data.toList) := fun i hi => by
      obtain ⟨cs', h1, h2⟩ := hcell i hi
      rw [Try.cellsS] at h1
      obtain ⟨_, hlen, hc⟩ := World.cells?_some h1
      match cs', hlen with
      | [v0], _ =>
        obtain ⟨s1, e3, e4, _⟩ := DataW.trod_string Try.underlying9 h2
        simp at e3
        subst e3
        have c0 := hc 0 (by omega)
        rw [Deep.add_add] at c0
        simp only [Prod.mk.injEq] at e4
        exact ⟨s1, by simpa using c0, e4.1⟩
    obtain ⟨Lx, hL⟩ := Deep.choose_lt each
    have hbulk : (((List.range len).map Lx).map (fun s => s.size + 1)).sum + 1 ≤ Rows.uptoBulk (.slice ((List.range len).map D) ((List.range (m - len)).map fun j => D (len + j))) := by
      simp only [Rows.uptoBulk]
      have e : ((List.range len).map D) = (List.range len).map fun i => (.lit (.string (Lx i).data.toList) : DataW H) :=
        List.map_congr_left fun i hi => by
          have := List.mem_range.1 hi
          rw [(hL i (by omega)).2]
      have e2 : ∀ n : List Nat, Rows.uptoBulkAll (n.map fun i => (.lit (.string (Lx i).data.toList) : DataW H)) = ((n.map Lx).map (fun s => s.size + 1)).sum := by
        intro n
        induction n with
        | nil => rfl
        | cons j r ih =>
          simp only [List.map_cons, Rows.uptoBulkAll, Rows.uptoBulk, List.sum_cons, ih, Ln.szL]
      rw [e, e2]
      omega
    refine ⟨some a, m, (List.range len).map Lx, by simp, by simpa using hl, fun i hi => ?_, hbulk⟩
    have hi' : i < len := by simpa using hi
    have q0 := (hL i (by omega)).1
    obtain ⟨b, off, spot⟩ := a
    have hspot : spot = none := by simpa [Addr.add] using World.cell?_spot (hL 0 (by omega)).1
    subst hspot
    rw [add_at] at q0
    refine ⟨b, off, rfl, hlt (.cell b off) ?_, by simpa using q0⟩
    rw [Try.cellsS]
    exact List.mem_append_left _ (MemPlace.mem_row.2 ⟨0, by omega, by simp⟩)
end Go.Proofs.Ythmofbcjhfcokaa
