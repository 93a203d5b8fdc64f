/- The frame of a row over sets: a set among the arguments, opened. -/
import Derived.Test.YtmlpfgfpmbnbeaaRows
import Derived.Test.YtmlpfgfpmbnbeaaSPlain
import Derived.Test.YtmlpfgfpmbnbeaaBytes
import Derived.ProofKit
import Derived.OpenShut
import Derived.SizedLaws
namespace Go.Proofs.Ytmlpfgfpmbnbeaa
open Go.ChangeShapes Go.WideShapes Go.ChangeAt Go.RowKit

theorem Try.own : ownKnob Try.prog.godebug = none := by kernel_rfl
theorem Try.laidOut : laidOutB Try.prog = true := by kernel_rfl
theorem Try.cellsSet : Try.prog.cellsOf 25 = 4 := by kernel_rfl
theorem Try.typesSet : Try.prog.cellTypes Try.prog.depth 25 = some [23, 23, 23, 23] := by kernel_rfl

theorem trodAll_below {H : Type} {enc : TypeId × Value → H} {W W' : World} (hb : Below W.heap.size W W') :
    ∀ (ts : List TypeId) (vs : List Value) (ds : List (DataW H)) (ps : List MemPlace), (∀ t ∈ ts, Try.prog.readableRec t = true ∧ t < Try.prog.types.size) → (∀ x ∈ ps, x.block < W.heap.size) →
      DataW.TrodAll enc Try.prog W 0 (fun _ => true) true ts vs ds ps → DataW.TrodAll enc Try.prog W' 0 (fun b => decide (b < W.heap.size)) true ts vs ds ps := by
  intro ts
  induction ts with
  | nil =>
    intro vs ds ps _ _ h
    obtain ⟨rfl, rfl, rfl⟩ := trodAll_nil h
    exact trodAll_mk0
  | cons t ts ih =>
    intro vs ds ps hr hlt h
    obtain ⟨v, vs', d, ds', p, q, rfl, rfl, rfl, h0, r0⟩ := trodAll_cons h
    exact trodAll_cons_mk (Below.trod Try.laidOut (hr t (by simp)).1 (hr t (by simp)).2 h0 hb (fun x hx => hlt x (by simp [hx]))) (ih vs' ds' q (fun u hu => hr u (by simp [hu])) (fun x hx => hlt x (by simp [hx])) r0)

/-- WHAT A LAW's ROW ASKS BEHIND THE CALL, out of a walk that answered true and turned nothing that was there. -/
theorem law_post {H : Type} {enc : TypeId × Value → H} {s : ChangeSpec} {fn : Func} {W W' : World} {args : Array Value} {ds gs : List (DataW H)} {before : List MemPlace}
    (hres : fn.resultTypes = #[4]) (hvars : s.vars = []) (hread : ∀ t ∈ fn.params.toList, Try.prog.readableRec t = true ∧ t < Try.prog.types.size)
    (e1 : (s.fn H (ds ++ gs)).results = [.lit (.bool true)]) (e2 : (s.fn H (ds ++ gs)).args = ds) (e3 : (s.fn H (ds ++ gs)).vars = [])
    (hW : DataW.Whole enc Try.prog fn.params.toList s.vars false W args.toList ds gs before) (hb : Below W.heap.size W W') :
    s.post enc Try.prog fn false true false false W args (.bool true) W' := by
  have hW' := hW
  obtain ⟨p, q, hA, hV, rfl, hfz, hnd⟩ := hW
  have hlt : ∀ x ∈ p, x.block < W.heap.size := fun x hx => hW'.lt x (by simp [hx])
  refine ⟨ds, gs, _, [], p, [], hW', ?_, ?_, ?_, hb.frame _, fun h => by cases h⟩
  · rw [hres, e1]
    exact trodAll_cons_mk (shut_bool Try.underlying4 true) trodAll_mk0
  · rw [e2]
    exact trodAll_below hb _ _ _ _ hread hlt hA
  · rw [hvars, e3]; rfl

theorem word_ok {W : World} {r : Reach} {base : Nat} {v : Value} (h : Cell.okWide Try.prog W r base 23 v) : ∃ n : Nat, n < 18446744073709551616 ∧ v = .int .u64 (n : Int) := by
  simp only [Cell.okWide, Try.underlying23] at h
  cases v <;> simp_all [Cell.ok]
  rename_i k x
  have h2 : (0 : Int) ≤ x ∧ x ≤ 18446744073709551615 := h.2
  exact ⟨x.toNat, by omega, by omega⟩

theorem set_open {W : World} {base : Nat} {v : Value} (hok : Value.okWide Try.prog W .any base 25 v) : ∃ p, v = St.setV p := by
  simp only [Value.okWide, Try.underlying25] at hok
  obtain ⟨cs, rfl, hsz, ts, hts, _, hc⟩ := hok
  rw [Try.typesSet] at hts
  injection hts with hts
  subst hts
  rw [Try.cellsSet] at hsz
  have key : ∀ i, (hi : i < 4) → ∃ n : Nat, n < 18446744073709551616 ∧ cs[i]? = some (.int .u64 (n : Int)) := by
    intro i hi
    obtain ⟨u, hu, ho⟩ := hc i cs[i] (by simp)
    have hu' : u = 23 := by
      obtain rfl | rfl | rfl | rfl : i = 0 ∨ i = 1 ∨ i = 2 ∨ i = 3 := by omega
      all_goals (simp at hu; exact hu.symm)
    subst hu'
    obtain ⟨n, hn, he⟩ := word_ok ho
    exact ⟨n, hn, by rw [← he]; simp⟩
  obtain ⟨n0, h0, e0⟩ := key 0 (by decide)
  obtain ⟨n1, h1, e1⟩ := key 1 (by decide)
  obtain ⟨n2, h2, e2⟩ := key 2 (by decide)
  obtain ⟨n3, h3, e3⟩ := key 3 (by decide)
  refine ⟨St.bitsOf n0 n1 n2 n3, ?_⟩
  rw [← St.setV_bits n0 n1 n2 n3 h0 h1 h2 h3]
  congr 1
  apply Array.ext_getElem?
  intro i
  by_cases hi : i < 4
  · obtain rfl | rfl | rfl | rfl : i = 0 ∨ i = 1 ∨ i = 2 ∨ i = 3 := by omega
    · rw [e0]; rfl
    · rw [e1]; rfl
    · rw [e2]; rfl
    · rw [e3]; rfl
  · rw [Array.getElem?_eq_none (by omega), Array.getElem?_eq_none (by simp; omega)]
end Go.Proofs.Ytmlpfgfpmbnbeaa
