/- The frame of a law's row: what is asked of a walk that answers true and turns nothing old; and paths and lists of them among the arguments, opened. -/
import Derived.Test.YtmbpebdceaihaacRows
import Derived.Test.YtmbpebdceaihaacPts
import Derived.ProofKit
import Derived.OpenShut
import Derived.SizedLaws
import Derived.Deep.Strs
namespace Go.Proofs.Ytmbpebdceaihaac
open Go.ChangeShapes Go.WideShapes Go.ChangeAt Go.RowKit

theorem Try.own : ownKnob Try.prog.godebug = none := by kernel_rfl
theorem Try.laidOut : laidOutB Try.prog = true := by kernel_rfl
theorem Try.cellsStr : Try.prog.cellsOf 9 = 1 := by kernel_rfl
theorem Try.bytesStr : Try.prog.bytesOf 9 = 16 := by kernel_rfl

theorem trodAll_below {H : Type} {enc : TypeId × Value → H} {W W' : World} (hb : Below W.heap.size W W') :
    ∀ (ts : List TypeId) (vs : List Value) (ds : List (DataW H)) (ps : List MemPlace), (∀ t ∈ ts, Try.prog.readableRec t = true ∧ t < Try.prog.types.size) → (∀ x ∈ ps, x.block < W.heap.size) →
      DataW.TrodAll enc Try.prog W 0 (fun _ => true) true ts vs ds ps → DataW.TrodAll enc Try.prog W' 0 (fun b => decide (b < W.heap.size)) true ts vs ds ps := by
  intro ts
  induction ts with
  | nil =>
    intro vs ds ps _ _ h
    obtain ⟨rfl, rfl, rfl⟩ := trodAll_nil h
    exact trodAll_mk0
  | cons t ts ih =>
    intro vs ds ps hr hlt h
    obtain ⟨v, vs', d, ds', p, q, rfl, rfl, rfl, h0, r0⟩ := trodAll_cons h
    exact trodAll_cons_mk (Below.trod Try.laidOut (hr t (by simp)).1 (hr t (by simp)).2 h0 hb (fun x hx => hlt x (by simp [hx]))) (ih vs' ds' q (fun u hu => hr u (by simp [hu])) (fun x hx => hlt x (by simp [hx])) r0)

/-- WHAT A LAW's ROW ASKS BEHIND THE CALL, out of a walk that answered true and turned nothing that was there. -/
theorem law_post {H : Type} {enc : TypeId × Value → H} {s : ChangeSpec} {fn : Func} {W W' : World} {args : Array Value} {ds gs : List (DataW H)} {before : List MemPlace}
    (hres : fn.resultTypes = #[4]) (hvars : s.vars = []) (hread : ∀ t ∈ fn.params.toList, Try.prog.readableRec t = true ∧ t < Try.prog.types.size)
    (e1 : (s.fn H (ds ++ gs)).results = [.lit (.bool true)]) (e2 : (s.fn H (ds ++ gs)).args = ds) (e3 : (s.fn H (ds ++ gs)).vars = [])
    (hW : DataW.Whole enc Try.prog fn.params.toList s.vars false W args.toList ds gs before) (hb : Below W.heap.size W W') :
    s.post enc Try.prog fn false true false false W args (.bool true) W' := by
  have hW' := hW
  obtain ⟨p, q, hA, hV, rfl, hfz, hnd⟩ := hW
  have hlt : ∀ x ∈ p, x.block < W.heap.size := fun x hx => hW'.lt x (by simp [hx])
  refine ⟨ds, gs, _, [], p, [], hW', ?_, ?_, ?_, hb.frame _, fun h => by cases h⟩
  · rw [hres, e1]
    exact trodAll_cons_mk (shut_bool Try.underlying4 true) trodAll_mk0
  · rw [e2]
    exact trodAll_below hb _ _ _ _ hread hlt hA
  · rw [hvars, e3]; rfl

theorem weights_strs {H : Type} (Sx : Nat → ByteArray) (n : List Nat) (i : Nat) (hi : i ∈ n) : (Sx i).size ∈ DataW.weightsAll (H := H) Try.prog 9 (n.map fun i => .lit (.string (Sx i).data.toList)) := by
  induction n with
  | nil => cases hi
  | cons j r ih =>
    simp only [List.map_cons, DataW.weightsAll, List.mem_append]
    rcases List.mem_cons.1 hi with rfl | h
    · left
      simp [DataW.weights]
    · exact .inr (ih h)

/-- A path among the arguments. -/
theorem path_open {H : Type} {enc : TypeId × Value → H} {W : World} {base : Nat} {v : Value} {d : DataW H} {p : List MemPlace}
    (hok : Value.okWide Try.prog W .any base 23 v) (h : DataW.Trod enc Try.prog W 0 (fun _ => true) true 23 v d p) (hlt : ∀ x ∈ p, x.block < W.heap.size)
    (hsz : ∀ n ∈ d.weights Try.prog 23, n ≤ reachBytes) : ∃ a cap l, v = .slice a l.length cap ∧ Strs W a cap l := by
  obtain ⟨a0, len, cap, rfl⟩ := okWide_slice Try.underlying23 hok
  obtain ⟨fuel, hf⟩ := h
  rcases Deep.open_strs Try.underlying23 Try.underlying9 Try.cellsStr hf with ⟨hcs, hx⟩ | ⟨a, len', cap', m, Sx, hcs, _, hl, hm, hmm, hx, hcell⟩
  · simp [Value.cells] at hcs
    obtain ⟨rfl, rfl, rfl⟩ := hcs
    exact ⟨none, 0, [], rfl, Strs.empty W⟩
  · simp [Value.cells] at hcs
    obtain ⟨rfl, rfl, rfl⟩ := hcs
    simp only [if_true] at hmm
    subst hmm
    simp only [Prod.mk.injEq] at hx
    obtain ⟨rfl, rfl⟩ := hx
    simp only [DataW.weights, Try.underlying23, Try.bytesStr, List.length_map, List.length_range, List.mem_cons, List.mem_append] at hsz
    have h1 := hsz _ (.inl rfl)
    have h2 : ∀ i, i < len → (Sx i).size ≤ 140737488355328 := fun i hi => by
      have := hsz _ (.inr (.inl (weights_strs Sx (List.range len) i (List.mem_range.2 hi))))
      simp only [reachBytes] at this
      omega
    simp only [reachBytes] at h1
    refine ⟨some a, m, (List.range len).map Sx, by simp, by simp; omega, fun h => (by cases h), by simpa using hl, hm, fun i hi => ?_, fun i hi => ?_⟩
    · have hi' : i < len := by simpa using hi
      simpa using h2 i hi'
    · have hi' : i < len := by simpa using hi
      obtain ⟨b, off, spot⟩ := a
      have hspot : spot = none := by simpa [Addr.add] using World.cell?_spot (hcell 0 (by omega)).1
      subst hspot
      refine ⟨b, off, rfl, hlt (.cell b off) (MemPlace.mem_row.2 ⟨0, by omega, by simp⟩), ?_⟩
      rw [← add_plain]
      simpa using (hcell i (by omega)).1

/-- A text among the arguments. -/
theorem text_open {H : Type} {enc : TypeId × Value → H} {W : World} {base : Nat} {v : Value} {d : DataW H} {p : List MemPlace}
    (hok : Value.okWide Try.prog W .any base 9 v) (h : DataW.Trod enc Try.prog W 0 (fun _ => true) true 9 v d p)
    (hsz : ∀ n ∈ d.weights Try.prog 9, n ≤ reachBytes) : ∃ s : ByteArray, v = .string s ∧ s.size ≤ 140737488351232 := by
  obtain ⟨s, rfl, rfl, rfl, hs⟩ := Go.ChangeMaps.open_string Try.underlying9 hok h
  refine ⟨s, rfl, ?_⟩
  have := hsz s.data.toList.length (by simp [DataW.weights])
  simp only [reachBytes] at this
  simpa using this

theorem weights_mem {H : Type} {t : TypeId} {d : DataW H} {ds : List (DataW H)} {n : Nat} (hd : d ∈ ds) (hn : n ∈ d.weights Try.prog t) : n ∈ DataW.weightsAll (H := H) Try.prog t ds := by
  induction ds with
  | nil => cases hd
  | cons x r ih =>
    simp only [DataW.weightsAll, List.mem_append]
    rcases List.mem_cons.1 hd with rfl | h
    · exact .inl hn
    · exact .inr (ih h)

/-- A path in a cell. -/
theorem path_cell {H : Type} {enc : TypeId × Value → H} {W : World} {fuel : Nat} {v : Value} {d : DataW H} {p : List MemPlace}
    (hf : DataW.trod enc Try.prog W 0 (fun _ => true) true fuel 23 [v] = some (d, p)) (hlt : ∀ x ∈ p, x.block < W.heap.size)
    (hsz : ∀ n ∈ d.weights Try.prog 23, n ≤ reachBytes) : ∃ a cap l, v = .slice a l.length cap ∧ Strs W a cap l := by
  rcases Deep.open_strs Try.underlying23 Try.underlying9 Try.cellsStr hf with ⟨hcs, hx⟩ | ⟨a, len, cap, m, Sx, hcs, _, hl, hm, hmm, hx, hcell⟩
  · simp only [List.cons.injEq, and_true] at hcs
    subst hcs
    exact ⟨none, 0, [], rfl, Strs.empty W⟩
  · simp only [List.cons.injEq, and_true] at hcs
    subst hcs
    simp only [if_true] at hmm
    subst hmm
    simp only [Prod.mk.injEq] at hx
    obtain ⟨rfl, rfl⟩ := hx
    simp only [DataW.weights, Try.underlying23, Try.bytesStr, List.length_map, List.length_range, List.mem_cons, List.mem_append] at hsz
    have h1 := hsz _ (.inl rfl)
    have h2 : ∀ i, i < len → (Sx i).size ≤ 140737488355328 := fun i hi => by
      have := hsz _ (.inr (.inl (weights_strs Sx (List.range len) i (List.mem_range.2 hi))))
      simp only [reachBytes] at this
      omega
    simp only [reachBytes] at h1
    refine ⟨some a, m, (List.range len).map Sx, by simp, by simp; omega, fun h => (by cases h), by simpa using hl, hm, fun i hi => ?_, fun i hi => ?_⟩
    · have hi' : i < len := by simpa using hi
      simpa using h2 i hi'
    · have hi' : i < len := by simpa using hi
      obtain ⟨b, off, spot⟩ := a
      have hspot : spot = none := by simpa [Addr.add] using World.cell?_spot (hcell 0 (by omega)).1
      subst hspot
      refine ⟨b, off, rfl, hlt (.cell b off) (MemPlace.mem_row.2 ⟨0, by omega, by simp⟩), ?_⟩
      rw [← add_plain]
      simpa using (hcell i (by omega)).1

theorem Try.cellsPath : Try.prog.cellsOf 23 = 1 := by kernel_rfl
theorem Try.bytesPath : Try.prog.bytesOf 23 = 24 := by kernel_rfl

/-- A list of paths among the arguments. -/
theorem paths_open1 {H : Type} {enc : TypeId × Value → H} {W : World} {base : Nat} {v : Value} {d : DataW H} {p : List MemPlace}
    (hok : Value.okWide Try.prog W .any base 24 v) (h : DataW.Trod enc Try.prog W 0 (fun _ => true) true 24 v d p) (hlt : ∀ x ∈ p, x.block < W.heap.size)
    (hsz : ∀ n ∈ d.weights Try.prog 24, n ≤ reachBytes) : ∃ a cap l, v = .slice a l.length cap ∧ Pts W a cap l ∧ l.length ≤ 5864062014805 := by
  obtain ⟨a0, len, cap, rfl⟩ := okWide_slice Try.underlying24 hok
  obtain ⟨fuel, hf⟩ := h
  rcases Deep.open_slice1 Try.underlying24 Try.cellsPath hf with ⟨hcs, hx⟩ | ⟨a, len', cap', m, n, V, D, Pp, hcs, _, hl, hm, hmm, hx, hcell⟩
  · simp [Value.cells] at hcs
    obtain ⟨rfl, rfl, rfl⟩ := hcs
    exact ⟨none, 0, [], rfl, Pts.empty W, by simp⟩
  · simp [Value.cells] at hcs
    obtain ⟨rfl, rfl, rfl⟩ := hcs
    simp only [if_true] at hmm
    subst hmm
    simp only [Prod.mk.injEq] at hx
    obtain ⟨rfl, rfl⟩ := hx
    simp only [DataW.weights, Try.underlying24, Try.bytesPath, List.length_map, List.length_range, List.mem_cons, List.mem_append] at hsz
    have h1 := hsz _ (.inl rfl)
    simp only [reachBytes] at h1
    have each : ∀ i, i < len → ∃ y : Option Addr × Nat × List ByteArray, V i = .slice y.1 y.2.2.length y.2.1 ∧ Strs W y.1 y.2.1 y.2.2 := fun i hi => by
      obtain ⟨_, ht⟩ := hcell i (by omega)
      obtain ⟨x, c, l, e1, e2⟩ := path_cell ht (fun y hy => hlt y (List.mem_append_right _ (List.mem_flatMap.2 ⟨i, List.mem_range.2 (by omega), hy⟩))) (fun n hn => hsz n (.inr (.inl (weights_mem (List.mem_map.2 ⟨i, List.mem_range.2 hi, rfl⟩) hn))))
      exact ⟨(x, c, l), e1, e2⟩
    obtain ⟨Y, hY⟩ := Deep.choose_lt each
    refine ⟨some a, m, (List.range len).map fun i => (Y i).2.2, by simp, ⟨by simp; omega, fun h => (by cases h), by simpa using hl, hm, fun i hi => ?_⟩, by simp; omega⟩
    have hi' : i < len := by simpa using hi
    obtain ⟨b, off, spot⟩ := a
    have hspot : spot = none := by simpa [Addr.add] using World.cell?_spot (hcell 0 (by omega)).1
    subst hspot
    refine ⟨b, off, (Y i).1, (Y i).2.1, rfl, hlt (.cell b off) (List.mem_append_left _ (MemPlace.mem_row.2 ⟨0, by omega, by simp⟩)), ?_, ?_⟩
    · rw [← add_plain, (hcell i (by omega)).1, (hY i hi').1]; simp
    · simpa using (hY i hi').2

theorem paths_open {H : Type} {enc : TypeId × Value → H} {W : World} {base : Nat} {v : Value} {d : DataW H} {p : List MemPlace}
    (hok : Value.okWide Try.prog W .any base 24 v) (h : DataW.Trod enc Try.prog W 0 (fun _ => true) true 24 v d p) (hlt : ∀ x ∈ p, x.block < W.heap.size)
    (hsz : ∀ n ∈ d.weights Try.prog 24, n ≤ reachBytes) : ∃ a cap l, v = .slice a l.length cap ∧ Pts W a cap l := by
  obtain ⟨a, cap, l, e, h1, _⟩ := paths_open1 hok h hlt hsz
  exact ⟨a, cap, l, e, h1⟩

end Go.Proofs.Ytmbpebdceaihaac
