/- The frame of the rows of lines: the tables out of what a row lists; lines, texts and numbers among the arguments, with their bulk; and what is asked behind a walk that answers true and turns nothing old. -/
import Derived.Test.YtpoimhkfajppmaaDoorRows
import Derived.Test.YtpoimhkfajppmaaDoorLLines
import Derived.Test.YtpoimhkfajppmaaDoorLPlainS
import Derived.ProofKit
import Derived.OpenShut
import Derived.Deep.DeepHandedRow
import Derived.Deep.SlicePairs
import Derived.Lib.LaidTab
namespace Go.Proofs.YtpoimhkfajppmaaDoor
open Go.ChangeShapes Go.WideShapes Go.ChangeAt Go.RowKit

theorem Tryd.own : ownKnob Tryd.prog.godebug = none := by kernel_rfl
theorem Tryd.laidOut : laidOutB Tryd.prog = true := by kernel_rfl
theorem Tryd.gLets : Tryd.prog.globalNamed "paddock/lines.letters" = some 0 := by kernel_rfl
theorem Tryd.gOcts : Tryd.prog.globalNamed "paddock/lines.octals" = some 1 := by kernel_rfl
theorem Tryd.gLetsType : (Tryd.prog.globals[0]?).map (·.type) = some 79 := by kernel_rfl
theorem Tryd.gOctsType : (Tryd.prog.globals[1]?).map (·.type) = some 84 := by kernel_rfl
theorem Tryd.cellsU8 : Tryd.prog.cellsOf 5 = 1 := by kernel_rfl
theorem Tryd.cellsInt : Tryd.prog.cellsOf 3 = 1 := by kernel_rfl
theorem Tryd.cellsLets : Tryd.prog.cellsOf 79 = 14 := by kernel_rfl
theorem Tryd.cellsPair : Tryd.prog.cellsOf 83 = 2 := by kernel_rfl
theorem Tryd.cellsLine : Tryd.prog.cellsOf 38 = 2 := by kernel_rfl
theorem Tryd.cellsS : Tryd.prog.cellsOf 9 = 1 := by kernel_rfl
theorem Tryd.cellsB : Tryd.prog.cellsOf 4 = 1 := by kernel_rfl

theorem lt_of_cell {w : World} {b off : Nat} {v : Value} (h : w.cell? ⟨b, off, none⟩ = some v) : b < w.heap.size := by
  refine Nat.lt_of_not_le fun hn => ?_
  have : w.heap[b]? = none := Array.getElem?_eq_none hn
  simp [World.cell?, this] at h

/-- The tables, out of what the row lists. -/
theorem tabs_of_laid {W : World} (h : laidMetH Tryd.prog [("paddock/lines.letters", Rows.laid_paddock_lines_letters), ("paddock/lines.octals", Rows.laid_paddock_lines_octals)] W) : Tabs W := by
  have h0 : laidMet Tryd.prog (("paddock/lines.letters", Lib.tabData .u8 [0, 0, 0, 0, 0, 0, 0, 97, 98, 116, 110, 118, 102, 114]) :: [("paddock/lines.octals", Rows.laid_paddock_lines_octals)]) W := h
  have t0 := Lib.tabIs_of_head Tryd.gLets Tryd.gLetsType Tryd.underlying79 Tryd.underlying5 Tryd.cellsU8 Tryd.cellsLets h0
  obtain ⟨ps, ⟨_, _, _, _, _, q, _, _, _, _, ⟨g, t, cs, fuel, p, _, hg, ht, hvar, hd, _, _⟩, _⟩, _⟩ := h0
  obtain rfl := Option.some.inj (Tryd.gOcts.symm.trans hg)
  obtain rfl := Option.some.inj (Tryd.gOctsType.symm.trans ht)
  obtain ⟨xs, m, _, hx, hlen, hxl, hel⟩ := DataW.trod_array Tryd.underlying84 hd
  have hcs : cs.toList.length = 6 := by rw [hlen]; kernel_rfl
  rw [Tryd.cellsPair] at hel
  have hx1 := congrArg Prod.fst hx
  simp only [Rows.laid_paddock_lines_octals, DataW.agg.injEq] at hx1
  have hmap : ∀ i, i < 3 → ∃ pl, xs[i]? = some ((Lib.tabData .i64 [Ln.octs.getD (i * 2) 0, Ln.octs.getD (i * 2 + 1) 0], pl) : DataW Unit × List MemPlace) := by
    match xs, hxl with
    | [y0, y1, y2], _ =>
      simp only [List.map_cons, List.map_nil, List.cons.injEq, and_true] at hx1
      obtain ⟨e0, e1, e2⟩ := hx1
      intro i hi
      match i, hi with
      | 0, _ => exact ⟨y0.2, by simp only [List.getElem?_cons_zero]; exact congrArg some (Prod.ext e0.symm rfl)⟩
      | 1, _ => exact ⟨y1.2, by simp only [List.getElem?_cons_succ, List.getElem?_cons_zero]; exact congrArg some (Prod.ext e1.symm rfl)⟩
      | 2, _ => exact ⟨y2.2, by simp only [List.getElem?_cons_succ, List.getElem?_cons_zero]; exact congrArg some (Prod.ext e2.symm rfl)⟩
  have hrow : ∀ i, i < 3 → (cs.toList.drop (i * 2)).take 2 = [Value.int .i64 (Ln.octs.getD (i * 2) 0 : Nat), Value.int .i64 (Ln.octs.getD (i * 2 + 1) 0 : Nat)] := fun i hi => by
    obtain ⟨pl, hpl⟩ := hmap i hi
    exact Lib.cells_of_tab Tryd.underlying83 Tryd.underlying3 Tryd.cellsInt Tryd.cellsPair ((hel i hi).trans hpl)
  have hcell : ∀ i, i < 6 → cs[i]? = some (Value.int .i64 (Ln.octs.getD i 0 : Nat)) := fun i hi => by
    have r := hrow (i / 2) (by omega)
    rcases Nat.mod_two_eq_zero_or_one i with h | h
    · have := congrArg (·[0]?) r
      simp only [List.getElem?_take, List.getElem?_drop, List.getElem?_cons_zero] at this
      rw [if_pos (by omega)] at this
      have e : i / 2 * 2 = i := by omega
      simp only [e, Nat.add_zero] at this
      simpa using this
    · have := congrArg (·[1]?) r
      simp only [List.getElem?_take, List.getElem?_drop, List.getElem?_cons_succ, List.getElem?_cons_zero] at this
      rw [if_pos (by omega)] at this
      have e : i / 2 * 2 + 1 = i := by omega
      simp only [e] at this
      simpa using this
  have ho : ∀ i, i < 6 → W.cell? ⟨1, i, none⟩ = some (.int .i64 (Ln.octs.getD i 0 : Nat)) := fun i hi => by
    rw [World.var?_cell Tryd.gOcts hvar i, hcell i hi]
  refine ⟨?_, fun i hi => ?_, ho⟩
  · exact lt_of_cell (ho 0 (by omega))
  · have := t0.cell Tryd.gLets i (by simpa using hi)
    rw [this]
    match i, hi with
    | 0, _ | 1, _ | 2, _ | 3, _ | 4, _ | 5, _ | 6, _ | 7, _ | 8, _ | 9, _ | 10, _ | 11, _ | 12, _ | 13, _ => rfl

theorem trodAll_below {H : Type} {enc : TypeId × Value → H} {W W' : World} (hb : Below W.heap.size W W') :
    ∀ (ts : List TypeId) (vs : List Value) (ds : List (DataW H)) (ps : List MemPlace), (∀ t ∈ ts, Tryd.prog.readableRec t = true ∧ t < Tryd.prog.types.size) → (∀ x ∈ ps, x.block < W.heap.size) →
      DataW.TrodAll enc Tryd.prog W 0 (fun _ => true) true ts vs ds ps → DataW.TrodAll enc Tryd.prog W' 0 (fun b => decide (b < W.heap.size)) true ts vs ds ps := by
  intro ts
  induction ts with
  | nil =>
    intro vs ds ps _ _ h
    obtain ⟨rfl, rfl, rfl⟩ := trodAll_nil h
    exact trodAll_mk0
  | cons t ts ih =>
    intro vs ds ps hr hlt h
    obtain ⟨v, vs', d, ds', p, q, rfl, rfl, rfl, h0, r0⟩ := trodAll_cons h
    exact trodAll_cons_mk (Below.trod Tryd.laidOut (hr t (by simp)).1 (hr t (by simp)).2 h0 hb (fun x hx => hlt x (by simp [hx]))) (ih vs' ds' q (fun u hu => hr u (by simp [hu])) (fun x hx => hlt x (by simp [hx])) r0)

/-- What a law's row asks behind the call, out of a walk that answered true and turned nothing that was there. -/
theorem law_post {H : Type} {enc : TypeId × Value → H} {s : ChangeSpec} {fn : Func} {W W' : World} {args : Array Value} {ds gs : List (DataW H)} {before : List MemPlace}
    (hres : fn.resultTypes = #[4]) (hvars : s.vars = []) (hread : ∀ t ∈ fn.params.toList, Tryd.prog.readableRec t = true ∧ t < Tryd.prog.types.size)
    (e1 : (s.fn H (ds ++ gs)).results = [.lit (.bool true)]) (e2 : (s.fn H (ds ++ gs)).args = ds) (e3 : (s.fn H (ds ++ gs)).vars = [])
    (hW : DataW.Whole enc Tryd.prog fn.params.toList s.vars false W args.toList ds gs before) (hb : Below W.heap.size W W') :
    s.post enc Tryd.prog fn false true false false W args (.bool true) W' := by
  have hW' := hW
  obtain ⟨p, q, hA, hV, rfl, hfz, hnd⟩ := hW
  have hlt : ∀ x ∈ p, x.block < W.heap.size := fun x hx => hW'.lt x (by simp [hx])
  refine ⟨ds, gs, _, [], p, [], hW', ?_, ?_, ?_, hb.frame _, fun h => by cases h⟩
  · rw [hres, e1]
    exact trodAll_cons_mk (shut_bool Tryd.underlying4 true) trodAll_mk0
  · rw [e2]
    exact trodAll_below hb _ _ _ _ hread hlt hA
  · rw [hvars, e3]; rfl

/-- A text among the arguments, with its bulk. -/
theorem text_open {H : Type} {enc : TypeId × Value → H} {W : World} {base : Nat} {v : Value} {d : DataW H} {p : List MemPlace}
    (hok : Value.okWide Tryd.prog W .any base 9 v) (h : DataW.Trod enc Tryd.prog W 0 (fun _ => true) true 9 v d p) : ∃ s : ByteArray, v = .string s ∧ s.size + 1 ≤ Rows.uptoBulk d := by
  obtain ⟨s, rfl, rfl, rfl, hs⟩ := Go.ChangeMaps.open_string Tryd.underlying9 hok h
  exact ⟨s, rfl, by simp [Rows.uptoBulk]⟩

theorem bulk_lines {H : Type} (Lx : Nat → ByteArray × Bool) (n : List Nat) :
    Rows.uptoBulkAll (H := H) (n.map fun i => .agg [.lit (.string (Lx i).1.data.toList), .lit (.bool (Lx i).2)]) = Ln.tot (n.map Lx) + 2 * n.length := by
  induction n with
  | nil => rfl
  | cons j r ih =>
    simp only [List.map_cons, Rows.uptoBulkAll, Rows.uptoBulk, ih, Ln.tot, List.length_cons, Array.length_toList]
    show (Lx j).1.size + 1 + (1 + 0) + 1 + _ = _
    omega

/-- Lines among the arguments, with their bulk. -/
theorem lines_open {H : Type} {enc : TypeId × Value → H} {W : World} {base : Nat} {v : Value} {d : DataW H} {p : List MemPlace}
    (hok : Value.okWide Tryd.prog W .any base 35 v) (h : DataW.Trod enc Tryd.prog W 0 (fun _ => true) true 35 v d p) (hlt : ∀ x ∈ p, x.block < W.heap.size)
    (hsz : Rows.uptoBulk d ≤ 1048576) : ∃ a cap l, v = .slice a l.length cap ∧ Lns W a cap l ∧ Ln.tot l + 2 * l.length + 1 ≤ Rows.uptoBulk d + 0 := by
  obtain ⟨a0, len, cap, rfl⟩ := okWide_slice Tryd.underlying35 hok
  obtain ⟨fuel, hf⟩ := h
  rcases Deep.open_slice_pairs Tryd.underlying35 Tryd.underlying38 Tryd.cellsLine rfl rfl Tryd.cellsS Tryd.cellsB hf with ⟨hcs, hx⟩ | ⟨a, len', cap', m, n, V0, V1, D0, D1, P0, P1, hcs, _, hl, hm, hmm, hx, hcell⟩
  · simp [Value.cells] at hcs
    obtain ⟨rfl, rfl, rfl⟩ := hcs
    simp only [Prod.mk.injEq] at hx
    obtain ⟨rfl, rfl⟩ := hx
    exact ⟨none, 0, [], rfl, ⟨by simp, fun _ => rfl, by simp, by simp, by simp, fun i hi => absurd hi (by simp)⟩, by simp [Ln.tot, Rows.uptoBulk]⟩
  · simp [Value.cells] at hcs
    obtain ⟨rfl, rfl, rfl⟩ := hcs
    simp only [if_true] at hmm
    subst hmm
    simp only [Prod.mk.injEq] at hx
    obtain ⟨rfl, rfl⟩ := hx
    have each : ∀ i, i < m → ∃ x : ByteArray × Bool, V0 i = .string x.1 ∧ V1 i = .bool x.2 ∧ D0 i = .lit (.string x.1.data.toList) ∧ D1 i = .lit (.bool x.2) := fun i hi => by
      obtain ⟨_, _, h0, h1⟩ := hcell i hi
      obtain ⟨s, e1, e2, _⟩ := DataW.trod_string Tryd.underlying9 h0
      obtain ⟨b, e3, e4⟩ := DataW.trod_bool Tryd.underlying4 h1
      simp at e1 e2 e3 e4
      exact ⟨(s, b), e1, e3, e2.1, e4.1⟩
    obtain ⟨Lx, hL⟩ := Deep.choose_lt each
    have hbulk : Ln.tot ((List.range len).map Lx) + 2 * len + 1 ≤ Rows.uptoBulk (.slice ((List.range len).map fun i => .agg [D0 i, D1 i]) ((List.range (m - len)).map fun j => .agg [D0 (len + j), D1 (len + j)])) := by
      simp only [Rows.uptoBulk]
      have e : ((List.range len).map fun i => (DataW.agg [D0 i, D1 i] : DataW H)) = (List.range len).map fun i => .agg [.lit (.string (Lx i).1.data.toList), .lit (.bool (Lx i).2)] :=
        List.map_congr_left fun i hi => by
          have := List.mem_range.1 hi
          rw [(hL i (by omega)).2.2.1, (hL i (by omega)).2.2.2]
      rw [e, bulk_lines, List.length_range]
      omega
    refine ⟨some a, m, (List.range len).map Lx, by simp, ⟨by simp; omega, fun h => (by cases h), by simpa using hl, hm, fun x hx => ?_, fun i hi => ?_⟩, by simpa using hbulk⟩
    · have := Ln.tot_mem hx
      omega
    · have hi' : i < len := by simpa using hi
      obtain ⟨b, off, spot⟩ := a
      have hspot : spot = none := by simpa [Addr.add] using World.cell?_spot (hcell 0 (by omega)).1
      subst hspot
      refine ⟨b, off, rfl, hlt (.cell b off) ?_, ?_, ?_⟩
      · exact List.mem_append_left _ (MemPlace.mem_row.2 ⟨0, by omega, by simp⟩)
      · rw [← add_plain, (hcell i (by omega)).1, (hL i (by omega)).1]; simp
      · rw [Nat.add_assoc, ← add_plain, (hcell i (by omega)).2.1, (hL i (by omega)).2.1]; simp

theorem number_open {H : Type} {enc : TypeId × Value → H} {W : World} {base : Nat} {v : Value} {d : DataW H} {p : List MemPlace}
    (hok : Value.okWide Tryd.prog W .any base 3 v) (h : DataW.Trod enc Tryd.prog W 0 (fun _ => true) true 3 v d p) : ∃ n : Int, v = .int .i64 n ∧ -9223372036854775808 ≤ n ∧ n ≤ 9223372036854775807 ∧ 1 ≤ Rows.uptoBulk d := by
  obtain ⟨n, rfl, rfl, _, hn⟩ := open_int Tryd.underlying3 hok h
  exact ⟨n, rfl, (bounds_i64 hn).1, (bounds_i64 hn).2, by simp [Rows.uptoBulk]⟩

/-- A world for the witness: the settled one, the tables holding what their initialisers lay. -/
noncomputable def laidLets : Obj → Obj
  | .cells _ t frozen => .cells #[.int .u8 0, .int .u8 0, .int .u8 0, .int .u8 0, .int .u8 0, .int .u8 0, .int .u8 0, .int .u8 97, .int .u8 98, .int .u8 116, .int .u8 110, .int .u8 118, .int .u8 102, .int .u8 114] t frozen
  | o => o
noncomputable def laidOcts : Obj → Obj
  | .cells _ t frozen => .cells #[.int .i64 0, .int .i64 6, .int .i64 14, .int .i64 31, .int .i64 127, .int .i64 255] t frozen
  | o => o
noncomputable def laidWorld (os : Os) : World :=
  { World.holding Tryd.prog os ⟨#[], #[], []⟩ with heap := ((World.holding Tryd.prog os ⟨#[], #[], []⟩).heap.modify 0 laidLets).modify 1 laidOcts }
theorem bound_all {H : Type} {l : List (DataW H)} (hk : Rows.uptoSmall H l = true) : Rows.uptoBulkAll l ≤ 1048576 := of_decide_eq_true hk
end Go.Proofs.YtpoimhkfajppmaaDoor
