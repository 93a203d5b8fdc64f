/- The frame of the policies' rows: the program's variables out of what a row lists; policies, paths and texts among the arguments; what is asked behind a walk that answers true and turns nothing old. -/
import Derived.Test.YtcloljkaojnipaaGreatDoorRows
import Derived.Test.YtcloljkaojnipaaGreatDoorPgG
import Derived.Test.YtcloljkaojnipaaGreatDoorPgE
import Derived.ProofKit
import Derived.OpenShut
import Derived.Deep.DeepHandedRow
import Derived.Deep.Strs
import Derived.Lib.LaidTab
import Derived.JoinedCond
import Derived.Shelf.Vars
namespace Go.Proofs.YtcloljkaojnipaaGreatDoor
open Go.ChangeShapes Go.WideShapes Go.ChangeAt Go.RowKit

theorem Tryz.own : ownKnob Tryz.prog.godebug = none := by kernel_rfl
theorem Tryz.laidOut : laidOutB Tryz.prog = true := by kernel_rfl
theorem Tryz.gLets : Tryz.prog.globalNamed "paddock/lines.letters" = some 1 := by kernel_rfl
theorem Tryz.gOcts : Tryz.prog.globalNamed "paddock/lines.octals" = some 3 := by kernel_rfl
theorem Tryz.gLetsType : (Tryz.prog.globals[1]?).map (·.type) = some 136 := by kernel_rfl
theorem Tryz.gOctsType : (Tryz.prog.globals[3]?).map (·.type) = some 158 := by kernel_rfl
theorem Tryz.cellsU8 : Tryz.prog.cellsOf 5 = 1 := by kernel_rfl
theorem Tryz.cellsInt : Tryz.prog.cellsOf 3 = 1 := by kernel_rfl
theorem Tryz.cellsLets : Tryz.prog.cellsOf 136 = 14 := by kernel_rfl
theorem Tryz.cellsPair : Tryz.prog.cellsOf 157 = 2 := by kernel_rfl
theorem Tryz.cellsS : Tryz.prog.cellsOf 9 = 1 := by kernel_rfl

theorem Tryz.gPow : Tryz.prog.globalNamed "internal/strconv.uint64pow10" = some 4 := by kernel_rfl
theorem Tryz.gPowType : (Tryz.prog.globals[4]?).map (·.type) = some 160 := by kernel_rfl
theorem Tryz.cellsU64 : Tryz.prog.cellsOf 131 = 1 := by kernel_rfl
theorem Tryz.cellsPow : Tryz.prog.cellsOf 160 = 20 := by kernel_rfl
theorem Tryz.gErr : Tryz.prog.globalNamed "strconv.ErrRange" = some 6 := by kernel_rfl
theorem Tryz.gErrType : (Tryz.prog.globals[6]?).map (·.type) = some 107 := by kernel_rfl
theorem Tryz.gB64 : Tryz.prog.globalNamed "math/bits.deBruijn64tab" = some 8 := by kernel_rfl
theorem Tryz.cellsPath : Tryz.prog.cellsOf 26 = 1 := by kernel_rfl
theorem Tryz.cellsPaths : Tryz.prog.cellsOf 22 = 1 := by kernel_rfl
theorem Tryz.cellsPol : Tryz.prog.cellsOf 24 = 6 := by kernel_rfl
theorem pow_data : (Rows.laid_internal_strconv_uint64pow10 : DataW Unit) = Lib.tabData .u64 Lib.pow10Tab := by kernel_rfl
theorem lt_of_cell {w : World} {b off : Nat} {v : Value} (h : w.cell? ⟨b, off, none⟩ = some v) : b < w.heap.size := by
  refine Nat.lt_of_not_le fun hn => ?_
  have : w.heap[b]? = none := Array.getElem?_eq_none hn
  simp [World.cell?, this] at h

/-- The tables, out of what the row lists. -/
theorem tabs_of_laid {W : World} (hsz : 9 ≤ W.heap.size) (h : laidMet Tryz.prog [("paddock/lines.letters", Rows.laid_paddock_lines_letters), ("paddock/lines.octals", Rows.laid_paddock_lines_octals)] W) : Tabs W := by
  have h0 : laidMet Tryz.prog (("paddock/lines.letters", Lib.tabData .u8 [0, 0, 0, 0, 0, 0, 0, 97, 98, 116, 110, 118, 102, 114]) :: [("paddock/lines.octals", Rows.laid_paddock_lines_octals)]) W := h
  have t0 := Lib.tabIs_of_head Tryz.gLets Tryz.gLetsType Tryz.underlying136 Tryz.underlying5 Tryz.cellsU8 Tryz.cellsLets h0
  obtain ⟨ps, ⟨_, _, _, _, _, q, _, _, _, _, ⟨g, t, cs, fuel, p, _, hg, ht, hvar, hd, _, _⟩, _⟩, _⟩ := h0
  obtain rfl := Option.some.inj (Tryz.gOcts.symm.trans hg)
  obtain rfl := Option.some.inj (Tryz.gOctsType.symm.trans ht)
  obtain ⟨xs, m, _, hx, hlen, hxl, hel⟩ := DataW.trod_array Tryz.underlying158 hd
  have hcs : cs.toList.length = 6 := by rw [hlen]; kernel_rfl
  rw [Tryz.cellsPair] at hel
  have hx1 := congrArg Prod.fst hx
  simp only [Rows.laid_paddock_lines_octals, DataW.agg.injEq] at hx1
  have hmap : ∀ i, i < 3 → ∃ pl, xs[i]? = some ((Lib.tabData .i64 [Ln.octs.getD (i * 2) 0, Ln.octs.getD (i * 2 + 1) 0], pl) : DataW Unit × List MemPlace) := by
    match xs, hxl with
    | [y0, y1, y2], _ =>
      simp only [List.map_cons, List.map_nil, List.cons.injEq, and_true] at hx1
      obtain ⟨e0, e1, e2⟩ := hx1
      intro i hi
      match i, hi with
      | 0, _ => exact ⟨y0.2, by simp only [List.getElem?_cons_zero]; exact congrArg some (Prod.ext e0.symm rfl)⟩
      | 1, _ => exact ⟨y1.2, by simp only [List.getElem?_cons_succ, List.getElem?_cons_zero]; exact congrArg some (Prod.ext e1.symm rfl)⟩
      | 2, _ => exact ⟨y2.2, by simp only [List.getElem?_cons_succ, List.getElem?_cons_zero]; exact congrArg some (Prod.ext e2.symm rfl)⟩
  have hrow : ∀ i, i < 3 → (cs.toList.drop (i * 2)).take 2 = [Value.int .i64 (Ln.octs.getD (i * 2) 0 : Nat), Value.int .i64 (Ln.octs.getD (i * 2 + 1) 0 : Nat)] := fun i hi => by
    obtain ⟨pl, hpl⟩ := hmap i hi
    exact Lib.cells_of_tab Tryz.underlying157 Tryz.underlying3 Tryz.cellsInt Tryz.cellsPair ((hel i hi).trans hpl)
  have hcell : ∀ i, i < 6 → cs[i]? = some (Value.int .i64 (Ln.octs.getD i 0 : Nat)) := fun i hi => by
    have r := hrow (i / 2) (by omega)
    rcases Nat.mod_two_eq_zero_or_one i with h | h
    · have := congrArg (·[0]?) r
      simp only [List.getElem?_take, List.getElem?_drop, List.getElem?_cons_zero] at this
      rw [if_pos (by omega)] at this
      have e : i / 2 * 2 = i := by omega
      simp only [e, Nat.add_zero] at this
      simpa using this
    · have := congrArg (·[1]?) r
      simp only [List.getElem?_take, List.getElem?_drop, List.getElem?_cons_succ, List.getElem?_cons_zero] at this
      rw [if_pos (by omega)] at this
      have e : i / 2 * 2 + 1 = i := by omega
      simp only [e] at this
      simpa using this
  have ho : ∀ i, i < 6 → W.cell? ⟨3, i, none⟩ = some (.int .i64 (Ln.octs.getD i 0 : Nat)) := fun i hi => by
    rw [World.var?_cell Tryz.gOcts hvar i, hcell i hi]
  refine ⟨hsz, fun i hi => ?_, ho⟩
  · have := t0.cell Tryz.gLets i (by simpa using hi)
    rw [this]
    match i, hi with
    | 0, _ | 1, _ | 2, _ | 3, _ | 4, _ | 5, _ | 6, _ | 7, _ | 8, _ | 9, _ | 10, _ | 11, _ | 12, _ | 13, _ => rfl

theorem laid_tail {P : Program} {x : String × DataW Unit} {r : List (String × DataW Unit)} {w : World} (h : laidMet P (x :: r) w) : laidMet P r w := by
  obtain ⟨n, d⟩ := x
  obtain ⟨ps, ⟨g, t, cs, fuel, p, q, _, _, _, _, hq, rfl⟩, hnd, hc⟩ := h
  exact ⟨q, hq, (List.nodup_append.1 hnd).2.1, fun b off hm => hc b off (List.mem_append_right _ hm)⟩

theorem size_of_laid {W : World} {x : DataW Unit} {r : List (String × DataW Unit)} (h : laidMet Tryz.prog (("math/bits.deBruijn64tab", x) :: r) W) (hx : x = Rows.laid_math_bits_deBruijn64tab) : 9 ≤ W.heap.size := by
  obtain ⟨ps, ⟨g, t, cs, fuel, p, q, hg, ht, hvar, hd, _, _⟩, _, _⟩ := h
  subst hx
  obtain rfl := Option.some.inj (Tryz.gB64.symm.trans hg)
  unfold World.var? at hvar
  rw [Tryz.gB64] at hvar
  simp only [Option.bind_some] at hvar
  refine Nat.lt_of_not_le fun hn => ?_
  have : W.heap[8]? = none := Array.getElem?_eq_none hn
  rw [this] at hvar
  cases hvar
set_option maxRecDepth 100000 in
/-- What the library's variable of an error holds is an interface's value. -/
theorem err_of_laid {W : World} {r : List (String × DataW Unit)} (h : laidMet Tryz.prog (("strconv.ErrRange", Rows.laid_strconv_ErrRange) :: r) W) : ∃ ev, W.cell? ⟨6, 0, none⟩ = some ev ∧ (ev = .nilIface ∨ ∃ te pe, ev = .iface te pe) := by
  obtain ⟨ps, ⟨g, t, cs, fuel, p, q, hg, ht, hvar, hd, _, _⟩, _, _⟩ := h
  obtain rfl := Option.some.inj (Tryz.gErr.symm.trans hg)
  obtain rfl := Option.some.inj (Tryz.gErrType.symm.trans ht)
  have hc := World.var?_cell Tryz.gErr hvar 0
  cases fuel with
  | zero => simp [DataW.trod] at hd
  | succ fuel =>
    obtain ⟨l⟩ := cs
    simp only [DataW.trod, Tryz.underlying107] at hd
    split at hd
    all_goals first
      | (rename_i e _; cases e; done)
      | exact ⟨_, hc, .inl rfl⟩
      | exact ⟨_, hc, .inr ⟨_, _, rfl⟩⟩
      | (cases hd; done)
theorem pt_of_laid {W : World} (hs : W.ShapedOpen Tryz.prog) (h : laidMetH Tryz.prog [("math/bits.deBruijn32tab", Rows.laid_math_bits_deBruijn32tab), ("math/bits.deBruijn64tab", Rows.laid_math_bits_deBruijn64tab), ("internal/strconv.uint64pow10", Rows.laid_internal_strconv_uint64pow10), ("strconv.ErrRange", Rows.laid_strconv_ErrRange), ("strconv.ErrSyntax", Rows.laid_strconv_ErrSyntax), ("paddock/lines.letters", Rows.laid_paddock_lines_letters), ("paddock/lines.octals", Rows.laid_paddock_lines_octals)] W) : PT W := by
  have h0 : laidMet Tryz.prog [("math/bits.deBruijn32tab", Rows.laid_math_bits_deBruijn32tab), ("math/bits.deBruijn64tab", Rows.laid_math_bits_deBruijn64tab), ("internal/strconv.uint64pow10", Rows.laid_internal_strconv_uint64pow10), ("strconv.ErrRange", Rows.laid_strconv_ErrRange), ("strconv.ErrSyntax", Rows.laid_strconv_ErrSyntax), ("paddock/lines.letters", Rows.laid_paddock_lines_letters), ("paddock/lines.octals", Rows.laid_paddock_lines_octals)] W := h
  have h1 := laid_tail h0
  have h2 := laid_tail h1
  have h3 := laid_tail h2
  have h5 := laid_tail (laid_tail h3)
  rw [pow_data] at h2
  exact ⟨tabs_of_laid (size_of_laid h1 rfl) h5, Lib.tabIs_of_head Tryz.gPow Tryz.gPowType Tryz.underlying160 Tryz.underlying131 Tryz.cellsU64 Tryz.cellsPow h2, err_of_laid h3,
    cell_of_shapedOpen_int (t := 3) (zero := #[.int .i64 0]) hs (of_decide_eq_true (by kernel_rfl)) (by kernel_rfl) rfl (by kernel_rfl) (by kernel_rfl) Tryz.underlying3⟩

theorem trodAll_below {H : Type} {enc : TypeId × Value → H} {W W' : World} (hb : Below W.heap.size W W') :
    ∀ (ts : List TypeId) (vs : List Value) (ds : List (DataW H)) (ps : List MemPlace), (∀ t ∈ ts, Tryz.prog.readableRec t = true ∧ t < Tryz.prog.types.size) → (∀ x ∈ ps, x.block < W.heap.size) →
      DataW.TrodAll enc Tryz.prog W 0 (fun _ => true) true ts vs ds ps → DataW.TrodAll enc Tryz.prog W' 0 (fun b => decide (b < W.heap.size)) true ts vs ds ps := by
  intro ts
  induction ts with
  | nil =>
    intro vs ds ps _ _ h
    obtain ⟨rfl, rfl, rfl⟩ := trodAll_nil h
    exact trodAll_mk0
  | cons t ts ih =>
    intro vs ds ps hr hlt h
    obtain ⟨v, vs', d, ds', p, q, rfl, rfl, rfl, h0, r0⟩ := trodAll_cons h
    exact trodAll_cons_mk (Below.trod Tryz.laidOut (hr t (by simp)).1 (hr t (by simp)).2 h0 hb (fun x hx => hlt x (by simp [hx]))) (ih vs' ds' q (fun u hu => hr u (by simp [hu])) (fun x hx => hlt x (by simp [hx])) r0)

/-- What a law's row asks behind the call, out of a walk that answered true and turned nothing that was there. -/
theorem law_post {H : Type} {enc : TypeId × Value → H} {s : ChangeSpec} {fn : Func} {W W' : World} {args : Array Value} {ds gs : List (DataW H)} {before : List MemPlace}
    (hres : fn.resultTypes = #[4]) (hvars : s.vars = []) (hread : ∀ t ∈ fn.params.toList, Tryz.prog.readableRec t = true ∧ t < Tryz.prog.types.size)
    (e1 : (s.fn H (ds ++ gs)).results = [.lit (.bool true)]) (e2 : (s.fn H (ds ++ gs)).args = ds) (e3 : (s.fn H (ds ++ gs)).vars = [])
    (hW : DataW.Whole enc Tryz.prog fn.params.toList s.vars false W args.toList ds gs before) (hb : Below W.heap.size W W') :
    s.post enc Tryz.prog fn false true false false W args (.bool true) W' := by
  have hW' := hW
  obtain ⟨p, q, hA, hV, rfl, hfz, hnd⟩ := hW
  have hlt : ∀ x ∈ p, x.block < W.heap.size := fun x hx => hW'.lt x (by simp [hx])
  refine ⟨ds, gs, _, [], p, [], hW', ?_, ?_, ?_, hb.frame _, fun h => by cases h⟩
  · rw [hres, e1]
    exact trodAll_cons_mk (shut_bool Tryz.underlying4 true) trodAll_mk0
  · rw [e2]
    exact trodAll_below hb _ _ _ _ hread hlt hA
  · rw [hvars, e3]; rfl

set_option maxRecDepth 100000 in
/-- A text among the arguments, with its bulk. -/
theorem text_open {H : Type} {enc : TypeId × Value → H} {W : World} {base : Nat} {v : Value} {d : DataW H} {p : List MemPlace}
    (hok : Value.okWide Tryz.prog W .any base 9 v) (h : DataW.Trod enc Tryz.prog W 0 (fun _ => true) true 9 v d p) : ∃ s : ByteArray, v = .string s ∧ s.size + 1 ≤ Rows.uptoBulk d := by
  obtain ⟨s, rfl, rfl, rfl, hs⟩ := Go.ChangeMaps.open_string Tryz.underlying9 hok h
  exact ⟨s, rfl, by simp [Rows.uptoBulk]⟩

set_option maxRecDepth 100000 in
theorem bulk_strs {H : Type} (Sx : Nat → ByteArray) (n : List Nat) :
    n.length ≤ Rows.uptoBulkAll (H := H) (n.map fun i => .lit (.string (Sx i).data.toList)) ∧ ∀ i ∈ n, (Sx i).size ≤ Rows.uptoBulkAll (H := H) (n.map fun i => .lit (.string (Sx i).data.toList)) := by
  induction n with
  | nil => exact ⟨by simp [Rows.uptoBulkAll], fun i hi => by cases hi⟩
  | cons j r ih =>
    simp only [List.map_cons, Rows.uptoBulkAll, Rows.uptoBulk, Array.length_toList, List.length_cons]
    have e : (Sx j).data.size = (Sx j).size := rfl
    rw [e]
    refine ⟨by omega, fun i hi => ?_⟩
    rcases List.mem_cons.1 hi with rfl | h
    · omega
    · have := ih.2 i h; omega

set_option maxRecDepth 100000 in
/-- A path among the arguments. -/
theorem path_open {H : Type} {enc : TypeId × Value → H} {W : World} {base : Nat} {v : Value} {d : DataW H} {p : List MemPlace}
    (hok : Value.okWide Tryz.prog W .any base 26 v) (h : DataW.Trod enc Tryz.prog W 0 (fun _ => true) true 26 v d p) (hlt : ∀ x ∈ p, x.block < W.heap.size)
    (hsz : Rows.uptoBulk d ≤ 1048576) : ∃ a cap l, v = .slice a l.length cap ∧ Strs W a cap l := by
  obtain ⟨a0, len, cap, rfl⟩ := okWide_slice Tryz.underlying26 hok
  obtain ⟨fuel, hf⟩ := h
  rcases Deep.open_strs Tryz.underlying26 Tryz.underlying9 Tryz.cellsS hf with ⟨hcs, hx⟩ | ⟨a, len', cap', m, Sx, hcs, _, hl, hm, hmm, hx, hcell⟩
  · simp [Value.cells] at hcs
    obtain ⟨rfl, rfl, rfl⟩ := hcs
    exact ⟨none, 0, [], rfl, Strs.empty W⟩
  · simp [Value.cells] at hcs
    obtain ⟨rfl, rfl, rfl⟩ := hcs
    simp only [if_true] at hmm
    subst hmm
    simp only [Prod.mk.injEq] at hx
    obtain ⟨rfl, rfl⟩ := hx
    simp only [Rows.uptoBulk] at hsz
    obtain ⟨k1, k2⟩ := bulk_strs (H := H) Sx (List.range len)
    rw [List.length_range] at k1
    refine ⟨some a, m, (List.range len).map Sx, by simp, by simp; omega, fun h => (by cases h), by simpa using hl, hm, fun i hi => ?_, fun i hi => ?_⟩
    · have hi' : i < len := by simpa using hi
      have := k2 i (List.mem_range.2 hi')
      simp only [List.getElem_map, List.getElem_range]
      omega
    · have hi' : i < len := by simpa using hi
      obtain ⟨b, off, spot⟩ := a
      have hspot : spot = none := by simpa [Addr.add] using World.cell?_spot (hcell 0 (by omega)).1
      subst hspot
      refine ⟨b, off, rfl, hlt (.cell b off) (MemPlace.mem_row.2 ⟨0, by omega, by simp⟩), ?_⟩
      rw [← add_plain]
      simpa using (hcell i (by omega)).1

theorem bulk_one {H : Type} (d : DataW H) : 1 ≤ Rows.uptoBulk d := by
  cases d with
  | lit l => cases l <;> simp [Rows.uptoBulk]
  | _ => simp [Rows.uptoBulk]
theorem bulk_mem {H : Type} {d : DataW H} : ∀ {l : List (DataW H)}, d ∈ l → Rows.uptoBulk d ≤ Rows.uptoBulkAll l
  | [], h => by cases h
  | x :: r, h => by
    simp only [Rows.uptoBulkAll]
    rcases List.mem_cons.1 h with rfl | h
    · omega
    · have := bulk_mem h
      omega
theorem bulk_len {H : Type} : ∀ l : List (DataW H), l.length ≤ Rows.uptoBulkAll l
  | [] => by simp
  | x :: r => by
    simp only [Rows.uptoBulkAll, List.length_cons]
    have := bulk_len r
    have := bulk_one x
    omega
set_option maxRecDepth 100000 in
/-- A path in a cell. -/
theorem path_cell {H : Type} {enc : TypeId × Value → H} {W : World} {fuel : Nat} {v : Value} {d : DataW H} {p : List MemPlace}
    (hf : DataW.trod enc Tryz.prog W 0 (fun _ => true) true fuel 26 [v] = some (d, p)) (hlt : ∀ x ∈ p, x.block < W.heap.size)
    (hsz : Rows.uptoBulk d ≤ 1048576) : ∃ a cap l, v = .slice a l.length cap ∧ Strs W a cap l := by
  rcases Deep.open_strs Tryz.underlying26 Tryz.underlying9 Tryz.cellsS hf with ⟨hcs, hx⟩ | ⟨a, len, cap, m, Sx, hcs, _, hl, hm, hmm, hx, hcell⟩
  · simp only [List.cons.injEq, and_true] at hcs
    subst hcs
    exact ⟨none, 0, [], rfl, Strs.empty W⟩
  · simp only [List.cons.injEq, and_true] at hcs
    subst hcs
    simp only [if_true] at hmm
    subst hmm
    simp only [Prod.mk.injEq] at hx
    obtain ⟨rfl, rfl⟩ := hx
    simp only [Rows.uptoBulk] at hsz
    obtain ⟨k1, k2⟩ := bulk_strs (H := H) Sx (List.range len)
    rw [List.length_range] at k1
    refine ⟨some a, m, (List.range len).map Sx, by simp, by simp; omega, fun h => (by cases h), by simpa using hl, hm, fun i hi => ?_, fun i hi => ?_⟩
    · have hi' : i < len := by simpa using hi
      have := k2 i (List.mem_range.2 hi')
      simp only [List.getElem_map, List.getElem_range]
      omega
    · have hi' : i < len := by simpa using hi
      obtain ⟨b, off, spot⟩ := a
      have hspot : spot = none := by simpa [Addr.add] using World.cell?_spot (hcell 0 (by omega)).1
      subst hspot
      refine ⟨b, off, rfl, hlt (.cell b off) (MemPlace.mem_row.2 ⟨0, by omega, by simp⟩), ?_⟩
      rw [← add_plain]
      simpa using (hcell i (by omega)).1
set_option maxRecDepth 100000 in
/-- A list of paths in a cell. -/
theorem paths_cell {H : Type} {enc : TypeId × Value → H} {W : World} {fuel : Nat} {v : Value} {d : DataW H} {p : List MemPlace}
    (hf : DataW.trod enc Tryz.prog W 0 (fun _ => true) true fuel 22 [v] = some (d, p)) (hlt : ∀ x ∈ p, x.block < W.heap.size)
    (hsz : Rows.uptoBulk d ≤ 1048576) : ∃ a cap l, v = .slice a l.length cap ∧ Pts W a cap l := by
  rcases Deep.open_slice1 Tryz.underlying22 Tryz.cellsPath hf with ⟨hcs, hx⟩ | ⟨a, len, cap, m, n, V, D, Pp, hcs, _, hl, hm, hmm, hx, hcell⟩
  · simp only [List.cons.injEq, and_true] at hcs
    subst hcs
    exact ⟨none, 0, [], rfl, Pts.empty W⟩
  · simp only [List.cons.injEq, and_true] at hcs
    subst hcs
    simp only [if_true] at hmm
    subst hmm
    simp only [Prod.mk.injEq] at hx
    obtain ⟨rfl, rfl⟩ := hx
    simp only [Rows.uptoBulk] at hsz
    have k1 := bulk_len ((List.range len).map D)
    simp only [List.length_map, List.length_range] at k1
    have each : ∀ i, i < len → ∃ y : Option Addr × Nat × List ByteArray, V i = .slice y.1 y.2.2.length y.2.1 ∧ Strs W y.1 y.2.1 y.2.2 := fun i hi => by
      obtain ⟨_, ht⟩ := hcell i (by omega)
      have k2 : Rows.uptoBulk (D i) ≤ Rows.uptoBulkAll ((List.range len).map D) := bulk_mem (List.mem_map.2 ⟨i, List.mem_range.2 hi, rfl⟩)
      obtain ⟨x, c, l, e1, e2⟩ := path_cell ht (fun y hy => hlt y (List.mem_append_right _ (List.mem_flatMap.2 ⟨i, List.mem_range.2 (by omega), hy⟩))) (by omega)
      exact ⟨(x, c, l), e1, e2⟩
    obtain ⟨Y, hY⟩ := Deep.choose_lt each
    refine ⟨some a, m, (List.range len).map fun i => (Y i).2.2, by simp, ⟨by simp; omega, fun h => (by cases h), by simpa using hl, hm, fun i hi => ?_⟩⟩
    have hi' : i < len := by simpa using hi
    obtain ⟨b, off, spot⟩ := a
    have hspot : spot = none := by simpa [Addr.add] using World.cell?_spot (hcell 0 (by omega)).1
    subst hspot
    refine ⟨b, off, (Y i).1, (Y i).2.1, rfl, hlt (.cell b off) (List.mem_append_left _ (MemPlace.mem_row.2 ⟨0, by omega, by simp⟩)), ?_, ?_⟩
    · rw [← add_plain, (hcell i (by omega)).1, (hY i hi').1]; simp
    · simpa using (hY i hi').2
set_option maxRecDepth 100000 in
/-- A policy among the arguments. -/
theorem pol_open {H : Type} {enc : TypeId × Value → H} {w : World} {base : Nat} {v : Value} {d : DataW H} {p : List MemPlace}
    (hok : Value.okWide Tryz.prog w .any base 24 v) (h : DataW.Trod enc Tryz.prog w 0 (fun _ => true) true 24 v d p) (hlt : ∀ x ∈ p, x.block < w.heap.size)
    (hsz : Rows.uptoBulk d ≤ 1048576) : ∃ (ar aw : Option Addr) (cr cw : Nat) (R W : List (List ByteArray)) (f m o e : Int), v = .agg #[.slice ar R.length cr, .slice aw W.length cw, .int .i64 f, .int .i64 m, .int .i64 o, .int .i64 e] ∧ Pts w ar cr R ∧ Pts w aw cw W := by
  obtain ⟨cs, rfl, hcs⟩ := okWide_struct Tryz.underlying24 hok
  rw [Tryz.cellsPol] at hcs
  obtain ⟨fuel, hf⟩ := h
  have hf' : DataW.trod enc Tryz.prog w 0 (fun _ => true) true fuel 24 cs.toList = some (d, p) := hf
  obtain ⟨xs, k, _, hxy, _, hxl, hff⟩ := DataW.trod_struct Tryz.underlying24 hf'
  obtain ⟨l⟩ := cs
  match xs, hxl, l, hcs with
  | [y0, y1, y2, y3, y4, y5], _, [v0, v1, v2, v3, v4, v5], _ =>
    have g0 := hff 0 _ rfl
    have g1 := hff 1 _ rfl
    have g2 := hff 2 _ rfl
    have g3 := hff 3 _ rfl
    have g4 := hff 4 _ rfl
    have g5 := hff 5 _ rfl
    simp [Tryz.cellsInt, Tryz.cellsPaths] at g0 g1 g2 g3 g4 g5
    simp only [Prod.mk.injEq] at hxy
    obtain ⟨rfl, rfl⟩ := hxy
    simp only [List.map_cons, List.map_nil, Rows.uptoBulk, Rows.uptoBulkAll] at hsz
    obtain ⟨ar, cr, R, rfl, hr⟩ := paths_cell (d := y0.1) (p := y0.2) g0 (fun x hx => hlt x (by simp [hx])) (by omega)
    obtain ⟨aw, cw, W, rfl, hw⟩ := paths_cell (d := y1.1) (p := y1.2) g1 (fun x hx => hlt x (by simp [hx])) (by omega)
    obtain ⟨f, e1, _, _⟩ := DataW.trod_int Tryz.underlying3 g2
    obtain ⟨m, e2, _, _⟩ := DataW.trod_int Tryz.underlying3 g3
    obtain ⟨o, e3, _, _⟩ := DataW.trod_int Tryz.underlying3 g4
    obtain ⟨e, e4, _, _⟩ := DataW.trod_int Tryz.underlying3 g5
    simp at e1 e2 e3 e4
    subst e1; subst e2; subst e3; subst e4
    exact ⟨ar, aw, cr, cw, R, W, f, m, o, e, rfl, hr, hw⟩
theorem bound_all {H : Type} {l : List (DataW H)} (hk : Rows.uptoSmall H l = true) : Rows.uptoBulkAll l ≤ 1048576 := of_decide_eq_true hk
/-- A world for the witness: the settled one, the tables holding what their initialisers lay. -/
noncomputable def laidLets : Obj → Obj
  | .cells _ t frozen => .cells #[.int .u8 0, .int .u8 0, .int .u8 0, .int .u8 0, .int .u8 0, .int .u8 0, .int .u8 0, .int .u8 97, .int .u8 98, .int .u8 116, .int .u8 110, .int .u8 118, .int .u8 102, .int .u8 114] t frozen
  | o => o
noncomputable def laidOcts : Obj → Obj
  | .cells _ t frozen => .cells #[.int .i64 0, .int .i64 6, .int .i64 14, .int .i64 31, .int .i64 127, .int .i64 255] t frozen
  | o => o
noncomputable def laidPow : Obj → Obj
  | .cells _ t frozen => .cells #[.int .u64 1, .int .u64 10, .int .u64 100, .int .u64 1000, .int .u64 10000, .int .u64 100000, .int .u64 1000000, .int .u64 10000000, .int .u64 100000000, .int .u64 1000000000, .int .u64 10000000000, .int .u64 100000000000, .int .u64 1000000000000, .int .u64 10000000000000, .int .u64 100000000000000, .int .u64 1000000000000000, .int .u64 10000000000000000, .int .u64 100000000000000000, .int .u64 1000000000000000000, .int .u64 10000000000000000000] t frozen
  | o => o
noncomputable def laidB32 : Obj → Obj
  | .cells _ t frozen => .cells #[.int .u8 0, .int .u8 1, .int .u8 28, .int .u8 2, .int .u8 29, .int .u8 14, .int .u8 24, .int .u8 3, .int .u8 30, .int .u8 22, .int .u8 20, .int .u8 15, .int .u8 25, .int .u8 17, .int .u8 4, .int .u8 8, .int .u8 31, .int .u8 27, .int .u8 13, .int .u8 23, .int .u8 21, .int .u8 19, .int .u8 16, .int .u8 7, .int .u8 26, .int .u8 12, .int .u8 18, .int .u8 6, .int .u8 11, .int .u8 5, .int .u8 10, .int .u8 9] t frozen
  | o => o
noncomputable def laidB64 : Obj → Obj
  | .cells _ t frozen => .cells #[.int .u8 0, .int .u8 1, .int .u8 56, .int .u8 2, .int .u8 57, .int .u8 49, .int .u8 28, .int .u8 3, .int .u8 61, .int .u8 58, .int .u8 42, .int .u8 50, .int .u8 38, .int .u8 29, .int .u8 17, .int .u8 4, .int .u8 62, .int .u8 47, .int .u8 59, .int .u8 36, .int .u8 45, .int .u8 43, .int .u8 51, .int .u8 22, .int .u8 53, .int .u8 39, .int .u8 33, .int .u8 30, .int .u8 24, .int .u8 18, .int .u8 12, .int .u8 5, .int .u8 63, .int .u8 55, .int .u8 48, .int .u8 27, .int .u8 60, .int .u8 41, .int .u8 37, .int .u8 16, .int .u8 46, .int .u8 35, .int .u8 44, .int .u8 21, .int .u8 52, .int .u8 32, .int .u8 23, .int .u8 11, .int .u8 54, .int .u8 26, .int .u8 40, .int .u8 15, .int .u8 34, .int .u8 20, .int .u8 31, .int .u8 10, .int .u8 25, .int .u8 14, .int .u8 19, .int .u8 9, .int .u8 13, .int .u8 8, .int .u8 7, .int .u8 6] t frozen
  | o => o
/-- A sentinel's variable, pointing to block n. -/
noncomputable def laidErr (n : Nat) : Obj → Obj
  | .cells _ t frozen => .cells #[.iface 174 (.pointer (some ⟨n, 0, none⟩))] t frozen
  | o => o
noncomputable def laidWorld (os : Os) : World :=
  { World.holding Tryz.prog os ⟨#[], #[], []⟩ with heap := (((((((((World.holding Tryz.prog os ⟨#[], #[], []⟩).heap.modify 1 laidLets).modify 3 laidOcts).modify 4 laidPow).modify 7 laidB32).modify 8 laidB64).modify 6 (laidErr (World.holding Tryz.prog os ⟨#[], #[], []⟩).heap.size)).modify 5 (laidErr ((World.holding Tryz.prog os ⟨#[], #[], []⟩).heap.size + 1))).push (.cells #[.string ⟨#[118, 97, 108, 117, 101, 32, 111, 117, 116, 32, 111, 102, 32, 114, 97, 110, 103, 101]⟩] 176)).push (.cells #[.string ⟨#[105, 110, 118, 97, 108, 105, 100, 32, 115, 121, 110, 116, 97, 120]⟩] 176) }
end Go.Proofs.YtcloljkaojnipaaGreatDoor
