/- The frame of the trees' rows: the tables and the kinds' words out of what a row lists; a tree and a text among the arguments, with their bulk; and what is asked behind a walk that answers true and turns nothing old. The frame of the trees' rows, further: a path among the arguments; how many files a tree has. -/
import Derived.Test.YtfbhofomcenabaaGreatDoorRows
import Derived.Test.YtfbhofomcenabaaGreatDoorTV
import Derived.Test.YtfbhofomcenabaaGreatDoorTL
import Derived.ProofKit
import Derived.OpenShut
import Derived.Deep.DeepHandedRow
import Derived.Deep.SlicePairs
import Derived.Lib.LaidTab
import Derived.JoinedCond
import Derived.Shelf.Vars
import Derived.Lay
import Derived.Test.YtfbhofomcenabaaGreatDoorTX
namespace Go.Proofs.YtfbhofomcenabaaGreatDoor
open Go Go.ChangeShapes Go.WideShapes Go.ChangeAt Go.RowKit

theorem Tryz.own : ownKnob Tryz.prog.godebug = none := by kernel_rfl
theorem Tryz.laidOut : laidOutB Tryz.prog = true := by kernel_rfl
theorem Tryz.gLets : Tryz.prog.globalNamed "paddock/lines.letters" = some 1 := by kernel_rfl
theorem Tryz.gOcts : Tryz.prog.globalNamed "paddock/lines.octals" = some 2 := by kernel_rfl
theorem Tryz.gWds : Tryz.prog.globalNamed "paddock/trees.words" = some 0 := by kernel_rfl
theorem Tryz.gAcc : Tryz.prog.globalNamed "unicode/utf8.acceptRanges" = some 5 := by kernel_rfl
theorem Tryz.gLetsType : (Tryz.prog.globals[1]?).map (·.type) = some 165 := by kernel_rfl
theorem Tryz.gOctsType : (Tryz.prog.globals[2]?).map (·.type) = some 201 := by kernel_rfl
theorem Tryz.gWdsType : (Tryz.prog.globals[0]?).map (·.type) = some 74 := by kernel_rfl
theorem Tryz.cellsU8 : Tryz.prog.cellsOf 5 = 1 := by kernel_rfl
theorem Tryz.cellsInt : Tryz.prog.cellsOf 3 = 1 := by kernel_rfl
theorem Tryz.cellsLets : Tryz.prog.cellsOf 165 = 14 := by kernel_rfl
theorem Tryz.cellsPair : Tryz.prog.cellsOf 200 = 2 := by kernel_rfl
theorem Tryz.cellsS : Tryz.prog.cellsOf 9 = 1 := by kernel_rfl
theorem Tryz.cellsFile : Tryz.prog.cellsOf 25 = 4 := by kernel_rfl
theorem Tryz.cellsKind : Tryz.prog.cellsOf 22 = 1 := by kernel_rfl
theorem Tryz.cellsFiles : Tryz.prog.cellsOf 23 = 1 := by kernel_rfl

/-- The tables, out of what the row lists. -/
theorem tabs_of_laid {W : World} {r : List (String × DataW Unit)} (hsz : 6 ≤ W.heap.size) (h : laidMet Tryz.prog (("paddock/lines.letters", Rows.laid_paddock_lines_letters) :: ("paddock/lines.octals", Rows.laid_paddock_lines_octals) :: r) W) : Tabs W := by
  have h0 : laidMet Tryz.prog (("paddock/lines.letters", Lib.tabData .u8 [0, 0, 0, 0, 0, 0, 0, 97, 98, 116, 110, 118, 102, 114]) :: ("paddock/lines.octals", Rows.laid_paddock_lines_octals) :: r) W := h
  have t0 := Lib.tabIs_of_head Tryz.gLets Tryz.gLetsType Tryz.underlying165 Tryz.underlying5 Tryz.cellsU8 Tryz.cellsLets h0
  obtain ⟨ps, ⟨_, _, _, _, _, q, _, _, _, _, ⟨g, t, cs, fuel, p, _, hg, ht, hvar, hd, _, _⟩, _⟩, _⟩ := h0
  obtain rfl := Option.some.inj (Tryz.gOcts.symm.trans hg)
  obtain rfl := Option.some.inj (Tryz.gOctsType.symm.trans ht)
  obtain ⟨xs, m, _, hx, hlen, hxl, hel⟩ := DataW.trod_array Tryz.underlying201 hd
  have hcs : cs.toList.length = 6 := by rw [hlen]; kernel_rfl
  rw [Tryz.cellsPair] at hel
  have hx1 := congrArg Prod.fst hx
  simp only [Rows.laid_paddock_lines_octals, DataW.agg.injEq] at hx1
  have hmap : ∀ i, i < 3 → ∃ pl, xs[i]? = some ((Lib.tabData .i64 [Ln.octs.getD (i * 2) 0, Ln.octs.getD (i * 2 + 1) 0], pl) : DataW Unit × List MemPlace) := by
    match xs, hxl with
    | [y0, y1, y2], _ =>
      simp only [List.map_cons, List.map_nil, List.cons.injEq, and_true] at hx1
      obtain ⟨e0, e1, e2⟩ := hx1
      intro i hi
      match i, hi with
      | 0, _ => exact ⟨y0.2, by simp only [List.getElem?_cons_zero]; exact congrArg some (Prod.ext e0.symm rfl)⟩
      | 1, _ => exact ⟨y1.2, by simp only [List.getElem?_cons_succ, List.getElem?_cons_zero]; exact congrArg some (Prod.ext e1.symm rfl)⟩
      | 2, _ => exact ⟨y2.2, by simp only [List.getElem?_cons_succ, List.getElem?_cons_zero]; exact congrArg some (Prod.ext e2.symm rfl)⟩
  have hrow : ∀ i, i < 3 → (cs.toList.drop (i * 2)).take 2 = [Value.int .i64 (Ln.octs.getD (i * 2) 0 : Nat), Value.int .i64 (Ln.octs.getD (i * 2 + 1) 0 : Nat)] := fun i hi => by
    obtain ⟨pl, hpl⟩ := hmap i hi
    exact Lib.cells_of_tab Tryz.underlying200 Tryz.underlying3 Tryz.cellsInt Tryz.cellsPair ((hel i hi).trans hpl)
  have hcell : ∀ i, i < 6 → cs[i]? = some (Value.int .i64 (Ln.octs.getD i 0 : Nat)) := fun i hi => by
    have r := hrow (i / 2) (by omega)
    rcases Nat.mod_two_eq_zero_or_one i with h | h
    · have := congrArg (·[0]?) r
      simp only [List.getElem?_take, List.getElem?_drop, List.getElem?_cons_zero] at this
      rw [if_pos (by omega)] at this
      have e : i / 2 * 2 = i := by omega
      simp only [e, Nat.add_zero] at this
      simpa using this
    · have := congrArg (·[1]?) r
      simp only [List.getElem?_take, List.getElem?_drop, List.getElem?_cons_succ, List.getElem?_cons_zero] at this
      rw [if_pos (by omega)] at this
      have e : i / 2 * 2 + 1 = i := by omega
      simp only [e] at this
      simpa using this
  have ho : ∀ i, i < 6 → W.cell? ⟨2, i, none⟩ = some (.int .i64 (Ln.octs.getD i 0 : Nat)) := fun i hi => by
    rw [World.var?_cell Tryz.gOcts hvar i, hcell i hi]
  refine ⟨hsz, fun i hi => ?_, ho⟩
  · have := t0.cell Tryz.gLets i (by simpa using hi)
    rw [this]
    match i, hi with
    | 0, _ | 1, _ | 2, _ | 3, _ | 4, _ | 5, _ | 6, _ | 7, _ | 8, _ | 9, _ | 10, _ | 11, _ | 12, _ | 13, _ => rfl

theorem laid_tail {P : Program} {x : String × DataW Unit} {r : List (String × DataW Unit)} {w : World} (h : laidMet P (x :: r) w) : laidMet P r w := by
  obtain ⟨n, d⟩ := x
  obtain ⟨ps, ⟨g, t, cs, fuel, p, q, _, _, _, _, hq, rfl⟩, hnd, hc⟩ := h
  exact ⟨q, hq, (List.nodup_append.1 hnd).2.1, fun b off hm => hc b off (List.mem_append_right _ hm)⟩
theorem size_of_laid {W : World} {x : DataW Unit} {r : List (String × DataW Unit)} (h : laidMet Tryz.prog (("unicode/utf8.acceptRanges", x) :: r) W) : 6 ≤ W.heap.size := by
  obtain ⟨ps, ⟨g, t, cs, fuel, p, q, hg, ht, hvar, hd, _, _⟩, _, _⟩ := h
  obtain rfl := Option.some.inj (Tryz.gAcc.symm.trans hg)
  unfold World.var? at hvar
  rw [Tryz.gAcc] at hvar
  simp only [Option.bind_some] at hvar
  refine Nat.lt_of_not_le fun hn => ?_
  have : W.heap[5]? = none := Array.getElem?_eq_none hn
  rw [this] at hvar
  cases hvar
set_option maxRecDepth 100000 in
/-- The kinds' words, out of what the row lists. -/
theorem words_of_laid {W : World} {r : List (String × DataW Unit)} (hsz : 6 ≤ W.heap.size) (h : laidMet Tryz.prog (("paddock/trees.words", Rows.laid_paddock_trees_words) :: r) W) : Wds W := by
  obtain ⟨ps, ⟨g, t, cs, fuel, p, q, hg, ht, hvar, hd, _, _⟩, _, _⟩ := h
  obtain rfl := Option.some.inj (Tryz.gWds.symm.trans hg)
  obtain rfl := Option.some.inj (Tryz.gWdsType.symm.trans ht)
  obtain ⟨xs, m, _, hx, hlen, hxl, hel⟩ := DataW.trod_array Tryz.underlying74 hd
  rw [Tryz.cellsS] at hel
  have hx1 := congrArg Prod.fst hx
  simp only [Rows.laid_paddock_trees_words, DataW.agg.injEq] at hx1
  have each : ∀ (i : Nat) (s : List UInt8), i < 4 → (xs[i]?).map (·.1) = some (DataW.lit (.string s)) → W.cell? ⟨0, i, none⟩ = some (.string (Ln.bs s)) := fun i s hi hq => by
    obtain ⟨y, hy, he⟩ := Option.map_eq_some_iff.1 hq
    have g := (hel i hi).trans hy
    obtain ⟨y1, y2⟩ := y
    obtain ⟨z, e1, e2, _⟩ := DataW.trod_string Tryz.underlying9 g
    have he : y1 = DataW.lit (.string s) := he
    rw [World.var?_cell Tryz.gWds hvar i]
    have h0 := congrArg (·[0]?) e1
    simp only [Nat.mul_one, List.getElem?_take, List.getElem?_drop, Nat.add_zero] at h0
    rw [if_pos (by omega)] at h0
    rw [← Array.getElem?_toList, h0]
    have e3 : z.data.toList = s := by
      have := e2
      simp only [Prod.mk.injEq] at this
      rw [he] at this
      simpa using this.1.symm
    show some (Value.string z) = _
    rw [← e3, Ln.bs_data]
  obtain ⟨y0, y1, y2, y3, rfl⟩ : ∃ y0 y1 y2 y3, xs = [y0, y1, y2, y3] := by
    match xs, hxl with
    | [y0, y1, y2, y3], _ => exact ⟨y0, y1, y2, y3, rfl⟩
  simp only [List.map_cons, List.map_nil, List.cons.injEq, and_true] at hx1
  obtain ⟨e0, e1, e2, e3⟩ := hx1
  exact ⟨hsz, each 0 [] (by omega) (by simp [← e0]), each 1 [100, 105, 114] (by omega) (by simp [← e1]), each 2 [116, 101, 120, 116] (by omega) (by simp [← e2]), each 3 [108, 105, 110, 107] (by omega) (by simp [← e3])⟩
/-- All that texts want of the world. -/
theorem tx_of_laid {W : World} {r : List (String × DataW Unit)} (hs : W.ShapedOpen Tryz.prog) (h : laidMetH Tryz.prog (("unicode/utf8.acceptRanges", Rows.laid_unicode_utf8_acceptRanges) :: ("paddock/lines.letters", Rows.laid_paddock_lines_letters) :: ("paddock/lines.octals", Rows.laid_paddock_lines_octals) :: ("paddock/trees.words", Rows.laid_paddock_trees_words) :: r) W) (hq : laidMetH Tryz.prog (("unicode/utf8.acceptRanges", Rows.laid_unicode_utf8_acceptRanges) :: ("paddock/lines.letters", Rows.laid_paddock_lines_letters) :: ("paddock/lines.octals", Rows.laid_paddock_lines_octals) :: ("paddock/trees.words", Rows.laid_paddock_trees_words) :: r) W = laidMet Tryz.prog (("unicode/utf8.acceptRanges", Rows.laid_unicode_utf8_acceptRanges) :: ("paddock/lines.letters", Rows.laid_paddock_lines_letters) :: ("paddock/lines.octals", Rows.laid_paddock_lines_octals) :: ("paddock/trees.words", Rows.laid_paddock_trees_words) :: r) W) : TxT W := by
  rw [hq] at h
  have hsz := size_of_laid h
  have h1 := laid_tail h
  exact ⟨tabs_of_laid hsz h1, words_of_laid hsz (laid_tail (laid_tail h1)),
    cell_of_shapedOpen_int (t := 3) (zero := #[.int .i64 0]) hs (of_decide_eq_true (by kernel_rfl)) (by kernel_rfl) rfl (by kernel_rfl) (by kernel_rfl) Tryz.underlying3⟩

theorem trodAll_below {H : Type} {enc : TypeId × Value → H} {W W' : World} (hb : Below W.heap.size W W') :
    ∀ (ts : List TypeId) (vs : List Value) (ds : List (DataW H)) (ps : List MemPlace), (∀ t ∈ ts, Tryz.prog.readableRec t = true ∧ t < Tryz.prog.types.size) → (∀ x ∈ ps, x.block < W.heap.size) →
      DataW.TrodAll enc Tryz.prog W 0 (fun _ => true) true ts vs ds ps → DataW.TrodAll enc Tryz.prog W' 0 (fun b => decide (b < W.heap.size)) true ts vs ds ps := by
  intro ts
  induction ts with
  | nil =>
    intro vs ds ps _ _ h
    obtain ⟨rfl, rfl, rfl⟩ := trodAll_nil h
    exact trodAll_mk0
  | cons t ts ih =>
    intro vs ds ps hr hlt h
    obtain ⟨v, vs', d, ds', p, q, rfl, rfl, rfl, h0, r0⟩ := trodAll_cons h
    exact trodAll_cons_mk (Below.trod Tryz.laidOut (hr t (by simp)).1 (hr t (by simp)).2 h0 hb (fun x hx => hlt x (by simp [hx]))) (ih vs' ds' q (fun u hu => hr u (by simp [hu])) (fun x hx => hlt x (by simp [hx])) r0)

/-- What a law's row asks behind the call, out of a walk that answered true and turned nothing that was there. -/
theorem law_post {H : Type} {enc : TypeId × Value → H} {s : ChangeSpec} {fn : Func} {W W' : World} {args : Array Value} {ds gs : List (DataW H)} {before : List MemPlace}
    (hres : fn.resultTypes = #[4]) (hvars : s.vars = []) (hread : ∀ t ∈ fn.params.toList, Tryz.prog.readableRec t = true ∧ t < Tryz.prog.types.size)
    (e1 : (s.fn H (ds ++ gs)).results = [.lit (.bool true)]) (e2 : (s.fn H (ds ++ gs)).args = ds) (e3 : (s.fn H (ds ++ gs)).vars = [])
    (hW : DataW.Whole enc Tryz.prog fn.params.toList s.vars false W args.toList ds gs before) (hb : Below W.heap.size W W') :
    s.post enc Tryz.prog fn false true false false W args (.bool true) W' := by
  have hW' := hW
  obtain ⟨p, q, hA, hV, rfl, hfz, hnd⟩ := hW
  have hlt : ∀ x ∈ p, x.block < W.heap.size := fun x hx => hW'.lt x (by simp [hx])
  refine ⟨ds, gs, _, [], p, [], hW', ?_, ?_, ?_, hb.frame _, fun h => by cases h⟩
  · rw [hres, e1]
    exact trodAll_cons_mk (shut_bool Tryz.underlying4 true) trodAll_mk0
  · rw [e2]
    exact trodAll_below hb _ _ _ _ hread hlt hA
  · rw [hvars, e3]; rfl

set_option maxRecDepth 100000 in
/-- A text among the arguments, with its bulk. -/
theorem text_open {H : Type} {enc : TypeId × Value → H} {W : World} {base : Nat} {v : Value} {d : DataW H} {p : List MemPlace}
    (hok : Value.okWide Tryz.prog W .any base 9 v) (h : DataW.Trod enc Tryz.prog W 0 (fun _ => true) true 9 v d p) : ∃ s : ByteArray, v = .string s ∧ s.size + 1 ≤ Rows.uptoBulk d := by
  obtain ⟨s, rfl, rfl, rfl, hs⟩ := Go.ChangeMaps.open_string Tryz.underlying9 hok h
  exact ⟨s, rfl, by simp [Rows.uptoBulk]⟩

namespace Ft
theorem bulk_mem {H : Type} {d : DataW H} : ∀ {l : List (DataW H)}, d ∈ l → Rows.uptoBulk d ≤ Rows.uptoBulkAll l
  | x :: l, h => by
    rw [Rows.uptoBulkAll]
    rcases List.mem_cons.1 h with rfl | h
    · omega
    · have := bulk_mem h
      omega
theorem bulk_pos {H : Type} (d : DataW H) : 1 ≤ Rows.uptoBulk d := by
  cases d with
  | lit x => cases x <;> simp [Rows.uptoBulk]
  | _ => simp [Rows.uptoBulk]
theorem bulk_len {H : Type} : ∀ l : List (DataW H), l.length ≤ Rows.uptoBulkAll l
  | [] => by simp [Rows.uptoBulkAll]
  | x :: l => by
    have h1 := bulk_len l
    have h2 := bulk_pos x
    rw [Rows.uptoBulkAll, List.length_cons]; omega
/-- A tree is no greater than so. -/
def Big (T : FT) (n : Nat) : Prop := (∀ p, (tdT p T).length + datL (tdT p T) ≤ n) ∧ T.nm.size ≤ n ∧ T.d.size ≤ n ∧ szT T = true
theorem big_kids {H : Type} (D : Nat → DataW H) (Tx : Nat → FT) : ∀ n : List Nat, (∀ i ∈ n, Big (Tx i) (Rows.uptoBulk (D i)) ∧ Rows.uptoBulk (D i) ≤ 1048576) →
    (∀ p, (tdT.tdL p (n.map Tx)).length + datL (tdT.tdL p (n.map Tx)) ≤ Rows.uptoBulkAll (n.map D)) ∧ szT.szL (n.map Tx) = true
  | [], _ => ⟨fun p => by rw [List.map_nil, tdT.tdL]; simp [datL], by rw [List.map_nil, szT.szL]⟩
  | i :: n, h => by
    obtain ⟨⟨h1, h2, h3, h4⟩, h5⟩ := h i (by simp)
    obtain ⟨i1, i2⟩ := big_kids D Tx n (fun j hj => h j (by simp [hj]))
    refine ⟨fun p => ?_, ?_⟩
    · have := h1 (p ++ [(Tx i).nm])
      have := i1 p
      rw [List.map_cons, List.map_cons, tdT.tdL, Rows.uptoBulkAll, List.length_append, dat_app]
      omega
    · rw [List.map_cons, szT.szL, h4, i2, decide_eq_true (by omega : (Tx i).nm.size ≤ 1048576), decide_eq_true (by omega : (Tx i).d.size ≤ 1048576)]
      rfl
theorem big_mk {nm d : ByteArray} {k : Nat} {l : List FT} {N : Nat} (hl : (∀ p, (tdT.tdL p l).length + datL (tdT.tdL p l) ≤ N) ∧ szT.szL l = true) : Big (.mk nm k d l) (N + nm.size + d.size + 1) := by
  refine ⟨fun p => ?_, ?_, ?_, ?_⟩
  · have := hl.1 p
    rw [tdT, List.length_cons]
    show _ + (d.size + datL (tdT.tdL p l)) ≤ _
    omega
  · show nm.size ≤ _; omega
  · show d.size ≤ _; omega
  · rw [szT]; exact hl.2
theorem Big.mono {T : FT} {m n : Nat} (h : Big T m) (hm : m ≤ n) : Big T n := ⟨fun p => Nat.le_trans (h.1 p) hm, Nat.le_trans h.2.1 hm, Nat.le_trans h.2.2.1 hm, h.2.2.2⟩
set_option maxRecDepth 100000 in
set_option maxHeartbeats 1000000 in
/-- A tree, out of its reading. -/
theorem file_trod {H : Type} {enc : TypeId × Value → H} {W : World} : ∀ (B fuel : Nat) (cs : List Value) (x : DataW H × List MemPlace), Rows.uptoBulk x.1 ≤ B → B ≤ 1048576 → (∀ pl ∈ x.2, pl.block < W.heap.size) → DataW.trod enc Tryz.prog W 0 (fun _ => true) true fuel 25 cs = some x →
    ∃ T a cap, cs = (fdA T a cap).toList ∧ Fd W (· < W.heap.size) T a cap ∧ Big T (Rows.uptoBulk x.1) := by
  intro B
  induction B using Nat.strongRecOn with
  | ind B ih =>
  intro fuel cs x hB hM hlt h
  obtain ⟨xs, n, _, rfl, hl, hxl, hff⟩ := DataW.trod_struct Tryz.underlying25 h
  rw [Tryz.cellsFile] at hl
  match xs, hxl, cs, hl with
  | [y0, y1, y2, y3], _, [v0, v1, v2, v3], _ =>
    have g0 := hff 0 _ rfl
    have g1 := hff 1 _ rfl
    have g2 := hff 2 _ rfl
    have g3 := hff 3 _ rfl
    simp [Tryz.cellsKind, Tryz.cellsS, Tryz.cellsFiles] at g0 g1 g2 g3
    obtain ⟨nm, e0, f0, w0⟩ := DataW.trod_string Tryz.underlying9 g0
    obtain ⟨kn, e1, f1, w1⟩ := DataW.trod_int Tryz.underlying22 g1
    obtain ⟨dt, e2, f2, w2⟩ := DataW.trod_string Tryz.underlying9 g2
    simp at e0 e1 e2
    subst e0; subst e1; subst e2
    have hb := bounds_u8 w1
    obtain ⟨k, rfl⟩ : ∃ k : Nat, kn = (k : Int) := ⟨kn.toNat, by omega⟩
    have b0 : Rows.uptoBulk y0.1 = nm.size + 1 := by rw [f0]; simp [Rows.uptoBulk]
    have b2 : Rows.uptoBulk y2.1 = dt.size + 1 := by rw [f2]; simp [Rows.uptoBulk]
    have hbulk : Rows.uptoBulk (DataW.agg ([y0, y1, y2, y3].map (·.1)) : DataW H) = (nm.size + 1) + (Rows.uptoBulk y1.1 + ((dt.size + 1) + Rows.uptoBulk y3.1)) + 1 := by
      simp only [List.map_cons, List.map_nil, Rows.uptoBulk, Rows.uptoBulkAll]
      rw [b0, b2]
      omega
    have hp1 := bulk_pos y1.1
    have hp3 := bulk_pos y3.1
    simp only at hB hlt
    rcases Deep.open_slice Tryz.underlying23 g3 with ⟨hcs, hx⟩ | ⟨a, len, cap, m, n', D, Pl, hcs, _, hl', hm, hmm, hx, hcell⟩
    · simp at hcs
      subst hcs
      refine ⟨.mk nm k dt [], none, 0, rfl, .mk (fun _ => (none, 0)) (by simp [FT.kids]) (fun _ => rfl) (by simp [FT.kids]) (by unfold maxLen; omega) (fun i hi => absurd hi (by simp [FT.kids])) (fun i hi => absurd hi (by simp [FT.kids])), ?_⟩
      refine (big_mk (N := 0) ⟨fun p => by rw [tdT.tdL]; simp [datL], by rw [szT.szL]⟩).mono ?_
      rw [hbulk]; omega
    · simp at hcs
      subst hcs
      simp only [if_true] at hmm
      subst hmm
      have hy3 : y3.1 = .slice ((List.range len).map D) ((List.range (m - len)).map fun j => D (len + j)) := by rw [hx]
      have hpl : y3.2 = MemPlace.row a (m * Tryz.prog.cellsOf 25) ++ (List.range m).flatMap Pl := by rw [hx]
      have hb3 : Rows.uptoBulkAll ((List.range len).map D) + 1 ≤ Rows.uptoBulk y3.1 := by rw [hy3, Rows.uptoBulk]; omega
      have hlt3 : ∀ pl ∈ y3.2, pl.block < W.heap.size := fun pl hp => hlt pl (by simp [hp])
      haveI : Inhabited (FT × Option Addr × Nat) := ⟨(.mk ⟨#[]⟩ 0 ⟨#[]⟩ [], none, 0)⟩
      have each : ∀ i, i < len → ∃ x : FT × Option Addr × Nat, (∀ j, j < 4 → W.cell? (a.add (i * 4 + j)) = (fdA x.1 x.2.1 x.2.2).toList[j]?) ∧ Fd W (· < W.heap.size) x.1 x.2.1 x.2.2 ∧ Big x.1 (Rows.uptoBulk (D i)) ∧ Rows.uptoBulk (D i) ≤ 1048576 := fun i hi => by
        obtain ⟨cs', c1, c2⟩ := hcell i (by omega)
        rw [Tryz.cellsFile] at c1
        obtain ⟨_, hlen', hc⟩ := World.cells?_some c1
        have hbi : Rows.uptoBulk (D i) ≤ Rows.uptoBulkAll ((List.range len).map D) := bulk_mem (List.mem_map.2 ⟨i, List.mem_range.2 hi, rfl⟩)
        obtain ⟨T, a', cap', e, hN, hcn⟩ := ih (Rows.uptoBulk (D i)) (by omega) n' cs' (D i, Pl i) (Nat.le_refl _) (by omega) (fun pl hp => hlt3 pl (by
          rw [hpl]
          exact List.mem_append_right _ (List.mem_flatMap.2 ⟨i, List.mem_range.2 (by omega), hp⟩))) c2
        refine ⟨(T, a', cap'), fun j hj => ?_, hN, hcn, by omega⟩
        rw [← Deep.add_add, hc j hj, e]
      obtain ⟨X, hX⟩ := Deep.choose_lt each
      have hlen : len ≤ 1048576 := by
        have := bulk_len ((List.range len).map D)
        simp at this
        omega
      refine ⟨.mk nm k dt ((List.range len).map fun i => (X i).1), some a, m, ?_, .mk (fun i => (X i).2) (by simp [FT.kids]; omega) (fun h => by cases h) (by simp [FT.kids]; omega) hm (fun i hi => ?_) (fun i hi => ?_), ?_⟩
      · simp [fdA, FT.nm, FT.k, FT.d, FT.kids]
      · have hi' : i < len := by simpa [FT.kids] using hi
        obtain ⟨b, off, spot⟩ := a
        obtain ⟨c, _, _⟩ := hX i hi'
        have hspot : spot = none := by
          have c0 := (hX 0 (by omega)).1 0 (by omega)
          have c1 : W.cell? ⟨b, off, spot⟩ = some (.string (X 0).1.nm) := by simpa [Addr.add, fdA] using c0
          exact World.cell?_spot c1
        subst hspot
        have hkid : (FT.mk nm k dt ((List.range len).map fun i => (X i).1)).kids[i]'hi = (X i).1 := by simp [FT.kids]
        have hblk : b < W.heap.size := hlt3 (.cell b off) (by
          rw [hpl]
          exact List.mem_append_left _ (MemPlace.mem_row.2 ⟨0, by rw [Tryz.cellsFile]; omega, by simp⟩))
        refine ⟨b, off, rfl, hblk, ?_⟩
        rw [hkid]
        have cc : ∀ j, j < 4 → W.cell? ⟨b, off + i * 4 + j, none⟩ = (fdA (X i).1 (X i).2.1 (X i).2.2).toList[j]? := fun j hj => by
          rw [← c j hj, show (⟨b, off, none⟩ : Addr).add (i * 4 + j) = ⟨b, off + (i * 4 + j), none⟩ from by unfold Addr.add; split <;> simp_all, Nat.add_assoc]
        exact ⟨cc 0 (by omega), cc 1 (by omega), cc 2 (by omega), cc 3 (by omega)⟩
      · have hi' : i < len := by simpa [FT.kids] using hi
        have hkid : (FT.mk nm k dt ((List.range len).map fun i => (X i).1)).kids[i]'hi = (X i).1 := by simp [FT.kids]
        rw [hkid]
        exact (hX i hi').2.1
      · have hk := big_kids D (fun i => (X i).1) (List.range len) (fun i hi => (hX i (List.mem_range.1 hi)).2.2)
        refine (big_mk hk).mono ?_
        rw [hbulk]; omega
end Ft
set_option maxRecDepth 100000 in
theorem file_open {H : Type} {enc : TypeId × Value → H} {W : World} {base : Nat} {v : Value} {d : DataW H} {p : List MemPlace}
    (hok : Value.okWide Tryz.prog W .any base 25 v) (h : DataW.Trod enc Tryz.prog W 0 (fun _ => true) true 25 v d p) (hlt : ∀ x ∈ p, x.block < W.heap.size) (hsz : Rows.uptoBulk d ≤ 1048576) : ∃ T a cap, v = Ft.fdV T a cap ∧ Ft.Fd W (· < W.heap.size) T a cap ∧ Ft.Big T (Rows.uptoBulk d) := by
  obtain ⟨fuel, hf⟩ := h
  simp only [Value.okWide, Tryz.underlying25] at hok
  obtain ⟨cs, rfl, _⟩ := hok
  obtain ⟨T, a, cap, e, hN, hc⟩ := Ft.file_trod (Rows.uptoBulk d) fuel _ (d, p) (Nat.le_refl _) hsz hlt hf
  refine ⟨T, a, cap, ?_, hN, hc⟩
  have e' : cs.toList = (Ft.fdA T a cap).toList := e
  rw [Ft.fdV, ← Array.toList_inj.1 e']

theorem bound_all {H : Type} {l : List (DataW H)} (hk : Rows.uptoSmall H l = true) : Rows.uptoBulkAll l ≤ 1048576 := of_decide_eq_true hk
/-- The witness, in a world whose shape is given. -/
theorem witness_given {H : Type} {enc : TypeId × Value → H} {C : Checked} {os : Os} {f : FuncId} {fn : Func} {s : OpenSpec} {conds : List PathCond} {apart : Bool} {laid : List (String × DataW Unit)} (modest : Bool) (w0 : World) (args : Array Value) (hos : w0.os = os)
    (hsh : (w0.forCall (fun _ _ => 0) ⟨#[], args, []⟩).Shaped C.prog)
    (hok : Input.okWideB C.prog (w0.forCall (fun _ _ => 0) ⟨#[], args, []⟩) f ⟨#[], args, []⟩ = true)
    (hrow : s.preRow enc C.prog fn conds apart laid (w0.forCall (fun _ _ => 0) ⟨#[], args, []⟩).memory args) :
    ∃ (w : World) (tape : Tape) (i : Input), w.os = os ∧ (w.forCall tape i).Shaped C.prog ∧ i.vars = [] ∧ Input.okWide C.prog (w.forCall tape i) .any w.heap.size f i ∧
      s.preRow enc C.prog fn conds apart laid (w.forCall tape i).memory i.args ∧ ({ modest := modest } : Assume).holds C.prog (lone (Frame.enter C.prog f i.args .normal) [] (w.forCall tape i)) :=
  ⟨w0, fun _ _ => 0, ⟨#[], args, []⟩, hos, hsh, (Input.okWide_of_okWideB (base := 0) hok).1, (Input.okWide_of_okWideB hok).2, hrow, by
    simp only [Assume.holds]
    exact ⟨by simp, by simp, fun _ => Modest.zero, by simp, by simp⟩⟩
end Go.Proofs.YtfbhofomcenabaaGreatDoor
namespace Go.Proofs.YtfbhofomcenabaaGreatDoor
open Go Go.ChangeShapes Go.WideShapes Go.ChangeAt Go.RowKit

theorem bulk_strs {H : Type} (Sx : Nat → ByteArray) (n : List Nat) :
    n.length ≤ Rows.uptoBulkAll (H := H) (n.map fun i => .lit (.string (Sx i).data.toList)) ∧ ∀ i ∈ n, (Sx i).size ≤ Rows.uptoBulkAll (H := H) (n.map fun i => .lit (.string (Sx i).data.toList)) := by
  induction n with
  | nil => exact ⟨by simp [Rows.uptoBulkAll], fun i hi => by cases hi⟩
  | cons j r ih =>
    simp only [List.map_cons, Rows.uptoBulkAll, Rows.uptoBulk, Array.length_toList, List.length_cons]
    have e : (Sx j).data.size = (Sx j).size := rfl
    rw [e]
    refine ⟨by omega, fun i hi => ?_⟩
    rcases List.mem_cons.1 hi with rfl | h
    · omega
    · have := ih.2 i h; omega
set_option maxRecDepth 100000 in
/-- A path among the arguments. -/
theorem path_open {H : Type} {enc : TypeId × Value → H} {W : World} {base : Nat} {v : Value} {d : DataW H} {p : List MemPlace}
    (hok : Value.okWide Tryz.prog W .any base 37 v) (h : DataW.Trod enc Tryz.prog W 0 (fun _ => true) true 37 v d p) (hlt : ∀ x ∈ p, x.block < W.heap.size)
    (hsz : Rows.uptoBulk d ≤ 1048576) : ∃ (a : Option Addr) (cap : Nat) (l : List ByteArray), v = Value.slice a l.length cap ∧ Strs W a cap l ∧ ∀ s ∈ l, s.size ≤ 1048576 := by
  obtain ⟨a0, len, cap, rfl⟩ := okWide_slice Tryz.underlying37 hok
  obtain ⟨fuel, hf⟩ := h
  rcases Deep.open_strs Tryz.underlying37 Tryz.underlying9 Tryz.cellsS hf with ⟨hcs, hx⟩ | ⟨a, len', cap', m, Sx, hcs, _, hl, hm, hmm, hx, hcell⟩
  · simp [Value.cells] at hcs
    obtain ⟨rfl, rfl, rfl⟩ := hcs
    exact ⟨none, 0, [], rfl, Strs.empty W, fun s h => (by cases h)⟩
  · simp [Value.cells] at hcs
    obtain ⟨rfl, rfl, rfl⟩ := hcs
    simp only [if_true] at hmm
    subst hmm
    simp only [Prod.mk.injEq] at hx
    obtain ⟨rfl, rfl⟩ := hx
    simp only [Rows.uptoBulk] at hsz
    obtain ⟨k1, k2⟩ := bulk_strs (H := H) Sx (List.range len)
    rw [List.length_range] at k1
    refine ⟨some a, m, (List.range len).map Sx, by simp, ⟨by simp; omega, fun h => (by cases h), by simpa using hl, hm, fun i hi => ?_, fun i hi => ?_⟩, fun s hs => ?_⟩
    · have hi' : i < len := by simpa using hi
      have := k2 i (List.mem_range.2 hi')
      simp only [List.getElem_map, List.getElem_range]
      omega
    · have hi' : i < len := by simpa using hi
      obtain ⟨b, off, spot⟩ := a
      have hspot : spot = none := by simpa [Addr.add] using World.cell?_spot (hcell 0 (by omega)).1
      subst hspot
      refine ⟨b, off, rfl, hlt (.cell b off) (MemPlace.mem_row.2 ⟨0, by omega, by simp⟩), ?_⟩
      rw [← add_plain]
      simpa using (hcell i (by omega)).1
    · obtain ⟨i, hi, rfl⟩ := List.mem_map.1 hs
      have := k2 i hi
      omega

namespace Ft
theorem cnt_td (T : FT) : ∀ p, (tdT.tdL p T.kids).length = cntT T := by
  induction T using FT.ind with
  | h T ih =>
  intro p
  rw [cnt_eq]
  have key : ∀ (l : List FT), (∀ i (hi : i < l.length) p, (tdT.tdL p (l[i]).kids).length = cntT (l[i])) → (tdT.tdL p l).length = cntT.cntL l := by
    intro l
    induction l with
    | nil => intro _; rw [tdT.tdL, cntT.cntL]; rfl
    | cons x r ihr =>
      intro h
      have h0 := h 0 (by simp) (p ++ [x.nm])
      simp only [List.getElem_cons_zero] at h0
      rw [tdT.tdL, cntT.cntL, td_eq, List.length_append, List.length_cons, h0, ihr (fun i hi => h (i + 1) (by simpa using hi))]
      omega
  exact key T.kids ih
theorem Big.cnt {T : FT} {n : Nat} (h : Big T n) : cntT T + 1 ≤ n := by
  have h1 := h.1 []
  rw [td_eq, List.length_cons, cnt_td] at h1
  omega
end Ft
end Go.Proofs.YtfbhofomcenabaaGreatDoor
