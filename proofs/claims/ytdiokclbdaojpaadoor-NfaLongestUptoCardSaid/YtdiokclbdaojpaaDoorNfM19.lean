/- The frame of the nfa's rows: the two tables out of what a row lists; a tree among the arguments, with its bulk; and what is asked behind a walk that answers true and turns nothing old. The frame of the nfa's rows that have a text or a number beside. -/
import Derived.Test.YtdiokclbdaojpaaDoorRows
import Derived.Test.YtdiokclbdaojpaaDoorNfM1
import Derived.Test.YtdiokclbdaojpaaDoorNfCnt
import Derived.ProofKit
import Derived.OpenShut
import Derived.Deep.DeepHandedRow
import Derived.Deep.SlicePairs
import Derived.ChangeMaps
namespace Go.Proofs.YtdiokclbdaojpaaDoor
open Go.ChangeShapes Go.WideShapes Go.ChangeAt Go.RowKit

theorem Tryd.own : ownKnob Tryd.prog.godebug = none := by kernel_rfl
theorem Tryd.laidOut : laidOutB Tryd.prog = true := by kernel_rfl
theorem Tryd.gShp : Tryd.prog.globalNamed "paddock/posix.shapes" = some 1 := by kernel_rfl
theorem Tryd.gFld : Tryd.prog.globalNamed "paddock/nfa.fields" = some 0 := by kernel_rfl
theorem Tryd.gShpType : (Tryd.prog.globals[1]?).map (·.type) = some 137 := by kernel_rfl
theorem Tryd.gFldType : (Tryd.prog.globals[0]?).map (·.type) = some 113 := by kernel_rfl
theorem Tryd.cellsShape : Tryd.prog.cellsOf 136 = 5 := by kernel_rfl
theorem Tryd.cellsUses : Tryd.prog.cellsOf 112 = 6 := by kernel_rfl
theorem Tryd.cellsNode : Tryd.prog.cellsOf 28 = 9 := by kernel_rfl
theorem Tryd.cellsKind9 : Tryd.prog.cellsOf 22 = 1 := by kernel_rfl
theorem Tryd.cellsSet4 : Tryd.prog.cellsOf 25 = 4 := by kernel_rfl
theorem Tryd.cellsU64 : Tryd.prog.cellsOf 23 = 1 := by kernel_rfl
theorem Tryd.cellsInt1 : Tryd.prog.cellsOf 3 = 1 := by kernel_rfl
theorem Tryd.cellsKids : Tryd.prog.cellsOf 26 = 1 := by kernel_rfl

theorem lt_of_cell {w : World} {b off : Nat} {v : Value} (h : w.cell? ⟨b, off, none⟩ = some v) : b < w.heap.size := by
  refine Nat.lt_of_not_le fun hn => ?_
  have : w.heap[b]? = none := Array.getElem?_eq_none hn
  simp [World.cell?, this] at h

namespace Nt
/-- A plain value's cell. -/
def litV : Lit → Value
  | .int k n => .int k n
  | .bool b => .bool b
  | _ => .nilFunc
theorem row_cells {H : Type} {enc : TypeId × Value → H} {P : Program} {w : World} {base : Nat} {spare : Nat → Bool} {held : Bool} {fuel : Nat} {e : TypeId} {fs : Array Field} {cs : List Value} {ls : List Lit} {x : DataW H × List MemPlace}
    (hu : P.underlying e = some (.struct fs)) (hsz : fs.size = ls.length) (hcs : P.cellsOf e = ls.length)
    (hf : ∀ (j : Nat) (f : Field), fs[j]? = some f → f.offset = j ∧ P.cellsOf f.type = 1 ∧ (P.underlying f.type = some .bool ∨ P.underlying f.type = some (.int .i64)))
    (h : DataW.trod enc P w base spare held fuel e cs = some x) (hd : x.1 = .agg (ls.map .lit)) : cs = ls.map litV := by
  obtain ⟨xs, n, _, rfl, hl, hxl, hff⟩ := DataW.trod_struct hu h
  have hx1 : xs.map (·.1) = ls.map (DataW.lit (H := H)) := by simpa using hd
  apply List.ext_getElem?
  intro j
  by_cases hj : j < ls.length
  · have hjf : j < fs.size := by omega
    obtain ⟨ho, hc, ht⟩ := hf j fs[j] (by simp [hjf])
    have g := hff j fs[j] (by simp [hjf])
    rw [ho, hc] at g
    have hjx : j < xs.length := by omega
    rw [List.getElem?_eq_getElem hjx] at g
    have e1 : (xs[j]).1 = .lit (ls[j]) := by
      have := congrArg (·[j]?) hx1
      simpa [hjx, hj] using this
    have e0 : ∀ u : Value, (cs.drop j).take 1 = [u] → cs[j]? = some u := fun u hu => by
      have := congrArg (·[0]?) hu
      simpa [List.getElem?_take, List.getElem?_drop] using this
    rcases ht with ht | ht
    · obtain ⟨b, e2, e3⟩ := DataW.trod_bool ht g
      rw [e3] at e1
      have e4 : ls[j] = .bool b := by simpa using e1.symm
      rw [e0 _ e2, List.getElem?_map, List.getElem?_eq_getElem hj, e4]; rfl
    · obtain ⟨b, e2, e3, _⟩ := DataW.trod_int ht g
      rw [e3] at e1
      have e4 : ls[j] = .int .i64 b := by simpa using e1.symm
      rw [e0 _ e2, List.getElem?_map, List.getElem?_eq_getElem hj, e4]; rfl
  · rw [List.getElem?_eq_none (by omega), List.getElem?_eq_none (by simp; omega)]
theorem tab_cells {H : Type} {enc : TypeId × Value → H} {P : Program} {w : World} {base : Nat} {spare : Nat → Bool} {held : Bool} {fuel : Nat} {t e : TypeId} {n k : Nat} {fs : Array Field} {cs : List Value} {rs : List (List Lit)} {x : DataW H × List MemPlace}
    (hk : 0 < k) (ht : P.underlying t = some (.array n e)) (hu : P.underlying e = some (.struct fs)) (hsz : fs.size = k) (hcs : P.cellsOf e = k) (hr : ∀ r ∈ rs, r.length = k) (hn : rs.length = n)
    (hf : ∀ (j : Nat) (f : Field), fs[j]? = some f → f.offset = j ∧ P.cellsOf f.type = 1 ∧ (P.underlying f.type = some .bool ∨ P.underlying f.type = some (.int .i64)))
    (h : DataW.trod enc P w base spare held fuel t cs = some x) (hd : x.1 = .agg (rs.map fun r => .agg (r.map .lit))) (q : Nat) (hq : q < n * k) : cs[q]? = ((rs.getD (q / k) []).map litV)[q % k]? := by
  obtain ⟨xs, m, _, rfl, _, hxl, hel⟩ := DataW.trod_array ht h
  have hx1 : xs.map (·.1) = rs.map fun r => DataW.agg (H := H) (r.map .lit) := by simpa using hd
  have hi : q / k < n := (Nat.div_lt_iff_lt_mul hk).2 hq
  have hix : q / k < xs.length := by omega
  have hir : q / k < rs.length := by omega
  have g := hel (q / k) hi
  rw [hcs, List.getElem?_eq_getElem hix] at g
  have e1 : (xs[q / k]).1 = .agg ((rs[q / k]).map .lit) := by
    have := congrArg (·[q / k]?) hx1
    simpa [hix, hir] using this
  have hrl := hr _ (List.getElem_mem hir)
  have e2 := row_cells hu (by rw [hrl]; exact hsz) (by rw [hrl]; exact hcs) hf g e1
  have e3 := congrArg (·[q % k]?) e2
  have hm := Nat.mod_lt q hk
  simp only [List.getElem?_take, List.getElem?_drop] at e3
  rw [if_pos hm, Nat.div_add_mod'] at e3
  rw [e3, List.getD_eq_getElem?_getD, List.getElem?_eq_getElem hir]; rfl
def shpR : List (List Lit) := [[.bool false, .bool false, .bool false, .int .i64 1, .int .i64 0], [.bool false, .bool false, .bool false, .int .i64 0, .int .i64 0], [.bool true, .bool false, .bool false, .int .i64 0, .int .i64 0], [.bool false, .bool false, .bool false, .int .i64 2, .int .i64 8192], [.bool false, .bool false, .bool false, .int .i64 2, .int .i64 8192], [.bool false, .bool true, .bool false, .int .i64 1, .int .i64 1], [.bool false, .bool false, .bool true, .int .i64 1, .int .i64 1], [.bool false, .bool false, .bool true, .int .i64 0, .int .i64 0], [.bool false, .bool false, .bool false, .int .i64 0, .int .i64 0], [.bool false, .bool false, .bool false, .int .i64 0, .int .i64 0]]
def fldR : List (List Lit) := [[.bool false, .bool false, .bool false, .bool false, .bool false, .bool false], [.bool true, .bool true, .bool false, .bool false, .bool false, .bool false], [.bool true, .bool false, .bool true, .bool false, .bool false, .bool false], [.bool true, .bool false, .bool true, .bool false, .bool false, .bool false], [.bool true, .bool false, .bool false, .bool true, .bool false, .bool false], [.bool true, .bool false, .bool false, .bool true, .bool false, .bool false], [.bool true, .bool false, .bool false, .bool true, .bool true, .bool false], [.bool true, .bool false, .bool false, .bool false, .bool false, .bool true], [.bool true, .bool false, .bool false, .bool false, .bool false, .bool true], [.bool true, .bool false, .bool false, .bool true, .bool false, .bool false], [.bool true, .bool false, .bool false, .bool false, .bool false, .bool false], [.bool true, .bool false, .bool false, .bool false, .bool false, .bool false], [.bool true, .bool false, .bool false, .bool false, .bool false, .bool false]]
theorem shp_at : ∀ q, q < 50 → ((shpR.getD (q / 5) []).map litV)[q % 5]? = shpL[q]? := fun q hq =>
  List.map_inj_left.1 (show (List.range 50).map (fun q => ((shpR.getD (q / 5) []).map litV)[q % 5]?) = (List.range 50).map (fun q => shpL[q]?) by rfl) q (List.mem_range.2 hq)
theorem fld_at : ∀ q, q < 78 → ((fldR.getD (q / 6) []).map litV)[q % 6]? = (fldL[q]?).map Value.bool := fun q hq =>
  List.map_inj_left.1 (show (List.range 78).map (fun q => ((fldR.getD (q / 6) []).map litV)[q % 6]?) = (List.range 78).map (fun q => (fldL[q]?).map Value.bool) by rfl) q (List.mem_range.2 hq)
end Nt
/-- The tables, out of what the row lists. -/
theorem tabs_of_laid {W : World} (h : laidMetH Tryd.prog [("paddock/posix.shapes", Rows.laid_paddock_posix_shapes), ("paddock/nfa.fields", Rows.laid_paddock_nfa_fields)] W) : Nt.Tabs W := by
  have h0 : laidMet Tryd.prog [("paddock/posix.shapes", Rows.laid_paddock_posix_shapes), ("paddock/nfa.fields", Rows.laid_paddock_nfa_fields)] W := h
  obtain ⟨ps, ⟨g0, t0, cs0, fuel0, p0, q0, hg0, ht0, hvar0, hd0, ⟨g, t, cs, fuel, p, _, hg, ht, hvar, hd, _, _⟩, _⟩, _⟩ := h0
  obtain rfl := Option.some.inj (Tryd.gShp.symm.trans hg0)
  obtain rfl := Option.some.inj (Tryd.gShpType.symm.trans ht0)
  obtain rfl := Option.some.inj (Tryd.gFld.symm.trans hg)
  obtain rfl := Option.some.inj (Tryd.gFldType.symm.trans ht)
  have s0 : ∀ i, i < 50 → W.cell? ⟨1, i, none⟩ = Nt.shpL[i]? := fun i hi => by
    have hc := Nt.tab_cells (rs := Nt.shpR) (k := 5) (by decide) Tryd.underlying137 Tryd.underlying136 rfl Tryd.cellsShape (by decide) rfl
      (by
        intro j f hf
        match j, hf with
        | 0, hf | 1, hf | 2, hf => cases hf; exact ⟨rfl, by kernel_rfl, .inl (by kernel_rfl)⟩
        | 3, hf | 4, hf => cases hf; exact ⟨rfl, by kernel_rfl, .inr (by kernel_rfl)⟩
        | j + 5, hf => cases hf) hd0 rfl i (by omega)
    rw [World.var?_cell Tryd.gShp hvar0 i, ← Array.getElem?_toList, hc, Nt.shp_at i hi]
  have s1 : ∀ i, i < 78 → W.cell? ⟨0, i, none⟩ = (Nt.fldL[i]?).map Value.bool := fun i hi => by
    have hc := Nt.tab_cells (rs := Nt.fldR) (k := 6) (by decide) Tryd.underlying113 Tryd.underlying112 rfl Tryd.cellsUses (by decide) rfl
      (by
        intro j f hf
        match j, hf with
        | 0, hf | 1, hf | 2, hf | 3, hf | 4, hf | 5, hf => cases hf; exact ⟨rfl, by kernel_rfl, .inl (by kernel_rfl)⟩
        | j + 6, hf => cases hf) hd rfl i (by omega)
    rw [World.var?_cell Tryd.gFld hvar i, ← Array.getElem?_toList, hc, Nt.fld_at i hi]
  exact ⟨lt_of_cell (s0 0 (by omega)), s0, s1⟩
theorem trodAll_below {H : Type} {enc : TypeId × Value → H} {W W' : World} (hb : Below W.heap.size W W') :
    ∀ (ts : List TypeId) (vs : List Value) (ds : List (DataW H)) (ps : List MemPlace), (∀ t ∈ ts, Tryd.prog.readableRec t = true ∧ t < Tryd.prog.types.size) → (∀ x ∈ ps, x.block < W.heap.size) →
      DataW.TrodAll enc Tryd.prog W 0 (fun _ => true) true ts vs ds ps → DataW.TrodAll enc Tryd.prog W' 0 (fun b => decide (b < W.heap.size)) true ts vs ds ps := by
  intro ts
  induction ts with
  | nil =>
    intro vs ds ps _ _ h
    obtain ⟨rfl, rfl, rfl⟩ := trodAll_nil h
    exact trodAll_mk0
  | cons t ts ih =>
    intro vs ds ps hr hlt h
    obtain ⟨v, vs', d, ds', p, q, rfl, rfl, rfl, h0, r0⟩ := trodAll_cons h
    exact trodAll_cons_mk (Below.trod Tryd.laidOut (hr t (by simp)).1 (hr t (by simp)).2 h0 hb (fun x hx => hlt x (by simp [hx]))) (ih vs' ds' q (fun u hu => hr u (by simp [hu])) (fun x hx => hlt x (by simp [hx])) r0)

/-- What a law's row asks behind the call, out of a walk that answered true and turned nothing that was there. -/
theorem law_post {H : Type} {enc : TypeId × Value → H} {s : ChangeSpec} {fn : Func} {W W' : World} {args : Array Value} {ds gs : List (DataW H)} {before : List MemPlace}
    (hres : fn.resultTypes = #[4]) (hvars : s.vars = []) (hread : ∀ t ∈ fn.params.toList, Tryd.prog.readableRec t = true ∧ t < Tryd.prog.types.size)
    (e1 : (s.fn H (ds ++ gs)).results = [.lit (.bool true)]) (e2 : (s.fn H (ds ++ gs)).args = ds) (e3 : (s.fn H (ds ++ gs)).vars = [])
    (hW : DataW.Whole enc Tryd.prog fn.params.toList s.vars false W args.toList ds gs before) (hb : Below W.heap.size W W') :
    s.post enc Tryd.prog fn false true false false W args (.bool true) W' := by
  have hW' := hW
  obtain ⟨p, q, hA, hV, rfl, hfz, hnd⟩ := hW
  have hlt : ∀ x ∈ p, x.block < W.heap.size := fun x hx => hW'.lt x (by simp [hx])
  refine ⟨ds, gs, _, [], p, [], hW', ?_, ?_, ?_, hb.frame _, fun h => by cases h⟩
  · rw [hres, e1]
    exact trodAll_cons_mk (shut_bool Tryd.underlying4 true) trodAll_mk0
  · rw [e2]
    exact trodAll_below hb _ _ _ _ hread hlt hA
  · rw [hvars, e3]; rfl

namespace Nt
theorem bulk_mem {H : Type} {d : DataW H} : ∀ {l : List (DataW H)}, d ∈ l → Rows.uptoBulk d ≤ Rows.uptoBulkAll l
  | x :: l, h => by
    rw [Rows.uptoBulkAll]
    rcases List.mem_cons.1 h with rfl | h
    · omega
    · have := bulk_mem h
      omega
theorem bulk_pos {H : Type} (d : DataW H) : 1 ≤ Rows.uptoBulk d := by
  cases d with
  | lit x => cases x <;> simp [Rows.uptoBulk]
  | _ => simp [Rows.uptoBulk]
theorem bulk_len {H : Type} : ∀ l : List (DataW H), l.length ≤ Rows.uptoBulkAll l
  | [] => by simp [Rows.uptoBulkAll]
  | x :: l => by
    have h1 := bulk_len l
    have h2 := bulk_pos x
    rw [Rows.uptoBulkAll, List.length_cons]; omega
theorem kindsL_map {H : Type} (D : Nat → DataW H) (Tx : Nat → NT) : ∀ n : List Nat, (∀ i ∈ n, cnt (Tx i) ≤ Rows.uptoBulk (D i)) → (kinds.kindsL (n.map Tx)).length ≤ Rows.uptoBulkAll (n.map D)
  | [], _ => by simp [kinds.kindsL]
  | i :: n, h => by
    have h1 := h i (by simp)
    have h2 := kindsL_map D Tx n (fun j hj => h j (by simp [hj]))
    rw [List.map_cons, List.map_cons, kinds.kindsL, Rows.uptoBulkAll, List.length_append]
    unfold cnt at h1
    omega
set_option maxRecDepth 100000 in
/-- A tree, out of its reading. -/
theorem node_trod {H : Type} {enc : TypeId × Value → H} {W : World} : ∀ (B fuel : Nat) (cs : List Value) (x : DataW H × List MemPlace), Rows.uptoBulk x.1 ≤ B → B ≤ 1048576 → (∀ pl ∈ x.2, pl.block < W.heap.size) → DataW.trod enc Tryd.prog W 0 (fun _ => true) true fuel 28 cs = some x →
    ∃ T a cap, cs = (ndA T a cap).toList ∧ Nd W (· < W.heap.size) T a cap ∧ cnt T ≤ Rows.uptoBulk x.1 := by
  intro B
  induction B using Nat.strongRecOn with
  | ind B ih =>
  intro fuel cs x hB hM hlt h
  obtain ⟨xs, n, _, rfl, hl, hxl, hff⟩ := DataW.trod_struct Tryd.underlying28 h
  rw [Tryd.cellsNode] at hl
  match xs, hxl, cs, hl with
  | [y0, y1, y2, y3, y4, y5], _, [v0, v1, v2, v3, v4, v5, v6, v7, v8], _ =>
    have g0 := hff 0 _ rfl
    have g1 := hff 1 _ rfl
    have g2 := hff 2 _ rfl
    have g3 := hff 3 _ rfl
    have g4 := hff 4 _ rfl
    have g5 := hff 5 _ rfl
    simp [Tryd.cellsKind9, Tryd.cellsSet4, Tryd.cellsInt1, Tryd.cellsKids] at g0 g1 g2 g3 g4 g5
    obtain ⟨kn, e0, f0, w0⟩ := DataW.trod_int Tryd.underlying22 g0
    obtain ⟨mn, e2, f2, _⟩ := DataW.trod_int Tryd.underlying3 g2
    obtain ⟨mx, e3, f3, _⟩ := DataW.trod_int Tryd.underlying3 g3
    obtain ⟨gr, e4, f4, _⟩ := DataW.trod_int Tryd.underlying3 g4
    simp at e0 e2 e3 e4
    subst e0; subst e2; subst e3; subst e4
    have hb := bounds_u8 w0
    obtain ⟨k, rfl⟩ : ∃ k : Nat, kn = (k : Int) := ⟨kn.toNat, by omega⟩
    obtain ⟨zs, m1, _, fz, _, hzl, hel⟩ := DataW.trod_array Tryd.underlying25 g1
    rw [Tryd.cellsU64] at hel
    have word : ∀ i u, i < 4 → ([v1, v2, v3, v4] : List Value)[i]? = some u → ∃ c : Nat, c < 18446744073709551616 ∧ u = .int .u64 (c : Int) := fun i u hi hu => by
      have g := hel i hi
      rw [List.getElem?_eq_getElem (by omega)] at g
      obtain ⟨c, e, _, hw⟩ := DataW.trod_int Tryd.underlying23 g
      have hc := bounds_u64 hw
      have := congrArg (·[0]?) e
      simp only [Nat.mul_one, List.getElem?_take, List.getElem?_drop, Nat.add_zero, hu] at this
      refine ⟨c.toNat, by omega, ?_⟩
      have e5 : u = .int .u64 c := by simpa using this
      rw [e5]
      congr 1
      omega
    obtain ⟨n1, h1, rfl⟩ := word 0 v1 (by omega) rfl
    obtain ⟨n2, h2, rfl⟩ := word 1 v2 (by omega) rfl
    obtain ⟨n3, h3, rfl⟩ := word 2 v3 (by omega) rfl
    obtain ⟨n4, h4, rfl⟩ := word 3 v4 (by omega) rfl
    have hset := St.setV_bits n1 n2 n3 n4 h1 h2 h3 h4
    simp only [St.setV, Value.agg.injEq, Array.mk.injEq, List.cons.injEq, Value.int.injEq, true_and, and_true] at hset
    obtain ⟨s1, s2, s3, s4⟩ := hset
    have hbulk : Rows.uptoBulk y5.1 + 1 ≤ Rows.uptoBulk (DataW.agg ([y0, y1, y2, y3, y4, y5].map (·.1)) : DataW H) := by
      have := bulk_mem (d := y5.1) (l := [y0, y1, y2, y3, y4, y5].map (·.1)) (by simp)
      rw [Rows.uptoBulk]; omega
    simp only at hB hlt
    rcases Deep.open_slice Tryd.underlying26 g5 with ⟨hcs, hx⟩ | ⟨a, len, cap, m, n', D, Pl, hcs, _, hl', hm, hmm, hx, hcell⟩
    · simp at hcs
      subst hcs
      refine ⟨.mk k (St.bitsOf n1 n2 n3 n4) mn mx gr [], none, 0, ?_, .mk (fun _ => (none, 0)) (by simp [NT.kids]) (fun _ => rfl) (by simp [NT.kids]) (by unfold maxLen; omega) (fun i hi => absurd hi (by simp [NT.kids])) (fun i hi => absurd hi (by simp [NT.kids])), ?_⟩
      · simp [ndA, NT.k, NT.s, NT.mn, NT.mx, NT.gr, NT.kids, s1, s2, s3, s4]
      · have := bulk_pos y5.1
        simp only [cnt, kinds, kinds.kindsL, List.length_cons, List.length_nil]
        omega
    · simp at hcs
      subst hcs
      simp only [if_true] at hmm
      subst hmm
      have hy5 : y5.1 = .slice ((List.range len).map D) ((List.range (m - len)).map fun j => D (len + j)) := by rw [hx]
      have hpl : y5.2 = MemPlace.row a (m * Tryd.prog.cellsOf 28) ++ (List.range m).flatMap Pl := by rw [hx]
      have hb5 : Rows.uptoBulkAll ((List.range len).map D) + 1 ≤ Rows.uptoBulk y5.1 := by rw [hy5, Rows.uptoBulk]; omega
      have hlt5 : ∀ pl ∈ y5.2, pl.block < W.heap.size := fun pl hp => hlt pl (by simp [hp])
      haveI : Inhabited (NT × Option Addr × Nat) := ⟨(.mk 0 (fun _ => false) 0 0 0 [], none, 0)⟩
      have each : ∀ i, i < len → ∃ x : NT × Option Addr × Nat, (∀ j, j < 9 → W.cell? (a.add (i * 9 + j)) = (ndA x.1 x.2.1 x.2.2).toList[j]?) ∧ Nd W (· < W.heap.size) x.1 x.2.1 x.2.2 ∧ cnt x.1 ≤ Rows.uptoBulk (D i) := fun i hi => by
        obtain ⟨cs', c1, c2⟩ := hcell i (by omega)
        rw [Tryd.cellsNode] at c1
        obtain ⟨_, hlen', hc⟩ := World.cells?_some c1
        have hbi : Rows.uptoBulk (D i) ≤ Rows.uptoBulkAll ((List.range len).map D) := bulk_mem (List.mem_map.2 ⟨i, List.mem_range.2 hi, rfl⟩)
        obtain ⟨T, a', cap', e, hN, hcn⟩ := ih (Rows.uptoBulk (D i)) (by omega) n' cs' (D i, Pl i) (Nat.le_refl _) (by omega) (fun pl hp => hlt5 pl (by
          rw [hpl]
          exact List.mem_append_right _ (List.mem_flatMap.2 ⟨i, List.mem_range.2 (by omega), hp⟩))) c2
        refine ⟨(T, a', cap'), fun j hj => ?_, hN, hcn⟩
        rw [← Deep.add_add, hc j hj, e]
      obtain ⟨X, hX⟩ := Deep.choose_lt each
      have hlen : len ≤ 1048576 := by
        have := bulk_len ((List.range len).map D)
        simp at this
        omega
      refine ⟨.mk k (St.bitsOf n1 n2 n3 n4) mn mx gr ((List.range len).map fun i => (X i).1), some a, m, ?_, .mk (fun i => (X i).2) (by simp [NT.kids]; omega) (fun h => by cases h) (by simp [NT.kids]; omega) hm (fun i hi => ?_) (fun i hi => ?_), ?_⟩
      · simp [ndA, NT.k, NT.s, NT.mn, NT.mx, NT.gr, NT.kids, s1, s2, s3, s4]
      · have hi' : i < len := by simpa [NT.kids] using hi
        obtain ⟨b, off, spot⟩ := a
        obtain ⟨c, _, _⟩ := hX i hi'
        have hspot : spot = none := by
          have c0 := (hX 0 (by omega)).1 0 (by omega)
          have c1 : W.cell? ⟨b, off, spot⟩ = some (.int .u8 ((X 0).1.k : Int)) := by simpa [Addr.add, ndA] using c0
          exact World.cell?_spot c1
        subst hspot
        have hkid : (NT.mk k (St.bitsOf n1 n2 n3 n4) mn mx gr ((List.range len).map fun i => (X i).1)).kids[i]'hi = (X i).1 := by simp [NT.kids]
        have hblk : b < W.heap.size := hlt5 (.cell b off) (by
          rw [hpl]
          exact List.mem_append_left _ (MemPlace.mem_row.2 ⟨0, by rw [Tryd.cellsNode]; omega, by simp⟩))
        refine ⟨b, off, rfl, hblk, ?_⟩
        rw [hkid]
        have cc : ∀ j, j < 9 → W.cell? ⟨b, off + i * 9 + j, none⟩ = (ndA (X i).1 (X i).2.1 (X i).2.2).toList[j]? := fun j hj => by
          rw [← c j hj, show (⟨b, off, none⟩ : Addr).add (i * 9 + j) = ⟨b, off + (i * 9 + j), none⟩ from by unfold Addr.add; split <;> simp_all, Nat.add_assoc]
        exact ⟨cc 0 (by omega), cc 1 (by omega), cc 2 (by omega), cc 3 (by omega), cc 4 (by omega), cc 5 (by omega), cc 6 (by omega), cc 7 (by omega), cc 8 (by omega)⟩
      · have hi' : i < len := by simpa [NT.kids] using hi
        have hkid : (NT.mk k (St.bitsOf n1 n2 n3 n4) mn mx gr ((List.range len).map fun i => (X i).1)).kids[i]'hi = (X i).1 := by simp [NT.kids]
        rw [hkid]
        exact (hX i hi').2.1
      · have := kindsL_map D (fun i => (X i).1) (List.range len) (fun i hi => (hX i (List.mem_range.1 hi)).2.2)
        simp only [cnt, kinds, List.length_cons]
        omega
end Nt
set_option maxRecDepth 100000 in
theorem node_open {H : Type} {enc : TypeId × Value → H} {W : World} {base : Nat} {v : Value} {d : DataW H} {p : List MemPlace}
    (hok : Value.okWide Tryd.prog W .any base 28 v) (h : DataW.Trod enc Tryd.prog W 0 (fun _ => true) true 28 v d p) (hlt : ∀ x ∈ p, x.block < W.heap.size) (hsz : Rows.uptoBulk d ≤ 1048576) : ∃ T a cap, v = Nt.ndV T a cap ∧ Nt.Nd W (· < W.heap.size) T a cap ∧ Nt.cnt T ≤ Rows.uptoBulk d := by
  obtain ⟨fuel, hf⟩ := h
  simp only [Value.okWide, Tryd.underlying28] at hok
  obtain ⟨cs, rfl, _⟩ := hok
  obtain ⟨T, a, cap, e, hN, hc⟩ := Nt.node_trod (Rows.uptoBulk d) fuel _ (d, p) (Nat.le_refl _) hsz hlt hf
  refine ⟨T, a, cap, ?_, hN, hc⟩
  have e' : cs.toList = (Nt.ndA T a cap).toList := e
  rw [Nt.ndV, ← Array.toList_inj.1 e']

/-- A world for the witness: the settled one, the tables holding what their initialisers lay. -/
noncomputable def laidShp : Obj → Obj
  | .cells _ t frozen => .cells #[.bool false, .bool false, .bool false, .int .i64 1, .int .i64 0, .bool false, .bool false, .bool false, .int .i64 0, .int .i64 0, .bool true, .bool false, .bool false, .int .i64 0, .int .i64 0, .bool false, .bool false, .bool false, .int .i64 2, .int .i64 8192, .bool false, .bool false, .bool false, .int .i64 2, .int .i64 8192, .bool false, .bool true, .bool false, .int .i64 1, .int .i64 1, .bool false, .bool false, .bool true, .int .i64 1, .int .i64 1, .bool false, .bool false, .bool true, .int .i64 0, .int .i64 0, .bool false, .bool false, .bool false, .int .i64 0, .int .i64 0, .bool false, .bool false, .bool false, .int .i64 0, .int .i64 0] t frozen
  | o => o
noncomputable def laidFld : Obj → Obj
  | .cells _ t frozen => .cells #[.bool false, .bool false, .bool false, .bool false, .bool false, .bool false, .bool true, .bool true, .bool false, .bool false, .bool false, .bool false, .bool true, .bool false, .bool true, .bool false, .bool false, .bool false, .bool true, .bool false, .bool true, .bool false, .bool false, .bool false, .bool true, .bool false, .bool false, .bool true, .bool false, .bool false, .bool true, .bool false, .bool false, .bool true, .bool false, .bool false, .bool true, .bool false, .bool false, .bool true, .bool true, .bool false, .bool true, .bool false, .bool false, .bool false, .bool false, .bool true, .bool true, .bool false, .bool false, .bool false, .bool false, .bool true, .bool true, .bool false, .bool false, .bool true, .bool false, .bool false, .bool true, .bool false, .bool false, .bool false, .bool false, .bool false, .bool true, .bool false, .bool false, .bool false, .bool false, .bool false, .bool true, .bool false, .bool false, .bool false, .bool false, .bool false] t frozen
  | o => o
noncomputable def laidWorld (os : Os) : World :=
  { World.holding Tryd.prog os ⟨#[], #[], []⟩ with heap := ((World.holding Tryd.prog os ⟨#[], #[], []⟩).heap.modify 1 laidShp).modify 0 laidFld }
theorem bound_all {H : Type} {l : List (DataW H)} (hk : Rows.uptoSmall H l = true) : Rows.uptoBulkAll l ≤ 1048576 := of_decide_eq_true hk
end Go.Proofs.YtdiokclbdaojpaaDoor
namespace Go.Proofs.YtdiokclbdaojpaaDoor
open Go.ChangeShapes Go.WideShapes Go.ChangeAt Go.RowKit

set_option maxRecDepth 100000 in
theorem text_open {H : Type} {enc : TypeId × Value → H} {W : World} {base : Nat} {v : Value} {d : DataW H} {p : List MemPlace}
    (hok : Value.okWide Tryd.prog W .any base 9 v) (h : DataW.Trod enc Tryd.prog W 0 (fun _ => true) true 9 v d p) : ∃ s : ByteArray, v = .string s ∧ s.size + 1 ≤ Rows.uptoBulk d := by
  obtain ⟨s, rfl, rfl, rfl, hs⟩ := Go.ChangeMaps.open_string Tryd.underlying9 hok h
  exact ⟨s, rfl, by simp [Rows.uptoBulk]⟩
set_option maxRecDepth 100000 in
theorem number_open {H : Type} {enc : TypeId × Value → H} {W : World} {base : Nat} {v : Value} {d : DataW H} {p : List MemPlace}
    (hok : Value.okWide Tryd.prog W .any base 3 v) (h : DataW.Trod enc Tryd.prog W 0 (fun _ => true) true 3 v d p) : ∃ n : Int, v = .int .i64 n ∧ -9223372036854775808 ≤ n ∧ n ≤ 9223372036854775807 ∧ 1 ≤ Rows.uptoBulk d := by
  obtain ⟨n, rfl, rfl, _, hn⟩ := open_int Tryd.underlying3 hok h
  exact ⟨n, rfl, (bounds_i64 hn).1, (bounds_i64 hn).2, by simp [Rows.uptoBulk]⟩
end Go.Proofs.YtdiokclbdaojpaaDoor
