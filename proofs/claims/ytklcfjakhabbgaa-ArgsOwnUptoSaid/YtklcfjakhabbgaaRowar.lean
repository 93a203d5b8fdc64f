/- The frame of a row of the second form over command lines: texts, pieces of a script, command lines, bools and numbers among the arguments. -/
import Derived.Test.YtklcfjakhabbgaaRows
import Derived.Test.YtklcfjakhabbgaaArA
import Derived.ProofKit
import Derived.OpenShut
import Derived.Deep.SlicePairs
import Derived.ChangeArms
import Derived.JoinedCond
import Derived.Shelf.Vars
namespace Go.Proofs.Ytklcfjakhabbgaa
open Go.ChangeShapes Go.WideShapes Go.ChangeAt Go.RowKit

theorem Try.own : ownKnob Try.prog.godebug = none := by kernel_rfl
theorem Try.laidOut : laidOutB Try.prog = true := by kernel_rfl
theorem Try.cellsS : Try.prog.cellsOf 9 = 1 := by kernel_rfl
theorem Try.cellsB : Try.prog.cellsOf 4 = 1 := by kernel_rfl
theorem Try.cellsPc : Try.prog.cellsOf 45 = 2 := by kernel_rfl
theorem Try.cellsOp : Try.prog.cellsOf 25 = 5 := by kernel_rfl
theorem Try.cellsAv : Try.prog.cellsOf 28 = 7 := by kernel_rfl
theorem Try.cellsSs : Try.prog.cellsOf 22 = 1 := by kernel_rfl
theorem Try.cellsPs : Try.prog.cellsOf 26 = 1 := by kernel_rfl

/-- The library's variable MaxLen holds some number. -/
def MaxL (w : World) : Prop := ∃ m, w.cell? ⟨0, 0, none⟩ = some (.int .i64 m)
theorem maxL_of {W : World} (h : W.ShapedOpen Try.prog) : MaxL W :=
  cell_of_shapedOpen_int (t := 3) (zero := #[.int .i64 0]) h (of_decide_eq_true (by kernel_rfl)) (by kernel_rfl) rfl (by kernel_rfl) (by kernel_rfl) Try.underlying3

theorem trodAll_below {H : Type} {enc : TypeId × Value → H} {W W' : World} (hb : Below W.heap.size W W') :
    ∀ (ts : List TypeId) (vs : List Value) (ds : List (DataW H)) (ps : List MemPlace), (∀ t ∈ ts, Try.prog.readableRec t = true ∧ t < Try.prog.types.size) → (∀ x ∈ ps, x.block < W.heap.size) →
      DataW.TrodAll enc Try.prog W 0 (fun _ => true) true ts vs ds ps → DataW.TrodAll enc Try.prog W' 0 (fun b => decide (b < W.heap.size)) true ts vs ds ps := by
  intro ts
  induction ts with
  | nil =>
    intro vs ds ps _ _ h
    obtain ⟨rfl, rfl, rfl⟩ := trodAll_nil h
    exact trodAll_mk0
  | cons t ts ih =>
    intro vs ds ps hr hlt h
    obtain ⟨v, vs', d, ds', p, q, rfl, rfl, rfl, h0, r0⟩ := trodAll_cons h
    exact trodAll_cons_mk (Below.trod Try.laidOut (hr t (by simp)).1 (hr t (by simp)).2 h0 hb (fun x hx => hlt x (by simp [hx]))) (ih vs' ds' q (fun u hu => hr u (by simp [hu])) (fun x hx => hlt x (by simp [hx])) r0)

/-- What a law's row asks behind the call, out of a walk that answered true and turned nothing that was there. -/
theorem law_post {H : Type} {enc : TypeId × Value → H} {s : ChangeSpec} {fn : Func} {W W' : World} {args : Array Value} {ds gs : List (DataW H)} {before : List MemPlace}
    (hres : fn.resultTypes = #[4]) (hvars : s.vars = []) (hread : ∀ t ∈ fn.params.toList, Try.prog.readableRec t = true ∧ t < Try.prog.types.size)
    (e1 : (s.fn H (ds ++ gs)).results = [.lit (.bool true)]) (e2 : (s.fn H (ds ++ gs)).args = ds) (e3 : (s.fn H (ds ++ gs)).vars = [])
    (hW : DataW.Whole enc Try.prog fn.params.toList s.vars false W args.toList ds gs before) (hb : Below W.heap.size W W') :
    s.post enc Try.prog fn false true false false W args (.bool true) W' := by
  have hW' := hW
  obtain ⟨p, q, hA, hV, rfl, hfz, hnd⟩ := hW
  have hlt : ∀ x ∈ p, x.block < W.heap.size := fun x hx => hW'.lt x (by simp [hx])
  refine ⟨ds, gs, _, [], p, [], hW', ?_, ?_, ?_, hb.frame _, fun h => by cases h⟩
  · rw [hres, e1]
    exact trodAll_cons_mk (shut_bool Try.underlying4 true) trodAll_mk0
  · rw [e2]
    exact trodAll_below hb _ _ _ _ hread hlt hA
  · rw [hvars, e3]; rfl

set_option maxRecDepth 100000 in
/-- A row of the second form, by what is called in a world that fits. -/
theorem handed_upto {H : Type} {enc : TypeId × Value → H} {os : Os} {f : FuncId} {fn : Func} {c : ChangeSpec} {F : Stop.Interp} {conds : List PathCond} (started : os.Started) (noInit : Try.prog.inits.idxOf? f = none) (hfn : Try.prog.funcs[f]? = some fn)
    (wit : ∃ (w : World) (tape : Tape) (i : Input), w.os = os ∧ (w.forCall tape i).Shaped Try.prog ∧ i.vars = [] ∧ Input.okWide Try.prog (w.forCall tape i) .any w.heap.size f i ∧
      (Rows.OpenSpec.upto c).pre6 enc Try.prog fn conds false (w.forCall tape i).memory i.args ∧ ({} : Assume).holds Try.prog (lone (Frame.enter Try.prog f i.args .normal) [] (w.forCall tape i)))
    (law : ∀ (W : World) (base : Nat) (args : Array Value) (ds gs : List (DataW H)) (before : List MemPlace), (∀ (j : Nat) t v, fn.params[j]? = some t → args[j]? = some v → Value.okWide Try.prog W .any base t v) →
      DataW.Whole enc Try.prog fn.params.toList (Rows.OpenSpec.upto c).vars false W args.toList ds gs before → Rows.uptoBulkAll (ds ++ gs) ≤ 1048576 → MaxL W →
      Calls Try.prog f args W fun e W' => ∃ v, e = .returned v ∧ ((Rows.OpenSpec.upto c).at F).post enc Try.prog fn false true false false W args v W') :
    ReturnsInHanded {} Try.checked os f .any ((Rows.OpenSpec.upto c).pre6 enc Try.prog fn conds false) (((Rows.OpenSpec.upto c).at F).post enc Try.prog fn false true false false) := by
  refine returnsInHanded_of_calls (C := Try.checked) Try.own started noInit wit ?_
  intro w tape i _ shape _ fits before _
  obtain ⟨_, _, _, fn', hfn', _, _, _, _, vals⟩ := fits
  obtain rfl : fn = fn' := Option.some.inj (hfn.symm.trans hfn')
  obtain ⟨ds, gs, pl, whole, _, small⟩ := (OpenSpec.pre_some (s := Rows.OpenSpec.upto c) (k := Rows.uptoSmall) rfl conds false _ _).1 before.1
  have whole' := DataW.Whole.of_heap (w' := w.forCall tape i) (by rfl) whole
  refine (law (w.forCall tape i) w.heap.size i.args ds gs pl vals whole' (of_decide_eq_true small) (maxL_of shape)).mono fun e W' ⟨v, he, hp⟩ => ?_
  subst he
  exact ChangeSpec.post_blind hp

theorem szb (s : ByteArray) : s.data.toList.length = s.size := Ar.szL s
/-- The bulk of texts, of pieces. -/
def tbk (l : List ByteArray) : Nat := (l.map (fun s => s.size + 1)).sum
def pbk (l : List Ar.Pc) : Nat := (l.map (fun p => p.2.size + 3)).sum
theorem tbk_mem {l : List ByteArray} {s : ByteArray} (h : s ∈ l) : s.size + 1 ≤ tbk l := by
  unfold tbk
  induction l with
  | nil => cases h
  | cons x r ih =>
    simp only [List.map_cons, List.sum_cons]
    rcases List.mem_cons.1 h with rfl | h
    · omega
    · have := ih h; omega
theorem tbk_len (l : List ByteArray) : l.length ≤ tbk l := by
  unfold tbk
  induction l with
  | nil => simp
  | cons x r ih => simp only [List.map_cons, List.sum_cons, List.length_cons]; omega
theorem pbk_mem {l : List Ar.Pc} {s : Ar.Pc} (h : s ∈ l) : s.2.size + 3 ≤ pbk l := by
  unfold pbk
  induction l with
  | nil => cases h
  | cons x r ih =>
    simp only [List.map_cons, List.sum_cons]
    rcases List.mem_cons.1 h with rfl | h
    · omega
    · have := ih h; omega
theorem pbk_len (l : List Ar.Pc) : l.length ≤ pbk l := by
  unfold pbk
  induction l with
  | nil => simp
  | cons x r ih => simp only [List.map_cons, List.sum_cons, List.length_cons]; omega
theorem bulk_strs {H : Type} (Lx : Nat → ByteArray) (n : List Nat) : Rows.uptoBulkAll (n.map fun i => (.lit (.string (Lx i).data.toList) : DataW H)) = tbk (n.map Lx) := by
  induction n with
  | nil => rfl
  | cons j r ih => simp only [List.map_cons, Rows.uptoBulkAll, Rows.uptoBulk, ih, tbk, List.sum_cons, szb]
theorem bulk_pcs {H : Type} (Lx : Nat → Ar.Pc) (n : List Nat) : Rows.uptoBulkAll (n.map fun i => (.agg [.lit (.bool (Lx i).1), .lit (.string (Lx i).2.data.toList)] : DataW H)) = pbk (n.map Lx) := by
  induction n with
  | nil => rfl
  | cons j r ih =>
    simp only [List.map_cons, Rows.uptoBulkAll, Rows.uptoBulk, ih, pbk, List.sum_cons, szb]
    omega
/-- A slice of texts, by its cell. -/
theorem strs_cell {H : Type} {enc : TypeId × Value → H} {W : World} {fuel : Nat} {v : Value} {d : DataW H} {p : List MemPlace}
    (hf : DataW.trod enc Try.prog W 0 (fun _ => true) true fuel 22 [v] = some (d, p)) (hlt : ∀ x ∈ p, x.block < W.heap.size) (hsz : Rows.uptoBulk d ≤ 1048576) :
    ∃ a cap l, v = .slice a l.length cap ∧ Strs W a cap l ∧ tbk l + 1 ≤ Rows.uptoBulk d := by
  rcases Deep.open_slice1 Try.underlying22 Try.cellsS hf with ⟨hcs, hx⟩ | ⟨a, len, cap, m, n, V, D, Pp, hcs, _, hl, hm, hmm, hx, hcell⟩
  · simp only [List.cons.injEq, and_true] at hcs
    subst hcs
    simp only [Prod.mk.injEq] at hx
    obtain ⟨rfl, rfl⟩ := hx
    exact ⟨none, 0, [], rfl, Strs.empty W, by simp [tbk, Rows.uptoBulk]⟩
  · simp only [List.cons.injEq, and_true] at hcs
    subst hcs
    simp only [if_true] at hmm
    subst hmm
    simp only [Prod.mk.injEq] at hx
    obtain ⟨rfl, rfl⟩ := hx
    have each : ∀ i, i < m → ∃ x : ByteArray, V i = .string x ∧ D i = .lit (.string x.data.toList) := fun i hi => by
      obtain ⟨_, ht⟩ := hcell i hi
      obtain ⟨s, e1, e2, _⟩ := DataW.trod_string Try.underlying9 ht
      simp at e1 e2
      exact ⟨s, e1, e2.1⟩
    obtain ⟨Lx, hL⟩ := Deep.choose_lt each
    have hbulk : tbk ((List.range len).map Lx) + 1 ≤ Rows.uptoBulk (.slice ((List.range len).map D) ((List.range (m - len)).map fun j => D (len + j))) := by
      simp only [Rows.uptoBulk]
      have e : ((List.range len).map D) = (List.range len).map fun i => (.lit (.string (Lx i).data.toList) : DataW H) :=
        List.map_congr_left fun i hi => (hL i (by have := List.mem_range.1 hi; omega)).2
      rw [e, bulk_strs]
      omega
    have hln := tbk_len ((List.range len).map Lx)
    simp only [List.length_map, List.length_range] at hln
    refine ⟨some a, m, (List.range len).map Lx, by simp, ⟨by simp; omega, fun h => (by cases h), by simpa using hl, hm, fun i hi => ?_, fun i hi => ?_⟩, hbulk⟩
    · have := tbk_mem (List.getElem_mem hi)
      omega
    · have hi' : i < len := by simpa using hi
      obtain ⟨b, off, spot⟩ := a
      have hspot : spot = none := by simpa [Addr.add] using World.cell?_spot (hcell 0 (by omega)).1
      subst hspot
      refine ⟨b, off, rfl, hlt (.cell b off) (List.mem_append_left _ (MemPlace.mem_row.2 ⟨0, by omega, by simp⟩)), ?_⟩
      rw [← add_at, (hcell i (by omega)).1, (hL i (by omega)).1]; simp
/-- A slice of pieces, by its cell. -/
theorem pcs_cell {H : Type} {enc : TypeId × Value → H} {W : World} {fuel : Nat} {v : Value} {d : DataW H} {p : List MemPlace}
    (hf : DataW.trod enc Try.prog W 0 (fun _ => true) true fuel 26 [v] = some (d, p)) (hlt : ∀ x ∈ p, x.block < W.heap.size) (hsz : Rows.uptoBulk d ≤ 1048576) :
    ∃ a cap l, v = .slice a l.length cap ∧ Pcs W a cap l ∧ pbk l + 1 ≤ Rows.uptoBulk d := by
  rcases Deep.open_slice_pairs Try.underlying26 Try.underlying45 Try.cellsPc rfl rfl Try.cellsB Try.cellsS hf with ⟨hcs, hx⟩ | ⟨a, len, cap, m, n, V0, V1, D0, D1, P0, P1, hcs, _, hl, hm, hmm, hx, hcell⟩
  · simp only [List.cons.injEq, and_true] at hcs
    subst hcs
    simp only [Prod.mk.injEq] at hx
    obtain ⟨rfl, rfl⟩ := hx
    exact ⟨none, 0, [], rfl, ⟨by simp, fun _ => rfl, by simp, by simp, by simp, fun i hi => absurd hi (by simp)⟩, by simp [pbk, Rows.uptoBulk]⟩
  · simp only [List.cons.injEq, and_true] at hcs
    subst hcs
    simp only [if_true] at hmm
    subst hmm
    simp only [Prod.mk.injEq] at hx
    obtain ⟨rfl, rfl⟩ := hx
    have each : ∀ i, i < m → ∃ x : Ar.Pc, V0 i = .bool x.1 ∧ V1 i = .string x.2 ∧ D0 i = .lit (.bool x.1) ∧ D1 i = .lit (.string x.2.data.toList) := fun i hi => by
      obtain ⟨_, _, h0, h1⟩ := hcell i hi
      obtain ⟨b, e3, e4⟩ := DataW.trod_bool Try.underlying4 h0
      obtain ⟨s, e1, e2, _⟩ := DataW.trod_string Try.underlying9 h1
      simp at e1 e2 e3 e4
      exact ⟨(b, s), e3, e1, e4.1, e2.1⟩
    obtain ⟨Lx, hL⟩ := Deep.choose_lt each
    have hbulk : pbk ((List.range len).map Lx) + 1 ≤ Rows.uptoBulk (.slice ((List.range len).map fun i => .agg [D0 i, D1 i]) ((List.range (m - len)).map fun j => .agg [D0 (len + j), D1 (len + j)])) := by
      simp only [Rows.uptoBulk]
      have e : ((List.range len).map fun i => (DataW.agg [D0 i, D1 i] : DataW H)) = (List.range len).map fun i => .agg [.lit (.bool (Lx i).1), .lit (.string (Lx i).2.data.toList)] :=
        List.map_congr_left fun i hi => by
          have := List.mem_range.1 hi
          rw [(hL i (by omega)).2.2.1, (hL i (by omega)).2.2.2]
      rw [e, bulk_pcs]
      omega
    have hln := pbk_len ((List.range len).map Lx)
    simp only [List.length_map, List.length_range] at hln
    refine ⟨some a, m, (List.range len).map Lx, by simp, ⟨by simp; omega, fun h => (by cases h), by simpa using hl, hm, fun x hx => ?_, fun i hi => ?_⟩, hbulk⟩
    · have := pbk_mem hx
      omega
    · have hi' : i < len := by simpa using hi
      obtain ⟨b, off, spot⟩ := a
      have hspot : spot = none := by simpa [Addr.add] using World.cell?_spot (hcell 0 (by omega)).1
      subst hspot
      refine ⟨b, off, rfl, hlt (.cell b off) (List.mem_append_left _ (MemPlace.mem_row.2 ⟨0, by omega, by simp⟩)), ?_, ?_⟩
      · rw [← add_at, (hcell i (by omega)).1, (hL i (by omega)).1]; simp
      · rw [Nat.add_assoc, ← add_at, (hcell i (by omega)).2.1, (hL i (by omega)).2.1]; simp
set_option maxRecDepth 100000 in
/-- Texts among the arguments. -/
theorem strs_open {H : Type} {enc : TypeId × Value → H} {W : World} {base : Nat} {v : Value} {d : DataW H} {p : List MemPlace}
    (hok : Value.okWide Try.prog W .any base 22 v) (h : DataW.Trod enc Try.prog W 0 (fun _ => true) true 22 v d p) (hlt : ∀ x ∈ p, x.block < W.heap.size) (hsz : Rows.uptoBulk d ≤ 1048576) :
    ∃ a cap l, v = .slice a l.length cap ∧ Strs W a cap l ∧ tbk l + 1 ≤ Rows.uptoBulk d := by
  obtain ⟨a0, len, cap, rfl⟩ := okWide_slice Try.underlying22 hok
  obtain ⟨fuel, hf⟩ := h
  exact strs_cell (fuel := fuel) hf hlt hsz
set_option maxRecDepth 100000 in
/-- Pieces among the arguments. -/
theorem pcs_open {H : Type} {enc : TypeId × Value → H} {W : World} {base : Nat} {v : Value} {d : DataW H} {p : List MemPlace}
    (hok : Value.okWide Try.prog W .any base 26 v) (h : DataW.Trod enc Try.prog W 0 (fun _ => true) true 26 v d p) (hlt : ∀ x ∈ p, x.block < W.heap.size) (hsz : Rows.uptoBulk d ≤ 1048576) :
    ∃ a cap l, v = .slice a l.length cap ∧ Pcs W a cap l ∧ pbk l + 1 ≤ Rows.uptoBulk d := by
  obtain ⟨a0, len, cap, rfl⟩ := okWide_slice Try.underlying26 hok
  obtain ⟨fuel, hf⟩ := h
  exact pcs_cell (fuel := fuel) hf hlt hsz
set_option maxRecDepth 100000 in
/-- A command line among the arguments. -/
theorem av_open {H : Type} {enc : TypeId × Value → H} {W : World} {base : Nat} {v : Value} {d : DataW H} {p : List MemPlace}
    (hok : Value.okWide Try.prog W .any base 28 v) (h : DataW.Trod enc Try.prog W 0 (fun _ => true) true 28 v d p) (hlt : ∀ x ∈ p, x.block < W.heap.size) (hsz : Rows.uptoBulk d ≤ 1048576) :
    ∃ (x : Ar.Av) (a b : Option Addr) (c e : Nat), v = .agg (avA x a c b e) ∧ AvR W x a c b e ∧ x.sf.size + pbk x.sc + tbk x.nm ≤ Rows.uptoBulk d := by
  obtain ⟨cs, rfl, hcs⟩ := okWide_struct Try.underlying28 hok
  rw [Try.cellsAv] at hcs
  obtain ⟨fuel, hf⟩ := h
  have hf' : DataW.trod enc Try.prog W 0 (fun _ => true) true fuel 28 cs.toList = some (d, p) := hf
  obtain ⟨xs, k, _, hxy, _, hxl, hff⟩ := DataW.trod_struct Try.underlying28 hf'
  obtain ⟨l⟩ := cs
  match xs, hxl, l, hcs with
  | [y0, y1, y2], _, [v0, v1, v2, v3, v4, v5, v6], _ =>
    have g0 := hff 0 _ rfl
    have g1 := hff 1 _ rfl
    have g2 := hff 2 _ rfl
    simp [Try.cellsOp, Try.cellsPs, Try.cellsSs] at g0 g1 g2
    simp only [Prod.mk.injEq] at hxy
    obtain ⟨rfl, rfl⟩ := hxy
    simp only [List.map_cons, List.map_nil, Rows.uptoBulk, Rows.uptoBulkAll] at hsz ⊢
    obtain ⟨a, c, sc, rfl, hr, z1⟩ := pcs_cell (d := y1.1) (p := y1.2) g1 (fun x hx => hlt x (by simp [hx])) (by omega)
    obtain ⟨b, e, nm, rfl, hw, z2⟩ := strs_cell (d := y2.1) (p := y2.2) g2 (fun x hx => hlt x (by simp [hx])) (by omega)
    obtain ⟨zs, k', _, hz, _, hzl, hzf⟩ := DataW.trod_struct Try.underlying25 g0
    match zs, hzl with
    | [u0, u1, u2, u3, u4], _ =>
      have f0 := hzf 0 _ rfl
      have f1 := hzf 1 _ rfl
      have f2 := hzf 2 _ rfl
      have f3 := hzf 3 _ rfl
      have f4 := hzf 4 _ rfl
      simp [Try.cellsB, Try.cellsS] at f0 f1 f2 f3 f4
      obtain ⟨b0, e0, _⟩ := DataW.trod_bool Try.underlying4 f0
      obtain ⟨b1, e1, _⟩ := DataW.trod_bool Try.underlying4 f1
      obtain ⟨b2, e2, _⟩ := DataW.trod_bool Try.underlying4 f2
      obtain ⟨b3, e3, _⟩ := DataW.trod_bool Try.underlying4 f3
      obtain ⟨s, e4, e5, _⟩ := DataW.trod_string Try.underlying9 f4
      simp at e0 e1 e2 e3 e4
      subst e0; subst e1; subst e2; subst e3; subst e4
      have hs : s.size ≤ Rows.uptoBulk y0.1 := by
        rw [hz]
        simp only [List.map_cons, List.map_nil, Rows.uptoBulk, Rows.uptoBulkAll, e5, szb]
        omega
      exact ⟨⟨b0, b1, b2, b3, s, sc, nm⟩, a, b, c, e, rfl, ⟨hr, hw, by show s.size ≤ _; omega⟩, by show s.size + pbk sc + tbk nm ≤ _; omega⟩
end Go.Proofs.Ytklcfjakhabbgaa
