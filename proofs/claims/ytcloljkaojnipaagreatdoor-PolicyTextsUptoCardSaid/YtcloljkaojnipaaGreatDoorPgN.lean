/- What policy.Normal answers. What policy.Normal answers of a right policy. -/
import Derived.Test.YtcloljkaojnipaaGreatDoorPgO
import Derived.Test.YtcloljkaojnipaaGreatDoorPgK
import Derived.Test.YtcloljkaojnipaaGreatDoorPgM
import Derived.Deep.DeepCutAuto
namespace Go.Proofs.YtcloljkaojnipaaGreatDoor
open Go.RowKit

theorem PRow.both {w : World} {b : Nat} {v : Value} {l : List (List ByteArray)} (h : PRow w b v l) : PRowO w b v v l := by obtain ⟨xs, h1, h2⟩ := h; exact ⟨xs, h1, h2, h2⟩
theorem PRow.base {w : World} {b b' : Nat} {v : Value} {l : List (List ByteArray)} (h : PRow w b v l) (hb : b' ≤ b) : PRow w b' v l := (h.both.base hb).row
def polO (x0 x1 : Value) (f m o e : Int) : Obj := .cells #[x0, x1, .int .i64 f, .int .i64 m, .int .i64 o, .int .i64 e] 24 (0, 0)
/-- What a store into a policy's own block leaves of a row. -/
theorem PRow.keep {w w' : World} {b g : Nat} {v x0 x1 : Value} {f m o e : Int} {l : List (List ByteArray)} (h : PRow w b v l) (hg : w.heap[g]? = some (polO x0 x1 f m o e)) (h0 : ∀ s, x0 ≠ .string s ∧ x1 ≠ .string s) (ht : Tu (fun k => k = g) w w') (hb : g < b) : PRow w' b v l := by
  refine (h.both.far ht (fun k hk e => ?_) (fun x c p hs hp ad hx => ?_)).row
  · obtain ⟨xs, k1, _⟩ := h
    have := (k1.lt k hk).1
    omega
  · refine strs_far hg (fun j s q => ?_) hs hp ad hx
    rcases (show j = 0 ∨ j = 1 ∨ j = 2 ∨ j = 3 ∨ j = 4 ∨ j = 5 ∨ 6 ≤ j by omega) with rfl | rfl | rfl | rfl | rfl | rfl | hj
    · exact (h0 s).1 (Option.some.inj q)
    · exact (h0 s).2 (Option.some.inj q)
    · cases Option.some.inj q
    · cases Option.some.inj q
    · cases Option.some.inj q
    · cases Option.some.inj q
    · rw [Array.getElem?_eq_none (by simpa using hj)] at q; cases q
theorem results_pol2 {fn : Func} {p a : Tmp} (h : fn.results = #[.cell p 24, .tmp a]) (tmps : Array Value) (w : World) (g : Nat) (x0 x1 x2 x3 x4 x5 : Value)
    (hp : tmps.getD p undef = .pointer (some ⟨g, 0, none⟩)) (hg : w.heap[g]? = some (.cells #[x0, x1, x2, x3, x4, x5] 24 (0, 0))) :
    (results fn tmps).run Tryz.prog w = .ok (.tuple #[.agg #[x0, x1, x2, x3, x4, x5], tmps.getD a undef]) w := by
  have hp' : tmps[p]?.getD undef = .pointer (some ⟨g, 0, none⟩) := by simpa using hp
  have hl := run_loadVar_row (P := Tryz.prog) w g 24 24 #[x0, x1, x2, x3, x4, x5] (0, 0) _ hg Tryz.underlying24 rfl (by kernel_rfl)
  simp [results, h, hp', asAddr, hl]
def put6 (w : World) (g : Nat) (x0 x1 x2 x3 x4 x5 : Value) : World := (((((w.setCell ⟨g, 0, none⟩ x0).setCell ⟨g, 1, none⟩ x1).setCell ⟨g, 2, none⟩ x2).setCell ⟨g, 3, none⟩ x3).setCell ⟨g, 4, none⟩ x4).setCell ⟨g, 5, none⟩ x5
theorem put6_at {w : World} {g : Nat} {a0 a1 a2 a3 a4 a5 : Value} {t : TypeId} (hg : w.heap[g]? = some (.cells #[a0, a1, a2, a3, a4, a5] t (0, 0))) (x0 x1 x2 x3 x4 x5 : Value) :
    (put6 w g x0 x1 x2 x3 x4 x5).heap[g]? = some (.cells #[x0, x1, x2, x3, x4, x5] t (0, 0)) ∧ Tu (fun k => k = g) w (put6 w g x0 x1 x2 x3 x4 x5) := by
  have k1 := heap_setCell_same _ g 0 _ _ x0 hg
  have k2 := heap_setCell_same _ g 1 _ _ x1 k1
  have k3 := heap_setCell_same _ g 2 _ _ x2 k2
  have k4 := heap_setCell_same _ g 3 _ _ x3 k3
  have k5 := heap_setCell_same _ g 4 _ _ x4 k4
  have k6 := heap_setCell_same _ g 5 _ _ x5 k5
  refine ⟨?_, ?_⟩
  · unfold put6
    rw [k6]; simp
  · unfold put6
    exact ((((((Tu.refl (fun k => k = g) w).setCell (p := ⟨g, 0, none⟩) (fun _ => rfl) _).setCell (p := ⟨g, 1, none⟩) (fun _ => rfl) _).setCell (p := ⟨g, 2, none⟩) (fun _ => rfl) _).setCell (p := ⟨g, 3, none⟩) (fun _ => rfl) _).setCell (p := ⟨g, 4, none⟩) (fun _ => rfl) _).setCell (p := ⟨g, 5, none⟩) (fun _ => rfl) _
/-- What Normal leaves of a right policy. -/
def NormE (w : World) (R W : List (List ByteArray)) (f m o e : Int) (x : Ending) (w' : World) : Prop := Below w.heap.size w w' ∧ ∃ cR cW aR aW nR nW, Pl.Cov R cR ∧ Pl.Cov W cW ∧ cR.length ≤ R.length ∧ cW.length ≤ W.length ∧
  x = .returned (.tuple #[.agg #[.slice aR cR.length nR, .slice aW cW.length nW, .int .i64 f, .int .i64 m, .int .i64 o, .int .i64 e], .int .i64 0]) ∧ PRow w' w.heap.size (.slice aR cR.length nR) cR ∧ PRow w' w.heap.size (.slice aW cW.length nW) cW

set_option maxRecDepth 100000 in
set_option maxHeartbeats 4000000 in
theorem pnormal_no (ar aw : Option Addr) (cr cw : Nat) (R W : List (List ByteArray)) (f m o e : Int) (w : World) (hr : Pts w ar cr R) (hw : Pts w aw cw W) (hc : Pl.polC R W f m o e = 50) :
    Calls Tryz.prog 10 #[.agg #[.slice ar R.length cr, .slice aw W.length cw, .int .i64 f, .int .i64 m, .int .i64 o, .int .i64 e]] w fun x w' => x = .returned (.tuple #[.agg #[.slice none 0 0, .slice none 0 0, .int .i64 0, .int .i64 0, .int .i64 0, .int .i64 0], .int .i64 50]) ∧ Below w.heap.size w w' := by
  obtain ⟨wa, hwa⟩ : ∃ wa, wa = (w.alloc (.cells #[.slice ar R.length cr, .slice aw W.length cw, .int .i64 f, .int .i64 m, .int .i64 o, .int .i64 e] 24)).alloc zPol := ⟨_, rfl⟩
  have hB : Below w.heap.size w wa := by rw [hwa]; exact ((Below.refl _ _).alloc (Nat.le_refl _) _).alloc (by simp) _
  have HB : Hid (Below w.heap.size w wa) := hB
  have hz : wa.heap[w.heap.size + 1]? = some zPol := by rw [hwa, show w.heap.size + 1 = (w.alloc (.cells #[.slice ar R.length cr, .slice aw W.length cw, .int .i64 f, .int .i64 m, .int .i64 o, .int .i64 e] 24)).heap.size from by simp]; exact heap_alloc_new _ _
  have HW : Hid (wa = (w.alloc (.cells #[.slice ar R.length cr, .slice aw W.length cw, .int .i64 f, .int .i64 m, .int .i64 o, .int .i64 e] 24)).alloc zPol) := hwa
  have H1 := check_any ar aw cr cw R W f m o e wa (hr.below hB) (hw.below hB)
  rw [hc] at H1
  have hlr := hr.len
  have hlw := hw.len
  have HZ : Hid (wa.heap[w.heap.size + 1]? = some zPol) := hz
  clear hwa hz hB hr hw hc
  simp only [zPol] at HW
  go_enter Tryz.func10, Tryz.ntmps10
  go_wp2_with fail
  rw [← HW.out]
  refine H1.mono ?_
  rintro x w1 ⟨rfl, hb1⟩
  have z0 : w1.heap[w.heap.size + 1]? = some zPol := (hb1.block _ (lt_of_block HZ.out)).trans HZ.out
  have HY0 : Hid (w1.heap[w.heap.size + 1]? = some zPol) := z0
  have p0 : w1.cell? ⟨w.heap.size + 1, 0, none⟩ = some (.slice none 0 0) := by simp only [World.cell?, z0]; rfl
  have p1 : w1.cell? ⟨w.heap.size + 1, 1, none⟩ = some (.slice none 0 0) := by simp only [World.cell?, z0]; rfl
  have p2 : w1.cell? ⟨w.heap.size + 1, 2, none⟩ = some (.int .i64 0) := by simp only [World.cell?, z0]; rfl
  have p3 : w1.cell? ⟨w.heap.size + 1, 3, none⟩ = some (.int .i64 0) := by simp only [World.cell?, z0]; rfl
  have p4 : w1.cell? ⟨w.heap.size + 1, 4, none⟩ = some (.int .i64 0) := by simp only [World.cell?, z0]; rfl
  have p5 : w1.cell? ⟨w.heap.size + 1, 5, none⟩ = some (.int .i64 0) := by simp only [World.cell?, z0]; rfl
  have f0 : ∀ j, w1.frozen? ⟨w.heap.size + 1, j, none⟩ = false := fun j => frozen_of_row w1 _ j _ _ z0
  have HB1 : Hid (Below w.heap.size w w1) := HB.out.trans (hb1.mono HB.out.size)
  clear z0 hb1
  go_wp2_with fail
  obtain ⟨y0, y1⟩ := put6_at HY0.out (.slice none 0 0) (.slice none 0 0) (.int .i64 0) (.int .i64 0) (.int .i64 0) (.int .i64 0)
  refine bodyPost_ret (results_pol2 rfl _ _ (w.heap.size + 1) _ _ _ _ _ _ rfl y0) rfl ?_
  exact ⟨rfl, HB1.out.trans (y1.below HB1.out.size (fun k e => by omega))⟩
end Go.Proofs.YtcloljkaojnipaaGreatDoor
namespace Go.Proofs.YtcloljkaojnipaaGreatDoor
open Go.RowKit

/-- What is known behind one cover. -/
structure Cvd (w0 w : World) (R : List (List ByteArray)) (c : List (List ByteArray)) (v : Value) (B : Nat) : Prop where
  cov : Pl.Cov R c
  len : c.length ≤ R.length
  row : PRow w B v c
  bel : Below w0.heap.size w0 w
theorem cover_at (a : Option Addr) (cap : Nat) (l : List (List ByteArray)) (w0 W : World) (h : Pts w0 a cap l) (hb : Below w0.heap.size w0 W) :
    Calls Tryz.prog 28 #[.slice a l.length cap] W fun e w' => ∃ (c : List (List ByteArray)) (av : Option Addr) (n : Nat), e = .returned (.slice av c.length n) ∧ Hid (Cvd w0 w' l c (.slice av c.length n) w0.heap.size ∧ Below W.heap.size W w') ∧ c.length ≤ 5864062014806 := by
  have hl := h.len
  refine (cover_any a cap l W (h.below hb)).mono ?_
  rintro e w' ⟨c, v, rfl, h1, h2, h3, h4⟩
  obtain ⟨av, n, rfl, _⟩ := h3.pts (by omega)
  exact ⟨c, av, n, rfl, ⟨⟨h1, h2, h3.base hb.size, hb.trans (h4.mono hb.size)⟩, h4⟩, by omega⟩

set_option maxRecDepth 100000 in
set_option maxHeartbeats 4000000 in
theorem pnormal_yes (ar aw : Option Addr) (cr cw : Nat) (R W : List (List ByteArray)) (f m o e : Int) (w : World) (hr : Pts w ar cr R) (hw : Pts w aw cw W) (hc : Pl.polC R W f m o e = 0) :
    Calls Tryz.prog 10 #[.agg #[.slice ar R.length cr, .slice aw W.length cw, .int .i64 f, .int .i64 m, .int .i64 o, .int .i64 e]] w (NormE w R W f m o e) := by
  obtain ⟨wa, hwa⟩ : ∃ wa, wa = (w.alloc (.cells #[.slice ar R.length cr, .slice aw W.length cw, .int .i64 f, .int .i64 m, .int .i64 o, .int .i64 e] 24)).alloc zPol := ⟨_, rfl⟩
  have hB : Below w.heap.size w wa := by rw [hwa]; exact ((Below.refl _ _).alloc (Nat.le_refl _) _).alloc (by simp) _
  have HB : Hid (Below w.heap.size w wa) := hB
  have hz : wa.heap[w.heap.size + 1]? = some zPol := by rw [hwa, show w.heap.size + 1 = (w.alloc (.cells #[.slice ar R.length cr, .slice aw W.length cw, .int .i64 f, .int .i64 m, .int .i64 o, .int .i64 e] 24)).heap.size from by simp]; exact heap_alloc_new _ _
  have hx : wa.heap[w.heap.size]? = some (polO (.slice ar R.length cr) (.slice aw W.length cw) f m o e) := by rw [hwa, heap_alloc_old _ _ (by simp)]; exact heap_alloc_new _ _
  have HW : Hid (wa = (w.alloc (.cells #[.slice ar R.length cr, .slice aw W.length cw, .int .i64 f, .int .i64 m, .int .i64 o, .int .i64 e] 24)).alloc zPol) := hwa
  have H1 := check_any ar aw cr cw R W f m o e wa (hr.below hB) (hw.below hB)
  rw [hc] at H1
  have hlr := hr.len
  have hlw := hw.len
  have HZ : Hid (wa.heap[w.heap.size + 1]? = some zPol ∧ wa.heap[w.heap.size]? = some (polO (.slice ar R.length cr) (.slice aw W.length cw) f m o e)) := ⟨hz, hx⟩
  have HP : Hid (Pts wa ar cr R ∧ Pts wa aw cw W) := ⟨hr.below hB, hw.below hB⟩
  clear hwa hz hx hB hr hw hc
  simp only [zPol] at HW
  go_enter Tryz.func10, Tryz.ntmps10
  go_wp2_with fail
  rw [← HW.out]
  refine H1.mono ?_
  rintro x w1 ⟨rfl, hb1⟩
  have HZ1 : Hid (w1.heap[w.heap.size + 1]? = some zPol ∧ w1.heap[w.heap.size]? = some (polO (.slice ar R.length cr) (.slice aw W.length cw) f m o e)) := ⟨(hb1.block _ (lt_of_block HZ.out.1)).trans HZ.out.1, (hb1.block _ (lt_of_block HZ.out.2)).trans HZ.out.2⟩
  have HP1 : Hid (Pts w1 ar cr R ∧ Pts w1 aw cw W) := ⟨HP.out.1.below hb1, HP.out.2.below hb1⟩
  have HB1 : Hid (Below w.heap.size w w1) := HB.out.trans (hb1.mono HB.out.size)
  have hsz : w.heap.size + 1 < w1.heap.size := lt_of_block HZ1.out.1
  clear hb1 HZ HP HB HW H1
  have a0 : w1.cell? ⟨w.heap.size, 0, none⟩ = some (.slice ar R.length cr) := by simp only [World.cell?, HZ1.out.2]; rfl
  have a1 : w1.cell? ⟨w.heap.size, 1, none⟩ = some (.slice aw W.length cw) := by simp only [World.cell?, HZ1.out.2]; rfl
  have HC1 : Hid (∀ V, Below w1.heap.size w1 V → Calls Tryz.prog 28 #[.slice ar R.length cr] V fun e w' => ∃ (c : List (List ByteArray)) (av : Option Addr) (n : Nat), e = .returned (.slice av c.length n) ∧ Hid (Cvd w1 w' R c (.slice av c.length n) w1.heap.size ∧ Below V.heap.size V w') ∧ c.length ≤ 5864062014806) := fun V hV => cover_at ar cr R w1 V HP1.out.1 hV
  have HC2 : Hid (∀ V, Below w1.heap.size w1 V → Calls Tryz.prog 28 #[.slice aw W.length cw] V fun e w' => ∃ (c : List (List ByteArray)) (av : Option Addr) (n : Nat), e = .returned (.slice av c.length n) ∧ Hid (Cvd w1 w' W c (.slice av c.length n) w1.heap.size ∧ Below V.heap.size V w') ∧ c.length ≤ 5864062014806) := fun V hV => cover_at aw cw W w1 V HP1.out.2 hV
  go_upto_region 4 with fail
  go_cut [] (fun wx => ∃ (cR cW : List (List ByteArray)) (avR avW : Option Addr) (nR nW : Nat), Hid (Pl.Cov R cR ∧ Pl.Cov W cW ∧ cR.length ≤ R.length ∧ cW.length ≤ W.length ∧ PRow wx w1.heap.size (.slice avR cR.length nR) cR ∧ PRow wx w1.heap.size (.slice avW cW.length nW) cW ∧ Below w.heap.size w wx ∧ wx.heap[w.heap.size]? = some (polO (.slice avR cR.length nR) (.slice avW cW.length nW) f m o e) ∧ wx.heap[w.heap.size + 1]? = some zPol ∧ w1.heap.size ≤ wx.heap.size))
  case first =>
    go_region_with (go_at_call 28; first | (refine (HC2.out _ K1.out.1.bel).mono ?_; rintro ex w3 ⟨cW, avW, nW, rfl, K2, hcw⟩; have b0 : w3.cell? ⟨w.heap.size, 0, none⟩ = some (.slice ar R.length cr) := (K2.out.1.bel.cell (p := ⟨w.heap.size, 0, none⟩) (by show w.heap.size < _; omega)).trans a0; have b1 : w3.cell? ⟨w.heap.size, 1, none⟩ = some (.slice aw W.length cw) := (K2.out.1.bel.cell (p := ⟨w.heap.size, 1, none⟩) (by show w.heap.size < _; omega)).trans a1; have b2 : ∀ j, w3.frozen? ⟨w.heap.size, j, none⟩ = false := fun j => frozen_of_row w3 _ j _ _ ((K2.out.1.bel.block _ (by omega)).trans HZ1.out.2)) | (refine (HC1.out _ (below_drewN (Below.refl _ w1) 1)).mono ?_; rintro ex w2 ⟨cR, avR, nR, rfl, K1, hcr⟩; have c1 : w2.cell? ⟨w.heap.size, 1, none⟩ = some (.slice aw W.length cw) := (K1.out.1.bel.cell (p := ⟨w.heap.size, 1, none⟩) (by show w.heap.size < _; omega)).trans a1))
    all_goals
      have hb3 := K2.out.1.bel
      have hx3 := (hb3.block _ (by omega)).trans HZ1.out.2
      have hz3 := (hb3.block _ (by omega)).trans HZ1.out.1
      have t1 : Tu (fun k => k = w.heap.size) w3 ((w3.setCell ⟨w.heap.size, 0, none⟩ (.slice avR cR.length nR)).setCell ⟨w.heap.size, 1, none⟩ (.slice avW cW.length nW)) := ((Tu.refl (fun k => k = w.heap.size) w3).setCell (p := ⟨w.heap.size, 0, none⟩) (fun _ => rfl) _).setCell (p := ⟨w.heap.size, 1, none⟩) (fun _ => rfl) _
      have hx4 := heap_setCell_same _ w.heap.size 1 _ _ (.slice avW cW.length nW) (heap_setCell_same _ w.heap.size 0 _ _ (.slice avR cR.length nR) hx3)
      have hz4 := (t1.block (w.heap.size + 1) (by have := hb3.size; omega) (by omega)).trans hz3
      have h0 : ∀ s, (Value.slice ar R.length cr) ≠ .string s ∧ (Value.slice aw W.length cw) ≠ .string s := fun s => ⟨by simp, by simp⟩
      have rR := (K1.out.1.row.below (K2.out.2.mono (Nat.le_refl _))).keep hx3 h0 t1 (by omega)
      have rW := K2.out.1.row.keep hx3 h0 t1 (by omega)
      have HF : Hid (Pl.Cov R cR ∧ Pl.Cov W cW ∧ cR.length ≤ R.length ∧ cW.length ≤ W.length ∧ PRow ((w3.setCell ⟨w.heap.size, 0, none⟩ (.slice avR cR.length nR)).setCell ⟨w.heap.size, 1, none⟩ (.slice avW cW.length nW)) w1.heap.size (.slice avR cR.length nR) cR ∧ PRow ((w3.setCell ⟨w.heap.size, 0, none⟩ (.slice avR cR.length nR)).setCell ⟨w.heap.size, 1, none⟩ (.slice avW cW.length nW)) w1.heap.size (.slice avW cW.length nW) cW ∧ Below w.heap.size w ((w3.setCell ⟨w.heap.size, 0, none⟩ (.slice avR cR.length nR)).setCell ⟨w.heap.size, 1, none⟩ (.slice avW cW.length nW)) ∧ ((w3.setCell ⟨w.heap.size, 0, none⟩ (.slice avR cR.length nR)).setCell ⟨w.heap.size, 1, none⟩ (.slice avW cW.length nW)).heap[w.heap.size]? = some (polO (.slice avR cR.length nR) (.slice avW cW.length nW) f m o e) ∧ ((w3.setCell ⟨w.heap.size, 0, none⟩ (.slice avR cR.length nR)).setCell ⟨w.heap.size, 1, none⟩ (.slice avW cW.length nW)).heap[w.heap.size + 1]? = some zPol ∧ w1.heap.size ≤ ((w3.setCell ⟨w.heap.size, 0, none⟩ (.slice avR cR.length nR)).setCell ⟨w.heap.size, 1, none⟩ (.slice avW cW.length nW)).heap.size) :=
        ⟨K1.out.1.cov, K2.out.1.cov, K1.out.1.len, K2.out.1.len, rR, rW, (HB1.out.trans (hb3.mono HB1.out.size)).trans (t1.below (Nat.le_trans HB1.out.size hb3.size) (fun k e => by omega)), by rw [hx4]; simp [polO], hz4, Nat.le_trans hb3.size t1.size⟩
      clear hb3 hx3 hz3 t1 hx4 hz4 h0 rR rW K1 K2 b0 b1 b2
      go_wp2_with fail
      go_meet
      case rel => exact ⟨cR, cW, avR, avW, nR, nW, HF⟩
  case rest =>
    obtain ⟨cR, cW, avR, avW, nR, nW, HF⟩ := hcut
    clear a0 a1 HC1 HC2 HZ1 HP1
    have x0 : wc.cell? ⟨w.heap.size, 0, none⟩ = some (.slice avR cR.length nR) := by simp only [World.cell?, HF.out.2.2.2.2.2.2.2.1]; rfl
    have x1 : wc.cell? ⟨w.heap.size, 1, none⟩ = some (.slice avW cW.length nW) := by simp only [World.cell?, HF.out.2.2.2.2.2.2.2.1]; rfl
    have x2 : wc.cell? ⟨w.heap.size, 2, none⟩ = some (.int .i64 f) := by simp only [World.cell?, HF.out.2.2.2.2.2.2.2.1]; rfl
    have x3 : wc.cell? ⟨w.heap.size, 3, none⟩ = some (.int .i64 m) := by simp only [World.cell?, HF.out.2.2.2.2.2.2.2.1]; rfl
    have x4 : wc.cell? ⟨w.heap.size, 4, none⟩ = some (.int .i64 o) := by simp only [World.cell?, HF.out.2.2.2.2.2.2.2.1]; rfl
    have x5 : wc.cell? ⟨w.heap.size, 5, none⟩ = some (.int .i64 e) := by simp only [World.cell?, HF.out.2.2.2.2.2.2.2.1]; rfl
    have z0 := HF.out.2.2.2.2.2.2.2.2.1
    have p0 : wc.cell? ⟨w.heap.size + 1, 0, none⟩ = some (.slice none 0 0) := by simp only [World.cell?, z0]; rfl
    have p1 : wc.cell? ⟨w.heap.size + 1, 1, none⟩ = some (.slice none 0 0) := by simp only [World.cell?, z0]; rfl
    have p2 : wc.cell? ⟨w.heap.size + 1, 2, none⟩ = some (.int .i64 0) := by simp only [World.cell?, z0]; rfl
    have p3 : wc.cell? ⟨w.heap.size + 1, 3, none⟩ = some (.int .i64 0) := by simp only [World.cell?, z0]; rfl
    have p4 : wc.cell? ⟨w.heap.size + 1, 4, none⟩ = some (.int .i64 0) := by simp only [World.cell?, z0]; rfl
    have p5 : wc.cell? ⟨w.heap.size + 1, 5, none⟩ = some (.int .i64 0) := by simp only [World.cell?, z0]; rfl
    have f0 : ∀ j, wc.frozen? ⟨w.heap.size + 1, j, none⟩ = false := fun j => frozen_of_row wc _ j _ _ z0
    clear z0
    go_wp2_with fail
    obtain ⟨y0, y1⟩ := put6_at HF.out.2.2.2.2.2.2.2.2.1 (.slice avR cR.length nR) (.slice avW cW.length nW) (.int .i64 f) (.int .i64 m) (.int .i64 o) (.int .i64 e)
    refine bodyPost_ret (results_pol2 rfl _ _ (w.heap.size + 1) _ _ _ _ _ _ rfl y0) rfl ?_
    obtain ⟨h1, h2, h3, h4, h5, h6, h7, h8, h9, h10⟩ := HF.out
    have h0 : ∀ s, (Value.slice none 0 0) ≠ .string s ∧ (Value.slice none 0 0) ≠ .string s := fun s => ⟨by simp, by simp⟩
    exact ⟨h7.trans (y1.below h7.size (fun k e => by omega)), cR, cW, avR, avW, nR, nW, h1, h2, h3, h4, rfl, (h5.keep (x0 := .slice none 0 0) (x1 := .slice none 0 0) (f := 0) (m := 0) (o := 0) (e := 0) h9 h0 y1 (by omega)).base HB1.out.size, (h6.keep (x0 := .slice none 0 0) (x1 := .slice none 0 0) (f := 0) (m := 0) (o := 0) (e := 0) h9 h0 y1 (by omega)).base HB1.out.size⟩
end Go.Proofs.YtcloljkaojnipaaGreatDoor
