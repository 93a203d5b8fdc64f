/- What the reference's Copy and Normal answer of a policy. What the reference's met, Meet, inside and Within answer. What the reference's Within answers. What the reference's Meet answers. -/
import Derived.Test.YtcloljkaojnipaaGreatDoorPgN
import Derived.Test.YtcloljkaojnipaaGreatDoorRefCover
import Derived.Test.YtcloljkaojnipaaGreatDoorPgX
import Derived.Deep.RegionHeld3
namespace Go.Proofs.YtcloljkaojnipaaGreatDoor
open Go.RowKit

/-- A policy in a block, a zero one behind it. -/
structure Pz (w0 w : World) (x0 x1 : Value) (f m o e : Int) : Prop where
  bel : Below w0.heap.size w0 w
  x : w.heap[w0.heap.size]? = some (polO x0 x1 f m o e)
  z : w.heap[w0.heap.size + 1]? = some zPol
theorem Pz.under {w0 w w' : World} {x0 x1 : Value} {f m o e : Int} (h : Pz w0 w x0 x1 f m o e) (hb : Below w.heap.size w w') : Pz w0 w' x0 x1 f m o e :=
  ⟨h.bel.trans (hb.mono h.bel.size), (hb.block _ (lt_of_block h.x)).trans h.x, (hb.block _ (lt_of_block h.z)).trans h.z⟩
theorem Pz.tu {w0 w : World} {x0 x1 : Value} {f m o e : Int} (_ : Pz w0 w x0 x1 f m o e) (j : Nat) (v : Value) : Tu (fun k => k = w0.heap.size) w (w.setCell ⟨w0.heap.size, j, none⟩ v) := (Tu.refl (fun k => k = w0.heap.size) w).setCell (p := ⟨w0.heap.size, j, none⟩) (fun _ => rfl) _
theorem Pz.set0 {w0 w : World} {x0 x1 : Value} {f m o e : Int} (h : Pz w0 w x0 x1 f m o e) (v : Value) : Pz w0 (w.setCell ⟨w0.heap.size, 0, none⟩ v) v x1 f m o e :=
  ⟨h.bel.trans ((h.tu 0 v).below h.bel.size (fun k e => by omega)), by rw [heap_setCell_same _ _ 0 _ _ _ h.x]; simp [polO], ((h.tu 0 v).block (w0.heap.size + 1) (lt_of_block h.z) (by omega)).trans h.z⟩
theorem Pz.set1 {w0 w : World} {x0 x1 : Value} {f m o e : Int} (h : Pz w0 w x0 x1 f m o e) (v : Value) : Pz w0 (w.setCell ⟨w0.heap.size, 1, none⟩ v) x0 v f m o e :=
  ⟨h.bel.trans ((h.tu 1 v).below h.bel.size (fun k e => by omega)), by rw [heap_setCell_same _ _ 1 _ _ _ h.x]; simp [polO], ((h.tu 1 v).block (w0.heap.size + 1) (lt_of_block h.z) (by omega)).trans h.z⟩
theorem pz_new (w : World) (ar aw : Option Addr) (cr cw : Nat) (R W : List (List ByteArray)) (f m o e : Int) : Pz w ((w.alloc (.cells #[.slice ar R.length cr, .slice aw W.length cw, .int .i64 f, .int .i64 m, .int .i64 o, .int .i64 e] 24)).alloc zPol) (.slice ar R.length cr) (.slice aw W.length cw) f m o e :=
  ⟨((Below.refl _ _).alloc (Nat.le_refl _) _).alloc (by simp) _, by rw [heap_alloc_old _ _ (by simp)]; exact heap_alloc_new _ _, by rw [show w.heap.size + 1 = (w.alloc (.cells #[.slice ar R.length cr, .slice aw W.length cw, .int .i64 f, .int .i64 m, .int .i64 o, .int .i64 e] 24)).heap.size from by simp]; exact heap_alloc_new _ _⟩
theorem cells_pol {w : World} {g : Nat} {x0 x1 : Value} {f m o e : Int} (h : w.heap[g]? = some (polO x0 x1 f m o e)) : (w.cell? ⟨g, 0, none⟩ = some x0 ∧ w.cell? ⟨g, 1, none⟩ = some x1 ∧ w.cell? ⟨g, 2, none⟩ = some (.int .i64 f) ∧ w.cell? ⟨g, 3, none⟩ = some (.int .i64 m) ∧ w.cell? ⟨g, 4, none⟩ = some (.int .i64 o) ∧ w.cell? ⟨g, 5, none⟩ = some (.int .i64 e)) ∧ ∀ j, w.frozen? ⟨g, j, none⟩ = false := by
  simp only [World.cell?, h]
  exact ⟨⟨rfl, rfl, rfl, rfl, rfl, rfl⟩, fun j => frozen_of_row w _ j _ _ h⟩
theorem cells_zer {w : World} {g : Nat} (h : w.heap[g]? = some zPol) : (w.cell? ⟨g, 0, none⟩ = some (.slice none 0 0) ∧ w.cell? ⟨g, 1, none⟩ = some (.slice none 0 0) ∧ w.cell? ⟨g, 2, none⟩ = some (.int .i64 0) ∧ w.cell? ⟨g, 3, none⟩ = some (.int .i64 0) ∧ w.cell? ⟨g, 4, none⟩ = some (.int .i64 0) ∧ w.cell? ⟨g, 5, none⟩ = some (.int .i64 0)) ∧ ∀ j, w.frozen? ⟨g, j, none⟩ = false := cells_pol (x0 := .slice none 0 0) (x1 := .slice none 0 0) (f := 0) (m := 0) (o := 0) (e := 0) h
theorem PRow.far {w w' : World} {w0 : World} {b : Nat} {v x0 x1 : Value} {f m o e : Int} {l : List (List ByteArray)} (h : PRow w b v l) (hz : Pz w0 w x0 x1 f m o e) (h0 : ∀ s, x0 ≠ .string s ∧ x1 ≠ .string s) (ht : Tu (fun k => k = w0.heap.size) w w') (hb : w0.heap.size < b) : PRow w' b v l := h.keep hz.x h0 ht hb

set_option maxRecDepth 100000 in
set_option maxHeartbeats 1000000 in
theorem rpcopy_any (ar aw : Option Addr) (cr cw : Nat) (R W : List (List ByteArray)) (f m o e : Int) (w : World) (hr : Pts w ar cr R) (hw : Pts w aw cw W) :
    Calls Tryz.prog 9 #[.agg #[.slice ar R.length cr, .slice aw W.length cw, .int .i64 f, .int .i64 m, .int .i64 o, .int .i64 e]] w fun x w' => ∃ aR aW nR nW, x = .returned (.agg #[.slice aR R.length nR, .slice aW W.length nW, .int .i64 f, .int .i64 m, .int .i64 o, .int .i64 e]) ∧ PRow w' w.heap.size (.slice aR R.length nR) R ∧ PRow w' w.heap.size (.slice aW W.length nW) W ∧ Below w.heap.size w w' := by
  obtain ⟨wa, hwa⟩ : ∃ wa, wa = (w.alloc (.cells #[.slice ar R.length cr, .slice aw W.length cw, .int .i64 f, .int .i64 m, .int .i64 o, .int .i64 e] 24)).alloc zPol := ⟨_, rfl⟩
  have hP : Pz w wa (.slice ar R.length cr) (.slice aw W.length cw) f m o e := by rw [hwa]; exact pz_new w ar aw cr cw R W f m o e
  have HW : Hid (wa = (w.alloc (.cells #[.slice ar R.length cr, .slice aw W.length cw, .int .i64 f, .int .i64 m, .int .i64 o, .int .i64 e] 24)).alloc zPol) := hwa
  have C1 := copies_any ar cr R wa (hr.below hP.bel)
  have hlr := hr.len
  have hlw := hw.len
  have hsz : w.heap.size + 1 < wa.heap.size := lt_of_block hP.z
  have HP : Hid (Pz w wa (.slice ar R.length cr) (.slice aw W.length cw) f m o e ∧ Pts w aw cw W) := ⟨hP, hw⟩
  clear hwa hP hr hw
  simp only [zPol] at HW
  go_enter Tryz.func9, Tryz.ntmps9
  go_wp2_with fail
  rw [← HW.out]
  refine C1.mono ?_
  rintro x w2 ⟨v2, rfl, p2, b2⟩
  obtain ⟨aR, nR, rfl, _⟩ := p2.pts hlr
  have hP2 := HP.out.1.under b2
  obtain ⟨w3, hw3⟩ : ∃ w3, w3 = w2.setCell ⟨w.heap.size, 0, none⟩ (.slice aR R.length nR) := ⟨_, rfl⟩
  have hP3 : Pz w w3 (.slice aR R.length nR) (.slice aw W.length cw) f m o e := by rw [hw3]; exact hP2.set0 _
  have p3 : PRow w3 wa.heap.size (.slice aR R.length nR) R := by rw [hw3]; exact p2.far hP2 (fun s => ⟨by simp, by simp⟩) (hP2.tu 0 _) (by omega)
  have HW3 : Hid (w3 = w2.setCell ⟨w.heap.size, 0, none⟩ (.slice aR R.length nR)) := hw3
  have C2 := copies_any aw cw W w3 (HP.out.2.below hP3.bel)
  obtain ⟨⟨k0, k1, _⟩, kf⟩ := cells_pol hP2.x
  have HP3 : Hid (Pz w w3 (.slice aR R.length nR) (.slice aw W.length cw) f m o e ∧ PRow w3 wa.heap.size (.slice aR R.length nR) R) := ⟨hP3, p3⟩
  have hq3 : w2.heap.size ≤ w3.heap.size := by rw [hw3]; exact (hP2.tu 0 _).size
  have hq2 := b2.size
  clear HP HW C1 hw3 hP3 p3 hP2 p2 b2
  go_wp2_with fail
  rw [← HW3.out]
  refine C2.mono ?_
  rintro x w4 ⟨v4, rfl, p4, b4⟩
  obtain ⟨aW, nW, rfl, _⟩ := p4.pts hlw
  have hP4 := HP3.out.1.under b4
  obtain ⟨w5, hw5⟩ : ∃ w5, w5 = w4.setCell ⟨w.heap.size, 1, none⟩ (.slice aW W.length nW) := ⟨_, rfl⟩
  have hP5 : Pz w w5 (.slice aR R.length nR) (.slice aW W.length nW) f m o e := by rw [hw5]; exact hP4.set1 _
  have t5 : Tu (fun k => k = w.heap.size) w4 w5 := by rw [hw5]; exact hP4.tu 1 _
  have p5R : PRow w5 wa.heap.size (.slice aR R.length nR) R := (HP3.out.2.below b4).far hP4 (fun s => ⟨by simp, by simp⟩) t5 (by omega)
  have p5W : PRow w5 w3.heap.size (.slice aW W.length nW) W := p4.far hP4 (fun s => ⟨by simp, by simp⟩) t5 (by omega)
  have HW5 : Hid (w5 = w4.setCell ⟨w.heap.size, 1, none⟩ (.slice aW W.length nW)) := hw5
  obtain ⟨⟨l0, l1, l2, l3, l4, l5⟩, lf⟩ := cells_pol hP4.x
  obtain ⟨⟨n0, n1, n2, n3, n4, n5⟩, nf⟩ := cells_pol hP5.x
  obtain ⟨⟨o0, o1, o2, o3, o4, o5⟩, of⟩ := cells_zer hP5.z
  have HP5 : Hid (Pz w w5 (.slice aR R.length nR) (.slice aW W.length nW) f m o e ∧ PRow w5 wa.heap.size (.slice aR R.length nR) R ∧ PRow w5 w3.heap.size (.slice aW W.length nW) W) := ⟨hP5, p5R, p5W⟩
  clear HP3 HW3 C2 hw5 hP5 t5 p5R p5W hP4 p4 b4 k0 k1 kf
  go_upto_region 3 with fail
  rw [← HW5.out]
  go_wp2_with fail
  obtain ⟨y0, y1⟩ := put6_at HP5.out.1.z (.slice aR R.length nR) (.slice aW W.length nW) (.int .i64 f) (.int .i64 m) (.int .i64 o) (.int .i64 e)
  refine bodyPost_ret (results_cell_row rfl _ _ (w.heap.size + 1) _ _ _ _ rfl y0 Tryz.underlying24 rfl (by kernel_rfl)) rfl ?_
  obtain ⟨h1, h2, h3⟩ := HP5.out
  have h0 : ∀ s, (Value.slice none 0 0) ≠ .string s ∧ (Value.slice none 0 0) ≠ .string s := fun s => ⟨by simp, by simp⟩
  have hg3 : w.heap.size + 1 < w3.heap.size := by omega
  exact ⟨aR, aW, nR, nW, rfl, (h2.keep (x0 := .slice none 0 0) (x1 := .slice none 0 0) (f := 0) (m := 0) (o := 0) (e := 0) h1.z h0 y1 (by omega)).base (by omega), (h3.keep (x0 := .slice none 0 0) (x1 := .slice none 0 0) (f := 0) (m := 0) (o := 0) (e := 0) h1.z h0 y1 hg3).base (by omega), h1.bel.trans (y1.below h1.bel.size (fun k e => by omega))⟩

set_option maxRecDepth 100000 in
set_option maxHeartbeats 1000000 in
theorem rpnormal_no (ar aw : Option Addr) (cr cw : Nat) (R W : List (List ByteArray)) (f m o e : Int) (w : World) (hr : Pts w ar cr R) (hw : Pts w aw cw W) (hc : Pl.polC R W f m o e = 50) :
    Calls Tryz.prog 11 #[.agg #[.slice ar R.length cr, .slice aw W.length cw, .int .i64 f, .int .i64 m, .int .i64 o, .int .i64 e]] w fun x w' => x = .returned (.tuple #[.agg #[.slice none 0 0, .slice none 0 0, .int .i64 0, .int .i64 0, .int .i64 0, .int .i64 0], .int .i64 50]) ∧ Below w.heap.size w w' := by
  obtain ⟨wa, hwa⟩ : ∃ wa, wa = (w.alloc (.cells #[.slice ar R.length cr, .slice aw W.length cw, .int .i64 f, .int .i64 m, .int .i64 o, .int .i64 e] 24)).alloc zPol := ⟨_, rfl⟩
  have hP : Pz w wa (.slice ar R.length cr) (.slice aw W.length cw) f m o e := by rw [hwa]; exact pz_new w ar aw cr cw R W f m o e
  have HW : Hid (wa = (w.alloc (.cells #[.slice ar R.length cr, .slice aw W.length cw, .int .i64 f, .int .i64 m, .int .i64 o, .int .i64 e] 24)).alloc zPol) := hwa
  have C0 := rRight_any ar aw cr cw R W f m o e wa (hr.below hP.bel) (hw.below hP.bel)
  rw [hc] at C0
  have hlr := hr.len
  have hlw := hw.len
  have HP : Hid (Pz w wa (.slice ar R.length cr) (.slice aw W.length cw) f m o e) := hP
  clear hwa hP hr hw hc
  simp only [zPol] at HW
  go_enter Tryz.func11, Tryz.ntmps11
  go_wp2_with fail
  rw [← HW.out]
  refine C0.mono ?_
  rintro x w1 ⟨rfl, b1⟩
  have hP1 := HP.out.under b1
  obtain ⟨⟨o0, o1, o2, o3, o4, o5⟩, of⟩ := cells_zer hP1.z
  have HP1 : Hid (Pz w w1 (.slice ar R.length cr) (.slice aw W.length cw) f m o e) := hP1
  clear hP1 HP b1 C0 HW
  go_wp2_with fail
  obtain ⟨y0, y1⟩ := put6_at HP1.out.z (.slice none 0 0) (.slice none 0 0) (.int .i64 0) (.int .i64 0) (.int .i64 0) (.int .i64 0)
  refine bodyPost_ret (results_pol2 rfl _ _ (w.heap.size + 1) _ _ _ _ _ _ rfl y0) rfl ?_
  exact ⟨rfl, HP1.out.bel.trans (y1.below HP1.out.bel.size (fun k e => by omega))⟩

set_option maxRecDepth 100000 in
set_option maxHeartbeats 1000000 in
theorem rpnormal_yes (ar aw : Option Addr) (cr cw : Nat) (R W : List (List ByteArray)) (f m o e : Int) (w : World) (hr : Pts w ar cr R) (hw : Pts w aw cw W) (hc : Pl.polC R W f m o e = 0) :
    Calls Tryz.prog 11 #[.agg #[.slice ar R.length cr, .slice aw W.length cw, .int .i64 f, .int .i64 m, .int .i64 o, .int .i64 e]] w (NormE w R W f m o e) := by
  obtain ⟨wa, hwa⟩ : ∃ wa, wa = (w.alloc (.cells #[.slice ar R.length cr, .slice aw W.length cw, .int .i64 f, .int .i64 m, .int .i64 o, .int .i64 e] 24)).alloc zPol := ⟨_, rfl⟩
  have hP : Pz w wa (.slice ar R.length cr) (.slice aw W.length cw) f m o e := by rw [hwa]; exact pz_new w ar aw cr cw R W f m o e
  have HW : Hid (wa = (w.alloc (.cells #[.slice ar R.length cr, .slice aw W.length cw, .int .i64 f, .int .i64 m, .int .i64 o, .int .i64 e] 24)).alloc zPol) := hwa
  have C0 := rRight_any ar aw cr cw R W f m o e wa (hr.below hP.bel) (hw.below hP.bel)
  rw [hc] at C0
  have hlr := hr.len
  have hlw := hw.len
  have HP0 : Hid (Pz w wa (.slice ar R.length cr) (.slice aw W.length cw) f m o e ∧ Pts w aw cw W ∧ Pts w ar cr R) := ⟨hP, hw, hr⟩
  clear hwa hP hr hw hc
  simp only [zPol] at HW
  go_enter Tryz.func11, Tryz.ntmps11
  go_wp2_with fail
  rw [← HW.out]
  refine C0.mono ?_
  rintro x w1 ⟨rfl, b1⟩
  have hP1 := HP0.out.1.under b1
  have C1 := rcover_any ar cr R w1 (HP0.out.2.2.below hP1.bel)
  have hsz : w.heap.size + 1 < w1.heap.size := lt_of_block hP1.z
  have HP : Hid (Pz w w1 (.slice ar R.length cr) (.slice aw W.length cw) f m o e ∧ Pts w aw cw W) := ⟨hP1, HP0.out.2.1⟩
  obtain ⟨⟨k0, k1, _⟩, kf⟩ := cells_pol hP1.x
  clear HP0 hP1 b1 C0 HW
  go_wp2_with fail
  refine C1.mono ?_
  rintro x w2 ⟨cR, v2, rfl, q1, q2, p2, b2⟩
  obtain ⟨aR, nR, rfl, _⟩ := p2.pts (by omega)
  have hP2 := HP.out.1.under b2
  obtain ⟨w3, hw3⟩ : ∃ w3, w3 = w2.setCell ⟨w.heap.size, 0, none⟩ (.slice aR cR.length nR) := ⟨_, rfl⟩
  have hP3 : Pz w w3 (.slice aR cR.length nR) (.slice aw W.length cw) f m o e := by rw [hw3]; exact hP2.set0 _
  have p3 : PRow w3 w1.heap.size (.slice aR cR.length nR) cR := by rw [hw3]; exact p2.far hP2 (fun s => ⟨by simp, by simp⟩) (hP2.tu 0 _) (by omega)
  have HW3 : Hid (w3 = w2.setCell ⟨w.heap.size, 0, none⟩ (.slice aR cR.length nR)) := hw3
  have C2 := rcover_any aw cw W w3 (HP.out.2.below hP3.bel)
  have hcr : cR.length ≤ 5864062014806 := by omega
  have HP3 : Hid (Pz w w3 (.slice aR cR.length nR) (.slice aw W.length cw) f m o e ∧ PRow w3 w1.heap.size (.slice aR cR.length nR) cR ∧ Pl.Cov R cR ∧ cR.length ≤ R.length) := ⟨hP3, p3, q1, q2⟩
  have hq3 : w2.heap.size ≤ w3.heap.size := by rw [hw3]; exact (hP2.tu 0 _).size
  have hq2 := b2.size
  clear k0 k1 kf
  obtain ⟨⟨k0, k1, _⟩, kf⟩ := cells_pol hP2.x
  clear HP C1 hw3 hP3 p3 hP2 p2 b2 q1 q2
  go_wp2_with fail
  rw [← HW3.out]
  refine C2.mono ?_
  rintro x w4 ⟨cW, v4, rfl, q1, q2, p4, b4⟩
  obtain ⟨aW, nW, rfl, _⟩ := p4.pts (by omega)
  have hP4 := HP3.out.1.under b4
  obtain ⟨w5, hw5⟩ : ∃ w5, w5 = w4.setCell ⟨w.heap.size, 1, none⟩ (.slice aW cW.length nW) := ⟨_, rfl⟩
  have hP5 : Pz w w5 (.slice aR cR.length nR) (.slice aW cW.length nW) f m o e := by rw [hw5]; exact hP4.set1 _
  have t5 : Tu (fun k => k = w.heap.size) w4 w5 := by rw [hw5]; exact hP4.tu 1 _
  have p5R : PRow w5 w1.heap.size (.slice aR cR.length nR) cR := (HP3.out.2.1.below b4).far hP4 (fun s => ⟨by simp, by simp⟩) t5 (by omega)
  have p5W : PRow w5 w3.heap.size (.slice aW cW.length nW) cW := p4.far hP4 (fun s => ⟨by simp, by simp⟩) t5 (by omega)
  have HW5 : Hid (w5 = w4.setCell ⟨w.heap.size, 1, none⟩ (.slice aW cW.length nW)) := hw5
  have hcw : cW.length ≤ 5864062014806 := by omega
  obtain ⟨⟨l0, l1, l2, l3, l4, l5⟩, lf⟩ := cells_pol hP4.x
  obtain ⟨⟨n0, n1, n2, n3, n4, n5⟩, nf⟩ := cells_pol hP5.x
  obtain ⟨⟨o0, o1, o2, o3, o4, o5⟩, of⟩ := cells_zer hP5.z
  have HP5 : Hid (Pz w w5 (.slice aR cR.length nR) (.slice aW cW.length nW) f m o e ∧ PRow w5 w1.heap.size (.slice aR cR.length nR) cR ∧ PRow w5 w3.heap.size (.slice aW cW.length nW) cW ∧ Pl.Cov R cR ∧ cR.length ≤ R.length ∧ Pl.Cov W cW ∧ cW.length ≤ W.length) := ⟨hP5, p5R, p5W, HP3.out.2.2.1, HP3.out.2.2.2, q1, q2⟩
  clear HP3 HW3 C2 hw5 hP5 t5 p5R p5W hP4 p4 b4 k0 k1 kf q1 q2
  go_upto_region 5 with fail
  rw [← HW5.out]
  go_wp2_with fail
  obtain ⟨y0, y1⟩ := put6_at HP5.out.1.z (.slice aR cR.length nR) (.slice aW cW.length nW) (.int .i64 f) (.int .i64 m) (.int .i64 o) (.int .i64 e)
  refine bodyPost_ret (results_pol2 rfl _ _ (w.heap.size + 1) _ _ _ _ _ _ rfl y0) rfl ?_
  obtain ⟨h1, h2, h3, h4, h5, h6, h7⟩ := HP5.out
  have h0 : ∀ s, (Value.slice none 0 0) ≠ .string s ∧ (Value.slice none 0 0) ≠ .string s := fun s => ⟨by simp, by simp⟩
  exact ⟨h1.bel.trans (y1.below h1.bel.size (fun k e => by omega)), cR, cW, aR, aW, nR, nW, h4, h6, h5, h7, rfl, (h2.keep (x0 := .slice none 0 0) (x1 := .slice none 0 0) (f := 0) (m := 0) (o := 0) (e := 0) h1.z h0 y1 (by omega)).base (by omega), (h3.keep (x0 := .slice none 0 0) (x1 := .slice none 0 0) (f := 0) (m := 0) (o := 0) (e := 0) h1.z h0 y1 (by omega)).base (by omega)⟩
end Go.Proofs.YtcloljkaojnipaaGreatDoor
namespace Go.Proofs.YtcloljkaojnipaaGreatDoor
open Go.RowKit

namespace Pl
theorem inn_step {l m : List (List ByteArray)} {k : Nat} (hk : k < l.length) (h : insideB m (l[k]'hk) = true) : innP (l.drop k) m = innP (l.drop (k + 1)) m := by
  unfold innP
  rw [List.drop_eq_getElem_cons hk, List.all_cons, h, Bool.true_and]
theorem inn_stop {l m : List (List ByteArray)} {k : Nat} (hk : k < l.length) (h : insideB m (l[k]'hk) = false) : innP (l.drop k) m = false := by
  unfold innP
  rw [List.drop_eq_getElem_cons hk, List.all_cons, h, Bool.false_and]
end Pl

set_option maxRecDepth 100000 in
set_option maxHeartbeats 1000000 in
theorem rinsideAll_any (a ao : Option Addr) (cap co : Nat) (l m : List (List ByteArray)) (w : World) (h : Pts w a cap l) (ho : Pts w ao co m) :
    Calls Tryz.prog 43 #[.slice a l.length cap, .slice ao m.length co] w fun e w' => e = .returned (.bool (Pl.innP l m)) ∧ Below w.heap.size w w' := by
  have hl := h.len
  have hlm := ho.len
  go_enter Tryz.func43, Tryz.ntmps43
  go_wp2_with fail
  go_loopw [9] (fun i wr => ∃ k : Nat, k ≤ l.length ∧ i = .int .i64 k ∧ Hid (Pl.innP l m = Pl.innP (l.drop k) m) ∧ Below w.heap.size w wr) (fun i _ => l.length - (intOf i).toNat)
  case atStart => exact ⟨0, Nat.zero_le _, rfl, rfl, Below.refl _ _⟩
  case round =>
    obtain ⟨k, hk, rfl, HK, hnx⟩ := hrel
    have hsz := hnx.size
    by_cases hlt : k < l.length
    · obtain ⟨b, off, x, c, rfl, hb, hc, hs⟩ := (h.below hnx).cells k hlt
      have HY : Hid (Pl.insideB m (l[k]'hlt) = true → Pl.innP l m = Pl.innP (l.drop (k + 1)) m) := fun e => HK.out.trans (Pl.inn_step hlt e)
      have HN : Hid (Pl.insideB m (l[k]'hlt) = false → Pl.innP l m = false) := fun e => HK.out.trans (Pl.inn_stop hlt e)
      have hxl := hs.len
      generalize l[k]'hlt = p at *
      have i1 : (k : Int) < (l.length : Int) := by omega
      have C := rinside_any _ _ _ _ m p _ (ho.below hnx) hs
      cases hp : Pl.insideB m p
      · have HE : Hid (Pl.innP l m = false) := HN.out hp
        rw [hp] at C
        go_wp2_with fail
        refine C.mono ?_
        rintro e w1 ⟨rfl, hb1⟩
        have hB1 := hnx.trans (hb1.mono hsz)
        go_wp2_with fail
        go_ret
        rw [HE.out]
        exact ⟨rfl, hB1⟩
      · have HE : Hid (Pl.innP l m = Pl.innP (l.drop (k + 1)) m) := HY.out hp
        rw [hp] at C
        go_wp2_with fail
        refine C.mono ?_
        rintro e w1 ⟨rfl, hb1⟩
        have hB1 := hnx.trans (hb1.mono hsz)
        go_wp2_with fail
        go_roundw
        case rel => exact ⟨k + 1, by omega, by go_num, HE, hB1⟩
        case measure => simp [intOf]; omega
    · have i1 : ¬ (k : Int) < (l.length : Int) := by omega
      have HE : Hid (Pl.innP l m = true) := HK.out.trans (by rw [List.drop_eq_nil_of_le (by omega)]; rfl)
      go_wp2_with fail
      go_ret
      rw [HE.out]
      exact ⟨rfl, hnx⟩

set_option maxRecDepth 100000 in
set_option maxHeartbeats 1000000 in
theorem rmet_any (a ao : Option Addr) (cap co : Nat) (l m : List (List ByteArray)) (w : World) (h : Pts w a cap l) (ho : Pts w ao co m) (hm : l.length + m.length ≤ 1000000) :
    Calls Tryz.prog 41 #[.slice a l.length cap, .slice ao m.length co] w fun e w' => ∃ c v, e = .returned v ∧ Pl.Cov (Pl.metL l m) c ∧ c.length ≤ l.length + m.length ∧ PRow w' w.heap.size v c ∧ Below w.heap.size w w' := by
  obtain ⟨i0, hi, hz0, hz1, hz2⟩ := info_parts Tryz.infoPath
  have hl := h.len
  have hlm := ho.len
  have hL1 : (l.filter (Pl.insideB m)).length ≤ l.length := List.length_filter_le _ _
  have hL2 : (m.filter (Pl.insideB l)).length ≤ m.length := List.length_filter_le _ _
  go_enter Tryz.func41, Tryz.ntmps41
  go_wp2_with fail
  go_loopw [5, 12] (fun v i wr => ∃ k : Nat, k ≤ l.length ∧ i = .int .i64 k ∧ PRow wr w.heap.size v ((l.take k).filter (Pl.insideB m)) ∧ Below w.heap.size w wr) (fun _ i _ => l.length - (intOf i).toNat)
  case atStart => exact ⟨0, Nat.zero_le _, rfl, PRow.empty _ _, Below.refl _ _⟩
  case round =>
    obtain ⟨k, hk, rfl, hpr, hnx⟩ := hrel
    have hsz := hnx.size
    by_cases hlt : k < l.length
    · obtain ⟨b, off, x, c, rfl, hb, hc, hs⟩ := h.cells k hlt
      have hc := (hnx.cell (p := ⟨b, off + k, none⟩) hb).trans hc
      have hx0 : l[k] ≠ [] → ∀ ad, x = some ad → ad.block < w.heap.size := hs.lt
      have hs := hs.below hnx
      have HY : Hid (Pl.insideB m (l[k]'hlt) = true → (l.take (k + 1)).filter (Pl.insideB m) = ((l.take k).filter (Pl.insideB m)) ++ [l[k]'hlt]) := fun e => by rw [Pl.filter_yes hlt e]
      have HN : Hid (Pl.insideB m (l[k]'hlt) = false → (l.take (k + 1)).filter (Pl.insideB m) = (l.take k).filter (Pl.insideB m)) := fun e => by rw [Pl.filter_no hlt e]
      have hkl : ((l.take k).filter (Pl.insideB m)).length ≤ k := Nat.le_trans (List.length_filter_le _ _) (by simp; omega)
      have hxl := hs.len
      generalize l[k]'hlt = p at *
      generalize (l.take k).filter (Pl.insideB m) = t at *
      have i1 : (k : Int) < (l.length : Int) := by omega
      have HX : Hid (p ≠ [] → ∀ ad, x = some ad → ad.block < w.heap.size) := hx0
      have HPR : Hid (PRow wr w.heap.size _ t) := hpr
      have C := rinside_any _ _ _ _ m p _ (ho.below hnx) hs
      clear hx0 hpr
      cases hp : Pl.insideB m p
      · have HE : Hid ((l.take (k + 1)).filter (Pl.insideB m) = t) := HN.out hp
        rw [hp] at C
        go_wp2_with fail
        refine C.mono ?_
        rintro e w1 ⟨rfl, hb1⟩
        have hB1 := hnx.trans (hb1.mono hsz)
        have HR1 : Hid (PRow w1 w.heap.size _ t) := HPR.out.below hb1
        go_wp2_with fail
        go_roundw
        case rel => exact ⟨k + 1, by omega, by go_num, by rw [HE.out]; exact HR1.out, hB1⟩
        case measure => simp [intOf]; omega
      · have HE : Hid ((l.take (k + 1)).filter (Pl.insideB m) = t ++ [p]) := HY.out hp
        rw [hp] at C
        go_wp2_with fail
        refine C.mono ?_
        rintro e w1 ⟨rfl, hb1⟩
        have hB1 := hnx.trans (hb1.mono hsz)
        have hs1 := hB1.size
        obtain ⟨xs, ox, ex⟩ := HPR.out.below hb1
        have s1 := hs.below hb1
        have hoff : Off x p (Value.ownBlock _) := fun hp ad e q => by
          have h1 := HX.out hp ad e
          have h2 := (ox.lt ad.block q.symm).1
          omega
        clear hb1
        go_wp2_with (at_builtin; refine wpList_append_far _ rfl _ _ 22 rfl w.heap.size 26 i0 (.slice none 0 0) 1 24 Tryz.underlying22 hi hz0 hz1 hz2 rfl (by decide) _ _ _ rfl (ox.alloc _) ⟨w1.heap.size, 0, none⟩ 1 1 [.slice x p.length c] rfl rfl (cell_one_new _ _ _) ?cl2 ?cl3 ?cl4 ?cl5 ?_)
        case cl2 => first | rfl | (intro u hu; simp at hu; subst hu; rfl)
        case cl3 => unfold maxLen; omega
        case cl4 => omega
        case cl5 => simp; omega
        intro v3 w3 hown3 hgr3 _ hat3
        have hB3 : Below w.heap.size w w3 := (hB1.alloc hs1 _).grown hgr3 (by simp; omega) (fun g hg => (ox.lt g hg).1)
        have hpr3 := prow_snoc ox ex s1 hoff hown3 hgr3 hat3 (by simp)
        clear hgr3 hown3 hat3
        go_wp2
        go_roundw
        case rel => exact ⟨k + 1, by omega, by go_num, by rw [HE.out]; exact hpr3, hB3⟩
        case measure => simp [intOf]; omega
    · have e : l.take k = l := List.take_of_length_le (by omega)
      rw [e] at hpr
      have i1 : ¬ (k : Int) < (l.length : Int) := by omega
      clear e
      go_wp2_with fail
      rename World => K
      go_loopw [5, 26] (fun v i wr => ∃ k : Nat, k ≤ m.length ∧ i = .int .i64 k ∧ PRow wr w.heap.size v (l.filter (Pl.insideB m) ++ (m.take k).filter (Pl.insideB l)) ∧ Below w.heap.size w wr) (fun _ i _ => m.length - (intOf i).toNat)
      case atStart => exact ⟨0, Nat.zero_le _, rfl, by simpa using hpr, hnx⟩
      case round =>
        obtain ⟨k, hk, rfl, hpr, hnx⟩ := hrel
        have hsz := hnx.size
        by_cases hlt : k < m.length
        · obtain ⟨b, off, x, c, rfl, hb, hc, hs⟩ := ho.cells k hlt
          have hc := (hnx.cell (p := ⟨b, off + k, none⟩) hb).trans hc
          have hx0 : m[k] ≠ [] → ∀ ad, x = some ad → ad.block < w.heap.size := hs.lt
          have hs := hs.below hnx
          have HY : Hid (Pl.insideB l (m[k]'hlt) = true → l.filter (Pl.insideB m) ++ (m.take (k + 1)).filter (Pl.insideB l) = (l.filter (Pl.insideB m) ++ (m.take k).filter (Pl.insideB l)) ++ [m[k]'hlt]) := fun e => by rw [Pl.filter_yes hlt e]; simp
          have HN : Hid (Pl.insideB l (m[k]'hlt) = false → l.filter (Pl.insideB m) ++ (m.take (k + 1)).filter (Pl.insideB l) = l.filter (Pl.insideB m) ++ (m.take k).filter (Pl.insideB l)) := fun e => by rw [Pl.filter_no hlt e]
          have hkl : (l.filter (Pl.insideB m) ++ (m.take k).filter (Pl.insideB l)).length ≤ l.length + k := by rw [List.length_append]; exact Nat.add_le_add hL1 (Nat.le_trans (List.length_filter_le _ _) (by simp; omega))
          have hxl := hs.len
          generalize m[k]'hlt = p at *
          generalize l.filter (Pl.insideB m) ++ (m.take k).filter (Pl.insideB l) = t at *
          have i1 : (k : Int) < (m.length : Int) := by omega
          have HX : Hid (p ≠ [] → ∀ ad, x = some ad → ad.block < w.heap.size) := hx0
          have HPR : Hid (PRow wr w.heap.size _ t) := hpr
          have C := rinside_any _ _ _ _ l p _ (h.below hnx) hs
          clear hx0 hpr
          cases hp : Pl.insideB l p
          · have HE : Hid (l.filter (Pl.insideB m) ++ (m.take (k + 1)).filter (Pl.insideB l) = t) := HN.out hp
            rw [hp] at C
            go_wp2_with fail
            refine C.mono ?_
            rintro e w1 ⟨rfl, hb1⟩
            have hB1 := hnx.trans (hb1.mono hsz)
            have HR1 : Hid (PRow w1 w.heap.size _ t) := HPR.out.below hb1
            go_wp2_with fail
            go_roundw
            case rel => exact ⟨k + 1, by omega, by go_num, by rw [HE.out]; exact HR1.out, hB1⟩
            case measure => simp [intOf]; omega
          · have HE : Hid (l.filter (Pl.insideB m) ++ (m.take (k + 1)).filter (Pl.insideB l) = t ++ [p]) := HY.out hp
            rw [hp] at C
            go_wp2_with fail
            refine C.mono ?_
            rintro e w1 ⟨rfl, hb1⟩
            have hB1 := hnx.trans (hb1.mono hsz)
            have hs1 := hB1.size
            obtain ⟨xs, ox, ex⟩ := HPR.out.below hb1
            have s1 := hs.below hb1
            have hoff : Off x p (Value.ownBlock _) := fun hp ad e q => by
              have h1 := HX.out hp ad e
              have h2 := (ox.lt ad.block q.symm).1
              omega
            clear hb1
            go_wp2_with (at_builtin; refine wpList_append_far _ rfl _ _ 22 rfl w.heap.size 26 i0 (.slice none 0 0) 1 24 Tryz.underlying22 hi hz0 hz1 hz2 rfl (by decide) _ _ _ rfl (ox.alloc _) ⟨w1.heap.size, 0, none⟩ 1 1 [.slice x p.length c] rfl rfl (cell_one_new _ _ _) ?cm2 ?cm3 ?cm4 ?cm5 ?_)
            case cm2 => first | rfl | (intro u hu; simp at hu; subst hu; rfl)
            case cm3 => unfold maxLen; omega
            case cm4 => omega
            case cm5 => simp; omega
            intro v3 w3 hown3 hgr3 _ hat3
            have hB3 : Below w.heap.size w w3 := (hB1.alloc hs1 _).grown hgr3 (by simp; omega) (fun g hg => (ox.lt g hg).1)
            have hpr3 := prow_snoc ox ex s1 hoff hown3 hgr3 hat3 (by simp)
            clear hgr3 hown3 hat3
            go_wp2
            go_roundw
            case rel => exact ⟨k + 1, by omega, by go_num, by rw [HE.out]; exact hpr3, hB3⟩
            case measure => simp [intOf]; omega
        · have e : m.take k = m := List.take_of_length_le (by omega)
          rw [e] at hpr
          have i1 : ¬ (k : Int) < (m.length : Int) := by omega
          clear e
          obtain ⟨a3, c3, rfl, q3⟩ := hpr.pts (by rw [List.length_append]; omega)
          have hll : (l.filter (Pl.insideB m) ++ m.filter (Pl.insideB l)).length ≤ l.length + m.length := by rw [List.length_append]; omega
          have CC := rcover_any _ _ (l.filter (Pl.insideB m) ++ m.filter (Pl.insideB l)) wr q3
          have HM : Hid (Pl.metL l m = l.filter (Pl.insideB m) ++ m.filter (Pl.insideB l)) := rfl
          have HB : Hid (Below w.heap.size w wr) := hnx
          generalize l.filter (Pl.insideB m) ++ m.filter (Pl.insideB l) = L3 at *
          clear q3 hpr hnx
          go_wp2_with fail
          refine CC.mono ?_
          rintro e w4 ⟨c, v, rfl, k1, k2, k3, k4⟩
          have HF : Hid (Pl.Cov (Pl.metL l m) c ∧ c.length ≤ l.length + m.length ∧ PRow w4 w.heap.size v c ∧ Below w.heap.size w w4) := ⟨by rw [HM.out]; exact k1, by omega, k3.base hsz, HB.out.trans (k4.mono hsz)⟩
          clear k1 k2 k3 k4 CC
          go_wp2_with fail
          go_ret
          exact ⟨c, v, rfl, HF.out⟩
end Go.Proofs.YtcloljkaojnipaaGreatDoor
namespace Go.Proofs.YtcloljkaojnipaaGreatDoor
open Go.RowKit

set_option maxRecDepth 100000 in
set_option maxHeartbeats 4000000 in
theorem rpwithin_any (ar1 aw1 : Option Addr) (cr1 cw1 : Nat) (R1 W1 : List (List ByteArray)) (f1 m1 o1 e1 : Int) (ar2 aw2 : Option Addr) (cr2 cw2 : Nat) (R2 W2 : List (List ByteArray)) (f2 m2 o2 e2 : Int) (w : World) (hr1 : Pts w ar1 cr1 R1) (hw1 : Pts w aw1 cw1 W1) (hr2 : Pts w ar2 cr2 R2) (hw2 : Pts w aw2 cw2 W2) :
    Calls Tryz.prog 22 #[.agg #[.slice ar1 R1.length cr1, .slice aw1 W1.length cw1, .int .i64 f1, .int .i64 m1, .int .i64 o1, .int .i64 e1], .agg #[.slice ar2 R2.length cr2, .slice aw2 W2.length cw2, .int .i64 f2, .int .i64 m2, .int .i64 o2, .int .i64 e2]] w fun x w' => x = .returned (.tuple #[.bool (Pl.wthP R1 W1 f1 m1 o1 e1 R2 W2 f2 m2 o2 e2), .int .i64 (Pl.chk2 R1 W1 f1 m1 o1 e1 R2 W2 f2 m2 o2 e2 : Nat)]) ∧ Below w.heap.size w w' := by
  obtain ⟨wa, hwa⟩ : ∃ wa, wa = (w.alloc (.cells #[.slice ar1 R1.length cr1, .slice aw1 W1.length cw1, .int .i64 f1, .int .i64 m1, .int .i64 o1, .int .i64 e1] 24)).alloc (.cells #[.slice ar2 R2.length cr2, .slice aw2 W2.length cw2, .int .i64 f2, .int .i64 m2, .int .i64 o2, .int .i64 e2] 24) := ⟨_, rfl⟩
  have HB : Hid (Below w.heap.size w wa) := by unfold Hid; rw [hwa]; exact ((Below.refl _ _).alloc (Nat.le_refl _) _).alloc (by simp) _
  have HW : Hid (wa = (w.alloc (.cells #[.slice ar1 R1.length cr1, .slice aw1 W1.length cw1, .int .i64 f1, .int .i64 m1, .int .i64 o1, .int .i64 e1] 24)).alloc (.cells #[.slice ar2 R2.length cr2, .slice aw2 W2.length cw2, .int .i64 f2, .int .i64 m2, .int .i64 o2, .int .i64 e2] 24)) := hwa
  have HT : Hid (Two wa w.heap.size (w.heap.size + 1) ar1 aw1 cr1 cw1 R1 W1 f1 m1 o1 e1 ar2 aw2 cr2 cw2 R2 W2 f2 m2 o2 e2) := by unfold Hid; rw [hwa]; exact two_new w ar1 aw1 cr1 cw1 R1 W1 f1 m1 o1 e1 ar2 aw2 cr2 cw2 R2 W2 f2 m2 o2 e2 hr1 hw1 hr2 hw2
  have C1 := rRight_any ar1 aw1 cr1 cw1 R1 W1 f1 m1 o1 e1 wa HT.out.r1 HT.out.w1
  have C2 : Hid (∀ V, Below wa.heap.size wa V → Calls Tryz.prog 29 #[.agg #[.slice ar2 R2.length cr2, .slice aw2 W2.length cw2, .int .i64 f2, .int .i64 m2, .int .i64 o2, .int .i64 e2]] V fun x w' => x = .returned (.bool (Pl.polC R2 W2 f2 m2 o2 e2 == 0)) ∧ Below V.heap.size V w') := fun V hV => rRight_any ar2 aw2 cr2 cw2 R2 W2 f2 m2 o2 e2 V (HT.out.r2.below hV) (HT.out.w2.below hV)
  have C3 : Hid (∀ V, Below wa.heap.size wa V → Calls Tryz.prog 43 #[.slice ar1 R1.length cr1, .slice ar2 R2.length cr2] V fun x w' => x = .returned (.bool (Pl.innP R1 R2)) ∧ Below V.heap.size V w') := fun V hV => rinsideAll_any _ _ _ _ R1 R2 V (HT.out.r1.below hV) (HT.out.r2.below hV)
  have C4 : Hid (∀ V, Below wa.heap.size wa V → Calls Tryz.prog 43 #[.slice aw1 W1.length cw1, .slice aw2 W2.length cw2] V fun x w' => x = .returned (.bool (Pl.innP W1 W2)) ∧ Below V.heap.size V w') := fun V hV => rinsideAll_any _ _ _ _ W1 W2 V (HT.out.w1.below hV) (HT.out.w2.below hV)
  have hlr1 := hr1.len
  have hlw1 := hw1.len
  have hlr2 := hr2.len
  have hlw2 := hw2.len
  have HP : Hid (Pl.wthP R1 W1 f1 m1 o1 e1 R2 W2 f2 m2 o2 e2 = (Pl.chk2 R1 W1 f1 m1 o1 e1 R2 W2 f2 m2 o2 e2 == 0 && (Pl.innP R1 R2 && (Pl.innP W1 W2 && (decide (f1 ≤ f2) && (decide (m1 ≤ m2) && (decide (o1 ≤ o2) && decide (e1 ≤ e2)))))))) := rfl
  have HK : Hid (Pl.chk2 R1 W1 f1 m1 o1 e1 R2 W2 f2 m2 o2 e2 = if Pl.polC R1 W1 f1 m1 o1 e1 = 0 then Pl.polC R2 W2 f2 m2 o2 e2 else 50) := rfl
  have HC : Hid (∀ V, Below wa.heap.size wa V → Two V w.heap.size (w.heap.size + 1) ar1 aw1 cr1 cw1 R1 W1 f1 m1 o1 e1 ar2 aw2 cr2 cw2 R2 W2 f2 m2 o2 e2) := fun V hV => HT.out.below hV
  clear hwa hr1 hw1 hr2 hw2
  rcases (Pl.polC_two R1 W1 f1 m1 o1 e1).symm with p1 | p1
  · have K1 : Hid (Pl.chk2 R1 W1 f1 m1 o1 e1 R2 W2 f2 m2 o2 e2 = 50) := HK.out.trans (by rw [p1]; rfl)
    have P1 : Hid (Pl.wthP R1 W1 f1 m1 o1 e1 R2 W2 f2 m2 o2 e2 = false) := HP.out.trans (by rw [K1.out]; rfl)
    rw [p1] at C1
    clear HP HK p1
    go_enter Tryz.func22, Tryz.ntmps22
    go_wp2_with fail
    rw [← HW.out]
    refine C1.mono ?_
    rintro x w2 ⟨rfl, b2⟩
    have x20 := (HC.out _ b2).g0
    have x21 := (HC.out _ b2).g1
    have x22 := (HC.out _ b2).g2
    have x23 := (HC.out _ b2).g3
    have x24 := (HC.out _ b2).g4
    have x25 := (HC.out _ b2).g5
    have y20 := (HC.out _ b2).h0
    have y21 := (HC.out _ b2).h1
    have y22 := (HC.out _ b2).h2
    have y23 := (HC.out _ b2).h3
    have y24 := (HC.out _ b2).h4
    have y25 := (HC.out _ b2).h5
    go_wp2_with fail
    go_ret2
    rw [P1.out, K1.out]
    exact ⟨rfl, HB.out.trans (b2.mono HB.out.size)⟩
  rw [p1] at C1
  rcases (Pl.polC_two R2 W2 f2 m2 o2 e2).symm with p2 | p2
  · have K1 : Hid (Pl.chk2 R1 W1 f1 m1 o1 e1 R2 W2 f2 m2 o2 e2 = 50) := HK.out.trans (by rw [p1, p2]; rfl)
    have P1 : Hid (Pl.wthP R1 W1 f1 m1 o1 e1 R2 W2 f2 m2 o2 e2 = false) := HP.out.trans (by rw [K1.out]; rfl)
    clear HP HK p1
    go_enter Tryz.func22, Tryz.ntmps22
    go_wp2_with fail
    rw [← HW.out]
    refine C1.mono ?_
    rintro x w2 ⟨rfl, b2⟩
    have x20 := (HC.out _ b2).g0
    have x21 := (HC.out _ b2).g1
    have x22 := (HC.out _ b2).g2
    have x23 := (HC.out _ b2).g3
    have x24 := (HC.out _ b2).g4
    have x25 := (HC.out _ b2).g5
    have y20 := (HC.out _ b2).h0
    have y21 := (HC.out _ b2).h1
    have y22 := (HC.out _ b2).h2
    have y23 := (HC.out _ b2).h3
    have y24 := (HC.out _ b2).h4
    have y25 := (HC.out _ b2).h5
    go_wp2_with fail
    clear x20 x21 x22 x23 x24 x25 y20 y21 y22 y23 y24 y25
    refine (C2.out _ b2).mono ?_
    rw [p2]
    rintro x w3 ⟨rfl, d3⟩
    have b3 := b2.trans (d3.mono b2.size)
    clear d3
    have x30 := (HC.out _ b3).g0
    have x31 := (HC.out _ b3).g1
    have x32 := (HC.out _ b3).g2
    have x33 := (HC.out _ b3).g3
    have x34 := (HC.out _ b3).g4
    have x35 := (HC.out _ b3).g5
    have y30 := (HC.out _ b3).h0
    have y31 := (HC.out _ b3).h1
    have y32 := (HC.out _ b3).h2
    have y33 := (HC.out _ b3).h3
    have y34 := (HC.out _ b3).h4
    have y35 := (HC.out _ b3).h5
    go_wp2_with fail
    go_ret2
    rw [P1.out, K1.out]
    exact ⟨rfl, HB.out.trans (b3.mono HB.out.size)⟩
  have K1 : Hid (Pl.chk2 R1 W1 f1 m1 o1 e1 R2 W2 f2 m2 o2 e2 = 0) := HK.out.trans (by rw [p1, p2]; rfl)
  clear HK p1
  cases q0 : Pl.innP R1 R2
  · have P1 : Hid (Pl.wthP R1 W1 f1 m1 o1 e1 R2 W2 f2 m2 o2 e2 = false) := HP.out.trans (by rw [K1.out, q0]; rfl)
    clear HP
    go_enter Tryz.func22, Tryz.ntmps22
    go_wp2_with fail
    rw [← HW.out]
    refine C1.mono ?_
    rintro x w2 ⟨rfl, b2⟩
    have x20 := (HC.out _ b2).g0
    have x21 := (HC.out _ b2).g1
    have x22 := (HC.out _ b2).g2
    have x23 := (HC.out _ b2).g3
    have x24 := (HC.out _ b2).g4
    have x25 := (HC.out _ b2).g5
    have y20 := (HC.out _ b2).h0
    have y21 := (HC.out _ b2).h1
    have y22 := (HC.out _ b2).h2
    have y23 := (HC.out _ b2).h3
    have y24 := (HC.out _ b2).h4
    have y25 := (HC.out _ b2).h5
    go_wp2_with fail
    clear x20 x21 x22 x23 x24 x25 y20 y21 y22 y23 y24 y25
    refine (C2.out _ b2).mono ?_
    rw [p2]
    rintro x w3 ⟨rfl, d3⟩
    have b3 := b2.trans (d3.mono b2.size)
    clear d3
    have x30 := (HC.out _ b3).g0
    have x31 := (HC.out _ b3).g1
    have x32 := (HC.out _ b3).g2
    have x33 := (HC.out _ b3).g3
    have x34 := (HC.out _ b3).g4
    have x35 := (HC.out _ b3).g5
    have y30 := (HC.out _ b3).h0
    have y31 := (HC.out _ b3).h1
    have y32 := (HC.out _ b3).h2
    have y33 := (HC.out _ b3).h3
    have y34 := (HC.out _ b3).h4
    have y35 := (HC.out _ b3).h5
    go_wp2_with fail
    clear x30 x31 x32 x33 x34 x35 y30 y31 y32 y33 y34 y35
    refine (C3.out _ b3).mono ?_
    rw [q0]
    rintro x w4 ⟨rfl, d4⟩
    have b4 := b3.trans (d4.mono b3.size)
    clear d4
    have x40 := (HC.out _ b4).g0
    have x41 := (HC.out _ b4).g1
    have x42 := (HC.out _ b4).g2
    have x43 := (HC.out _ b4).g3
    have x44 := (HC.out _ b4).g4
    have x45 := (HC.out _ b4).g5
    have y40 := (HC.out _ b4).h0
    have y41 := (HC.out _ b4).h1
    have y42 := (HC.out _ b4).h2
    have y43 := (HC.out _ b4).h3
    have y44 := (HC.out _ b4).h4
    have y45 := (HC.out _ b4).h5
    go_wp2_with fail
    go_ret2
    rw [P1.out, K1.out]
    exact ⟨rfl, HB.out.trans (b4.mono HB.out.size)⟩
  cases q1 : Pl.innP W1 W2
  · have P1 : Hid (Pl.wthP R1 W1 f1 m1 o1 e1 R2 W2 f2 m2 o2 e2 = false) := HP.out.trans (by rw [K1.out, q0, q1]; rfl)
    clear HP
    go_enter Tryz.func22, Tryz.ntmps22
    go_wp2_with fail
    rw [← HW.out]
    refine C1.mono ?_
    rintro x w2 ⟨rfl, b2⟩
    have x20 := (HC.out _ b2).g0
    have x21 := (HC.out _ b2).g1
    have x22 := (HC.out _ b2).g2
    have x23 := (HC.out _ b2).g3
    have x24 := (HC.out _ b2).g4
    have x25 := (HC.out _ b2).g5
    have y20 := (HC.out _ b2).h0
    have y21 := (HC.out _ b2).h1
    have y22 := (HC.out _ b2).h2
    have y23 := (HC.out _ b2).h3
    have y24 := (HC.out _ b2).h4
    have y25 := (HC.out _ b2).h5
    go_wp2_with fail
    clear x20 x21 x22 x23 x24 x25 y20 y21 y22 y23 y24 y25
    refine (C2.out _ b2).mono ?_
    rw [p2]
    rintro x w3 ⟨rfl, d3⟩
    have b3 := b2.trans (d3.mono b2.size)
    clear d3
    have x30 := (HC.out _ b3).g0
    have x31 := (HC.out _ b3).g1
    have x32 := (HC.out _ b3).g2
    have x33 := (HC.out _ b3).g3
    have x34 := (HC.out _ b3).g4
    have x35 := (HC.out _ b3).g5
    have y30 := (HC.out _ b3).h0
    have y31 := (HC.out _ b3).h1
    have y32 := (HC.out _ b3).h2
    have y33 := (HC.out _ b3).h3
    have y34 := (HC.out _ b3).h4
    have y35 := (HC.out _ b3).h5
    go_wp2_with fail
    clear x30 x31 x32 x33 x34 x35 y30 y31 y32 y33 y34 y35
    refine (C3.out _ b3).mono ?_
    rw [q0]
    rintro x w4 ⟨rfl, d4⟩
    have b4 := b3.trans (d4.mono b3.size)
    clear d4
    have x40 := (HC.out _ b4).g0
    have x41 := (HC.out _ b4).g1
    have x42 := (HC.out _ b4).g2
    have x43 := (HC.out _ b4).g3
    have x44 := (HC.out _ b4).g4
    have x45 := (HC.out _ b4).g5
    have y40 := (HC.out _ b4).h0
    have y41 := (HC.out _ b4).h1
    have y42 := (HC.out _ b4).h2
    have y43 := (HC.out _ b4).h3
    have y44 := (HC.out _ b4).h4
    have y45 := (HC.out _ b4).h5
    go_wp2_with fail
    clear x40 x41 x42 x43 x44 x45 y40 y41 y42 y43 y44 y45
    refine (C4.out _ b4).mono ?_
    rw [q1]
    rintro x w5 ⟨rfl, d5⟩
    have b5 := b4.trans (d5.mono b4.size)
    clear d5
    have x50 := (HC.out _ b5).g0
    have x51 := (HC.out _ b5).g1
    have x52 := (HC.out _ b5).g2
    have x53 := (HC.out _ b5).g3
    have x54 := (HC.out _ b5).g4
    have x55 := (HC.out _ b5).g5
    have y50 := (HC.out _ b5).h0
    have y51 := (HC.out _ b5).h1
    have y52 := (HC.out _ b5).h2
    have y53 := (HC.out _ b5).h3
    have y54 := (HC.out _ b5).h4
    have y55 := (HC.out _ b5).h5
    go_wp2_with fail
    go_ret2
    rw [P1.out, K1.out]
    exact ⟨rfl, HB.out.trans (b5.mono HB.out.size)⟩
  cases q2 : decide (f1 ≤ f2)
  · have P1 : Hid (Pl.wthP R1 W1 f1 m1 o1 e1 R2 W2 f2 m2 o2 e2 = false) := HP.out.trans (by rw [K1.out, q0, q1, q2]; rfl)
    clear HP
    go_enter Tryz.func22, Tryz.ntmps22
    go_wp2_with fail
    rw [← HW.out]
    refine C1.mono ?_
    rintro x w2 ⟨rfl, b2⟩
    have x20 := (HC.out _ b2).g0
    have x21 := (HC.out _ b2).g1
    have x22 := (HC.out _ b2).g2
    have x23 := (HC.out _ b2).g3
    have x24 := (HC.out _ b2).g4
    have x25 := (HC.out _ b2).g5
    have y20 := (HC.out _ b2).h0
    have y21 := (HC.out _ b2).h1
    have y22 := (HC.out _ b2).h2
    have y23 := (HC.out _ b2).h3
    have y24 := (HC.out _ b2).h4
    have y25 := (HC.out _ b2).h5
    go_wp2_with fail
    clear x20 x21 x22 x23 x24 x25 y20 y21 y22 y23 y24 y25
    refine (C2.out _ b2).mono ?_
    rw [p2]
    rintro x w3 ⟨rfl, d3⟩
    have b3 := b2.trans (d3.mono b2.size)
    clear d3
    have x30 := (HC.out _ b3).g0
    have x31 := (HC.out _ b3).g1
    have x32 := (HC.out _ b3).g2
    have x33 := (HC.out _ b3).g3
    have x34 := (HC.out _ b3).g4
    have x35 := (HC.out _ b3).g5
    have y30 := (HC.out _ b3).h0
    have y31 := (HC.out _ b3).h1
    have y32 := (HC.out _ b3).h2
    have y33 := (HC.out _ b3).h3
    have y34 := (HC.out _ b3).h4
    have y35 := (HC.out _ b3).h5
    go_wp2_with fail
    clear x30 x31 x32 x33 x34 x35 y30 y31 y32 y33 y34 y35
    refine (C3.out _ b3).mono ?_
    rw [q0]
    rintro x w4 ⟨rfl, d4⟩
    have b4 := b3.trans (d4.mono b3.size)
    clear d4
    have x40 := (HC.out _ b4).g0
    have x41 := (HC.out _ b4).g1
    have x42 := (HC.out _ b4).g2
    have x43 := (HC.out _ b4).g3
    have x44 := (HC.out _ b4).g4
    have x45 := (HC.out _ b4).g5
    have y40 := (HC.out _ b4).h0
    have y41 := (HC.out _ b4).h1
    have y42 := (HC.out _ b4).h2
    have y43 := (HC.out _ b4).h3
    have y44 := (HC.out _ b4).h4
    have y45 := (HC.out _ b4).h5
    go_wp2_with fail
    clear x40 x41 x42 x43 x44 x45 y40 y41 y42 y43 y44 y45
    refine (C4.out _ b4).mono ?_
    rw [q1]
    rintro x w5 ⟨rfl, d5⟩
    have b5 := b4.trans (d5.mono b4.size)
    clear d5
    have x50 := (HC.out _ b5).g0
    have x51 := (HC.out _ b5).g1
    have x52 := (HC.out _ b5).g2
    have x53 := (HC.out _ b5).g3
    have x54 := (HC.out _ b5).g4
    have x55 := (HC.out _ b5).g5
    have y50 := (HC.out _ b5).h0
    have y51 := (HC.out _ b5).h1
    have y52 := (HC.out _ b5).h2
    have y53 := (HC.out _ b5).h3
    have y54 := (HC.out _ b5).h4
    have y55 := (HC.out _ b5).h5
    go_wp2_with fail
    go_ret2
    rw [P1.out, K1.out]
    exact ⟨rfl, HB.out.trans (b5.mono HB.out.size)⟩
  cases q3 : decide (m1 ≤ m2)
  · have P1 : Hid (Pl.wthP R1 W1 f1 m1 o1 e1 R2 W2 f2 m2 o2 e2 = false) := HP.out.trans (by rw [K1.out, q0, q1, q2, q3]; rfl)
    clear HP
    go_enter Tryz.func22, Tryz.ntmps22
    go_wp2_with fail
    rw [← HW.out]
    refine C1.mono ?_
    rintro x w2 ⟨rfl, b2⟩
    have x20 := (HC.out _ b2).g0
    have x21 := (HC.out _ b2).g1
    have x22 := (HC.out _ b2).g2
    have x23 := (HC.out _ b2).g3
    have x24 := (HC.out _ b2).g4
    have x25 := (HC.out _ b2).g5
    have y20 := (HC.out _ b2).h0
    have y21 := (HC.out _ b2).h1
    have y22 := (HC.out _ b2).h2
    have y23 := (HC.out _ b2).h3
    have y24 := (HC.out _ b2).h4
    have y25 := (HC.out _ b2).h5
    go_wp2_with fail
    clear x20 x21 x22 x23 x24 x25 y20 y21 y22 y23 y24 y25
    refine (C2.out _ b2).mono ?_
    rw [p2]
    rintro x w3 ⟨rfl, d3⟩
    have b3 := b2.trans (d3.mono b2.size)
    clear d3
    have x30 := (HC.out _ b3).g0
    have x31 := (HC.out _ b3).g1
    have x32 := (HC.out _ b3).g2
    have x33 := (HC.out _ b3).g3
    have x34 := (HC.out _ b3).g4
    have x35 := (HC.out _ b3).g5
    have y30 := (HC.out _ b3).h0
    have y31 := (HC.out _ b3).h1
    have y32 := (HC.out _ b3).h2
    have y33 := (HC.out _ b3).h3
    have y34 := (HC.out _ b3).h4
    have y35 := (HC.out _ b3).h5
    go_wp2_with fail
    clear x30 x31 x32 x33 x34 x35 y30 y31 y32 y33 y34 y35
    refine (C3.out _ b3).mono ?_
    rw [q0]
    rintro x w4 ⟨rfl, d4⟩
    have b4 := b3.trans (d4.mono b3.size)
    clear d4
    have x40 := (HC.out _ b4).g0
    have x41 := (HC.out _ b4).g1
    have x42 := (HC.out _ b4).g2
    have x43 := (HC.out _ b4).g3
    have x44 := (HC.out _ b4).g4
    have x45 := (HC.out _ b4).g5
    have y40 := (HC.out _ b4).h0
    have y41 := (HC.out _ b4).h1
    have y42 := (HC.out _ b4).h2
    have y43 := (HC.out _ b4).h3
    have y44 := (HC.out _ b4).h4
    have y45 := (HC.out _ b4).h5
    go_wp2_with fail
    clear x40 x41 x42 x43 x44 x45 y40 y41 y42 y43 y44 y45
    refine (C4.out _ b4).mono ?_
    rw [q1]
    rintro x w5 ⟨rfl, d5⟩
    have b5 := b4.trans (d5.mono b4.size)
    clear d5
    have x50 := (HC.out _ b5).g0
    have x51 := (HC.out _ b5).g1
    have x52 := (HC.out _ b5).g2
    have x53 := (HC.out _ b5).g3
    have x54 := (HC.out _ b5).g4
    have x55 := (HC.out _ b5).g5
    have y50 := (HC.out _ b5).h0
    have y51 := (HC.out _ b5).h1
    have y52 := (HC.out _ b5).h2
    have y53 := (HC.out _ b5).h3
    have y54 := (HC.out _ b5).h4
    have y55 := (HC.out _ b5).h5
    go_wp2_with fail
    go_ret2
    rw [P1.out, K1.out]
    exact ⟨rfl, HB.out.trans (b5.mono HB.out.size)⟩
  cases q4 : decide (o1 ≤ o2)
  · have P1 : Hid (Pl.wthP R1 W1 f1 m1 o1 e1 R2 W2 f2 m2 o2 e2 = false) := HP.out.trans (by rw [K1.out, q0, q1, q2, q3, q4]; rfl)
    clear HP
    go_enter Tryz.func22, Tryz.ntmps22
    go_wp2_with fail
    rw [← HW.out]
    refine C1.mono ?_
    rintro x w2 ⟨rfl, b2⟩
    have x20 := (HC.out _ b2).g0
    have x21 := (HC.out _ b2).g1
    have x22 := (HC.out _ b2).g2
    have x23 := (HC.out _ b2).g3
    have x24 := (HC.out _ b2).g4
    have x25 := (HC.out _ b2).g5
    have y20 := (HC.out _ b2).h0
    have y21 := (HC.out _ b2).h1
    have y22 := (HC.out _ b2).h2
    have y23 := (HC.out _ b2).h3
    have y24 := (HC.out _ b2).h4
    have y25 := (HC.out _ b2).h5
    go_wp2_with fail
    clear x20 x21 x22 x23 x24 x25 y20 y21 y22 y23 y24 y25
    refine (C2.out _ b2).mono ?_
    rw [p2]
    rintro x w3 ⟨rfl, d3⟩
    have b3 := b2.trans (d3.mono b2.size)
    clear d3
    have x30 := (HC.out _ b3).g0
    have x31 := (HC.out _ b3).g1
    have x32 := (HC.out _ b3).g2
    have x33 := (HC.out _ b3).g3
    have x34 := (HC.out _ b3).g4
    have x35 := (HC.out _ b3).g5
    have y30 := (HC.out _ b3).h0
    have y31 := (HC.out _ b3).h1
    have y32 := (HC.out _ b3).h2
    have y33 := (HC.out _ b3).h3
    have y34 := (HC.out _ b3).h4
    have y35 := (HC.out _ b3).h5
    go_wp2_with fail
    clear x30 x31 x32 x33 x34 x35 y30 y31 y32 y33 y34 y35
    refine (C3.out _ b3).mono ?_
    rw [q0]
    rintro x w4 ⟨rfl, d4⟩
    have b4 := b3.trans (d4.mono b3.size)
    clear d4
    have x40 := (HC.out _ b4).g0
    have x41 := (HC.out _ b4).g1
    have x42 := (HC.out _ b4).g2
    have x43 := (HC.out _ b4).g3
    have x44 := (HC.out _ b4).g4
    have x45 := (HC.out _ b4).g5
    have y40 := (HC.out _ b4).h0
    have y41 := (HC.out _ b4).h1
    have y42 := (HC.out _ b4).h2
    have y43 := (HC.out _ b4).h3
    have y44 := (HC.out _ b4).h4
    have y45 := (HC.out _ b4).h5
    go_wp2_with fail
    clear x40 x41 x42 x43 x44 x45 y40 y41 y42 y43 y44 y45
    refine (C4.out _ b4).mono ?_
    rw [q1]
    rintro x w5 ⟨rfl, d5⟩
    have b5 := b4.trans (d5.mono b4.size)
    clear d5
    have x50 := (HC.out _ b5).g0
    have x51 := (HC.out _ b5).g1
    have x52 := (HC.out _ b5).g2
    have x53 := (HC.out _ b5).g3
    have x54 := (HC.out _ b5).g4
    have x55 := (HC.out _ b5).g5
    have y50 := (HC.out _ b5).h0
    have y51 := (HC.out _ b5).h1
    have y52 := (HC.out _ b5).h2
    have y53 := (HC.out _ b5).h3
    have y54 := (HC.out _ b5).h4
    have y55 := (HC.out _ b5).h5
    go_wp2_with fail
    go_ret2
    rw [P1.out, K1.out]
    exact ⟨rfl, HB.out.trans (b5.mono HB.out.size)⟩
  cases q5 : decide (e1 ≤ e2)
  · have P1 : Hid (Pl.wthP R1 W1 f1 m1 o1 e1 R2 W2 f2 m2 o2 e2 = false) := HP.out.trans (by rw [K1.out, q0, q1, q2, q3, q4, q5]; rfl)
    clear HP
    go_enter Tryz.func22, Tryz.ntmps22
    go_wp2_with fail
    rw [← HW.out]
    refine C1.mono ?_
    rintro x w2 ⟨rfl, b2⟩
    have x20 := (HC.out _ b2).g0
    have x21 := (HC.out _ b2).g1
    have x22 := (HC.out _ b2).g2
    have x23 := (HC.out _ b2).g3
    have x24 := (HC.out _ b2).g4
    have x25 := (HC.out _ b2).g5
    have y20 := (HC.out _ b2).h0
    have y21 := (HC.out _ b2).h1
    have y22 := (HC.out _ b2).h2
    have y23 := (HC.out _ b2).h3
    have y24 := (HC.out _ b2).h4
    have y25 := (HC.out _ b2).h5
    go_wp2_with fail
    clear x20 x21 x22 x23 x24 x25 y20 y21 y22 y23 y24 y25
    refine (C2.out _ b2).mono ?_
    rw [p2]
    rintro x w3 ⟨rfl, d3⟩
    have b3 := b2.trans (d3.mono b2.size)
    clear d3
    have x30 := (HC.out _ b3).g0
    have x31 := (HC.out _ b3).g1
    have x32 := (HC.out _ b3).g2
    have x33 := (HC.out _ b3).g3
    have x34 := (HC.out _ b3).g4
    have x35 := (HC.out _ b3).g5
    have y30 := (HC.out _ b3).h0
    have y31 := (HC.out _ b3).h1
    have y32 := (HC.out _ b3).h2
    have y33 := (HC.out _ b3).h3
    have y34 := (HC.out _ b3).h4
    have y35 := (HC.out _ b3).h5
    go_wp2_with fail
    clear x30 x31 x32 x33 x34 x35 y30 y31 y32 y33 y34 y35
    refine (C3.out _ b3).mono ?_
    rw [q0]
    rintro x w4 ⟨rfl, d4⟩
    have b4 := b3.trans (d4.mono b3.size)
    clear d4
    have x40 := (HC.out _ b4).g0
    have x41 := (HC.out _ b4).g1
    have x42 := (HC.out _ b4).g2
    have x43 := (HC.out _ b4).g3
    have x44 := (HC.out _ b4).g4
    have x45 := (HC.out _ b4).g5
    have y40 := (HC.out _ b4).h0
    have y41 := (HC.out _ b4).h1
    have y42 := (HC.out _ b4).h2
    have y43 := (HC.out _ b4).h3
    have y44 := (HC.out _ b4).h4
    have y45 := (HC.out _ b4).h5
    go_wp2_with fail
    clear x40 x41 x42 x43 x44 x45 y40 y41 y42 y43 y44 y45
    refine (C4.out _ b4).mono ?_
    rw [q1]
    rintro x w5 ⟨rfl, d5⟩
    have b5 := b4.trans (d5.mono b4.size)
    clear d5
    have x50 := (HC.out _ b5).g0
    have x51 := (HC.out _ b5).g1
    have x52 := (HC.out _ b5).g2
    have x53 := (HC.out _ b5).g3
    have x54 := (HC.out _ b5).g4
    have x55 := (HC.out _ b5).g5
    have y50 := (HC.out _ b5).h0
    have y51 := (HC.out _ b5).h1
    have y52 := (HC.out _ b5).h2
    have y53 := (HC.out _ b5).h3
    have y54 := (HC.out _ b5).h4
    have y55 := (HC.out _ b5).h5
    go_wp2_with fail
    go_ret2
    rw [P1.out, K1.out]
    exact ⟨rfl, HB.out.trans (b5.mono HB.out.size)⟩
  have P1 : Hid (Pl.wthP R1 W1 f1 m1 o1 e1 R2 W2 f2 m2 o2 e2 = true) := HP.out.trans (by rw [K1.out, q0, q1, q2, q3, q4, q5]; rfl)
  clear HP
  go_enter Tryz.func22, Tryz.ntmps22
  go_wp2_with fail
  rw [← HW.out]
  refine C1.mono ?_
  rintro x w2 ⟨rfl, b2⟩
  have x20 := (HC.out _ b2).g0
  have x21 := (HC.out _ b2).g1
  have x22 := (HC.out _ b2).g2
  have x23 := (HC.out _ b2).g3
  have x24 := (HC.out _ b2).g4
  have x25 := (HC.out _ b2).g5
  have y20 := (HC.out _ b2).h0
  have y21 := (HC.out _ b2).h1
  have y22 := (HC.out _ b2).h2
  have y23 := (HC.out _ b2).h3
  have y24 := (HC.out _ b2).h4
  have y25 := (HC.out _ b2).h5
  go_wp2_with fail
  clear x20 x21 x22 x23 x24 x25 y20 y21 y22 y23 y24 y25
  refine (C2.out _ b2).mono ?_
  rw [p2]
  rintro x w3 ⟨rfl, d3⟩
  have b3 := b2.trans (d3.mono b2.size)
  clear d3
  have x30 := (HC.out _ b3).g0
  have x31 := (HC.out _ b3).g1
  have x32 := (HC.out _ b3).g2
  have x33 := (HC.out _ b3).g3
  have x34 := (HC.out _ b3).g4
  have x35 := (HC.out _ b3).g5
  have y30 := (HC.out _ b3).h0
  have y31 := (HC.out _ b3).h1
  have y32 := (HC.out _ b3).h2
  have y33 := (HC.out _ b3).h3
  have y34 := (HC.out _ b3).h4
  have y35 := (HC.out _ b3).h5
  go_wp2_with fail
  clear x30 x31 x32 x33 x34 x35 y30 y31 y32 y33 y34 y35
  refine (C3.out _ b3).mono ?_
  rw [q0]
  rintro x w4 ⟨rfl, d4⟩
  have b4 := b3.trans (d4.mono b3.size)
  clear d4
  have x40 := (HC.out _ b4).g0
  have x41 := (HC.out _ b4).g1
  have x42 := (HC.out _ b4).g2
  have x43 := (HC.out _ b4).g3
  have x44 := (HC.out _ b4).g4
  have x45 := (HC.out _ b4).g5
  have y40 := (HC.out _ b4).h0
  have y41 := (HC.out _ b4).h1
  have y42 := (HC.out _ b4).h2
  have y43 := (HC.out _ b4).h3
  have y44 := (HC.out _ b4).h4
  have y45 := (HC.out _ b4).h5
  go_wp2_with fail
  clear x40 x41 x42 x43 x44 x45 y40 y41 y42 y43 y44 y45
  refine (C4.out _ b4).mono ?_
  rw [q1]
  rintro x w5 ⟨rfl, d5⟩
  have b5 := b4.trans (d5.mono b4.size)
  clear d5
  have x50 := (HC.out _ b5).g0
  have x51 := (HC.out _ b5).g1
  have x52 := (HC.out _ b5).g2
  have x53 := (HC.out _ b5).g3
  have x54 := (HC.out _ b5).g4
  have x55 := (HC.out _ b5).g5
  have y50 := (HC.out _ b5).h0
  have y51 := (HC.out _ b5).h1
  have y52 := (HC.out _ b5).h2
  have y53 := (HC.out _ b5).h3
  have y54 := (HC.out _ b5).h4
  have y55 := (HC.out _ b5).h5
  go_wp2_with fail
  go_ret2
  rw [P1.out, K1.out]
  exact ⟨rfl, HB.out.trans (b5.mono HB.out.size)⟩
end Go.Proofs.YtcloljkaojnipaaGreatDoor
namespace Go.Proofs.YtcloljkaojnipaaGreatDoor
open Go.RowKit

theorem rmeet_at (a ao : Option Addr) (cap co : Nat) (l m : List (List ByteArray)) (w0 W : World) (h : Pts w0 a cap l) (ho : Pts w0 ao co m) (hm : l.length + m.length ≤ 1000000) (hb : Below w0.heap.size w0 W) :
    Calls Tryz.prog 41 #[.slice a l.length cap, .slice ao m.length co] W fun e w' => ∃ (c : List (List ByteArray)) (av : Option Addr) (n : Nat), e = .returned (.slice av c.length n) ∧ Hid (Mvd w0 w' l m c (.slice av c.length n) w0.heap.size ∧ Below W.heap.size W w') ∧ c.length ≤ 1000000 := by
  refine (rmet_any a ao cap co l m W (h.below hb) (ho.below hb) hm).mono ?_
  rintro e w' ⟨c, v, rfl, h1, h2, h3, h4⟩
  obtain ⟨av, n, rfl, _⟩ := h3.pts (by omega)
  exact ⟨c, av, n, rfl, ⟨⟨h1, h3.base hb.size, hb.trans (h4.mono hb.size)⟩, h4⟩, by omega⟩
theorem PRow.keep3 {w w' : World} {b g : Nat} {v x0 x1 : Value} {f m o e : Int} {l : List (List ByteArray)} (h : PRow w b v l) (hg : w.heap[g]? = some (polO x0 x1 f m o e)) (h0 : ∀ s, x0 ≠ .string s ∧ x1 ≠ .string s) (ht : Tu (fun k => k = g) w w') : PRow w' b v l := by
  refine (h.both.far ht (fun k hk e => ?_) (fun x c p hs hp ad hx => ?_)).row
  · obtain ⟨xs, k1, _⟩ := h
    subst e
    exact Lib.ownBlock_ne k1 hg (by decide) hk
  · refine strs_far hg (fun j s q => ?_) hs hp ad hx
    rcases (show j = 0 ∨ j = 1 ∨ j = 2 ∨ j = 3 ∨ j = 4 ∨ j = 5 ∨ 6 ≤ j by omega) with rfl | rfl | rfl | rfl | rfl | rfl | hj
    · exact (h0 s).1 (Option.some.inj q)
    · exact (h0 s).2 (Option.some.inj q)
    · cases Option.some.inj q
    · cases Option.some.inj q
    · cases Option.some.inj q
    · cases Option.some.inj q
    · rw [Array.getElem?_eq_none (by simpa using hj)] at q; cases q

set_option maxRecDepth 100000 in
set_option maxHeartbeats 4000000 in
theorem rpmeet_yes (ar1 aw1 : Option Addr) (cr1 cw1 : Nat) (R1 W1 : List (List ByteArray)) (f1 m1 o1 e1 : Int) (ar2 aw2 : Option Addr) (cr2 cw2 : Nat) (R2 W2 : List (List ByteArray)) (f2 m2 o2 e2 : Int) (w : World) (hr1 : Pts w ar1 cr1 R1) (hw1 : Pts w aw1 cw1 W1) (hr2 : Pts w ar2 cr2 R2) (hw2 : Pts w aw2 cw2 W2) (hc : Pl.chk2 R1 W1 f1 m1 o1 e1 R2 W2 f2 m2 o2 e2 = 0) (hR : R1.length + R2.length ≤ 1000000) (hW : W1.length + W2.length ≤ 1000000) :
    Calls Tryz.prog 20 #[.agg #[.slice ar1 R1.length cr1, .slice aw1 W1.length cw1, .int .i64 f1, .int .i64 m1, .int .i64 o1, .int .i64 e1], .agg #[.slice ar2 R2.length cr2, .slice aw2 W2.length cw2, .int .i64 f2, .int .i64 m2, .int .i64 o2, .int .i64 e2]] w (MeetE w R1 W1 f1 m1 o1 e1 R2 W2 f2 m2 o2 e2) := by
  obtain ⟨wa, hwa⟩ : ∃ wa, wa = ((w.alloc (.cells #[.slice ar1 R1.length cr1, .slice aw1 W1.length cw1, .int .i64 f1, .int .i64 m1, .int .i64 o1, .int .i64 e1] 24)).alloc (.cells #[.slice ar2 R2.length cr2, .slice aw2 W2.length cw2, .int .i64 f2, .int .i64 m2, .int .i64 o2, .int .i64 e2] 24)).alloc zPol := ⟨_, rfl⟩
  have hB2 : Below w.heap.size w ((w.alloc (.cells #[.slice ar1 R1.length cr1, .slice aw1 W1.length cw1, .int .i64 f1, .int .i64 m1, .int .i64 o1, .int .i64 e1] 24)).alloc (.cells #[.slice ar2 R2.length cr2, .slice aw2 W2.length cw2, .int .i64 f2, .int .i64 m2, .int .i64 o2, .int .i64 e2] 24)) := ((Below.refl _ _).alloc (Nat.le_refl _) _).alloc (by simp) _
  have hB : Below w.heap.size w wa := by rw [hwa]; exact hB2.alloc hB2.size _
  have hT : Two wa w.heap.size (w.heap.size + 1) ar1 aw1 cr1 cw1 R1 W1 f1 m1 o1 e1 ar2 aw2 cr2 cw2 R2 W2 f2 m2 o2 e2 := by rw [hwa]; exact (two_new w ar1 aw1 cr1 cw1 R1 W1 f1 m1 o1 e1 ar2 aw2 cr2 cw2 R2 W2 f2 m2 o2 e2 hr1 hw1 hr2 hw2).below ((Below.refl _ _).alloc (Nat.le_refl _) _)
  have hz : wa.heap[w.heap.size + 2]? = some zPol := by rw [hwa, show w.heap.size + 2 = ((w.alloc (.cells #[.slice ar1 R1.length cr1, .slice aw1 W1.length cw1, .int .i64 f1, .int .i64 m1, .int .i64 o1, .int .i64 e1] 24)).alloc (.cells #[.slice ar2 R2.length cr2, .slice aw2 W2.length cw2, .int .i64 f2, .int .i64 m2, .int .i64 o2, .int .i64 e2] 24)).heap.size from by simp]; exact heap_alloc_new _ _
  have HW : Hid (wa = ((w.alloc (.cells #[.slice ar1 R1.length cr1, .slice aw1 W1.length cw1, .int .i64 f1, .int .i64 m1, .int .i64 o1, .int .i64 e1] 24)).alloc (.cells #[.slice ar2 R2.length cr2, .slice aw2 W2.length cw2, .int .i64 f2, .int .i64 m2, .int .i64 o2, .int .i64 e2] 24)).alloc zPol) := hwa
  have hk : Pl.polC R1 W1 f1 m1 o1 e1 = 0 ∧ Pl.polC R2 W2 f2 m2 o2 e2 = 0 := by
    unfold Pl.chk2 at hc
    rcases Pl.polC_two R1 W1 f1 m1 o1 e1 with k | k
    · rw [if_pos k] at hc; exact ⟨k, hc⟩
    · rw [if_neg (by rw [k]; decide)] at hc; cases hc
  have H0 := rRight_any ar1 aw1 cr1 cw1 R1 W1 f1 m1 o1 e1 wa hT.r1 hT.w1
  rw [hk.1] at H0
  have H1 : Hid (∀ V, Below wa.heap.size wa V → Calls Tryz.prog 29 #[.agg #[.slice ar2 R2.length cr2, .slice aw2 W2.length cw2, .int .i64 f2, .int .i64 m2, .int .i64 o2, .int .i64 e2]] V fun x w' => x = .returned (.bool true) ∧ Below V.heap.size V w') := fun V hV => (rRight_any ar2 aw2 cr2 cw2 R2 W2 f2 m2 o2 e2 V (hT.r2.below hV) (hT.w2.below hV)).mono fun x w' h => ⟨by rw [h.1, hk.2]; rfl, h.2⟩
  have hlr1 := hr1.len
  have hlw1 := hw1.len
  have hlr2 := hr2.len
  have hlw2 := hw2.len
  have HZ : Hid (Below w.heap.size w wa ∧ Two wa w.heap.size (w.heap.size + 1) ar1 aw1 cr1 cw1 R1 W1 f1 m1 o1 e1 ar2 aw2 cr2 cw2 R2 W2 f2 m2 o2 e2 ∧ wa.heap[w.heap.size + 2]? = some zPol) := ⟨hB, hT, hz⟩
  clear hwa hB hT hz hB2 hr1 hw1 hr2 hw2 hc hk
  simp only [zPol] at HW
  go_enter Tryz.func20, Tryz.ntmps20
  go_wp2_with fail
  rw [← HW.out]
  refine H0.mono ?_
  rintro x w0 ⟨rfl, hb00⟩
  have D1 := H1.out w0 hb00
  have t0 := HZ.out.2.1.below hb00
  have y0 := t0.h0
  have y1 := t0.h1
  have y2 := t0.h2
  have y3 := t0.h3
  have y4 := t0.h4
  have y5 := t0.h5
  clear t0
  go_wp2_with fail
  refine D1.mono ?_
  rintro x w1 ⟨rfl, hb01⟩
  have hb1 := hb00.trans (hb01.mono hb00.size)
  clear hb00 hb01 D1 y0 y1 y2 y3 y4 y5
  have HZ1 : Hid (Below w.heap.size w w1 ∧ Two w1 w.heap.size (w.heap.size + 1) ar1 aw1 cr1 cw1 R1 W1 f1 m1 o1 e1 ar2 aw2 cr2 cw2 R2 W2 f2 m2 o2 e2 ∧ w1.heap[w.heap.size + 2]? = some zPol) := ⟨HZ.out.1.trans (hb1.mono HZ.out.1.size), HZ.out.2.1.below hb1, (hb1.block _ (lt_of_block HZ.out.2.2)).trans HZ.out.2.2⟩
  have hsz : w.heap.size + 2 < w1.heap.size := lt_of_block HZ1.out.2.2
  clear hb1 HZ H0 H1 HW
  have HR : Hid (Pts w1 ar1 cr1 R1 ∧ Pts w1 aw1 cw1 W1 ∧ Pts w1 ar2 cr2 R2 ∧ Pts w1 aw2 cw2 W2) := ⟨HZ1.out.2.1.r1, HZ1.out.2.1.w1, HZ1.out.2.1.r2, HZ1.out.2.1.w2⟩
  have HC1 : Hid (∀ V, Below w1.heap.size w1 V → Calls Tryz.prog 41 #[.slice ar1 R1.length cr1, .slice ar2 R2.length cr2] V fun e w' => ∃ (c : List (List ByteArray)) (av : Option Addr) (n : Nat), e = .returned (.slice av c.length n) ∧ Hid (Mvd w1 w' R1 R2 c (.slice av c.length n) w1.heap.size ∧ Below V.heap.size V w') ∧ c.length ≤ 1000000) := fun V hV => rmeet_at _ _ _ _ R1 R2 w1 V HR.out.1 HR.out.2.2.1 hR hV
  have HC2 : Hid (∀ V, Below w1.heap.size w1 V → Calls Tryz.prog 41 #[.slice aw1 W1.length cw1, .slice aw2 W2.length cw2] V fun e w' => ∃ (c : List (List ByteArray)) (av : Option Addr) (n : Nat), e = .returned (.slice av c.length n) ∧ Hid (Mvd w1 w' W1 W2 c (.slice av c.length n) w1.heap.size ∧ Below V.heap.size V w') ∧ c.length ≤ 1000000) := fun V hV => rmeet_at _ _ _ _ W1 W2 w1 V HR.out.2.1 HR.out.2.2.2 hW hV
  have HS : Hid (∀ V, Below w1.heap.size w1 V → Below w1.heap.size w1 V ∧ (V.cell? ⟨w.heap.size, 0, none⟩ = some (.slice ar1 R1.length cr1) ∧ V.cell? ⟨w.heap.size, 1, none⟩ = some (.slice aw1 W1.length cw1) ∧ V.cell? ⟨w.heap.size, 2, none⟩ = some (.int .i64 f1) ∧ V.cell? ⟨w.heap.size, 3, none⟩ = some (.int .i64 m1) ∧ V.cell? ⟨w.heap.size, 4, none⟩ = some (.int .i64 o1) ∧ V.cell? ⟨w.heap.size, 5, none⟩ = some (.int .i64 e1) ∧ V.cell? ⟨w.heap.size + 1, 0, none⟩ = some (.slice ar2 R2.length cr2) ∧ V.cell? ⟨w.heap.size + 1, 1, none⟩ = some (.slice aw2 W2.length cw2) ∧ V.cell? ⟨w.heap.size + 1, 2, none⟩ = some (.int .i64 f2) ∧ V.cell? ⟨w.heap.size + 1, 3, none⟩ = some (.int .i64 m2) ∧ V.cell? ⟨w.heap.size + 1, 4, none⟩ = some (.int .i64 o2) ∧ V.cell? ⟨w.heap.size + 1, 5, none⟩ = some (.int .i64 e2))) := fun V hV => by
    have t := HZ1.out.2.1.below hV
    exact ⟨hV, t.g0, t.g1, t.g2, t.g3, t.g4, t.g5, t.h0, t.h1, t.h2, t.h3, t.h4, t.h5⟩
  have hb0 : Below w1.heap.size w1 w1.drew := (Below.refl _ w1).drew
  obtain ⟨F, hF⟩ : ∃ F, (if f2 < f1 then f2 else f1) = F := ⟨_, rfl⟩
  obtain ⟨M, hM⟩ : ∃ M, (if m2 < m1 then m2 else m1) = M := ⟨_, rfl⟩
  obtain ⟨O, hO⟩ : ∃ O, (if o2 < o1 then o2 else o1) = O := ⟨_, rfl⟩
  obtain ⟨E, hE⟩ : ∃ E, (if e2 < e1 then e2 else e1) = E := ⟨_, rfl⟩
  have HN : Hid (F = min f1 f2 ∧ M = min m1 m2 ∧ O = min o1 o2 ∧ E = min e1 e2) := by
    refine ⟨?_, ?_, ?_, ?_⟩
    · rw [← hF]; split <;> omega
    · rw [← hM]; split <;> omega
    · rw [← hO]; split <;> omega
    · rw [← hE]; split <;> omega
  clear hR hW HR
  generalize hgg : w.heap.size = g at *
  have HG : Hid (w.heap.size = g) := hgg
  clear hgg
  generalize hhh : g + 1 = h at *
  have HH : Hid (g + 1 = h) := hhh
  clear hhh
  go_upto_region 3 with fail
  go_cut [6] (fun v7 wx => ∃ (cR cW : List (List ByteArray)) (avR avW : Option Addr) (nR nW q : Nat), v7 = .pointer (some ⟨q, 0, none⟩) ∧ cR.length ≤ 1000000 ∧ cW.length ≤ 1000000 ∧ MeetF w1 wx R1 W1 R2 W2 cR cW avR avW nR nW q 0 0 0 0)
  case first =>
    refine wp_region_noPanic ?_
    refine wp_region_held_drew (S := fun w' => Below w1.heap.size w1 w' ∧ (w'.cell? ⟨g, 0, none⟩ = some (.slice ar1 R1.length cr1) ∧ w'.cell? ⟨g, 1, none⟩ = some (.slice aw1 W1.length cw1) ∧ w'.cell? ⟨g, 2, none⟩ = some (.int .i64 f1) ∧ w'.cell? ⟨g, 3, none⟩ = some (.int .i64 m1) ∧ w'.cell? ⟨g, 4, none⟩ = some (.int .i64 o1) ∧ w'.cell? ⟨g, 5, none⟩ = some (.int .i64 e1) ∧ w'.cell? ⟨h, 0, none⟩ = some (.slice ar2 R2.length cr2) ∧ w'.cell? ⟨h, 1, none⟩ = some (.slice aw2 W2.length cw2) ∧ w'.cell? ⟨h, 2, none⟩ = some (.int .i64 f2) ∧ w'.cell? ⟨h, 3, none⟩ = some (.int .i64 m2) ∧ w'.cell? ⟨h, 4, none⟩ = some (.int .i64 o2) ∧ w'.cell? ⟨h, 5, none⟩ = some (.int .i64 e2))) (by kernel_rfl) (HS.out _ hb0) (fun hHeld => ?_)
    refine wpAnyH_take (i := 0) (oi := { dst := some 16, op := Op.fieldAddr 24 (Operand.tmp 2) 0, type := 0, pos := "ref.go:96", after := #[], guard := none }) (v := .pointer (some ⟨g, 0, none⟩)) rfl (by kernel_rfl) (by kernel_rfl) (by kernel_rfl) (fun _ _ _ h => h) (Or.inl ⟨by rfl, ?_⟩) (by assumption) ?_
    · intro wq hSw
      go_simp
    simp only [Act.put, List.setIfInBounds_toArray, List.set_cons_zero, List.set_cons_succ]
    refine wpAnyH_take (i := 1) (oi := { dst := some 17, op := Op.load 22 (Operand.tmp 16), type := 22, pos := "ref.go:96", after := #[{ on := 0, ground := Ground.data }], guard := none }) (v := .slice ar1 R1.length cr1) rfl (by kernel_rfl) (by kernel_rfl) (by kernel_rfl) (fun _ _ _ h => h) (Or.inl ⟨by rfl, ?_⟩) (by assumption) ?_
    · intro wq hSw
      go_simp
    simp only [Act.put, List.setIfInBounds_toArray, List.set_cons_zero, List.set_cons_succ]
    refine wpAnyH_take (i := 2) (oi := { dst := some 18, op := Op.fieldAddr 24 (Operand.tmp 3) 0, type := 0, pos := "ref.go:96", after := #[], guard := none }) (v := .pointer (some ⟨h, 0, none⟩)) rfl (by kernel_rfl) (by kernel_rfl) (by kernel_rfl) (fun _ _ _ h => h) (Or.inl ⟨by rfl, ?_⟩) (by assumption) ?_
    · intro wq hSw
      go_simp
    simp only [Act.put, List.setIfInBounds_toArray, List.set_cons_zero, List.set_cons_succ]
    refine wpAnyH_take (i := 3) (oi := { dst := some 19, op := Op.load 22 (Operand.tmp 18), type := 22, pos := "ref.go:96", after := #[{ on := 2, ground := Ground.data }], guard := none }) (v := .slice ar2 R2.length cr2) rfl (by kernel_rfl) (by kernel_rfl) (by kernel_rfl) (fun _ _ _ h => h) (Or.inl ⟨by rfl, ?_⟩) (by assumption) ?_
    · intro wq hSw
      go_simp
    simp only [Act.put, List.setIfInBounds_toArray, List.set_cons_zero, List.set_cons_succ]
    refine wpAnyH_take (i := 5) (oi := { dst := some 21, op := Op.fieldAddr 24 (Operand.tmp 2) 1, type := 0, pos := "ref.go:96", after := #[], guard := none }) (v := .pointer (some ⟨g, 1, none⟩)) rfl (by kernel_rfl) (by kernel_rfl) (by kernel_rfl) (fun _ _ _ h => h) (Or.inl ⟨by rfl, ?_⟩) (by assumption) ?_
    · intro wq hSw
      go_simp
    simp only [Act.put, List.setIfInBounds_toArray, List.set_cons_zero, List.set_cons_succ]
    refine wpAnyH_take (i := 6) (oi := { dst := some 22, op := Op.load 22 (Operand.tmp 21), type := 22, pos := "ref.go:96", after := #[{ on := 5, ground := Ground.data }], guard := none }) (v := .slice aw1 W1.length cw1) rfl (by kernel_rfl) (by kernel_rfl) (by kernel_rfl) (fun _ _ _ h => h) (Or.inl ⟨by rfl, ?_⟩) (by assumption) ?_
    · intro wq hSw
      go_simp
    simp only [Act.put, List.setIfInBounds_toArray, List.set_cons_zero, List.set_cons_succ]
    refine wpAnyH_take (i := 7) (oi := { dst := some 23, op := Op.fieldAddr 24 (Operand.tmp 3) 1, type := 0, pos := "ref.go:96", after := #[], guard := none }) (v := .pointer (some ⟨h, 1, none⟩)) rfl (by kernel_rfl) (by kernel_rfl) (by kernel_rfl) (fun _ _ _ h => h) (Or.inl ⟨by rfl, ?_⟩) (by assumption) ?_
    · intro wq hSw
      go_simp
    simp only [Act.put, List.setIfInBounds_toArray, List.set_cons_zero, List.set_cons_succ]
    refine wpAnyH_take (i := 8) (oi := { dst := some 24, op := Op.load 22 (Operand.tmp 23), type := 22, pos := "ref.go:96", after := #[{ on := 7, ground := Ground.data }], guard := none }) (v := .slice aw2 W2.length cw2) rfl (by kernel_rfl) (by kernel_rfl) (by kernel_rfl) (fun _ _ _ h => h) (Or.inl ⟨by rfl, ?_⟩) (by assumption) ?_
    · intro wq hSw
      go_simp
    simp only [Act.put, List.setIfInBounds_toArray, List.set_cons_zero, List.set_cons_succ]
    refine wpAnyH_ready (rs := [4, 11]) (by kernel_rfl) (by simp) ?_
    refine AllReadyH.cons (o := { dst := some 20, op := Op.call { callee := Callee.value (Operand.func 41), args := #[Operand.tmp 17, Operand.tmp 19], argTypes := #[22, 22] }, type := 22, pos := "ref.go:96", after := #[{ on := 1, ground := Ground.data }, { on := 3, ground := Ground.data }], guard := none }) rfl (fun K hK => ?_) ?_
    · skip
      go_simp
      refine (HC1.out _ hb0).mono ?_
      rintro ex w2 ⟨cR, avR, nR, rfl, K1, hcr⟩
      go_wp2_with fail
      refine hK.out _ _ (HS.out _ K1.out.1.bel) (fun hHeld => ?_)
      clear hK K
      try simp only [Act.put, List.setIfInBounds_toArray, List.set_cons_zero, List.set_cons_succ]
      refine wpAnyH_ready (rs := [9, 11]) (by kernel_rfl) (by simp) ?_
      refine AllReadyH.cons (o := { dst := some 25, op := Op.call { callee := Callee.value (Operand.func 41), args := #[Operand.tmp 22, Operand.tmp 24], argTypes := #[22, 22] }, type := 22, pos := "ref.go:96", after := #[{ on := 6, ground := Ground.data }, { on := 8, ground := Ground.data }, { on := 4, ground := Ground.chain }], guard := none }) rfl (fun K hK => ?_) ?_
      · skip
        go_simp
        refine (HC2.out _ K1.out.1.bel).mono ?_
        rintro ex w3 ⟨cW, avW, nW, rfl, K2, hcw⟩
        go_wp2_with fail
        refine hK.out _ _ (HS.out _ K2.out.1.bel) (fun hHeld => ?_)
        clear hK K
        try simp only [Act.put, List.setIfInBounds_toArray, List.set_cons_zero, List.set_cons_succ]
        refine wpAnyH_take (i := 10) (oi := { dst := some 26, op := Op.build 24 #[(0, Operand.tmp 20), (1, Operand.tmp 25)], type := 24, pos := "ref.go:96", after := #[{ on := 4, ground := Ground.data }, { on := 9, ground := Ground.data }], guard := none }) (v := .agg #[.slice avR cR.length nR, .slice avW cW.length nW, .int .i64 0, .int .i64 0, .int .i64 0, .int .i64 0]) rfl (by kernel_rfl) (by kernel_rfl) (by kernel_rfl) (fun _ _ _ h => h) (Or.inl ⟨by rfl, ?_⟩) (by assumption) ?_
        · intro wq hSw
          go_simp
        simp only [Act.put, List.setIfInBounds_toArray, List.set_cons_zero, List.set_cons_succ]
        refine wpAnyH_ready (rs := [11]) (by kernel_rfl) (by simp) ?_
        refine AllReadyH.cons (o := { dst := some 6, op := Op.alloc 24, type := 0, pos := "ref.go:96", after := #[], guard := none }) rfl (fun K hK => ?_) ?_
        · skip
          go_simp
          refine hK.out _ _ (HS.out _ (K2.out.1.bel.alloc K2.out.1.bel.size _)) (fun hHeld => ?_)
          clear hK K
          try simp only [Act.put, List.setIfInBounds_toArray, List.set_cons_zero, List.set_cons_succ]
          refine wpAnyH_ready (rs := [12]) (by kernel_rfl) (by simp) ?_
          refine AllReadyH.cons rfl (fun K hK => ?_) ?_
          · go_simp
            refine hK.out _ _ (HS.out _ (K2.out.1.bel.alloc K2.out.1.bel.size _)) (fun hHeld => ?_)
            clear hK K
            try simp only [Act.put, List.setIfInBounds_toArray, List.set_cons_zero, List.set_cons_succ]
            refine wpAnyH_done (by kernel_rfl) ?_ _
            refine NoPanic.normal ?_
            have HFn := meet_end1 K1 K2 0 0 0 0
            clear K1 K2
            go_wp2_with fail
            go_meet
            case rel => exact ⟨cR, cW, avR, avW, nR, nW, _, rfl, hcr, hcw, HFn⟩
          · exact AllReadyH.nil
        · exact AllReadyH.nil
      · skip
        refine AllReadyH.cons (o := { dst := some 6, op := Op.alloc 24, type := 0, pos := "ref.go:96", after := #[], guard := none }) rfl (fun K hK => ?_) ?_
        · skip
          go_simp
          refine hK.out _ _ (HS.out _ (K1.out.1.bel.alloc K1.out.1.bel.size _)) (fun hHeld => ?_)
          clear hK K
          try simp only [Act.put, List.setIfInBounds_toArray, List.set_cons_zero, List.set_cons_succ]
          refine wpAnyH_ready (rs := [9]) (by kernel_rfl) (by simp) ?_
          refine AllReadyH.cons (o := { dst := some 25, op := Op.call { callee := Callee.value (Operand.func 41), args := #[Operand.tmp 22, Operand.tmp 24], argTypes := #[22, 22] }, type := 22, pos := "ref.go:96", after := #[{ on := 6, ground := Ground.data }, { on := 8, ground := Ground.data }, { on := 4, ground := Ground.chain }], guard := none }) rfl (fun K hK => ?_) ?_
          · skip
            go_simp
            refine (HC2.out _ (K1.out.1.bel.alloc K1.out.1.bel.size _)).mono ?_
            rintro ex w3 ⟨cW, avW, nW, rfl, K2, hcw⟩
            go_wp2_with fail
            refine hK.out _ _ (HS.out _ K2.out.1.bel) (fun hHeld => ?_)
            clear hK K
            try simp only [Act.put, List.setIfInBounds_toArray, List.set_cons_zero, List.set_cons_succ]
            have z2 : w3.heap[w2.heap.size]? = some zPol := (K2.out.2.block _ (by simp)).trans (heap_alloc_new w2 _)
            obtain ⟨⟨q0, q1, q2, q3, q4, q5⟩, q6⟩ := zcells z2
            refine wpAnyH_take (i := 10) (oi := { dst := some 26, op := Op.build 24 #[(0, Operand.tmp 20), (1, Operand.tmp 25)], type := 24, pos := "ref.go:96", after := #[{ on := 4, ground := Ground.data }, { on := 9, ground := Ground.data }], guard := none }) (v := .agg #[.slice avR cR.length nR, .slice avW cW.length nW, .int .i64 0, .int .i64 0, .int .i64 0, .int .i64 0]) rfl (by kernel_rfl) (by kernel_rfl) (by kernel_rfl) (fun _ _ _ h => h) (Or.inl ⟨by rfl, ?_⟩) (by assumption) ?_
            · intro wq hSw
              go_simp
            simp only [Act.put, List.setIfInBounds_toArray, List.set_cons_zero, List.set_cons_succ]
            refine wpAnyH_ready (rs := [12]) (by kernel_rfl) (by simp) ?_
            refine AllReadyH.cons rfl (fun K hK => ?_) ?_
            · go_simp
              refine hK.out _ _ (HS.out _ (put_bel K2.out.1.bel K1.out.1.bel.size z2 _ _ _ _ _ _)) (fun hHeld => ?_)
              clear hK K
              try simp only [Act.put, List.setIfInBounds_toArray, List.set_cons_zero, List.set_cons_succ]
              refine wpAnyH_done (by kernel_rfl) ?_ _
              refine NoPanic.normal ?_
              have HFn := meet_end2 K1.out.1.cov (mvd_on K1 K2.out.2 (.inr ⟨_, rfl⟩)) K2.out.1 K1.out.1.bel.size z2 0 0 0 0
              clear K1 K2
              go_wp2_with fail
              go_meet
              case rel => exact ⟨cR, cW, avR, avW, nR, nW, _, rfl, hcr, hcw, HFn⟩
            · exact AllReadyH.nil
          · exact AllReadyH.nil
        · exact AllReadyH.nil
    · skip
      refine AllReadyH.cons (o := { dst := some 6, op := Op.alloc 24, type := 0, pos := "ref.go:96", after := #[], guard := none }) rfl (fun K hK => ?_) ?_
      · skip
        go_simp
        refine hK.out _ _ (HS.out _ (hb0.alloc hb0.size _)) (fun hHeld => ?_)
        clear hK K
        try simp only [Act.put, List.setIfInBounds_toArray, List.set_cons_zero, List.set_cons_succ]
        refine wpAnyH_ready (rs := [4]) (by kernel_rfl) (by simp) ?_
        refine AllReadyH.cons (o := { dst := some 20, op := Op.call { callee := Callee.value (Operand.func 41), args := #[Operand.tmp 17, Operand.tmp 19], argTypes := #[22, 22] }, type := 22, pos := "ref.go:96", after := #[{ on := 1, ground := Ground.data }, { on := 3, ground := Ground.data }], guard := none }) rfl (fun K hK => ?_) ?_
        · skip
          go_simp
          refine (HC1.out _ (hb0.alloc hb0.size _)).mono ?_
          rintro ex w2 ⟨cR, avR, nR, rfl, K1, hcr⟩
          go_wp2_with fail
          refine hK.out _ _ (HS.out _ K1.out.1.bel) (fun hHeld => ?_)
          clear hK K
          try simp only [Act.put, List.setIfInBounds_toArray, List.set_cons_zero, List.set_cons_succ]
          have z1 : w2.heap[w1.heap.size]? = some zPol := (K1.out.2.block _ (by simp)).trans (heap_alloc_new w1.drew _)
          refine wpAnyH_ready (rs := [9]) (by kernel_rfl) (by simp) ?_
          refine AllReadyH.cons (o := { dst := some 25, op := Op.call { callee := Callee.value (Operand.func 41), args := #[Operand.tmp 22, Operand.tmp 24], argTypes := #[22, 22] }, type := 22, pos := "ref.go:96", after := #[{ on := 6, ground := Ground.data }, { on := 8, ground := Ground.data }, { on := 4, ground := Ground.chain }], guard := none }) rfl (fun K hK => ?_) ?_
          · skip
            go_simp
            refine (HC2.out _ K1.out.1.bel).mono ?_
            rintro ex w3 ⟨cW, avW, nW, rfl, K2, hcw⟩
            go_wp2_with fail
            refine hK.out _ _ (HS.out _ K2.out.1.bel) (fun hHeld => ?_)
            clear hK K
            try simp only [Act.put, List.setIfInBounds_toArray, List.set_cons_zero, List.set_cons_succ]
            have z2 : w3.heap[w1.heap.size]? = some zPol := (K2.out.2.block _ (lt_of_block z1)).trans z1
            obtain ⟨⟨q0, q1, q2, q3, q4, q5⟩, q6⟩ := zcells z2
            refine wpAnyH_take (i := 10) (oi := { dst := some 26, op := Op.build 24 #[(0, Operand.tmp 20), (1, Operand.tmp 25)], type := 24, pos := "ref.go:96", after := #[{ on := 4, ground := Ground.data }, { on := 9, ground := Ground.data }], guard := none }) (v := .agg #[.slice avR cR.length nR, .slice avW cW.length nW, .int .i64 0, .int .i64 0, .int .i64 0, .int .i64 0]) rfl (by kernel_rfl) (by kernel_rfl) (by kernel_rfl) (fun _ _ _ h => h) (Or.inl ⟨by rfl, ?_⟩) (by assumption) ?_
            · intro wq hSw
              go_simp
            simp only [Act.put, List.setIfInBounds_toArray, List.set_cons_zero, List.set_cons_succ]
            refine wpAnyH_ready (rs := [12]) (by kernel_rfl) (by simp) ?_
            refine AllReadyH.cons rfl (fun K hK => ?_) ?_
            · go_simp
              refine hK.out _ _ (HS.out _ (put_bel K2.out.1.bel (Nat.le_refl _) z2 _ _ _ _ _ _)) (fun hHeld => ?_)
              clear hK K
              try simp only [Act.put, List.setIfInBounds_toArray, List.set_cons_zero, List.set_cons_succ]
              refine wpAnyH_done (by kernel_rfl) ?_ _
              refine NoPanic.normal ?_
              have HFn := meet_end2 K1.out.1.cov (mvd_on K1 K2.out.2 (.inl rfl)) K2.out.1 (Nat.le_refl _) z2 0 0 0 0
              clear K1 K2
              go_wp2_with fail
              go_meet
              case rel => exact ⟨cR, cW, avR, avW, nR, nW, _, rfl, hcr, hcw, HFn⟩
            · exact AllReadyH.nil
          · exact AllReadyH.nil
        · exact AllReadyH.nil
      · exact AllReadyH.nil
  case rest =>
    obtain ⟨cR, cW, avR, avW, nR, nW, q, rfl, hcr, hcw, HFn⟩ := hcut
    have hz0 : wc.heap[h + 1]? = some zPol := by
      have e := HH.out
      rw [show h + 1 = g + 2 by omega]
      exact (HFn.out.2.2.2.2.1.block _ (by omega)).trans HZ1.out.2.2
    obtain ⟨⟨x0, x1, x2, x3, x4, x5⟩, xf⟩ := cells_po HFn.out.2.2.2.2.2.1
    obtain ⟨_, _, _, s1, s2, s3, s4, _, _, s5, s6, s7, s8⟩ := HS.out wc HFn.out.2.2.2.2.1
    have n1f : min f1 f2 = F := HN.out.1.symm
    have n2f : min m1 m2 = M := HN.out.2.1.symm
    have n3f : min o1 o2 = O := HN.out.2.2.1.symm
    have n4f : min e1 e2 = E := HN.out.2.2.2.symm
    obtain ⟨⟨p0, p1, p2, p3, p4, p5⟩, pf⟩ := zcells hz0
    have HBl : Hid (Below w.heap.size w wc) := by
      have k := HZ1.out.1
      rw [← HG.out] at k
      exact k.trans (HFn.out.2.2.2.2.1.mono k.size)
    have HZ : Hid (wc.heap[h + 1]? = some zPol) := hz0
    have hgh : w.heap.size < h + 1 := by have e1 := HG.out; have e2 := HH.out; omega
    have hw1 : w.heap.size ≤ w1.heap.size := HZ1.out.1.size
    have hhw : h + 1 < w1.heap.size := by have e2 := HH.out; omega
    clear hz0 HZ1 HC1 HC2 HS hb0 hF hM hO hE
    by_cases hA : 1024 < cR.length
    · have hA1 : (1024 : Int) < (cR.length : Int) := by omega
      have hA2 : decide ((1024 : Int) < (cR.length : Int)) = true := by simpa using hA1
      go_wp2_with fail
      obtain ⟨y0, y1⟩ := put6_at HZ.out (.slice none 0 0) (.slice none 0 0) (.int .i64 0) (.int .i64 0) (.int .i64 0) (.int .i64 0)
      refine bodyPost_ret (results_pol2 rfl _ _ (h + 1) _ _ _ _ _ _ rfl y0) rfl ?_
      exact ⟨HBl.out.trans (y1.below HBl.out.size (fun k e => by omega)), cR, cW, HFn.out.1, HFn.out.2.1, .inl ⟨.inl hA, rfl⟩⟩
    have hA1 : ¬ (1024 : Int) < (cR.length : Int) := by omega
    have hA2 : decide ((1024 : Int) < (cR.length : Int)) = false := by simpa using hA1
    by_cases hC : 1024 < cW.length
    · have hC1 : (1024 : Int) < (cW.length : Int) := by omega
      have hC2 : decide ((1024 : Int) < (cW.length : Int)) = true := by simpa using hC1
      go_wp2_with fail
      obtain ⟨y0, y1⟩ := put6_at HZ.out (.slice none 0 0) (.slice none 0 0) (.int .i64 0) (.int .i64 0) (.int .i64 0) (.int .i64 0)
      refine bodyPost_ret (results_pol2 rfl _ _ (h + 1) _ _ _ _ _ _ rfl y0) rfl ?_
      exact ⟨HBl.out.trans (y1.below HBl.out.size (fun k e => by omega)), cR, cW, HFn.out.1, HFn.out.2.1, .inl ⟨.inr hC, rfl⟩⟩
    · have hC1 : ¬ (1024 : Int) < (cW.length : Int) := by omega
      have hC2 : decide ((1024 : Int) < (cW.length : Int)) = false := by simpa using hC1
      obtain ⟨w6, hw6⟩ : ∃ w6, w6 = (((wc.setCell ⟨q, 2, none⟩ (.int .i64 F)).setCell ⟨q, 3, none⟩ (.int .i64 M)).setCell ⟨q, 4, none⟩ (.int .i64 O)).setCell ⟨q, 5, none⟩ (.int .i64 E) := ⟨_, rfl⟩
      have t6 : Tu (fun k => k = q) wc w6 := by rw [hw6]; exact ((((Tu.refl (fun k => k = q) wc).setCell (p := ⟨q, 2, none⟩) (fun _ => rfl) _).setCell (p := ⟨q, 3, none⟩) (fun _ => rfl) _).setCell (p := ⟨q, 4, none⟩) (fun _ => rfl) _).setCell (p := ⟨q, 5, none⟩) (fun _ => rfl) _
      have hx6 : w6.heap[q]? = some (polO (.slice avR cR.length nR) (.slice avW cW.length nW) F M O E) := by
        rw [hw6]
        have k1 := heap_setCell_same _ q 2 _ _ (.int .i64 F) HFn.out.2.2.2.2.2.1
        have k2 := heap_setCell_same _ q 3 _ _ (.int .i64 M) k1
        have k3 := heap_setCell_same _ q 4 _ _ (.int .i64 O) k2
        have k4 := heap_setCell_same _ q 5 _ _ (.int .i64 E) k3
        rw [k4]; simp [polO]
      have hz6 : w6.heap[h + 1]? = some zPol := (t6.block _ (lt_of_block HZ.out) (by have := HFn.out.2.2.2.2.2.2; omega)).trans HZ.out
      have hb6 : Below w.heap.size w w6 := HBl.out.trans (t6.below HBl.out.size (fun k e => by have := HFn.out.2.2.2.2.2.2; omega))
      have pR6 : PRow w6 w1.heap.size (.slice avR cR.length nR) cR := HFn.out.2.2.1.keep3 HFn.out.2.2.2.2.2.1 (fun s => ⟨by simp, by simp⟩) t6
      have pW6 : PRow w6 w1.heap.size (.slice avW cW.length nW) cW := HFn.out.2.2.2.1.keep3 HFn.out.2.2.2.2.2.1 (fun s => ⟨by simp, by simp⟩) t6
      have HW6 : Hid (w6 = (((wc.setCell ⟨q, 2, none⟩ (.int .i64 F)).setCell ⟨q, 3, none⟩ (.int .i64 M)).setCell ⟨q, 4, none⟩ (.int .i64 O)).setCell ⟨q, 5, none⟩ (.int .i64 E)) := hw6
      have H6 : Hid (w6.heap[q]? = some (polO (.slice avR cR.length nR) (.slice avW cW.length nW) F M O E) ∧ w6.heap[h + 1]? = some zPol ∧ Below w.heap.size w w6 ∧ PRow w6 w1.heap.size (.slice avR cR.length nR) cR ∧ PRow w6 w1.heap.size (.slice avW cW.length nW) cW) := ⟨hx6, hz6, hb6, pR6, pW6⟩
      have hqg : q ≠ g := by have := HFn.out.2.2.2.2.2.2; have := HH.out; omega
      have hqh : q ≠ h := by have := HFn.out.2.2.2.2.2.2; omega
      have hqg' : g ≠ q := fun e => hqg e.symm
      have hqh' : h ≠ q := fun e => hqh e.symm
      clear hw6 t6 hx6 hz6 hb6 pR6 pW6 p0 p1 p2 p3 p4 p5 pf
      go_upto_region 10 with fail
      rw [← HW6.out]
      clear HW6 x0 x1 x2 x3 x4 x5 s1 s2 s3 s4 s5 s6 s7 s8 xf n1f n2f n3f n4f
      obtain ⟨⟨x0, x1, x2, x3, x4, x5⟩, _⟩ := cells_po H6.out.1
      obtain ⟨⟨p0, p1, p2, p3, p4, p5⟩, pf⟩ := zcells H6.out.2.1
      go_wp2_with fail
      obtain ⟨y0, y1⟩ := put6_at H6.out.2.1 (.slice avR cR.length nR) (.slice avW cW.length nW) (.int .i64 F) (.int .i64 M) (.int .i64 O) (.int .i64 E)
      refine bodyPost_ret (results_pol2 rfl _ _ (h + 1) _ _ _ _ _ _ rfl y0) rfl ?_
      obtain ⟨n1, n2, n3, n4⟩ := HN.out
      refine ⟨H6.out.2.2.1.trans (y1.below H6.out.2.2.1.size (fun k e => by omega)), cR, cW, HFn.out.1, HFn.out.2.1, .inr ⟨⟨by omega, by omega⟩, avR, avW, nR, nW, ?_, (H6.out.2.2.2.1.keep2 H6.out.2.1 y1).base hw1, (H6.out.2.2.2.2.keep2 H6.out.2.1 y1).base hw1⟩⟩
      rw [← n1, ← n2, ← n3, ← n4]
      rfl
end Go.Proofs.YtcloljkaojnipaaGreatDoor
