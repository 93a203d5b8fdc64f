/- What the reference's Copy and Normal answer of a policy. -/
import Derived.Test.YtnmplolkbmackaaGreatDoorPgN
import Derived.Test.YtnmplolkbmackaaGreatDoorRefCover
namespace Go.Proofs.YtnmplolkbmackaaGreatDoor
open Go.RowKit

/-- A policy in a block, a zero one behind it. -/
structure Pz (w0 w : World) (x0 x1 : Value) (f m o e : Int) : Prop where
  bel : Below w0.heap.size w0 w
  x : w.heap[w0.heap.size]? = some (polO x0 x1 f m o e)
  z : w.heap[w0.heap.size + 1]? = some zPol
theorem Pz.under {w0 w w' : World} {x0 x1 : Value} {f m o e : Int} (h : Pz w0 w x0 x1 f m o e) (hb : Below w.heap.size w w') : Pz w0 w' x0 x1 f m o e :=
  ⟨h.bel.trans (hb.mono h.bel.size), (hb.block _ (lt_of_block h.x)).trans h.x, (hb.block _ (lt_of_block h.z)).trans h.z⟩
theorem Pz.tu {w0 w : World} {x0 x1 : Value} {f m o e : Int} (_ : Pz w0 w x0 x1 f m o e) (j : Nat) (v : Value) : Tu (fun k => k = w0.heap.size) w (w.setCell ⟨w0.heap.size, j, none⟩ v) := (Tu.refl (fun k => k = w0.heap.size) w).setCell (p := ⟨w0.heap.size, j, none⟩) (fun _ => rfl) _
theorem Pz.set0 {w0 w : World} {x0 x1 : Value} {f m o e : Int} (h : Pz w0 w x0 x1 f m o e) (v : Value) : Pz w0 (w.setCell ⟨w0.heap.size, 0, none⟩ v) v x1 f m o e :=
  ⟨h.bel.trans ((h.tu 0 v).below h.bel.size (fun k e => by omega)), by rw [heap_setCell_same _ _ 0 _ _ _ h.x]; simp [polO], ((h.tu 0 v).block (w0.heap.size + 1) (lt_of_block h.z) (by omega)).trans h.z⟩
theorem Pz.set1 {w0 w : World} {x0 x1 : Value} {f m o e : Int} (h : Pz w0 w x0 x1 f m o e) (v : Value) : Pz w0 (w.setCell ⟨w0.heap.size, 1, none⟩ v) x0 v f m o e :=
  ⟨h.bel.trans ((h.tu 1 v).below h.bel.size (fun k e => by omega)), by rw [heap_setCell_same _ _ 1 _ _ _ h.x]; simp [polO], ((h.tu 1 v).block (w0.heap.size + 1) (lt_of_block h.z) (by omega)).trans h.z⟩
theorem pz_new (w : World) (ar aw : Option Addr) (cr cw : Nat) (R W : List (List ByteArray)) (f m o e : Int) : Pz w ((w.alloc (.cells #[.slice ar R.length cr, .slice aw W.length cw, .int .i64 f, .int .i64 m, .int .i64 o, .int .i64 e] 24)).alloc zPol) (.slice ar R.length cr) (.slice aw W.length cw) f m o e :=
  ⟨((Below.refl _ _).alloc (Nat.le_refl _) _).alloc (by simp) _, by rw [heap_alloc_old _ _ (by simp)]; exact heap_alloc_new _ _, by rw [show w.heap.size + 1 = (w.alloc (.cells #[.slice ar R.length cr, .slice aw W.length cw, .int .i64 f, .int .i64 m, .int .i64 o, .int .i64 e] 24)).heap.size from by simp]; exact heap_alloc_new _ _⟩
theorem cells_pol {w : World} {g : Nat} {x0 x1 : Value} {f m o e : Int} (h : w.heap[g]? = some (polO x0 x1 f m o e)) : (w.cell? ⟨g, 0, none⟩ = some x0 ∧ w.cell? ⟨g, 1, none⟩ = some x1 ∧ w.cell? ⟨g, 2, none⟩ = some (.int .i64 f) ∧ w.cell? ⟨g, 3, none⟩ = some (.int .i64 m) ∧ w.cell? ⟨g, 4, none⟩ = some (.int .i64 o) ∧ w.cell? ⟨g, 5, none⟩ = some (.int .i64 e)) ∧ ∀ j, w.frozen? ⟨g, j, none⟩ = false := by
  simp only [World.cell?, h]
  exact ⟨⟨rfl, rfl, rfl, rfl, rfl, rfl⟩, fun j => frozen_of_row w _ j _ _ h⟩
theorem cells_zer {w : World} {g : Nat} (h : w.heap[g]? = some zPol) : (w.cell? ⟨g, 0, none⟩ = some (.slice none 0 0) ∧ w.cell? ⟨g, 1, none⟩ = some (.slice none 0 0) ∧ w.cell? ⟨g, 2, none⟩ = some (.int .i64 0) ∧ w.cell? ⟨g, 3, none⟩ = some (.int .i64 0) ∧ w.cell? ⟨g, 4, none⟩ = some (.int .i64 0) ∧ w.cell? ⟨g, 5, none⟩ = some (.int .i64 0)) ∧ ∀ j, w.frozen? ⟨g, j, none⟩ = false := cells_pol (x0 := .slice none 0 0) (x1 := .slice none 0 0) (f := 0) (m := 0) (o := 0) (e := 0) h
theorem PRow.far {w w' : World} {w0 : World} {b : Nat} {v x0 x1 : Value} {f m o e : Int} {l : List (List ByteArray)} (h : PRow w b v l) (hz : Pz w0 w x0 x1 f m o e) (h0 : ∀ s, x0 ≠ .string s ∧ x1 ≠ .string s) (ht : Tu (fun k => k = w0.heap.size) w w') (hb : w0.heap.size < b) : PRow w' b v l := h.keep hz.x h0 ht hb

set_option maxRecDepth 100000 in
set_option maxHeartbeats 1000000 in
theorem rpcopy_any (ar aw : Option Addr) (cr cw : Nat) (R W : List (List ByteArray)) (f m o e : Int) (w : World) (hr : Pts w ar cr R) (hw : Pts w aw cw W) :
    Calls Tryz.prog 9 #[.agg #[.slice ar R.length cr, .slice aw W.length cw, .int .i64 f, .int .i64 m, .int .i64 o, .int .i64 e]] w fun x w' => ∃ aR aW nR nW, x = .returned (.agg #[.slice aR R.length nR, .slice aW W.length nW, .int .i64 f, .int .i64 m, .int .i64 o, .int .i64 e]) ∧ PRow w' w.heap.size (.slice aR R.length nR) R ∧ PRow w' w.heap.size (.slice aW W.length nW) W ∧ Below w.heap.size w w' := by
  obtain ⟨wa, hwa⟩ : ∃ wa, wa = (w.alloc (.cells #[.slice ar R.length cr, .slice aw W.length cw, .int .i64 f, .int .i64 m, .int .i64 o, .int .i64 e] 24)).alloc zPol := ⟨_, rfl⟩
  have hP : Pz w wa (.slice ar R.length cr) (.slice aw W.length cw) f m o e := by rw [hwa]; exact pz_new w ar aw cr cw R W f m o e
  have HW : Hid (wa = (w.alloc (.cells #[.slice ar R.length cr, .slice aw W.length cw, .int .i64 f, .int .i64 m, .int .i64 o, .int .i64 e] 24)).alloc zPol) := hwa
  have C1 := copies_any ar cr R wa (hr.below hP.bel)
  have hlr := hr.len
  have hlw := hw.len
  have hsz : w.heap.size + 1 < wa.heap.size := lt_of_block hP.z
  have HP : Hid (Pz w wa (.slice ar R.length cr) (.slice aw W.length cw) f m o e ∧ Pts w aw cw W) := ⟨hP, hw⟩
  clear hwa hP hr hw
  simp only [zPol] at HW
  go_enter Tryz.func9, Tryz.ntmps9
  go_wp2_with fail
  rw [← HW.out]
  refine C1.mono ?_
  rintro x w2 ⟨v2, rfl, p2, b2⟩
  obtain ⟨aR, nR, rfl, _⟩ := p2.pts hlr
  have hP2 := HP.out.1.under b2
  obtain ⟨w3, hw3⟩ : ∃ w3, w3 = w2.setCell ⟨w.heap.size, 0, none⟩ (.slice aR R.length nR) := ⟨_, rfl⟩
  have hP3 : Pz w w3 (.slice aR R.length nR) (.slice aw W.length cw) f m o e := by rw [hw3]; exact hP2.set0 _
  have p3 : PRow w3 wa.heap.size (.slice aR R.length nR) R := by rw [hw3]; exact p2.far hP2 (fun s => ⟨by simp, by simp⟩) (hP2.tu 0 _) (by omega)
  have HW3 : Hid (w3 = w2.setCell ⟨w.heap.size, 0, none⟩ (.slice aR R.length nR)) := hw3
  have C2 := copies_any aw cw W w3 (HP.out.2.below hP3.bel)
  obtain ⟨⟨k0, k1, _⟩, kf⟩ := cells_pol hP2.x
  have HP3 : Hid (Pz w w3 (.slice aR R.length nR) (.slice aw W.length cw) f m o e ∧ PRow w3 wa.heap.size (.slice aR R.length nR) R) := ⟨hP3, p3⟩
  have hq3 : w2.heap.size ≤ w3.heap.size := by rw [hw3]; exact (hP2.tu 0 _).size
  have hq2 := b2.size
  clear HP HW C1 hw3 hP3 p3 hP2 p2 b2
  go_wp2_with fail
  rw [← HW3.out]
  refine C2.mono ?_
  rintro x w4 ⟨v4, rfl, p4, b4⟩
  obtain ⟨aW, nW, rfl, _⟩ := p4.pts hlw
  have hP4 := HP3.out.1.under b4
  obtain ⟨w5, hw5⟩ : ∃ w5, w5 = w4.setCell ⟨w.heap.size, 1, none⟩ (.slice aW W.length nW) := ⟨_, rfl⟩
  have hP5 : Pz w w5 (.slice aR R.length nR) (.slice aW W.length nW) f m o e := by rw [hw5]; exact hP4.set1 _
  have t5 : Tu (fun k => k = w.heap.size) w4 w5 := by rw [hw5]; exact hP4.tu 1 _
  have p5R : PRow w5 wa.heap.size (.slice aR R.length nR) R := (HP3.out.2.below b4).far hP4 (fun s => ⟨by simp, by simp⟩) t5 (by omega)
  have p5W : PRow w5 w3.heap.size (.slice aW W.length nW) W := p4.far hP4 (fun s => ⟨by simp, by simp⟩) t5 (by omega)
  have HW5 : Hid (w5 = w4.setCell ⟨w.heap.size, 1, none⟩ (.slice aW W.length nW)) := hw5
  obtain ⟨⟨l0, l1, l2, l3, l4, l5⟩, lf⟩ := cells_pol hP4.x
  obtain ⟨⟨n0, n1, n2, n3, n4, n5⟩, nf⟩ := cells_pol hP5.x
  obtain ⟨⟨o0, o1, o2, o3, o4, o5⟩, of⟩ := cells_zer hP5.z
  have HP5 : Hid (Pz w w5 (.slice aR R.length nR) (.slice aW W.length nW) f m o e ∧ PRow w5 wa.heap.size (.slice aR R.length nR) R ∧ PRow w5 w3.heap.size (.slice aW W.length nW) W) := ⟨hP5, p5R, p5W⟩
  clear HP3 HW3 C2 hw5 hP5 t5 p5R p5W hP4 p4 b4 k0 k1 kf
  go_upto_region 3 with fail
  rw [← HW5.out]
  go_wp2_with fail
  obtain ⟨y0, y1⟩ := put6_at HP5.out.1.z (.slice aR R.length nR) (.slice aW W.length nW) (.int .i64 f) (.int .i64 m) (.int .i64 o) (.int .i64 e)
  refine bodyPost_ret (results_cell_row rfl _ _ (w.heap.size + 1) _ _ _ _ rfl y0 Tryz.underlying24 rfl (by kernel_rfl)) rfl ?_
  obtain ⟨h1, h2, h3⟩ := HP5.out
  have h0 : ∀ s, (Value.slice none 0 0) ≠ .string s ∧ (Value.slice none 0 0) ≠ .string s := fun s => ⟨by simp, by simp⟩
  have hg3 : w.heap.size + 1 < w3.heap.size := by omega
  exact ⟨aR, aW, nR, nW, rfl, (h2.keep (x0 := .slice none 0 0) (x1 := .slice none 0 0) (f := 0) (m := 0) (o := 0) (e := 0) h1.z h0 y1 (by omega)).base (by omega), (h3.keep (x0 := .slice none 0 0) (x1 := .slice none 0 0) (f := 0) (m := 0) (o := 0) (e := 0) h1.z h0 y1 hg3).base (by omega), h1.bel.trans (y1.below h1.bel.size (fun k e => by omega))⟩

set_option maxRecDepth 100000 in
set_option maxHeartbeats 1000000 in
theorem rpnormal_no (ar aw : Option Addr) (cr cw : Nat) (R W : List (List ByteArray)) (f m o e : Int) (w : World) (hr : Pts w ar cr R) (hw : Pts w aw cw W) (hc : Pl.polC R W f m o e = 50) :
    Calls Tryz.prog 11 #[.agg #[.slice ar R.length cr, .slice aw W.length cw, .int .i64 f, .int .i64 m, .int .i64 o, .int .i64 e]] w fun x w' => x = .returned (.tuple #[.agg #[.slice none 0 0, .slice none 0 0, .int .i64 0, .int .i64 0, .int .i64 0, .int .i64 0], .int .i64 50]) ∧ Below w.heap.size w w' := by
  obtain ⟨wa, hwa⟩ : ∃ wa, wa = (w.alloc (.cells #[.slice ar R.length cr, .slice aw W.length cw, .int .i64 f, .int .i64 m, .int .i64 o, .int .i64 e] 24)).alloc zPol := ⟨_, rfl⟩
  have hP : Pz w wa (.slice ar R.length cr) (.slice aw W.length cw) f m o e := by rw [hwa]; exact pz_new w ar aw cr cw R W f m o e
  have HW : Hid (wa = (w.alloc (.cells #[.slice ar R.length cr, .slice aw W.length cw, .int .i64 f, .int .i64 m, .int .i64 o, .int .i64 e] 24)).alloc zPol) := hwa
  have C0 := rRight_any ar aw cr cw R W f m o e wa (hr.below hP.bel) (hw.below hP.bel)
  rw [hc] at C0
  have hlr := hr.len
  have hlw := hw.len
  have HP : Hid (Pz w wa (.slice ar R.length cr) (.slice aw W.length cw) f m o e) := hP
  clear hwa hP hr hw hc
  simp only [zPol] at HW
  go_enter Tryz.func11, Tryz.ntmps11
  go_wp2_with fail
  rw [← HW.out]
  refine C0.mono ?_
  rintro x w1 ⟨rfl, b1⟩
  have hP1 := HP.out.under b1
  obtain ⟨⟨o0, o1, o2, o3, o4, o5⟩, of⟩ := cells_zer hP1.z
  have HP1 : Hid (Pz w w1 (.slice ar R.length cr) (.slice aw W.length cw) f m o e) := hP1
  clear hP1 HP b1 C0 HW
  go_wp2_with fail
  obtain ⟨y0, y1⟩ := put6_at HP1.out.z (.slice none 0 0) (.slice none 0 0) (.int .i64 0) (.int .i64 0) (.int .i64 0) (.int .i64 0)
  refine bodyPost_ret (results_pol2 rfl _ _ (w.heap.size + 1) _ _ _ _ _ _ rfl y0) rfl ?_
  exact ⟨rfl, HP1.out.bel.trans (y1.below HP1.out.bel.size (fun k e => by omega))⟩

set_option maxRecDepth 100000 in
set_option maxHeartbeats 1000000 in
theorem rpnormal_yes (ar aw : Option Addr) (cr cw : Nat) (R W : List (List ByteArray)) (f m o e : Int) (w : World) (hr : Pts w ar cr R) (hw : Pts w aw cw W) (hc : Pl.polC R W f m o e = 0) :
    Calls Tryz.prog 11 #[.agg #[.slice ar R.length cr, .slice aw W.length cw, .int .i64 f, .int .i64 m, .int .i64 o, .int .i64 e]] w (NormE w R W f m o e) := by
  obtain ⟨wa, hwa⟩ : ∃ wa, wa = (w.alloc (.cells #[.slice ar R.length cr, .slice aw W.length cw, .int .i64 f, .int .i64 m, .int .i64 o, .int .i64 e] 24)).alloc zPol := ⟨_, rfl⟩
  have hP : Pz w wa (.slice ar R.length cr) (.slice aw W.length cw) f m o e := by rw [hwa]; exact pz_new w ar aw cr cw R W f m o e
  have HW : Hid (wa = (w.alloc (.cells #[.slice ar R.length cr, .slice aw W.length cw, .int .i64 f, .int .i64 m, .int .i64 o, .int .i64 e] 24)).alloc zPol) := hwa
  have C0 := rRight_any ar aw cr cw R W f m o e wa (hr.below hP.bel) (hw.below hP.bel)
  rw [hc] at C0
  have hlr := hr.len
  have hlw := hw.len
  have HP0 : Hid (Pz w wa (.slice ar R.length cr) (.slice aw W.length cw) f m o e ∧ Pts w aw cw W ∧ Pts w ar cr R) := ⟨hP, hw, hr⟩
  clear hwa hP hr hw hc
  simp only [zPol] at HW
  go_enter Tryz.func11, Tryz.ntmps11
  go_wp2_with fail
  rw [← HW.out]
  refine C0.mono ?_
  rintro x w1 ⟨rfl, b1⟩
  have hP1 := HP0.out.1.under b1
  have C1 := rcover_any ar cr R w1 (HP0.out.2.2.below hP1.bel)
  have hsz : w.heap.size + 1 < w1.heap.size := lt_of_block hP1.z
  have HP : Hid (Pz w w1 (.slice ar R.length cr) (.slice aw W.length cw) f m o e ∧ Pts w aw cw W) := ⟨hP1, HP0.out.2.1⟩
  obtain ⟨⟨k0, k1, _⟩, kf⟩ := cells_pol hP1.x
  clear HP0 hP1 b1 C0 HW
  go_wp2_with fail
  refine C1.mono ?_
  rintro x w2 ⟨cR, v2, rfl, q1, q2, p2, b2⟩
  obtain ⟨aR, nR, rfl, _⟩ := p2.pts (by omega)
  have hP2 := HP.out.1.under b2
  obtain ⟨w3, hw3⟩ : ∃ w3, w3 = w2.setCell ⟨w.heap.size, 0, none⟩ (.slice aR cR.length nR) := ⟨_, rfl⟩
  have hP3 : Pz w w3 (.slice aR cR.length nR) (.slice aw W.length cw) f m o e := by rw [hw3]; exact hP2.set0 _
  have p3 : PRow w3 w1.heap.size (.slice aR cR.length nR) cR := by rw [hw3]; exact p2.far hP2 (fun s => ⟨by simp, by simp⟩) (hP2.tu 0 _) (by omega)
  have HW3 : Hid (w3 = w2.setCell ⟨w.heap.size, 0, none⟩ (.slice aR cR.length nR)) := hw3
  have C2 := rcover_any aw cw W w3 (HP.out.2.below hP3.bel)
  have hcr : cR.length ≤ 5864062014806 := by omega
  have HP3 : Hid (Pz w w3 (.slice aR cR.length nR) (.slice aw W.length cw) f m o e ∧ PRow w3 w1.heap.size (.slice aR cR.length nR) cR ∧ Pl.Cov R cR ∧ cR.length ≤ R.length) := ⟨hP3, p3, q1, q2⟩
  have hq3 : w2.heap.size ≤ w3.heap.size := by rw [hw3]; exact (hP2.tu 0 _).size
  have hq2 := b2.size
  clear k0 k1 kf
  obtain ⟨⟨k0, k1, _⟩, kf⟩ := cells_pol hP2.x
  clear HP C1 hw3 hP3 p3 hP2 p2 b2 q1 q2
  go_wp2_with fail
  rw [← HW3.out]
  refine C2.mono ?_
  rintro x w4 ⟨cW, v4, rfl, q1, q2, p4, b4⟩
  obtain ⟨aW, nW, rfl, _⟩ := p4.pts (by omega)
  have hP4 := HP3.out.1.under b4
  obtain ⟨w5, hw5⟩ : ∃ w5, w5 = w4.setCell ⟨w.heap.size, 1, none⟩ (.slice aW cW.length nW) := ⟨_, rfl⟩
  have hP5 : Pz w w5 (.slice aR cR.length nR) (.slice aW cW.length nW) f m o e := by rw [hw5]; exact hP4.set1 _
  have t5 : Tu (fun k => k = w.heap.size) w4 w5 := by rw [hw5]; exact hP4.tu 1 _
  have p5R : PRow w5 w1.heap.size (.slice aR cR.length nR) cR := (HP3.out.2.1.below b4).far hP4 (fun s => ⟨by simp, by simp⟩) t5 (by omega)
  have p5W : PRow w5 w3.heap.size (.slice aW cW.length nW) cW := p4.far hP4 (fun s => ⟨by simp, by simp⟩) t5 (by omega)
  have HW5 : Hid (w5 = w4.setCell ⟨w.heap.size, 1, none⟩ (.slice aW cW.length nW)) := hw5
  have hcw : cW.length ≤ 5864062014806 := by omega
  obtain ⟨⟨l0, l1, l2, l3, l4, l5⟩, lf⟩ := cells_pol hP4.x
  obtain ⟨⟨n0, n1, n2, n3, n4, n5⟩, nf⟩ := cells_pol hP5.x
  obtain ⟨⟨o0, o1, o2, o3, o4, o5⟩, of⟩ := cells_zer hP5.z
  have HP5 : Hid (Pz w w5 (.slice aR cR.length nR) (.slice aW cW.length nW) f m o e ∧ PRow w5 w1.heap.size (.slice aR cR.length nR) cR ∧ PRow w5 w3.heap.size (.slice aW cW.length nW) cW ∧ Pl.Cov R cR ∧ cR.length ≤ R.length ∧ Pl.Cov W cW ∧ cW.length ≤ W.length) := ⟨hP5, p5R, p5W, HP3.out.2.2.1, HP3.out.2.2.2, q1, q2⟩
  clear HP3 HW3 C2 hw5 hP5 t5 p5R p5W hP4 p4 b4 k0 k1 kf q1 q2
  go_upto_region 5 with fail
  rw [← HW5.out]
  go_wp2_with fail
  obtain ⟨y0, y1⟩ := put6_at HP5.out.1.z (.slice aR cR.length nR) (.slice aW cW.length nW) (.int .i64 f) (.int .i64 m) (.int .i64 o) (.int .i64 e)
  refine bodyPost_ret (results_pol2 rfl _ _ (w.heap.size + 1) _ _ _ _ _ _ rfl y0) rfl ?_
  obtain ⟨h1, h2, h3, h4, h5, h6, h7⟩ := HP5.out
  have h0 : ∀ s, (Value.slice none 0 0) ≠ .string s ∧ (Value.slice none 0 0) ≠ .string s := fun s => ⟨by simp, by simp⟩
  exact ⟨h1.bel.trans (y1.below h1.bel.size (fun k e => by omega)), cR, cW, aR, aW, nR, nW, h4, h6, h5, h7, rfl, (h2.keep (x0 := .slice none 0 0) (x1 := .slice none 0 0) (f := 0) (m := 0) (o := 0) (e := 0) h1.z h0 y1 (by omega)).base (by omega), (h3.keep (x0 := .slice none 0 0) (x1 := .slice none 0 0) (f := 0) (m := 0) (o := 0) (e := 0) h1.z h0 y1 (by omega)).base (by omega)⟩
end Go.Proofs.YtnmplolkbmackaaGreatDoor
