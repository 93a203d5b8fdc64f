/- What lines.newCommon answers. -/
import Derived.Test.YtpoimhkfajppmaaDoorLAt
import Derived.Test.YtpoimhkfajppmaaDoorLPlainC
import Derived.Deep.RegionWith
import Derived.Deep.QuietTactic
import Derived.BigQuiet
namespace Go.Proofs.YtpoimhkfajppmaaDoor
open Go.RowKit

theorem two_cells {w : World} {b : Nat} {u0 u1 : Value} (h0 : w.cell? ⟨b, 0, none⟩ = some u0) (h1 : w.cell? ⟨b, 1, none⟩ = some u1) (v0 v1 : Value) :
    ((w.setCell ⟨b, 0, none⟩ v0).setCell ⟨b, 1, none⟩ v1).cell? ⟨b, 0, none⟩ = some v0 ∧ ((w.setCell ⟨b, 0, none⟩ v0).setCell ⟨b, 1, none⟩ v1).cell? ⟨b, 1, none⟩ = some v1 := by
  have e1 : (w.setCell ⟨b, 0, none⟩ v0).cell? ⟨b, 1, none⟩ = some u1 := (World.cell?_setCell_other _ _ _ _ (by simp)).trans h1
  exact ⟨(World.cell?_setCell_other _ _ _ _ (by simp)).trans (World.cell?_setCell_same _ _ _ h0), World.cell?_setCell_same _ _ _ e1⟩
theorem grown_drewN {w w' : World} {row : Option Nat} (h : w.grownBy w' row) (n : Nat) : w.grownBy (w'.drewN n) row := by
  have b : Below w'.heap.size w' (w'.drewN n) := below_drewN (Below.refl _ _) n
  exact ⟨b.os.trans h.os, b.tape.trans h.tape, b.output.trans h.output, Nat.le_trans h.size b.size, fun i hi hr => (b.block i (Nat.lt_of_lt_of_le hi h.size)).trans (h.block i hi hr)⟩
theorem Tryd.infoU16 : (Tryd.prog.info? 47).map (fun i => (i.zero, i.size, i.bytes)) = some (some (.int .u16 0), 1, 2) := by kernel_rfl
def hcells (ns : List Nat) : List Value := ns.map fun (k : Nat) => Value.int .u16 (k : Int)
theorem hcells_set (ns : List Nat) (i c : Nat) : (hcells ns).set i (.int .u16 (c : Int)) = hcells (ns.set i c) := by simp [hcells, List.map_set]
theorem hcells_get {ns : List Nat} {i c : Nat} (h : ns[i]? = some c) : (hcells ns)[i]? = some (.int .u16 (c : Int)) := by simp [hcells, h]
theorem icells_get {ns : List Nat} {i c : Nat} (h : ns[i]? = some c) : (icells ns)[i]? = some (.int .i64 (c : Int)) := by simp [icells, h]

set_option maxRecDepth 100000 in
set_option maxHeartbeats 8000000 in
theorem common_any (a1 a2 : Option Addr) (c1 c2 : Nat) (l1 l2 : List (ByteArray × Bool)) (w : World) (h1 : Lns w a1 c1 l1) (h2 : Lns w a2 c2 l2) (hn1 : l1.length ≤ 4096) (hn2 : l2.length ≤ 4096) :
    Calls Tryd.prog 18 #[.slice a1 l1.length c1, .slice a2 l2.length c2] w fun e w' => ∃ g KV, e = .returned (.agg #[.int .i64 ((l2.length + 1 : Nat) : Int), .slice (some ⟨g, 0, none⟩) ((l1.length + 1) * (l2.length + 1)) ((l1.length + 1) * (l2.length + 1))]) ∧
      w'.ownsRow w.heap.size 47 1 (.slice (some ⟨g, 0, none⟩) ((l1.length + 1) * (l2.length + 1)) ((l1.length + 1) * (l2.length + 1))) ((l1.length + 1) * (l2.length + 1)) (hcells KV) ∧ Ln.Filled l1 l2 KV 0 0 ∧ Below w.heap.size w w' := by
  obtain ⟨i0, hi, hz0, hz1, hz2⟩ := info_parts Tryd.infoU16
  obtain ⟨N, hN⟩ : ∃ N, (l1.length + 1) * (l2.length + 1) = N := ⟨_, rfl⟩
  have hNb : N ≤ 16785409 := by rw [← hN]; exact Nat.mul_le_mul (show l1.length + 1 ≤ 4097 by omega) (show l2.length + 1 ≤ 4097 by omega)
  have hNi : ((l1.length : Int) + 1) * ((l2.length : Int) + 1) = (N : Int) := by rw [← hN]; simp
  rw [hN]
  have HN : Hid ((l1.length + 1) * (l2.length + 1) = N) := hN
  obtain ⟨wd, hwd⟩ : ∃ wd, wd = l2.length + 1 := ⟨_, rfl⟩
  have hwi : (l2.length : Int) + 1 = (wd : Int) := by omega
  have HW : Hid (wd = l2.length + 1) := hwd
  have hwdb : wd ≤ 4097 := by omega
  rw [show ((l2.length + 1 : Nat) : Int) = (wd : Int) from by omega]
  rw [hwi] at hNi
  clear hN hwd
  go_enter Tryd.func18, Tryd.ntmps18
  go_wp2_with (at_make; refine wpList_make_full _ rfl _ _ 43 rfl w.heap.size 47 i0 (.int .u16 0) 1 Tryd.underlying43 hi hz0 hz1 .i64 .i64 _ _ N rfl rfl rfl rfl ?m1 ?m2 ?m3 ?_)
  case m1 => rw [hz2]; omega
  case m2 => unfold maxLen; omega
  case m3 => simp
  intro w1 hown hg
  rw [toList_madeCells_one] at hown
  have hs1 := hg.size
  simp only [World.size_alloc] at hs1
  have hB1 : Below w.heap.size w w1 := ((Below.refl _ _).alloc (Nat.le_refl _) _).grown hg (by simp) (fun g e => by cases e)
  have hgl1 : w.heap.size + 1 < w1.heap.size := by have := (hown.lt _ rfl).2; simpa using this
  have r0 : w1.cell? ⟨w.heap.size, 0, none⟩ = some (.int .i64 0) := hg.cell (cell_at_new _ _ _ _ _ _ rfl rfl) (by simp)
  have r1 : w1.cell? ⟨w.heap.size, 1, none⟩ = some (.slice none 0 0) := hg.cell (cell_at_new _ _ _ _ _ _ rfl rfl) (by simp)
  have z0 : w1.frozen? ⟨w.heap.size, 0, none⟩ = false := (hg.frozen_far ⟨w.heap.size, 0, none⟩ (by simp) (by simp)).trans (World.frozen?_alloc_at _ _ _ _ rfl)
  have z1 : w1.frozen? ⟨w.heap.size, 1, none⟩ = false := (hg.frozen_far ⟨w.heap.size, 1, none⟩ (by simp) (by simp)).trans (World.frozen?_alloc_at _ _ _ _ rfl)
  go_wp2_with fail
  have hBA : Below w1.heap.size w1 (w1.alloc (.cells #[.int .i64 (wd : Int), .slice (some ⟨w.heap.size + 1, 0, none⟩) N N] 45)) := alloc_below _ _
  refine (numbered_any _ _ _ _ l1 l2 _ ((h1.below hB1).below hBA) ((h2.below hB1).below hBA) (by omega)).mono ?_
  rintro e w3 ⟨vx, vy, ns1, ns2, rfl, ox, oy, e1, e2, HT, hb3⟩
  have f0 : w3.cell? ⟨w1.heap.size, 0, none⟩ = some (.int .i64 (wd : Int)) := (hb3.cell (p := ⟨w1.heap.size, 0, none⟩) (by simp)).trans (cell_at_new _ _ _ _ _ _ rfl rfl)
  have f1 : w3.cell? ⟨w1.heap.size, 1, none⟩ = some (.slice (some ⟨w.heap.size + 1, 0, none⟩) N N) := (hb3.cell (p := ⟨w1.heap.size, 1, none⟩) (by simp)).trans (cell_at_new _ _ _ _ _ _ rfl rfl)
  have ok3 := own_below (own_below hown hBA) hb3
  have hs3 := hb3.size
  simp only [World.size_alloc] at hs3 ox oy
  have r03 : w3.cell? ⟨w.heap.size, 0, none⟩ = some (.int .i64 0) := (hb3.cell (p := ⟨w.heap.size, 0, none⟩) (by simp; omega)).trans ((hBA.cell (p := ⟨w.heap.size, 0, none⟩) (by simp; omega)).trans r0)
  have r13 : w3.cell? ⟨w.heap.size, 1, none⟩ = some (.slice none 0 0) := (hb3.cell (p := ⟨w.heap.size, 1, none⟩) (by simp; omega)).trans ((hBA.cell (p := ⟨w.heap.size, 1, none⟩) (by simp; omega)).trans r1)
  have z03 : w3.frozen? ⟨w.heap.size, 0, none⟩ = false := (hb3.frozen (p := ⟨w.heap.size, 0, none⟩) (by simp; omega)).trans ((hBA.frozen (p := ⟨w.heap.size, 0, none⟩) (by simp; omega)).trans z0)
  have z13 : w3.frozen? ⟨w.heap.size, 1, none⟩ = false := (hb3.frozen (p := ⟨w.heap.size, 1, none⟩) (by simp; omega)).trans ((hBA.frozen (p := ⟨w.heap.size, 1, none⟩) (by simp; omega)).trans z1)
  have hB3 : Below w.heap.size w w3 := (hB1.trans (hBA.mono (by omega))).trans (hb3.mono (by simp; omega))
  obtain ⟨ax, cx, rfl, hcx1, hcx2⟩ := own_slice ox
  obtain ⟨ay, cy, rfl, hcy1, hcy2⟩ := own_slice oy
  unfold maxLen at hcx2 hcy2
  have HTT : Hid (Told2 l1 l2 ns1 ns2) := HT
  clear r0 r1 z0 z1 hown hBA hb3 hB1 HT hg
  obtain ⟨G, hG⟩ : ∃ G, G = w.heap.size + 1 := ⟨_, rfl⟩
  rw [← hG] at f1 ok3 hgl1 ⊢
  have FL : Hid (Ln.Filled l1 l2 (List.replicate N 0) l1.length l2.length) := by have := Ln.filled_start l1 l2; rw [HN.out] at this; exact this
  have ok3' : w3.ownsRow w.heap.size 47 1 (.slice (some ⟨G, 0, none⟩) N N) N (hcells (List.replicate N 0)) := by simpa [hcells] using ok3
  have HG : Hid (G = w.heap.size + 1) := hG
  clear ok3 hG
  go_wp2_with fail
  go_loopw [8] (fun i wr => ∃ (q : Nat) (KV : List Nat), q ≤ l1.length ∧ i = .int .i64 ((q : Int) - 1) ∧ Hid (w3.grownBy wr (some G)) ∧ wr.ownsRow w.heap.size 47 1 (.slice (some ⟨G, 0, none⟩) N N) N (hcells KV) ∧ Hid (Ln.Filled l1 l2 KV q l2.length)) (fun i _ => (intOf i + 1).toNat)
  case atStart => exact ⟨l1.length, _, Nat.le_refl _, rfl, World.grownBy.refl _ _, ok3', FL⟩
  case round =>
    obtain ⟨q, KV, hq, hqi, HGR, ok, HF⟩ := hrel
    clear ok3' FL
    cases q with
    | zero =>
      obtain rfl : u8 = .int .i64 (-1) := by rw [hqi]; rfl
      have hszr := HGR.out.size
      have k3 : wr.cell? ⟨w1.heap.size, 0, none⟩ = some (.int .i64 (wd : Int)) := HGR.out.cell f0 (by simp; omega)
      have k4 : wr.cell? ⟨w1.heap.size, 1, none⟩ = some (.slice (some ⟨G, 0, none⟩) N N) := HGR.out.cell f1 (by simp; omega)
      have r0 : wr.cell? ⟨w.heap.size, 0, none⟩ = some (.int .i64 0) := HGR.out.cell r03 (by have := HG.out; simp; omega)
      have r1 : wr.cell? ⟨w.heap.size, 1, none⟩ = some (.slice none 0 0) := HGR.out.cell r13 (by have := HG.out; simp; omega)
      have z0 : wr.frozen? ⟨w.heap.size, 0, none⟩ = false := (HGR.out.frozen_far ⟨w.heap.size, 0, none⟩ (by simp; omega) (by have := HG.out; simp; omega)).trans z03
      have z1 : wr.frozen? ⟨w.heap.size, 1, none⟩ = false := (HGR.out.frozen_far ⟨w.heap.size, 1, none⟩ (by simp; omega) (by have := HG.out; simp; omega)).trans z13
      have hGw : Hid (G ≠ w.heap.size) := by have := HG.out; show G ≠ _; omega
      have F0 : Hid (Ln.Filled l1 l2 KV 0 0) := ⟨HF.out.1, fun i j hi hj _ => HF.out.2 i j hi hj (.inl (Nat.zero_le _))⟩
      have ok4 := (ownsRow_setCell_other (ownsRow_setCell_other ok (a := ⟨w.heap.size, 0, none⟩) (by simp [Value.ownBlock]; exact hGw.out) (.int .i64 (wd : Int))) (a := ⟨w.heap.size, 1, none⟩) (by simp [Value.ownBlock]; exact hGw.out) (.slice (some ⟨G, 0, none⟩) N N))
      have hBr : Below w.heap.size w wr := hB3.grown HGR.out (by omega) (fun g e => by cases e; have := HG.out; omega)
      have hB4 := (hBr.setCell (p := ⟨w.heap.size, 0, none⟩) (Nat.le_refl _) (.int .i64 (wd : Int))).setCell (p := ⟨w.heap.size, 1, none⟩) (Nat.le_refl _) (.slice (some ⟨G, 0, none⟩) N N)
      obtain ⟨n0, n1⟩ := two_cells r0 r1 (.int .i64 (wd : Int)) (.slice (some ⟨G, 0, none⟩) N N)
      clear hBr f0 f1 r03 r13 z03 z13
      go_wp2_with fail
      exact bodyPost_ret (v := .agg #[.int .i64 (wd : Int), .slice (some ⟨G, 0, none⟩) N N]) (by simp [results, Tryd.results18, go_sem, n0, n1]) rfl ⟨G, KV, rfl, ok4, F0.out, hB4⟩
    | succ i =>
      obtain rfl : u8 = .int .i64 (i : Int) := by rw [hqi]; congr 1; omega
      clear hqi
      have hi1 : i < l1.length := by omega
      obtain ⟨gx, cx', hvx, hgx, _⟩ := ox.form (by omega)
      obtain ⟨rfl, rfl⟩ : ax = some ⟨gx, 0, none⟩ ∧ cx = cx' := by cases hvx; exact ⟨rfl, rfl⟩
      clear hvx
      obtain ⟨wo, hwo⟩ : ∃ wo, wo = wr := ⟨_, rfl⟩
      subst hwo
      go_wp2_with fail
      go_loopw [9] (fun jv w4 => ∃ (r : Nat) (KV : List Nat), r ≤ l2.length ∧ jv = .int .i64 ((r : Int) - 1) ∧ Hid (w3.grownBy w4 (some G)) ∧ w4.ownsRow w.heap.size 47 1 (.slice (some ⟨G, 0, none⟩) N N) N (hcells KV) ∧ Hid (Ln.Filled l1 l2 KV (i + 1) r)) (fun jv _ => (intOf jv + 1).toNat)
      case atStart => exact ⟨l2.length, KV, Nat.le_refl _, rfl, HGR, ok, HF⟩
      case round =>
        obtain ⟨r, KV2, hr, hri, HGR2, ok2, HF2⟩ := hrel
        clear HGR ok HF
        have hszr := HGR2.out.size
        cases r with
        | zero =>
          obtain rfl : u9 = .int .i64 (-1) := by rw [hri]; rfl
          have HF3 : Hid (Ln.Filled l1 l2 KV2 i l2.length) := Ln.filled_row HF2.out
          go_wp2_with fail
          go_roundw
          case rel => exact ⟨i, KV2, by omega, by go_num, HGR2, ok2, HF3⟩
          case measure => simp [intOf]
        | succ j =>
          obtain rfl : u9 = .int .i64 (j : Int) := by rw [hri]; congr 1; omega
          clear hri
          have hj1 : j < l2.length := by omega
          obtain ⟨gy, cy', hvy, hgy, _⟩ := oy.form (by omega)
          obtain ⟨rfl, rfl⟩ : ay = some ⟨gy, 0, none⟩ ∧ cy = cy' := by cases hvy; exact ⟨rfl, rfl⟩
          clear hvy
          obtain ⟨c, d, x, y, t1, t2, t3, t4, t5⟩ := HTT.out i j hi1 hj1
          have gx1 : gx < w3.heap.size := (ox.lt gx rfl).2
          have gy1 : gy < w3.heap.size := (oy.lt gy rfl).2
          have gx2 : w1.heap.size + 1 ≤ gx := (ox.lt gx rfl).1
          have gy2 : w1.heap.size + 1 ≤ gy := (oy.lt gy rfl).1
          have k1 : wr.cell? ⟨gx, i, none⟩ = some (.int .i64 (c : Int)) := HGR2.out.cell ((ox.cellAt i (by omega)).trans (icells_get t1)) (by simp; omega)
          have k2 : wr.cell? ⟨gy, j, none⟩ = some (.int .i64 (d : Int)) := HGR2.out.cell ((oy.cellAt j (by omega)).trans (icells_get t2)) (by simp; omega)
          have k3 : wr.cell? ⟨w1.heap.size, 0, none⟩ = some (.int .i64 (wd : Int)) := HGR2.out.cell f0 (by simp; omega)
          have k4 : wr.cell? ⟨w1.heap.size, 1, none⟩ = some (.slice (some ⟨G, 0, none⟩) N N) := HGR2.out.cell f1 (by simp; omega)
          have hw1 : w1.heap.size < wr.heap.size := by omega
          have hGl : G < wr.heap.size := by omega
          have v1 := HF2.out.2 (i + 1) j (by omega) (by omega) (.inl (Nat.le_refl _))
          have v2 := HF2.out.2 i (j + 1) (by omega) (by omega) (.inr (.inr ⟨rfl, Nat.le_refl _⟩))
          have v3 := HF2.out.2 (i + 1) (j + 1) (by omega) (by omega) (.inl (Nat.le_refl _))
          have b1 : (i + 1) * wd + j < N := by rw [← HN.out, HW.out]; exact Ln.at_lt (by omega) (by omega)
          have b2 : i * wd + (j + 1) < N := by rw [← HN.out, HW.out]; exact Ln.at_lt (by omega) (by omega)
          have b3 : (i + 1) * wd + (j + 1) < N := by rw [← HN.out, HW.out]; exact Ln.at_lt (by omega) (by omega)
          have b0 : i * wd + j < N := by omega
          rw [← HW.out] at v1 v2 v3
          have m1 := Ln.lcs_le (l1.drop (i + 1)) (l2.drop j)
          have m2 := Ln.lcs_le (l1.drop i) (l2.drop (j + 1))
          have m3 := Ln.lcs_le (l1.drop (i + 1)) (l2.drop (j + 1))
          simp only [List.length_drop] at m1 m2 m3
          have FS := @Ln.filled_step l1 l2 KV2 i j HF2.out hi1 hj1
          have hkl := ok2.1
          have q1 := (ok2.cellAt ((i + 1) * wd + j) (by omega)).trans (hcells_get v1)
          have q2 := (ok2.cellAt (i * wd + (j + 1)) (by omega)).trans (hcells_get v2)
          have q3 := (ok2.cellAt ((i + 1) * wd + (j + 1)) (by omega)).trans (hcells_get v3)
          rw [← HW.out] at FS
          have FS' : Hid (∀ {v : Nat}, v = (if l1[i] = l2[j] then Ln.lcs (l1.drop (i + 1)) (l2.drop (j + 1)) + 1 else max (Ln.lcs (l1.drop (i + 1)) (l2.drop j)) (Ln.lcs (l1.drop i) (l2.drop (j + 1)))) → Ln.Filled l1 l2 (KV2.set (i * wd + j) v) (i + 1) j) := FS
          have T5 : Hid (c = d ↔ l1[i] = l2[j]) := by
            rw [List.getElem?_eq_getElem hi1] at t3
            rw [List.getElem?_eq_getElem hj1] at t4
            cases t3; cases t4; exact t5
          clear FS t1 t2 t3 t4 t5 v1 v2 v3
          generalize Ln.lcs (l1.drop (i + 1)) (l2.drop j) = V1 at *
          generalize Ln.lcs (l1.drop i) (l2.drop (j + 1)) = V2 at *
          generalize Ln.lcs (l1.drop (i + 1)) (l2.drop (j + 1)) = V3 at *
          obtain ⟨p0, hp0⟩ : ∃ p0, i * wd = p0 := ⟨_, rfl⟩
          obtain ⟨p1, hp1⟩ : ∃ p1, (i + 1) * wd = p1 := ⟨_, rfl⟩
          have hpi : (i : Int) * (wd : Int) = (p0 : Int) := by rw [← hp0]; simp
          rw [hp0] at q2 b2 b0 FS'
          rw [hp1] at q1 q3 b1 b3
          have HP0 : Hid (i * wd = p0) := hp0
          have HP1 : Hid ((i + 1) * wd = p1) := hp1
          clear hp0 hp1
          have fz := ok2.frozenAt (p0 + j)
          have y0 := ok2.cellAt (p0 + j) (by omega)
          rw [List.getElem?_eq_getElem (by omega)] at y0
          generalize (hcells KV2)[p0 + j]'(by omega) = Y0 at y0
          have hwi1 : IntKind.i64.wrap ((i : Int) + 1) = (i : Int) + 1 := by rw [IntKind.wrap_i64]; omega
          have hwj1 : IntKind.i64.wrap ((j : Int) + 1) = (j : Int) + 1 := by rw [IntKind.wrap_i64]; omega
          obtain ⟨MX, hMX, hMM⟩ : ∃ MX : Nat, (if V1 < V2 then (V2 : Int) else (V1 : Int)) = (MX : Int) ∧ MX = max V1 V2 := by
            by_cases q : V1 < V2
            · exact ⟨V2, by rw [if_pos q], by omega⟩
            · exact ⟨V1, by rw [if_neg q], by omega⟩
          have HMM : Hid (MX = max V1 V2) := hMM
          have hMXb : MX ≤ 4096 := by omega
          clear hMM
          obtain ⟨wz, hwz⟩ : ∃ wz, wz = ((wr.alloc (.cells #[.int .i64 (wd : Int), .slice (some ⟨G, 0, none⟩) N N] 45)).alloc (.cells #[.int .i64 (wd : Int), .slice (some ⟨G, 0, none⟩) N N] 45)).drew := ⟨_, rfl⟩
          have hBz : Below wr.heap.size wr wz := by rw [hwz]; exact (((Below.refl _ _).alloc (Nat.le_refl _) _).alloc (by simp) _).drew
          have hsz2 := hBz.size
          have HWZ : Hid (wz = ((wr.alloc (.cells #[.int .i64 (wd : Int), .slice (some ⟨G, 0, none⟩) N N] 45)).alloc (.cells #[.int .i64 (wd : Int), .slice (some ⟨G, 0, none⟩) N N] 45)).drew) := hwz
          clear hwz
          have x1 := (hBz.cell (p := ⟨gx, i, none⟩) (by simp; omega)).trans k1
          have x2 := (hBz.cell (p := ⟨gy, j, none⟩) (by simp; omega)).trans k2
          have x3 := (hBz.cell (p := ⟨w1.heap.size, 0, none⟩) hw1).trans k3
          have x4 := (hBz.cell (p := ⟨w1.heap.size, 1, none⟩) hw1).trans k4
          have x5 := (hBz.cell (p := ⟨G, p1 + (j + 1), none⟩) hGl).trans q3
          have x6 := (hBz.cell (p := ⟨G, p0 + j, none⟩) hGl).trans y0
          have x7 := (hBz.frozen (p := ⟨G, p0 + j, none⟩) hGl).trans fz
          have gz1 : gx < wz.heap.size := by omega
          have gz2 : gy < wz.heap.size := by omega
          have gz3 : w1.heap.size < wz.heap.size := by omega
          have gz4 : G < wz.heap.size := by omega
          have okz := own_below ok2 hBz
          have HGZ : Hid (w3.grownBy wz (some G)) := ⟨hBz.os.trans HGR2.out.os, hBz.tape.trans HGR2.out.tape, hBz.output.trans HGR2.out.output, Nat.le_trans HGR2.out.size hBz.size, fun i hi hr => (hBz.block i (Nat.lt_of_lt_of_le hi HGR2.out.size)).trans (HGR2.out.block i hi hr)⟩
          have ci : (i : Int) < (l1.length : Int) := by omega
          have cj : (j : Int) < (l2.length : Int) := by omega
          go_wp2_with fail
          go_region_with (first
            | (go_at_call 19; refine (at_at wd G N N (i + 1) j p1 V1 _ _ _ (by omega) (by omega) HP1.out b1 (by omega) (by omega) (by omega) (Nat.le_refl _) (by simp [q1])).mono ?_; rintro e w' ⟨rfl, rfl⟩)
            | (go_at_call 19; refine (at_at wd G N N i (j + 1) p0 V2 _ _ _ (by omega) (by omega) HP0.out b2 (by omega) (by omega) (by omega) (Nat.le_refl _) (by simp [World.cell?_alloc_past, hGl, q2])).mono ?_; rintro e w' ⟨rfl, rfl⟩))
          all_goals
            rw [← HWZ.out]
            by_cases he : c = d
            · subst he
              have FS2 : Hid (Ln.Filled l1 l2 (KV2.set (p0 + j) (V3 + 1)) (i + 1) j) := FS'.out (by rw [if_pos (T5.out.1 rfl)])
              go_wp2_with fail
              go_quiet (fail)
              obtain ⟨wq, hwq⟩ : ∃ wq, wq = wz.drewN nq := ⟨_, rfl⟩
              rw [← hwq]
              have hBq : Below wz.heap.size wz wq := by rw [hwq]; exact below_drewN (Below.refl _ _) nq
              have HGQ : Hid (w3.grownBy wq (some G)) := by rw [hwq]; exact grown_drewN HGZ.out nq
              clear hwq
              have y3 := (hBq.cell (p := ⟨w1.heap.size, 0, none⟩) gz3).trans x3
              have y4 := (hBq.cell (p := ⟨w1.heap.size, 1, none⟩) gz3).trans x4
              have y5 := (hBq.cell (p := ⟨G, p1 + (j + 1), none⟩) gz4).trans x5
              have y6 := (hBq.cell (p := ⟨G, p0 + j, none⟩) gz4).trans x6
              have y7 := (hBq.frozen (p := ⟨G, p0 + j, none⟩) gz4).trans x7
              have hq3 : w1.heap.size < wq.heap.size := by have := hBq.size; omega
              have hq4 : G < wq.heap.size := by have := hBq.size; omega
              obtain ⟨st, gr⟩ := (own_below okz hBq).stored (p0 + j) (.int .u16 ((V3 + 1 : Nat) : Int))
              rw [hcells_set] at st
              have st2 := st.alloc (.cells #[.int .i64 (wd : Int), .slice (some ⟨G, 0, none⟩) N N] 45)
              have GR2 : Hid (w3.grownBy ((wq.setCell ⟨G, p0 + j, none⟩ (.int .u16 ((V3 + 1 : Nat) : Int))).alloc (.cells #[.int .i64 (wd : Int), .slice (some ⟨G, 0, none⟩) N N] 45)) (some G)) := (HGQ.out.andThen gr (fun j e => by cases e; exact .inr rfl)).andThen (World.grownBy_alloc _ _ none) (fun j e => by cases e)
              clear st gr
              go_wp2_with (go_at_call 19; refine (at_at wd G N N (i + 1) (j + 1) p1 V3 _ _ _ (by omega) (by omega) HP1.out b3 (by omega) (by omega) (by omega) (Nat.le_refl _) y5).mono ?_; rintro e w' ⟨rfl, rfl⟩)
              go_roundw
              case rel => exact ⟨j, KV2.set (p0 + j) (V3 + 1), by omega, by go_num, GR2, st2, FS2⟩
              case measure => simp [intOf]
            · have FS2 : Hid (Ln.Filled l1 l2 (KV2.set (p0 + j) MX) (i + 1) j) := FS'.out (by rw [if_neg (fun q => he (T5.out.2 q))]; exact HMM.out)
              have hne : ((c : Int) == (d : Int)) = false := by simp; omega
              obtain ⟨st, gr⟩ := okz.stored (p0 + j) (.int .u16 (MX : Int))
              rw [hcells_set] at st
              have GR2 : ∀ m, Hid (w3.grownBy ((wz.setCell ⟨G, p0 + j, none⟩ (.int .u16 (MX : Int))).drewN m) (some G)) := fun m => grown_drewN (HGZ.out.andThen gr (fun j e => by cases e; exact .inr rfl)) m
              clear gr
              go_wp2_with fail
              go_quiet (fail)
              go_wp2_with fail
              go_roundw
              case rel => exact ⟨j, KV2.set (p0 + j) MX, by omega, by go_num, GR2 nq, own_drewN st nq, FS2⟩
              case measure => simp [intOf]
end Go.Proofs.YtpoimhkfajppmaaDoor
