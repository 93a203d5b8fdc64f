/- What the reference's Same answers of two programs that are one. -/
import Derived.Test.YtjiglgfnmgcmjaaDoorNfM4
import Derived.Test.YtjiglgfnmgcmjaaDoorNfRCmp
import Derived.Deep.QuietTactic
namespace Go.Proofs.YtjiglgfnmgcmjaaDoor
open Go Go.RowKit

namespace Nt
theorem own_form {w : World} {base : Nat} {e : TypeId} {size n : Nat} {v : Value} {xs : List Value} (h : w.ownsRow base e size v n xs) : ∃ a cap, v = .slice a n cap := by
  rcases h.2 with ⟨hv, hz⟩ | ⟨g, cap, _, hv, _⟩
  · exact ⟨none, 0, by rw [hv, hz]⟩
  · exact ⟨_, cap, hv⟩
theorem own_at {w : World} {base : Nat} {a : Option Addr} {cap : Nat} {L : List Ins} (h : w.ownsRow base 64 9 (.slice a L.length cap) L.length (insC L)) {i : Nat} (hi : i < L.length) : ∃ g, a = some ⟨g, 0, none⟩ ∧ ∀ j, j < 9 → w.cell? ⟨g, i * 9 + j, none⟩ = (insL (L[i]))[j]? := by
  obtain ⟨g, c, hv, _⟩ := h.form (by omega)
  have hr := h
  rw [hv] at hr
  simp only [Value.slice.injEq, true_and] at hv
  obtain ⟨rfl, rfl⟩ := hv
  exact ⟨g, rfl, fun j hj => by rw [hr.cellAt (i * 9 + j) (by omega)]; exact insC_at L i hi j hj⟩
end Nt
set_option maxRecDepth 100000 in
set_option maxHeartbeats 4000000 in
theorem rsame_yes (gr sl : Int) (L : List Nt.Ins) (va vb : Value) (ba bb : Nat) (w : World) (ha : w.ownsRow ba 64 9 va L.length (Nt.insC L)) (hb : w.ownsRow bb 64 9 vb L.length (Nt.insC L)) (hl : L.length ≤ 16384) :
    Calls Tryd.prog 14 #[Nt.prgV gr sl va, Nt.prgV gr sl vb] w fun e w' => e = .returned (.bool true) ∧ Below w.heap.size w w' := by
  obtain ⟨aa, ca, rfl⟩ := Nt.own_form ha
  obtain ⟨ab, cb, rfl⟩ := Nt.own_form hb
  have HA : Hid (∀ i (hi : i < L.length), ∃ g, aa = some ⟨g, 0, none⟩ ∧ g < w.heap.size ∧ ∀ j, j < 9 → w.cell? ⟨g, i * 9 + j, none⟩ = (Nt.insL (L[i]))[j]?) := fun i hi => by
    obtain ⟨g, h1, h2⟩ := Nt.own_at ha hi
    exact ⟨g, h1, (ha.lt g (by rw [h1]; rfl)).2, h2⟩
  have HB : Hid (∀ i (hi : i < L.length), ∃ g, ab = some ⟨g, 0, none⟩ ∧ g < w.heap.size ∧ ∀ j, j < 9 → w.cell? ⟨g, i * 9 + j, none⟩ = (Nt.insL (L[i]))[j]?) := fun i hi => by
    obtain ⟨g, h1, h2⟩ := Nt.own_at hb hi
    exact ⟨g, h1, (hb.lt g (by rw [h1]; rfl)).2, h2⟩
  have hB0 : Below w.heap.size w ((w.alloc (.cells #[.int .i64 gr, .int .i64 sl, .slice aa L.length ca] 35)).alloc (.cells #[.int .i64 gr, .int .i64 sl, .slice ab L.length cb] 35)) := ((Below.refl w.heap.size w).alloc (Nat.le_refl _) _).alloc (by simp) _
  have PA : ((w.alloc (.cells #[.int .i64 gr, .int .i64 sl, .slice aa L.length ca] 35)).alloc (.cells #[.int .i64 gr, .int .i64 sl, .slice ab L.length cb] 35)).heap[w.heap.size]? = some (.cells #[.int .i64 gr, .int .i64 sl, .slice aa L.length ca] 35 (0, 0)) := by
    rw [heap_alloc_old _ _ (by simp)]; exact heap_alloc_new w _
  have PB : ((w.alloc (.cells #[.int .i64 gr, .int .i64 sl, .slice aa L.length ca] 35)).alloc (.cells #[.int .i64 gr, .int .i64 sl, .slice ab L.length cb] 35)).heap[w.heap.size + 1]? = some (.cells #[.int .i64 gr, .int .i64 sl, .slice ab L.length cb] 35 (0, 0)) := heap_alloc2_new w _ _
  simp only [Nt.prgV]
  obtain ⟨W, hW⟩ : ∃ W, W = ((w.alloc (.cells #[.int .i64 gr, .int .i64 sl, .slice aa L.length ca] 35)).alloc (.cells #[.int .i64 gr, .int .i64 sl, .slice ab L.length cb] 35)) := ⟨_, rfl⟩
  rw [← hW] at hB0 PA PB
  have a0 : W.cell? ⟨w.heap.size, 0, none⟩ = some (.int .i64 gr) := cell_of_row _ _ _ _ _ _ PA
  have a1 : W.cell? ⟨w.heap.size, 1, none⟩ = some (.int .i64 sl) := cell_of_row _ _ _ _ _ _ PA
  have a2 : W.cell? ⟨w.heap.size, 2, none⟩ = some (.slice aa L.length ca) := cell_of_row _ _ _ _ _ _ PA
  have b0 : W.cell? ⟨w.heap.size + 1, 0, none⟩ = some (.int .i64 gr) := cell_of_row _ _ _ _ _ _ PB
  have b1 : W.cell? ⟨w.heap.size + 1, 1, none⟩ = some (.int .i64 sl) := cell_of_row _ _ _ _ _ _ PB
  have b2 : W.cell? ⟨w.heap.size + 1, 2, none⟩ = some (.slice ab L.length cb) := cell_of_row _ _ _ _ _ _ PB
  have HB0 : Hid _ := hB0
  clear ha hb PA PB hB0
  go_enter Tryd.func14, Tryd.ntmps14
  go_wp2_with fail
  rw [← hW]
  clear hW
  have HW : Hid (∀ wr : World, (∀ k : Nat, wr.heap[k]? = W.heap[k]?) → wr.cell? ⟨w.heap.size, 2, none⟩ = some (.slice aa L.length ca) ∧ wr.cell? ⟨w.heap.size + 1, 2, none⟩ = some (.slice ab L.length cb)) := fun wr h => ⟨(World.cell?_of_block (h _)).trans a2, (World.cell?_of_block (h _)).trans b2⟩
  clear a0 a1 a2 b0 b1 b2
  go_loopw [5] (fun iv wr => ∃ i : Nat, i ≤ L.length ∧ iv = .int .i64 (i : Int) ∧ Below w.heap.size w wr ∧ (∀ k : Nat, wr.heap[k]? = W.heap[k]?)) (fun iv _ => L.length - (intOf iv).toNat)
  case atStart => exact ⟨0, by omega, rfl, HB0.out, fun _ => rfl⟩
  case round =>
    obtain ⟨i, hi, rfl, hB, hK⟩ := hrel
    obtain ⟨a2, b2⟩ := HW.out _ hK
    by_cases hlt : i < L.length
    · obtain ⟨g, rfl, hg, cA⟩ := HA.out i hlt
      obtain ⟨g', rfl, hg', cB⟩ := HB.out i hlt
      obtain ⟨x, hx⟩ : ∃ x, L[i] = x := ⟨_, rfl⟩
      rw [hx] at cA cB
      have hc : ∀ G j, G < w.heap.size → wr.cell? ⟨G, j, none⟩ = w.cell? ⟨G, j, none⟩ := fun G j hG => hB.cell (p := ⟨G, j, none⟩) hG
      have x0 : wr.cell? ⟨g, i * 9, none⟩ = some (.int .u8 (x.k : Int)) := (hc _ _ hg).trans (cA 0 (by omega))
      have x1 : wr.cell? ⟨g, i * 9 + 1, none⟩ = some (.int .u64 (St.wd x.s 0 : Nat)) := (hc _ _ hg).trans (cA 1 (by omega))
      have x2 : wr.cell? ⟨g, i * 9 + 2, none⟩ = some (.int .u64 (St.wd x.s 1 : Nat)) := (hc _ _ hg).trans (cA 2 (by omega))
      have x3 : wr.cell? ⟨g, i * 9 + 3, none⟩ = some (.int .u64 (St.wd x.s 2 : Nat)) := (hc _ _ hg).trans (cA 3 (by omega))
      have x4 : wr.cell? ⟨g, i * 9 + 4, none⟩ = some (.int .u64 (St.wd x.s 3 : Nat)) := (hc _ _ hg).trans (cA 4 (by omega))
      have x5 : wr.cell? ⟨g, i * 9 + 5, none⟩ = some (.int .i64 x.to) := (hc _ _ hg).trans (cA 5 (by omega))
      have x6 : wr.cell? ⟨g, i * 9 + 6, none⟩ = some (.int .i64 x.gr) := (hc _ _ hg).trans (cA 6 (by omega))
      have x7 : wr.cell? ⟨g, i * 9 + 7, none⟩ = some (.int .i64 x.la) := (hc _ _ hg).trans (cA 7 (by omega))
      have x8 : wr.cell? ⟨g, i * 9 + 8, none⟩ = some (.int .i64 x.sl) := (hc _ _ hg).trans (cA 8 (by omega))
      have y0 : wr.cell? ⟨g', i * 9, none⟩ = some (.int .u8 (x.k : Int)) := (hc _ _ hg').trans (cB 0 (by omega))
      have y1 : wr.cell? ⟨g', i * 9 + 1, none⟩ = some (.int .u64 (St.wd x.s 0 : Nat)) := (hc _ _ hg').trans (cB 1 (by omega))
      have y2 : wr.cell? ⟨g', i * 9 + 2, none⟩ = some (.int .u64 (St.wd x.s 1 : Nat)) := (hc _ _ hg').trans (cB 2 (by omega))
      have y3 : wr.cell? ⟨g', i * 9 + 3, none⟩ = some (.int .u64 (St.wd x.s 2 : Nat)) := (hc _ _ hg').trans (cB 3 (by omega))
      have y4 : wr.cell? ⟨g', i * 9 + 4, none⟩ = some (.int .u64 (St.wd x.s 3 : Nat)) := (hc _ _ hg').trans (cB 4 (by omega))
      have y5 : wr.cell? ⟨g', i * 9 + 5, none⟩ = some (.int .i64 x.to) := (hc _ _ hg').trans (cB 5 (by omega))
      have y6 : wr.cell? ⟨g', i * 9 + 6, none⟩ = some (.int .i64 x.gr) := (hc _ _ hg').trans (cB 6 (by omega))
      have y7 : wr.cell? ⟨g', i * 9 + 7, none⟩ = some (.int .i64 x.la) := (hc _ _ hg').trans (cB 7 (by omega))
      have y8 : wr.cell? ⟨g', i * 9 + 8, none⟩ = some (.int .i64 x.sl) := (hc _ _ hg').trans (cB 8 (by omega))
      have E := ins_neq x
      have HB1 : Hid _ := hB
      have HK1 : Hid _ := hK
      clear cA cB hc hx hB hK
      go_wp2_with fail
      go_quiet (fail)
      go_wp2_with fail
      go_roundw
      case rel => exact ⟨i + 1, by omega, by go_num, ⟨HB1.out.os, HB1.out.tape, HB1.out.output, HB1.out.size, HB1.out.block⟩, HK1.out⟩
      case measure => simp [intOf]; omega
    · go_wp2_with fail
      go_ret
      exact ⟨rfl, hB⟩
end Go.Proofs.YtjiglgfnmgcmjaaDoor
