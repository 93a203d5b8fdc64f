/- What (*layout).again does with a round of no code. -/
import Derived.Test.YtdiokclbdaojpaaDoorNfAgn
namespace Go.Proofs.YtdiokclbdaojpaaDoor
open Go.RowKit

set_option maxRecDepth 100000 in
set_option maxHeartbeats 8000000 in
theorem again_nil (lb rb cap f fr n : Nat) (LL : List Nt.Ins) (w : World) (hL : Nt.Ly w lb rb cap LL f) (hfr : fr ≤ f) (hn : n ≤ LL.length) (hroom : LL.length ≤ cap) (hcap : cap ≤ 16385) (hf : f ≤ 16384) :
    Calls Tryd.prog 86 #[.pointer (some ⟨lb, 0, none⟩), .agg #[.bool true, .int .i64 (n : Nat), .int .i64 (n : Nat), .int .i64 (fr : Nat)]] w fun e w' => (∃ v, e = .returned v) ∧ Nt.Ly w' lb rb cap LL f ∧ Nt.Bz lb rb w w' := by
  have X0 : (w.alloc (.cells #[.bool true, .int .i64 (n : Nat), .int .i64 (n : Nat), .int .i64 (fr : Nat)] 130)).heap[w.heap.size]? = some (.cells #[.bool true, .int .i64 (n : Nat), .int .i64 (n : Nat), .int .i64 (fr : Nat)] 130 (0, 0)) := heap_alloc_new w _
  have hB0 : Below w.heap.size w (w.alloc (.cells #[.bool true, .int .i64 (n : Nat), .int .i64 (n : Nat), .int .i64 (fr : Nat)] 130)) := (Below.refl w.heap.size w).alloc (Nat.le_refl _) _
  have h0 := hL.under hB0
  obtain ⟨W, hW⟩ : ∃ W, W = w.alloc (.cells #[.bool true, .int .i64 (n : Nat), .int .i64 (n : Nat), .int .i64 (fr : Nat)] 130) := ⟨_, rfl⟩
  rw [← hW] at X0 hB0 h0
  have x1 : W.cell? ⟨w.heap.size, 1, none⟩ = some (.int .i64 (n : Nat)) := cell_of_row _ _ _ _ _ _ X0
  have x2 : W.cell? ⟨w.heap.size, 2, none⟩ = some (.int .i64 (n : Nat)) := cell_of_row _ _ _ _ _ _ X0
  have x3 : W.cell? ⟨w.heap.size, 3, none⟩ = some (.int .i64 (fr : Nat)) := cell_of_row _ _ _ _ _ _ X0
  have l10 : W.cell? ⟨lb, 10, none⟩ = some (.slice (some ⟨rb, 0, none⟩) LL.length cap) := h0.cell 10
  have l11 : W.cell? ⟨lb, 11, none⟩ = some (.int .i64 (f : Int)) := h0.cell 11
  have HHE : Hid (∀ n, Calls Tryd.prog 77 #[.pointer (some ⟨lb, 0, none⟩)] (W.drewN n) fun e w' => e = .returned (.int .i64 (LL.length : Nat)) ∧ w' = W.drewN n) := fun n => here_any lb rb cap f LL _ ⟨h0.blk, h0.row, h0.ne⟩
  have H0 : Hid _ := h0
  have HB0 : Hid _ := hB0
  have b2 : LL.length ≤ 16385 := by omega
  clear X0 hL h0 hB0
  by_cases b3 : cap = n
  · have b4 : LL.length = cap := by omega
    subst b3
    go_enter Tryd.func86, Tryd.ntmps86
    go_wp2_with fail
    rw [← hW]
    clear hW
    go_quiet ((go_at_call 77; exact Calls.quiet_of_same (HHE.out _)))
    go_wp2_with fail
    go_quiet (fail)
    go_wp2_with fail
    go_loopw [31] (fun iv wr => iv = .int .i64 0 ∧ Nt.Ly wr lb rb cap LL f ∧ Nt.Bz lb rb w wr) (fun _ _ => 0)
    case atStart => exact ⟨rfl, ⟨H0.out.blk, H0.out.row, H0.out.ne⟩, Nt.Bz.of_below (drewB (drewB HB0.out _) _)⟩
    case round =>
      clear x1 x2 x3 l10 l11 HHE H0 HB0
      obtain ⟨rfl, hLi, hzi⟩ := hrel
      have HLi : Hid _ := hLi
      have Hzi : Hid _ := hzi
      clear hLi hzi
      go_wp2_with fail
      go_end0
      exact ⟨⟨_, rfl⟩, HLi.out, Hzi.out⟩
  · go_enter Tryd.func86, Tryd.ntmps86
    go_wp2_with fail
    rw [← hW]
    clear hW
    go_quiet ((go_at_call 77; exact Calls.quiet_of_same (HHE.out _)))
    go_wp2_with fail
    go_quiet (fail)
    go_wp2_with fail
    go_loopw [31] (fun iv wr => iv = .int .i64 0 ∧ Nt.Ly wr lb rb cap LL f ∧ Nt.Bz lb rb w wr) (fun _ _ => 0)
    case atStart => exact ⟨rfl, ⟨H0.out.blk, H0.out.row, H0.out.ne⟩, Nt.Bz.of_below (drewB (drewB HB0.out _) _)⟩
    case round =>
      clear x1 x2 x3 l10 l11 HHE H0 HB0
      obtain ⟨rfl, hLi, hzi⟩ := hrel
      have HLi : Hid _ := hLi
      have Hzi : Hid _ := hzi
      clear hLi hzi
      go_wp2_with fail
      go_end0
      exact ⟨⟨_, rfl⟩, HLi.out, Hzi.out⟩
end Go.Proofs.YtdiokclbdaojpaaDoor
