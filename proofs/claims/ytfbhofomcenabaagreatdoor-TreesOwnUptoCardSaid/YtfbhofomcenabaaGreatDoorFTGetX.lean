/- What trees.Get answers is its asker's own. -/
import Derived.Test.YtfbhofomcenabaaGreatDoorUC
import Derived.Test.YtfbhofomcenabaaGreatDoorTI
namespace Go.Proofs.YtfbhofomcenabaaGreatDoor
open Go.RowKit

set_option maxRecDepth 100000 in
set_option maxHeartbeats 4000000 in
theorem tgetx_any (T : Ft.FT) (p : List ByteArray) (a ap : Option Addr) (cap cp : Nat) (w : World) (hN : Ft.Fd w (· < w.heap.size) T a cap) (hz : Ft.szT T = true) (hP : Strs w ap cp p) :
    Calls Tryz.prog 18 #[Ft.fdV T a cap, .slice ap p.length cp] w (Ft.GetX w (Ft.getR T p)) := by
  obtain ⟨W, hW⟩ : ∃ W, W = (w.alloc (.cells (Ft.fdA T a cap) 25)).alloc (.cells #[.string ⟨#[]⟩, .int .u8 0, .string ⟨#[]⟩, .slice none 0 0] 25) := ⟨_, rfl⟩
  have hB : Below w.heap.size w W := by rw [hW]; exact ((Below.refl _ _).alloc (Nat.le_refl _) _).alloc (by simp) _
  have hF : Ft.FnAt w T a cap W := by
    refine ⟨?_, hN.under hB, ?_, hB⟩
    · rw [hW]; exact (Ft.file_new w T a cap).alloc _
    · rw [hW]
      have := Ft.file_zero (w.alloc (.cells (Ft.fdA T a cap) 25))
      simpa using this
  have HW : Hid (W = (w.alloc (.cells (Ft.fdA T a cap) 25)).alloc (.cells #[.string ⟨#[]⟩, .int .u8 0, .string ⟨#[]⟩, .slice none 0 0] 25)) := hW
  have HF : Hid (Ft.FnAt w T a cap W ∧ Strs w ap cp p ∧ Ft.Fd w (· < w.heap.size) T a cap) := ⟨hF, hP, hN⟩
  have C1 := tchk T a cap W (hN.grew hB hB.size) hz
  have hpl := hP.len
  have hTl := hN.room.1
  clear hW hB hF hN hP
  simp only [Ft.fdA] at HW
  simp only [Ft.fdV, Ft.fdA] at C1 ⊢
  go_enter Tryz.func18, Tryz.ntmps18
  go_wp2_with fail
  rw [← HW.out]
  clear HW
  refine C1.mono ?_
  rintro e w1 ⟨⟨v1, rfl⟩, b1⟩
  have hq1 : W.heap.size ≤ w1.heap.size := b1.size
  have hqW : w.heap.size + 1 < W.heap.size := HF.out.1.2.2.1.lt
  have hF1 : Ft.FnAt w T a cap w1 := ⟨HF.out.1.1.under b1, HF.out.1.2.1.under (b1.mono (by omega)), HF.out.1.2.2.1.under b1, HF.out.1.2.2.2.trans (b1.mono (by omega))⟩
  have HF1 : Hid (Ft.FnAt w T a cap w1 ∧ Strs w ap cp p) := ⟨hF1, HF.out.2.1⟩
  obtain ⟨q0, q1, q2, q3⟩ := hF1.1.four
  have z0 : w1.cell? ⟨w.heap.size + 1, 0, none⟩ = some (.string ⟨#[]⟩) := hF1.2.2.1.four.c0
  have z1 : w1.cell? ⟨w.heap.size + 1, 1, none⟩ = some (.int .u8 0) := hF1.2.2.1.four.c1
  have z2 : w1.cell? ⟨w.heap.size + 1, 2, none⟩ = some (.string ⟨#[]⟩) := hF1.2.2.1.four.c2
  have z3 : w1.cell? ⟨w.heap.size + 1, 3, none⟩ = some (.slice none 0 0) := hF1.2.2.1.four.c3
  have zf := hF1.2.2.1.frozen
  clear hF1 HF b1 C1
  cases hr : Ft.rightT T
  · have HE : Hid (Ft.getR T p = .inl 30) := by show _ = _; unfold Ft.getR; rw [hr]; rfl
    have HC30 : Ft.lstC T = 30 := by unfold Ft.lstC; rw [hr]; rfl
    rw [HC30]
    clear HC30
    go_wp2_with fail
    have K := Ft.fn_end HF1.out.1 (Ft.fd_zero w1 _)
    refine bodyPost_ret (Ft.results_fil rfl _ _ (w.heap.size + 1) Ft.zF none 0 rfl K.1) rfl ?_
    rw [HE.out]
    exact ⟨Ft.zF, none, 0, 30, rfl, ⟨⟨rfl, rfl⟩, Ft.fdx_zero _ _ _ K.2.2.size, K.2.2⟩⟩
  · have HG : Hid (Ft.getR T p = Ft.lookR T p) := by show _ = _; unfold Ft.getR; rw [hr]; rfl
    have HC0 : Ft.lstC T = 0 := by unfold Ft.lstC; rw [hr]; rfl
    rw [HC0]
    have C2 := tlook_any T p a ap cap cp w1 (HF1.out.1.2.1.mono (fun b (q : b < w.heap.size) => by omega)) (HF1.out.2.below HF1.out.1.2.2.2) [] (Ft.right_bel hr)
    simp only [Ft.fdV, Ft.fdA] at C2
    clear hr z0 z1 z2 z3 zf HC0
    go_wp2_with fail
    refine C2.mono ?_
    rintro e w2 ⟨U, b, c, code, rfl, K2⟩
    simp only [Ft.fdV, Ft.fdA]
    have hq2 := K2.out.2.2.size
    obtain ⟨w3, hw3⟩ : ∃ w3, w3 = w2.alloc (.cells (Ft.fdA U b c) 25) := ⟨_, rfl⟩
    have HW3 : Hid (w3 = w2.alloc (.cells (Ft.fdA U b c) 25)) := hw3
    have b3 : Below w1.heap.size w1 w3 := by rw [hw3]; exact K2.out.2.2.alloc hq2 _
    have hF3 : Ft.FnAt w T a cap w3 := ⟨HF1.out.1.1.under b3, HF1.out.1.2.1.under (b3.mono (by omega)), HF1.out.1.2.2.1.under b3, HF1.out.1.2.2.2.trans (b3.mono (by omega))⟩
    have hU3 : Ft.FileAt w3 w2.heap.size U b c := by rw [hw3]; exact Ft.file_new w2 U b c
    have hq3 : w2.heap.size < w3.heap.size := hU3.lt
    have hD3 : Ft.Fd w3 (· < w3.heap.size) U b c := by
      rw [hw3]
      exact (K2.out.2.1.under ((Below.refl _ _).alloc hq2 _)).mono (fun x (q : x < w1.heap.size) => by simp; omega)
    have C3 := tcopyx_any U b c w3 hD3
    obtain ⟨k0, k1, k2, k3⟩ := hU3.four
    have HF3 : Hid (Ft.FnAt w T a cap w3 ∧ Ft.FindIs (Ft.lookR T p) U code) := ⟨hF3, K2.out.1⟩
    have hUl := hD3.room.1
    clear hw3 b3 hF3 hU3 hD3 K2 C2 HF1 q0 q1 q2 q3
    simp only [Ft.fdA] at HW3
    simp only [Ft.fdV, Ft.fdA] at C3
    go_upto_region 5 with fail
    rw [← HW3.out]
    clear HW3
    go_wp2_with fail
    refine C3.mono ?_
    rintro e w4 ⟨b', c', rfl, hd4, b4⟩
    simp only
    have hq4 := b4.size
    have hF4 : Ft.FnAt w T a cap w4 := ⟨HF3.out.1.1.under b4, HF3.out.1.2.1.under (b4.mono (by omega)), HF3.out.1.2.2.1.under b4, HF3.out.1.2.2.2.trans (b4.mono (by omega))⟩
    have z0 : w4.cell? ⟨w.heap.size + 1, 0, none⟩ = some (.string ⟨#[]⟩) := hF4.2.2.1.four.c0
    have z1 : w4.cell? ⟨w.heap.size + 1, 1, none⟩ = some (.int .u8 0) := hF4.2.2.1.four.c1
    have z2 : w4.cell? ⟨w.heap.size + 1, 2, none⟩ = some (.string ⟨#[]⟩) := hF4.2.2.1.four.c2
    have z3 : w4.cell? ⟨w.heap.size + 1, 3, none⟩ = some (.slice none 0 0) := hF4.2.2.1.four.c3
    have zf := hF4.2.2.1.frozen
    have HF4 : Hid (Ft.FnAt w T a cap w4 ∧ Ft.Fdx w4 w3.heap.size w4.heap.size U b' c') := ⟨hF4, hd4⟩
    clear hF4 hd4 b4 C3 k0 k1 k2 k3
    go_wp2_with fail
    have y0 := HF4.out.1.2.2.1.putF U b' c'
    have y1 : Below w.heap.size w (Ft.putF w4 (w.heap.size + 1) U b' c') := Ft.putF_below HF4.out.1.2.2.2 (by omega)
    refine bodyPost_ret (Ft.results_fil rfl _ _ (w.heap.size + 1) U b' c' rfl y0) rfl ?_
    rw [HG.out]
    refine ⟨U, b', c', code, rfl, ⟨HF3.out.2, ?_, y1⟩⟩
    exact (HF4.out.2.same (fun x hx _ => Ft.putF_other (by omega))).widen (by omega) (Ft.putF_below (Below.refl 0 w4) (Nat.zero_le _)).size
end Go.Proofs.YtfbhofomcenabaaGreatDoor
