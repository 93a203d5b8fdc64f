/- The lines' tables beside the library's table of powers; what strconv.Itoa, lines.place and lines.sides answer. -/
import Derived.Test.YtpoimhkfajppmaaDoorItoa
import Derived.Test.YtpoimhkfajppmaaDoorLTabs
import Derived.Test.YtpoimhkfajppmaaDoorLApp
import Derived.Test.YtpoimhkfajppmaaDoorLPlainU
import Derived.Lib.AppendIntMem
namespace Go.Proofs.YtpoimhkfajppmaaDoor
open Go.RowKit

structure Tabs2 (w : World) : Prop where
  tabs : Tabs w
  pow : Lib.TabIs Tryd.prog w "internal/strconv.uint64pow10" .u64 Lib.pow10Tab
theorem Tabs2.below {w w' : World} (h : Tabs2 w) (hb : Below w.heap.size w w') : Tabs2 w' := ⟨h.tabs.below h.tabs.size hb, Lib.tabBelow_of_tabIs h.pow w' hb⟩
theorem nDigits_le : ∀ u, Lib.nDigits u ≤ u + 1
  | u => by
    by_cases h : u < 10
    · rw [Lib.nDigits_small h]; omega
    · have := nDigits_le (u / 10)
      rw [Lib.nDigits_big h]; omega
theorem dec_size (u : Nat) : (Ln.bs (Lib.decDigits u)).size ≤ u + 1 := by
  have h := nDigits_le u
  rw [← Lib.decDigits_length] at h
  simpa [Ln.bs, ByteArray.size] using h
theorem itoa_any (n : Nat) (w : World) (T : Tabs2 w) (hn : n ≤ 1000000000) :
    Calls Tryd.prog 36 #[.int .i64 (n : Int)] w fun e w' => e = .returned (.string (Ln.bs (Lib.decDigits n))) ∧ Below w.heap.size w w' := by
  refine (Any.strconv_Itoa Tryd.laysM171 (n : Int) (by omega) (by omega) w T.pow).mono ?_
  rintro e w' ⟨rfl, k, os, rfl⟩
  exact ⟨by rw [Lib.itoa_nonneg]; rfl, Lib.below_grow _ _ (Nat.le_refl _) _ _⟩

set_option maxRecDepth 100000 in
set_option maxHeartbeats 1000000 in
theorem place_any (a n : Nat) (w : World) (T : Tabs2 w) (ha : a ≤ 100000000) (hn : n ≤ 100000000) :
    Calls Tryd.prog 28 #[.int .i64 (a : Int), .int .i64 (n : Int)] w fun e w' => e = .returned (.string (Ln.bs (Ln.placeP a n))) ∧ Below w.heap.size w w' := by
  have z0 := dec_size a
  have z1 := dec_size (a + 1)
  have z2 := dec_size n
  by_cases h0 : n = 0
  · subst h0
    have HP : Hid (Ln.bs (Ln.placeP a 0) = Ln.bs (Lib.decDigits a) ++ ⟨#[44, 48]⟩) := by show _ = _; unfold Ln.placeP Ln.bs; rw [if_pos rfl]; apply ByteArray.ext; simp
    go_enter Tryd.func28, Tryd.ntmps28
    go_wp2_with fail
    refine (itoa_any a _ T (by omega)).mono ?_
    rintro e w1 ⟨rfl, hb⟩
    go_wp2_with fail
    go_ret
    rw [HP.out]
    exact ⟨rfl, hb⟩
  by_cases h1 : n = 1
  · subst h1
    have HP : Hid (Ln.placeP a 1 = Lib.decDigits (a + 1)) := by show _ = _; unfold Ln.placeP; rw [if_neg (by omega), if_pos rfl]
    go_enter Tryd.func28, Tryd.ntmps28
    go_wp2_with fail
    refine (itoa_any (a + 1) _ T (by omega)).mono ?_
    rintro e w1 ⟨rfl, hb⟩
    go_wp2_with fail
    go_ret
    rw [HP.out]
    exact ⟨rfl, hb⟩
  have HP : Hid (Ln.bs (Ln.placeP a n) = Ln.bs (Lib.decDigits (a + 1)) ++ ⟨#[44]⟩ ++ Ln.bs (Lib.decDigits n)) := by show _ = _; unfold Ln.placeP Ln.bs; rw [if_neg h0, if_neg h1]; apply ByteArray.ext; simp
  have g0 : ((n : Int) == 0) = false := by simp; omega
  have g1 : ((n : Int) == 1) = false := by simp; omega
  go_enter Tryd.func28, Tryd.ntmps28
  go_wp2_with fail
  refine (itoa_any (a + 1) _ T (by omega)).mono ?_
  rintro e w1 ⟨rfl, hb⟩
  have T1 := T.below hb
  go_wp2_with fail
  refine (itoa_any n _ T1 (by omega)).mono ?_
  rintro e w2 ⟨rfl, hb2⟩
  go_wp2_with fail
  go_ret
  rw [HP.out]
  exact ⟨rfl, hb.trans (hb2.mono hb.size)⟩

set_option maxRecDepth 100000 in
set_option maxHeartbeats 1000000 in
theorem sides_any (a : Option Addr) (cap : Nat) (l : List Ln.Chg) (w : World) (h : Chs w a cap l) :
    Calls Tryd.prog 27 #[.slice a l.length cap] w fun e w' => e = .returned (.tuple #[.int .i64 (Ln.cntO l : Nat), .int .i64 (Ln.cntN l : Nat)]) ∧ Below w.heap.size w w' := by
  have hl := h.len
  go_enter Tryd.func27, Tryd.ntmps27
  go_wp2
  go_loopw [4, 5, 10] (fun o n i wr => ∃ (k p q : Nat), k ≤ l.length ∧ i = .int .i64 k ∧ o = .int .i64 p ∧ n = .int .i64 q ∧ p ≤ k ∧ q ≤ k ∧ Hid (Ln.cntO (l.take k) = p) ∧ Hid (Ln.cntN (l.take k) = q) ∧ Below w.heap.size w wr) (fun _ _ i _ => l.length - (intOf i).toNat)
  case atStart => exact ⟨0, 0, 0, Nat.zero_le _, rfl, rfl, rfl, Nat.le_refl _, Nat.le_refl _, rfl, rfl, Below.refl _ _⟩
  case round =>
    obtain ⟨k, p, q, hk, rfl, rfl, rfl, hp, hq, HP, HQ, hnx⟩ := hrel
    have hsz := hnx.size
    by_cases hlt : k < l.length
    · obtain ⟨b, off, rfl, hb0, hc1, hc2, hc3⟩ := h.cells k hlt
      have d1 : wr.cell? ⟨b, off + k * 3, none⟩ = some (.int .u8 ((l[k]'hlt).1 : Int)) := (hnx.cell (p := ⟨b, off + k * 3, none⟩) hb0).trans hc1
      have d2 : wr.cell? ⟨b, off + k * 3 + 1, none⟩ = some (.string (l[k]'hlt).2.1) := (hnx.cell (p := ⟨b, off + k * 3 + 1, none⟩) hb0).trans hc2
      have d3 : wr.cell? ⟨b, off + k * 3 + 2, none⟩ = some (.bool (l[k]'hlt).2.2) := (hnx.cell (p := ⟨b, off + k * 3 + 2, none⟩) hb0).trans hc3
      have HT : Hid (l.take (k + 1) = l.take k ++ [l[k]'hlt]) := List.take_succ_eq_append_getElem hlt
      have hkd : (l[k]'hlt).1 < 256 := h.kind _ (List.getElem_mem hlt)
      clear hc1 hc2 hc3
      generalize l[k]'hlt = x at *
      obtain ⟨kd, x1, x2⟩ := x
      simp only at d1 d2 d3 hkd
      by_cases e3 : kd = 3
      · subst e3
        have H1 : Hid (Ln.cntO (l.take (k + 1)) = p) := by show _ = _; rw [HT.out, Ln.cntO_append, HP.out]; rfl
        have H2 : Hid (Ln.cntN (l.take (k + 1)) = q + 1) := by show _ = _; rw [HT.out, Ln.cntN_append, HQ.out]; rfl
        go_wp2_with fail
        go_roundw
        case rel => exact ⟨k + 1, p, q + 1, by omega, by go_num, rfl, by go_num, by omega, by omega, H1, H2, hnx.alloc hsz _⟩
        case measure => simp [intOf]; omega
      by_cases e2 : kd = 2
      · subst e2
        have H1 : Hid (Ln.cntO (l.take (k + 1)) = p + 1) := by show _ = _; rw [HT.out, Ln.cntO_append, HP.out]; rfl
        have H2 : Hid (Ln.cntN (l.take (k + 1)) = q) := by show _ = _; rw [HT.out, Ln.cntN_append, HQ.out]; rfl
        go_wp2_with fail
        go_roundw
        case rel => exact ⟨k + 1, p + 1, q, by omega, by go_num, by go_num, rfl, by omega, by omega, H1, H2, hnx.alloc hsz _⟩
        case measure => simp [intOf]; omega
      have H1 : Hid (Ln.cntO (l.take (k + 1)) = p + 1) := by show _ = _; rw [HT.out, Ln.cntO_append, HP.out]; simp [Ln.cntO, e3]
      have H2 : Hid (Ln.cntN (l.take (k + 1)) = q + 1) := by show _ = _; rw [HT.out, Ln.cntN_append, HQ.out]; simp [Ln.cntN, e2]
      have g3 : ((kd : Int) != 3) = true := by simp; omega
      have g2 : ((kd : Int) != 2) = true := by simp; omega
      go_wp2_with fail
      go_roundw
      case rel => exact ⟨k + 1, p + 1, q + 1, by omega, by go_num, by go_num, by go_num, by omega, by omega, H1, H2, hnx.alloc hsz _⟩
      case measure => simp [intOf]; omega
    · have htk : l.take k = l := List.take_of_length_le (by omega)
      have H1 : Hid (Ln.cntO l = p) := by have := HP.out; rwa [htk] at this
      have H2 : Hid (Ln.cntN l = q) := by have := HQ.out; rwa [htk] at this
      clear htk
      go_wp2_with fail
      go_ret2
      rw [H1.out, H2.out]
      exact ⟨rfl, hnx⟩
theorem sides_at (a : Option Addr) (cap n : Nat) (l : List Ln.Chg) (w : World) (h : Chs w a cap l) (hn : l.length = n) :
    Calls Tryd.prog 27 #[.slice a n cap] w fun e w' => e = .returned (.tuple #[.int .i64 (Ln.cntO l : Nat), .int .i64 (Ln.cntN l : Nat)]) ∧ Below w.heap.size w w' := by
  subst hn
  exact sides_any a cap l w h
end Go.Proofs.YtpoimhkfajppmaaDoor
