/- What the reference's digits, spot and counted answer. -/
import Derived.Test.YtpoimhkfajppmaaDoorLItoa
import Derived.Test.YtpoimhkfajppmaaDoorLPlainU
import Derived.Test.YtpoimhkfajppmaaDoorLRTold
namespace Go.Proofs.YtpoimhkfajppmaaDoor
open Go.RowKit

set_option maxRecDepth 100000 in
set_option maxHeartbeats 1000000 in
theorem digits_any : ∀ (n : Nat) (w : World) (_ : n ≤ 1000000000),
    Calls Tryd.prog 45 #[.int .i64 (n : Int)] w fun e w' => e = .returned (.string (Ln.bs (Lib.decDigits n))) ∧ Below w.heap.size w w' := by
  intro n
  induction n using Nat.strongRecOn with
  | ind n ih =>
  intro w hn
  by_cases h : n < 10
  · have HD : Hid (Lib.decDigits n = [UInt8.ofNat (48 + n)]) := Lib.decDigits_one h
    have hz : (48 + n) % 256 = 48 + n := by omega
    have hcv : (convert 53 9 (.slice (some ⟨w.heap.size, 0, none⟩) 1 1)).run Tryd.prog (w.alloc (.cells #[.int .u8 (48 + (n : Int))] 5)) = .ok (.string (Ln.bs [UInt8.ofNat (48 + n)])) (w.alloc (.cells #[.int .u8 (48 + (n : Int))] 5)) := by
      have := conv_lit w [UInt8.ofNat (48 + n)] (by simp)
      simpa [bcells, hz] using this
    clear hz
    generalize UInt8.ofNat (48 + n) = b at *
    go_enter Tryd.func45, Tryd.ntmps45
    go_wp2
    go_ret
    rw [HD.out]
    exact ⟨rfl, alloc_below _ _⟩
  · have HI : Hid (∀ m, m < n → ∀ (w : World) (_ : m ≤ 1000000000),
    Calls Tryd.prog 45 #[.int .i64 (m : Int)] w fun e w' => e = .returned (.string (Ln.bs (Lib.decDigits m))) ∧ Below w.heap.size w w') := ih
    clear ih
    have HP : Hid (Ln.bs (Lib.decDigits n) = Ln.bs (Lib.decDigits (n / 10)) ++ Ln.bs (Lib.decDigits (n % 10))) := by
      show _ = _
      rw [Lib.decDigits, dif_neg h, Lib.decDigits_one (show n % 10 < 10 by omega)]
      unfold Ln.bs
      apply ByteArray.ext
      simp
    have z0 := dec_size (n / 10)
    have z1 := dec_size (n % 10)
    go_enter Tryd.func45, Tryd.ntmps45
    go_wp2_with fail
    rw [show ((n : Int) / 10) = ((n / 10 : Nat) : Int) by omega]
    refine (HI.out (n / 10) (by omega) _ (by omega)).mono ?_
    rintro e w1 ⟨rfl, hb⟩
    go_wp2_with fail
    rw [show ((n : Int) % 10) = ((n % 10 : Nat) : Int) by omega]
    refine (HI.out (n % 10) (by omega) _ (by omega)).mono ?_
    rintro e w2 ⟨rfl, hb2⟩
    go_wp2_with fail
    go_ret
    rw [HP.out]
    exact ⟨rfl, hb.trans (hb2.mono hb.size)⟩

set_option maxRecDepth 100000 in
set_option maxHeartbeats 1000000 in
theorem spot_any (a n : Nat) (w : World) (ha : a ≤ 100000000) (hn : n ≤ 100000000) :
    Calls Tryd.prog 38 #[.int .i64 (a : Int), .int .i64 (n : Int)] w fun e w' => e = .returned (.string (Ln.bs (Ln.placeP a n))) ∧ Below w.heap.size w w' := by
  have z0 := dec_size a
  have z1 := dec_size (a + 1)
  have z2 := dec_size n
  by_cases h0 : n = 0
  · subst h0
    have HP : Hid (Ln.bs (Ln.placeP a 0) = Ln.bs (Lib.decDigits a) ++ ⟨#[44, 48]⟩) := by show _ = _; unfold Ln.placeP Ln.bs; rw [if_pos rfl]; apply ByteArray.ext; simp
    go_enter Tryd.func38, Tryd.ntmps38
    go_wp2_with fail
    refine (digits_any a _ (by omega)).mono ?_
    rintro e w1 ⟨rfl, hb⟩
    go_wp2_with fail
    go_ret
    rw [HP.out]
    exact ⟨rfl, hb⟩
  by_cases h1 : n = 1
  · subst h1
    have HP : Hid (Ln.placeP a 1 = Lib.decDigits (a + 1)) := by show _ = _; unfold Ln.placeP; rw [if_neg (by omega), if_pos rfl]
    go_enter Tryd.func38, Tryd.ntmps38
    go_wp2_with fail
    refine (digits_any (a + 1) _ (by omega)).mono ?_
    rintro e w1 ⟨rfl, hb⟩
    go_wp2_with fail
    go_ret
    rw [HP.out]
    exact ⟨rfl, hb⟩
  have HP : Hid (Ln.bs (Ln.placeP a n) = Ln.bs (Lib.decDigits (a + 1)) ++ ⟨#[44]⟩ ++ Ln.bs (Lib.decDigits n)) := by show _ = _; unfold Ln.placeP Ln.bs; rw [if_neg h0, if_neg h1]; apply ByteArray.ext; simp
  have g0 : ((n : Int) == 0) = false := by simp; omega
  have g1 : ((n : Int) == 1) = false := by simp; omega
  go_enter Tryd.func38, Tryd.ntmps38
  go_wp2_with fail
  refine (digits_any (a + 1) _ (by omega)).mono ?_
  rintro e w1 ⟨rfl, hb⟩
  go_wp2_with fail
  refine (digits_any n _ (by omega)).mono ?_
  rintro e w2 ⟨rfl, hb2⟩
  go_wp2_with fail
  go_ret
  rw [HP.out]
  exact ⟨rfl, hb.trans (hb2.mono hb.size)⟩

set_option maxRecDepth 100000 in
set_option maxHeartbeats 1000000 in
theorem counted_O (a : Option Addr) (cap : Nat) (l : List Ln.Chg) (w : World) (h : Chs w a cap l) (HK : Hid (∀ x ∈ l, x.1 = 1 ∨ x.1 = 2 ∨ x.1 = 3)) :
    Calls Tryd.prog 39 #[.slice a l.length cap, .int .u8 1, .int .u8 2] w fun e w' => e = .returned (.int .i64 (Ln.cntO l : Nat)) ∧ Below w.heap.size w w' := by
  have hl := h.len
  go_enter Tryd.func39, Tryd.ntmps39
  go_wp2
  go_loopw [7, 12] (fun o i wr => ∃ (k p : Nat), k ≤ l.length ∧ i = .int .i64 k ∧ o = .int .i64 p ∧ p ≤ k ∧ Hid (Ln.cntO (l.take k) = p) ∧ Below w.heap.size w wr) (fun _ i _ => l.length - (intOf i).toNat)
  case atStart => exact ⟨0, 0, Nat.zero_le _, rfl, rfl, Nat.le_refl _, rfl, Below.refl _ _⟩
  case round =>
    obtain ⟨k, p, hk, rfl, rfl, hp, HP, hnx⟩ := hrel
    have hsz := hnx.size
    by_cases hlt : k < l.length
    · obtain ⟨b, off, rfl, hb0, hc1, hc2, hc3⟩ := h.cells k hlt
      have d1 : wr.cell? ⟨b, off + k * 3, none⟩ = some (.int .u8 ((l[k]'hlt).1 : Int)) := (hnx.cell (p := ⟨b, off + k * 3, none⟩) hb0).trans hc1
      have d2 : wr.cell? ⟨b, off + k * 3 + 1, none⟩ = some (.string (l[k]'hlt).2.1) := (hnx.cell (p := ⟨b, off + k * 3 + 1, none⟩) hb0).trans hc2
      have d3 : wr.cell? ⟨b, off + k * 3 + 2, none⟩ = some (.bool (l[k]'hlt).2.2) := (hnx.cell (p := ⟨b, off + k * 3 + 2, none⟩) hb0).trans hc3
      have HT : Hid (l.take (k + 1) = l.take k ++ [l[k]'hlt]) := List.take_succ_eq_append_getElem hlt
      have hkd := HK.out _ (List.getElem_mem hlt)
      clear hc1 hc2 hc3
      generalize l[k]'hlt = x at *
      obtain ⟨kd, x1, x2⟩ := x
      simp only at d1 d2 d3 hkd
      rcases hkd with rfl | rfl | rfl
      · have H1 : Hid (Ln.cntO (l.take (k + 1)) = p + 1) := by show _ = _; rw [HT.out, Ln.cntO_append, HP.out]; rfl
        go_wp2_with fail
        go_roundw
        case rel => exact ⟨k + 1, p + 1, by omega, by go_num, by go_num, by omega, H1, hnx.alloc hsz _⟩
        case measure => simp [intOf]; omega
      · have H1 : Hid (Ln.cntO (l.take (k + 1)) = p + 1) := by show _ = _; rw [HT.out, Ln.cntO_append, HP.out]; rfl
        go_wp2_with fail
        go_roundw
        case rel => exact ⟨k + 1, p + 1, by omega, by go_num, by go_num, by omega, H1, hnx.alloc hsz _⟩
        case measure => simp [intOf]; omega
      · have H1 : Hid (Ln.cntO (l.take (k + 1)) = p) := by show _ = _; rw [HT.out, Ln.cntO_append, HP.out]; rfl
        go_wp2_with fail
        go_roundw
        case rel => exact ⟨k + 1, p, by omega, by go_num, rfl, by omega, H1, hnx.alloc hsz _⟩
        case measure => simp [intOf]; omega
    · have htk : l.take k = l := List.take_of_length_le (by omega)
      have H1 : Hid (Ln.cntO l = p) := by have := HP.out; rwa [htk] at this
      clear htk
      go_wp2_with fail
      go_ret
      rw [H1.out]
      exact ⟨rfl, hnx⟩
set_option maxRecDepth 100000 in
set_option maxHeartbeats 1000000 in
theorem counted_N (a : Option Addr) (cap : Nat) (l : List Ln.Chg) (w : World) (h : Chs w a cap l) (HK : Hid (∀ x ∈ l, x.1 = 1 ∨ x.1 = 2 ∨ x.1 = 3)) :
    Calls Tryd.prog 39 #[.slice a l.length cap, .int .u8 1, .int .u8 3] w fun e w' => e = .returned (.int .i64 (Ln.cntN l : Nat)) ∧ Below w.heap.size w w' := by
  have hl := h.len
  go_enter Tryd.func39, Tryd.ntmps39
  go_wp2
  go_loopw [7, 12] (fun o i wr => ∃ (k p : Nat), k ≤ l.length ∧ i = .int .i64 k ∧ o = .int .i64 p ∧ p ≤ k ∧ Hid (Ln.cntN (l.take k) = p) ∧ Below w.heap.size w wr) (fun _ i _ => l.length - (intOf i).toNat)
  case atStart => exact ⟨0, 0, Nat.zero_le _, rfl, rfl, Nat.le_refl _, rfl, Below.refl _ _⟩
  case round =>
    obtain ⟨k, p, hk, rfl, rfl, hp, HP, hnx⟩ := hrel
    have hsz := hnx.size
    by_cases hlt : k < l.length
    · obtain ⟨b, off, rfl, hb0, hc1, hc2, hc3⟩ := h.cells k hlt
      have d1 : wr.cell? ⟨b, off + k * 3, none⟩ = some (.int .u8 ((l[k]'hlt).1 : Int)) := (hnx.cell (p := ⟨b, off + k * 3, none⟩) hb0).trans hc1
      have d2 : wr.cell? ⟨b, off + k * 3 + 1, none⟩ = some (.string (l[k]'hlt).2.1) := (hnx.cell (p := ⟨b, off + k * 3 + 1, none⟩) hb0).trans hc2
      have d3 : wr.cell? ⟨b, off + k * 3 + 2, none⟩ = some (.bool (l[k]'hlt).2.2) := (hnx.cell (p := ⟨b, off + k * 3 + 2, none⟩) hb0).trans hc3
      have HT : Hid (l.take (k + 1) = l.take k ++ [l[k]'hlt]) := List.take_succ_eq_append_getElem hlt
      have hkd := HK.out _ (List.getElem_mem hlt)
      clear hc1 hc2 hc3
      generalize l[k]'hlt = x at *
      obtain ⟨kd, x1, x2⟩ := x
      simp only at d1 d2 d3 hkd
      rcases hkd with rfl | rfl | rfl
      · have H1 : Hid (Ln.cntN (l.take (k + 1)) = p + 1) := by show _ = _; rw [HT.out, Ln.cntN_append, HP.out]; rfl
        go_wp2_with fail
        go_roundw
        case rel => exact ⟨k + 1, p + 1, by omega, by go_num, by go_num, by omega, H1, hnx.alloc hsz _⟩
        case measure => simp [intOf]; omega
      · have H1 : Hid (Ln.cntN (l.take (k + 1)) = p) := by show _ = _; rw [HT.out, Ln.cntN_append, HP.out]; rfl
        go_wp2_with fail
        go_roundw
        case rel => exact ⟨k + 1, p, by omega, by go_num, rfl, by omega, H1, hnx.alloc hsz _⟩
        case measure => simp [intOf]; omega
      · have H1 : Hid (Ln.cntN (l.take (k + 1)) = p + 1) := by show _ = _; rw [HT.out, Ln.cntN_append, HP.out]; rfl
        go_wp2_with fail
        go_roundw
        case rel => exact ⟨k + 1, p + 1, by omega, by go_num, by go_num, by omega, H1, hnx.alloc hsz _⟩
        case measure => simp [intOf]; omega
    · have htk : l.take k = l := List.take_of_length_le (by omega)
      have H1 : Hid (Ln.cntN l = p) := by have := HP.out; rwa [htk] at this
      clear htk
      go_wp2_with fail
      go_ret
      rw [H1.out]
      exact ⟨rfl, hnx⟩
end Go.Proofs.YtpoimhkfajppmaaDoor
