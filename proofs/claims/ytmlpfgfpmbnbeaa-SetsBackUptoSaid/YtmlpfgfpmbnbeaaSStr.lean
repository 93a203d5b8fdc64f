/- A text's bytes by their places, and what strings.HasPrefix answers. -/
import Derived.Test.YtmlpfgfpmbnbeaaBytes
import Derived.Test.YtmlpfgfpmbnbeaaLShare
import Derived.Test.YtmlpfgfpmbnbeaaLPlain
namespace Go.Proofs.Ytmlpfgfpmbnbeaa
open Go.RowKit

namespace St
/-- The byte of a text at a place; 256 past its end. -/
def bt (s : ByteArray) (k : Nat) : Nat := if h : k < s.size then s[k].toNat else 256
theorem bt_in {s : ByteArray} {k : Nat} (h : k < s.size) : bt s k = s[k].toNat := by unfold bt; rw [dif_pos h]
theorem bt_out {s : ByteArray} {k : Nat} (h : s.size ≤ k) : bt s k = 256 := by unfold bt; rw [dif_neg (by omega)]
theorem bt_lt {s : ByteArray} {k : Nat} (h : k < s.size) : bt s k < 256 := by rw [bt_in h]; exact s[k].toNat_lt
theorem bt_lt_iff {s : ByteArray} {k : Nat} : bt s k < 256 ↔ k < s.size := ⟨fun h => by
  by_cases h2 : k < s.size
  · exact h2
  · rw [bt_out (by omega)] at h; omega, bt_lt⟩
def pre1 (s : ByteArray) (k a : Nat) : Bool := bt s k == a
def pre2 (s : ByteArray) (k a b : Nat) : Bool := bt s k == a && bt s (k + 1) == b
end St

namespace St
theorem bt_drop (s : ByteArray) (k : Nat) : bt s k = (((s.data.toList.drop k)[0]?).map UInt8.toNat).getD 256 := by
  rw [List.getElem?_drop, Nat.add_zero]
  by_cases h : k < s.size
  · rw [bt_in h, List.getElem?_eq_getElem (by rw [Ln.szL]; exact h)]; rfl
  · rw [bt_out (by omega), List.getElem?_eq_none (by rw [Ln.szL]; omega)]; rfl
theorem bt_drop1 (s : ByteArray) (k : Nat) : bt s (k + 1) = (((s.data.toList.drop k)[1]?).map UInt8.toNat).getD 256 := by
  rw [bt_drop s (k + 1), List.getElem?_drop, List.getElem?_drop]
theorem ext_toList (s : ByteArray) (k n : Nat) : ((s.extract k s.size).extract 0 n).toList = (s.data.toList.drop k).take n := by
  rw [Ln.toL]
  simp only [ByteArray.data_extract, Array.toList_extract, List.extract_eq_take_drop, List.drop_zero, Nat.sub_zero]
  rw [List.take_of_length_le (i := s.size - k) (by rw [List.length_drop, Ln.szL]; exact Nat.le_refl _)]
theorem ext_size (s : ByteArray) (k : Nat) : (s.extract k s.size).size = (s.data.toList.drop k).length := by
  rw [List.length_drop, Ln.szL, ByteArray.size_extract]; omega
theorem u8_beq (x a : UInt8) : (x == a) = (x.toNat == a.toNat) := by
  rw [Bool.eq_iff_iff, beq_iff_eq, beq_iff_eq]
  exact ⟨fun h => by rw [h], fun h => UInt8.toNat_inj.1 h⟩
theorem no_beq (a : UInt8) : (256 == a.toNat) = false := by
  have := a.toNat_lt
  simp; omega
theorem pre1_eq (s : ByteArray) (k : Nat) (a : UInt8) : (decide (1 ≤ (s.extract k s.size).size) && ((s.extract k s.size).extract 0 1).toList == [a]) = pre1 s k a.toNat := by
  unfold pre1
  rw [ext_toList, ext_size, bt_drop]
  cases s.data.toList.drop k with
  | nil => simp [no_beq]
  | cons x r => simp [u8_beq]
theorem pre2_eq (s : ByteArray) (k : Nat) (a b : UInt8) : (decide (2 ≤ (s.extract k s.size).size) && ((s.extract k s.size).extract 0 2).toList == [a, b]) = pre2 s k a.toNat b.toNat := by
  unfold pre2
  rw [ext_toList, ext_size, bt_drop, bt_drop1]
  cases s.data.toList.drop k with
  | nil => simp [no_beq]
  | cons x r =>
    cases r with
    | nil => simp [no_beq]
    | cons y r => simp [u8_beq]
end St

set_option maxRecDepth 100000 in
set_option maxHeartbeats 1000000 in
theorem prefixL_any (t p : ByteArray) (w : World) (_ht : t.size ≤ 140737488355328) (_hp : p.size ≤ 100) :
    Calls Try.prog 45 #[.string t, .string p] w fun e w' => e = .returned (.bool (decide (p.size ≤ t.size) && (t.extract 0 p.size).toList == p.toList)) ∧ w = w' := by
  by_cases h : p.size ≤ t.size
  · have HR : Hid ((decide (p.size ≤ t.size) && (t.extract 0 p.size).toList == p.toList) = ((t.extract 0 p.size).toList == p.toList)) := by show _ = _; rw [decide_eq_true h, Bool.true_and]
    go_enter Try.func45, Try.ntmps45
    go_wp2_with fail
    go_ret
    rw [HR.out]
    exact ⟨rfl, rfl⟩
  · have HR : Hid ((decide (p.size ≤ t.size) && (t.extract 0 p.size).toList == p.toList) = false) := by show _ = _; rw [decide_eq_false h, Bool.false_and]
    go_enter Try.func45, Try.ntmps45
    go_wp2_with fail
    go_ret
    rw [HR.out]
    exact ⟨rfl, rfl⟩

set_option maxRecDepth 100000 in
set_option maxHeartbeats 1000000 in
theorem prefix_any (t p : ByteArray) (w : World) (ht : t.size ≤ 140737488355328) (hp : p.size ≤ 100) :
    Calls Try.prog 41 #[.string t, .string p] w fun e w' => e = .returned (.bool (decide (p.size ≤ t.size) && (t.extract 0 p.size).toList == p.toList)) ∧ w = w' := by
  obtain ⟨b, hb⟩ : ∃ b, (decide (p.size ≤ t.size) && (t.extract 0 p.size).toList == p.toList) = b := ⟨_, rfl⟩
  have HP := prefixL_any t p w ht hp
  rw [hb] at HP ⊢
  clear hb
  go_enter Try.func41, Try.ntmps41
  go_wp2_with (go_at_call 45; refine HP.mono ?_; rintro x w1 ⟨rfl, rfl⟩)
  go_ret
  exact ⟨rfl, rfl⟩
theorem pre1_any (s : ByteArray) (k : Nat) (a : UInt8) (w : World) (hs : s.size ≤ 140737488355328) :
    Calls Try.prog 41 #[.string (s.extract k s.size), .string ⟨#[a]⟩] w fun e w' => e = .returned (.bool (St.pre1 s k a.toNat)) ∧ w = w' := by
  have h := prefix_any (s.extract k s.size) ⟨#[a]⟩ w (by rw [St.ext_size, List.length_drop, Ln.szL]; omega) (by show 1 ≤ 100; decide)
  rw [show (⟨#[a]⟩ : ByteArray).toList = [a] from Ln.toL _] at h
  rw [← St.pre1_eq s k a]
  exact h
theorem pre2_any (s : ByteArray) (k : Nat) (a b : UInt8) (w : World) (hs : s.size ≤ 140737488355328) :
    Calls Try.prog 41 #[.string (s.extract k s.size), .string ⟨#[a, b]⟩] w fun e w' => e = .returned (.bool (St.pre2 s k a.toNat b.toNat)) ∧ w = w' := by
  have h := prefix_any (s.extract k s.size) ⟨#[a, b]⟩ w (by rw [St.ext_size, List.length_drop, Ln.szL]; omega) (by show 2 ≤ 100; decide)
  rw [show (⟨#[a, b]⟩ : ByteArray).toList = [a, b] from Ln.toL _] at h
  rw [← St.pre2_eq s k a b]
  exact h
end Go.Proofs.Ytmlpfgfpmbnbeaa
