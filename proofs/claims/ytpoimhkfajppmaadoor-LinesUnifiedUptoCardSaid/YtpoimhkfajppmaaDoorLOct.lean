/- What lines.untellPlain and lines.untellOctal answer. -/
import Derived.Test.YtpoimhkfajppmaaDoorLTabs
namespace Go.Proofs.YtpoimhkfajppmaaDoor
open Go.RowKit

set_option maxRecDepth 100000 in
set_option maxHeartbeats 400000 in
theorem plain_any (c : UInt8) (off : Nat) (w : World) (ho : off ≤ 1073741824) :
    Calls Tryd.prog 46 #[.int .u8 c.toNat, .int .i64 off] w fun e w' => e = .returned (.tuple #[.int .u8 (Ln.plainP c off).1.toNat, .int .i64 ((Ln.plainP c off).2.1 : Nat), .bool (Ln.plainP c off).2.2]) ∧ w = w' := by
  have hc : c.toNat < 256 := c.toNat_lt
  by_cases h : c.toNat < 32 ∨ 127 ≤ c.toNat
  · have HP : Hid (Ln.plainP c off = (0, off, false)) := by show _ = _; rw [Ln.plainP, if_pos h]
    rcases h with h | h
    · have h' : (c.toNat : Int) < 32 := by omega
      go_enter Tryd.func46, Tryd.ntmps46
      go_wp2
      go_ret3
      exact ⟨by rw [HP.out]; rfl, rfl⟩
    · have h' : ¬ (c.toNat : Int) < 32 := by omega
      have h2 : (127 : Int) ≤ (c.toNat : Int) := by omega
      go_enter Tryd.func46, Tryd.ntmps46
      go_wp2
      go_ret3
      exact ⟨by rw [HP.out]; rfl, rfl⟩
  · have HP : Hid (Ln.plainP c off = (c, off + 1, true)) := by show _ = _; rw [Ln.plainP, if_neg h]
    have h' : ¬ (c.toNat : Int) < 32 := by omega
    have h2 : ¬ (127 : Int) ≤ (c.toNat : Int) := by omega
    clear h
    go_enter Tryd.func46, Tryd.ntmps46
    go_wp2
    go_ret3
    exact ⟨by rw [HP.out]; rfl, rfl⟩

set_option maxRecDepth 100000 in
set_option maxHeartbeats 1000000 in
theorem octal_any (s : ByteArray) (at0 : Nat) (w : World) (T : Tabs w) (hs : s.size ≤ 16777216) (ha : at0 ≤ s.size) :
    Calls Tryd.prog 47 #[.string s, .int .i64 at0] w fun e w' => e = .returned (.tuple #[.int .u8 (Ln.octP (s.data.toList.drop at0) at0).1.toNat, .int .i64 ((Ln.octP (s.data.toList.drop at0) at0).2.1 : Nat), .bool (Ln.octP (s.data.toList.drop at0) at0).2.2]) ∧ Below w.heap.size w w' := by
  obtain ⟨R, hR⟩ : ∃ R, Ln.octP (s.data.toList.drop at0) at0 = R := ⟨_, rfl⟩
  have HR : Hid (Ln.octGo 3 64 0 (s.data.toList.drop at0) at0 = R) := hR
  rw [hR]
  clear hR
  go_enter Tryd.func47, Tryd.ntmps47
  go_wp2
  go_loopw [1, 7, 10] (fun a v i wr => ∃ k x off : Nat, k ≤ 3 ∧ off ≤ s.size ∧ i = .int .i64 k ∧ v = .int .i64 x ∧ a = .int .i64 off ∧ x < 8 ^ k ∧ Hid (Ln.octGo (3 - k) (8 ^ (2 - k)) x (s.data.toList.drop off) off = R) ∧ Tabs wr ∧ Below w.heap.size w wr) (fun _ _ i _ => 3 - (intOf i).toNat)
  case atStart => exact ⟨0, 0, at0, by omega, ha, rfl, rfl, rfl, by decide, HR, T, Below.refl _ _⟩
  case round =>
    obtain ⟨k, x, off, hk, hoff, rfl, rfl, rfl, hx, HC, Tr, hnx⟩ := hrel
    have hsz := hnx.size
    rcases (show k = 0 ∨ k = 1 ∨ k = 2 ∨ k = 3 by omega) with rfl | rfl | rfl | rfl
    · have hx : x < 1 := hx
      have HC : Hid (Ln.octGo 3 64 x (s.data.toList.drop off) off = R) := HC
      by_cases hlt : off < s.size
      · have he : ((off : Int) == (s.size : Int)) = false := by simp; omega
        have hcb : s[off].toNat < 256 := s[off].toNat_lt
        have HC1 : Hid (Ln.octGo 3 64 x (s[off] :: s.data.toList.drop (off + 1)) off = R) := by have := HC.out; rwa [Ln.drop_cons s off hlt] at this
        by_cases h1 : s[off].toNat < 48
        · have hR : R = (0, off, false) := HC1.out.symm.trans (Ln.octGo_no (.inl h1))
          subst hR
          have h1' : (s[off].toNat : Int) < 48 := by omega
          go_wp2_with fail
          go_ret3
          exact ⟨rfl, hnx⟩
        have h1' : ¬ (s[off].toNat : Int) < 48 := by omega
        by_cases h2 : 55 < s[off].toNat
        · have hR : R = (0, off, false) := HC1.out.symm.trans (Ln.octGo_no (.inr h2))
          subst hR
          have h2' : (55 : Int) < (s[off].toNat : Int) := by omega
          go_wp2_with fail
          go_ret3
          exact ⟨rfl, hnx⟩
        have h2' : ¬ (55 : Int) < (s[off].toNat : Int) := by omega
        have eO : Ln.octB (((x : Int) * 8 + ((s[off].toNat : Int) - 48)) * 64) (((x : Int) * 8 + ((s[off].toNat : Int) - 48)) * 64 + 64 - 1) = Ln.octB (((x * 8 + (s[off].toNat - 48)) * 64 : Nat) : Int) (((x * 8 + (s[off].toNat - 48)) * 64 + 64 - 1 : Nat) : Int) := by
          congr 1 <;> omega
        cases hO : Ln.octB (((x * 8 + (s[off].toNat - 48)) * 64 : Nat) : Int) (((x * 8 + (s[off].toNat - 48)) * 64 + 64 - 1 : Nat) : Int)
        · have hR : R = (0, off, false) := HC1.out.symm.trans (Ln.octGo_out (by omega) hO)
          subst hR
          rw [hO] at eO
          clear hO HC HC1
          go_wp2_with fail
          refine (oct_any _ _ _ Tr (by omega)).mono ?_
          rintro e w1 ⟨rfl, hb⟩
          go_wp2_with fail
          go_ret3
          exact ⟨rfl, hnx.trans (hb.mono hsz)⟩
        · have HC2 : Hid (Ln.octGo 2 8 (x * 8 + (s[off].toNat - 48)) (s.data.toList.drop (off + 1)) (off + 1) = R) := by have := HC1.out; rwa [Ln.octGo_on (by omega) hO] at this
          rw [hO] at eO
          clear hO HC HC1
          go_wp2_with fail
          refine (oct_any _ _ _ Tr (by omega)).mono ?_
          rintro e w1 ⟨rfl, hb⟩
          go_wp2_with fail
          go_roundw
          case rel => exact ⟨1, x * 8 + (s[off].toNat - 48), off + 1, by omega, by omega, rfl, by go_num, by go_num, by show _ < 8; omega, HC2, Tr.below Tr.size hb, hnx.trans (hb.mono hsz)⟩
          case measure => simp [intOf]
      · have hR : R = (0, off, false) := by
          have := HC.out
          rw [List.drop_eq_nil_of_le (by rw [Ln.szL]; omega)] at this
          exact this.symm
        subst hR
        have he : ((off : Int) == (s.size : Int)) = true := by simp; omega
        go_wp2_with fail
        go_ret3
        exact ⟨rfl, hnx⟩
    · have hx : x < 8 := hx
      have HC : Hid (Ln.octGo 2 8 x (s.data.toList.drop off) off = R) := HC
      by_cases hlt : off < s.size
      · have he : ((off : Int) == (s.size : Int)) = false := by simp; omega
        have hcb : s[off].toNat < 256 := s[off].toNat_lt
        have HC1 : Hid (Ln.octGo 2 8 x (s[off] :: s.data.toList.drop (off + 1)) off = R) := by have := HC.out; rwa [Ln.drop_cons s off hlt] at this
        by_cases h1 : s[off].toNat < 48
        · have hR : R = (0, off, false) := HC1.out.symm.trans (Ln.octGo_no (.inl h1))
          subst hR
          have h1' : (s[off].toNat : Int) < 48 := by omega
          go_wp2_with fail
          go_ret3
          exact ⟨rfl, hnx⟩
        have h1' : ¬ (s[off].toNat : Int) < 48 := by omega
        by_cases h2 : 55 < s[off].toNat
        · have hR : R = (0, off, false) := HC1.out.symm.trans (Ln.octGo_no (.inr h2))
          subst hR
          have h2' : (55 : Int) < (s[off].toNat : Int) := by omega
          go_wp2_with fail
          go_ret3
          exact ⟨rfl, hnx⟩
        have h2' : ¬ (55 : Int) < (s[off].toNat : Int) := by omega
        have eO : Ln.octB (((x : Int) * 8 + ((s[off].toNat : Int) - 48)) * 8) (((x : Int) * 8 + ((s[off].toNat : Int) - 48)) * 8 + 8 - 1) = Ln.octB (((x * 8 + (s[off].toNat - 48)) * 8 : Nat) : Int) (((x * 8 + (s[off].toNat - 48)) * 8 + 8 - 1 : Nat) : Int) := by
          congr 1 <;> omega
        cases hO : Ln.octB (((x * 8 + (s[off].toNat - 48)) * 8 : Nat) : Int) (((x * 8 + (s[off].toNat - 48)) * 8 + 8 - 1 : Nat) : Int)
        · have hR : R = (0, off, false) := HC1.out.symm.trans (Ln.octGo_out (by omega) hO)
          subst hR
          rw [hO] at eO
          clear hO HC HC1
          go_wp2_with fail
          refine (oct_any _ _ _ Tr (by omega)).mono ?_
          rintro e w1 ⟨rfl, hb⟩
          go_wp2_with fail
          go_ret3
          exact ⟨rfl, hnx.trans (hb.mono hsz)⟩
        · have HC2 : Hid (Ln.octGo 1 1 (x * 8 + (s[off].toNat - 48)) (s.data.toList.drop (off + 1)) (off + 1) = R) := by have := HC1.out; rwa [Ln.octGo_on (by omega) hO] at this
          rw [hO] at eO
          clear hO HC HC1
          go_wp2_with fail
          refine (oct_any _ _ _ Tr (by omega)).mono ?_
          rintro e w1 ⟨rfl, hb⟩
          go_wp2_with fail
          go_roundw
          case rel => exact ⟨2, x * 8 + (s[off].toNat - 48), off + 1, by omega, by omega, rfl, by go_num, by go_num, by show _ < 64; omega, HC2, Tr.below Tr.size hb, hnx.trans (hb.mono hsz)⟩
          case measure => simp [intOf]
      · have hR : R = (0, off, false) := by
          have := HC.out
          rw [List.drop_eq_nil_of_le (by rw [Ln.szL]; omega)] at this
          exact this.symm
        subst hR
        have he : ((off : Int) == (s.size : Int)) = true := by simp; omega
        go_wp2_with fail
        go_ret3
        exact ⟨rfl, hnx⟩
    · have hx : x < 64 := hx
      have HC : Hid (Ln.octGo 1 1 x (s.data.toList.drop off) off = R) := HC
      by_cases hlt : off < s.size
      · have he : ((off : Int) == (s.size : Int)) = false := by simp; omega
        have hcb : s[off].toNat < 256 := s[off].toNat_lt
        have HC1 : Hid (Ln.octGo 1 1 x (s[off] :: s.data.toList.drop (off + 1)) off = R) := by have := HC.out; rwa [Ln.drop_cons s off hlt] at this
        by_cases h1 : s[off].toNat < 48
        · have hR : R = (0, off, false) := HC1.out.symm.trans (Ln.octGo_no (.inl h1))
          subst hR
          have h1' : (s[off].toNat : Int) < 48 := by omega
          go_wp2_with fail
          go_ret3
          exact ⟨rfl, hnx⟩
        have h1' : ¬ (s[off].toNat : Int) < 48 := by omega
        by_cases h2 : 55 < s[off].toNat
        · have hR : R = (0, off, false) := HC1.out.symm.trans (Ln.octGo_no (.inr h2))
          subst hR
          have h2' : (55 : Int) < (s[off].toNat : Int) := by omega
          go_wp2_with fail
          go_ret3
          exact ⟨rfl, hnx⟩
        have h2' : ¬ (55 : Int) < (s[off].toNat : Int) := by omega
        have eO : Ln.octB (((x : Int) * 8 + ((s[off].toNat : Int) - 48))) (((x : Int) * 8 + ((s[off].toNat : Int) - 48))) = Ln.octB (((x * 8 + (s[off].toNat - 48)) * 1 : Nat) : Int) (((x * 8 + (s[off].toNat - 48)) * 1 + 1 - 1 : Nat) : Int) := by
          congr 1 <;> omega
        cases hO : Ln.octB (((x * 8 + (s[off].toNat - 48)) * 1 : Nat) : Int) (((x * 8 + (s[off].toNat - 48)) * 1 + 1 - 1 : Nat) : Int)
        · have hR : R = (0, off, false) := HC1.out.symm.trans (Ln.octGo_out (by omega) hO)
          subst hR
          rw [hO] at eO
          clear hO HC HC1
          go_wp2_with fail
          refine (oct_any _ _ _ Tr (by omega)).mono ?_
          rintro e w1 ⟨rfl, hb⟩
          go_wp2_with fail
          go_ret3
          exact ⟨rfl, hnx.trans (hb.mono hsz)⟩
        · have HC2 : Hid (Ln.octGo 0 0 (x * 8 + (s[off].toNat - 48)) (s.data.toList.drop (off + 1)) (off + 1) = R) := by have := HC1.out; rwa [Ln.octGo_on (by omega) hO] at this
          rw [hO] at eO
          clear hO HC HC1
          go_wp2_with fail
          refine (oct_any _ _ _ Tr (by omega)).mono ?_
          rintro e w1 ⟨rfl, hb⟩
          go_wp2_with fail
          go_roundw
          case rel => exact ⟨3, x * 8 + (s[off].toNat - 48), off + 1, by omega, by omega, rfl, by go_num, by go_num, by show _ < 512; omega, HC2, Tr.below Tr.size hb, hnx.trans (hb.mono hsz)⟩
          case measure => simp [intOf]
      · have hR : R = (0, off, false) := by
          have := HC.out
          rw [List.drop_eq_nil_of_le (by rw [Ln.szL]; omega)] at this
          exact this.symm
        subst hR
        have he : ((off : Int) == (s.size : Int)) = true := by simp; omega
        go_wp2_with fail
        go_ret3
        exact ⟨rfl, hnx⟩
    · have hx : x < 512 := hx
      have hR : R = (UInt8.ofNat x, off, true) := HC.out.symm
      subst hR
      go_wp2_with fail
      go_ret3
      refine ⟨?_, hnx⟩
      have e : ((UInt8.ofNat x).toNat : Int) = (x : Int) % 256 := by simp
      show Ending.returned (.tuple #[.int .u8 ((x : Int) % 256), .int .i64 (off : Int), .bool true]) = .returned (.tuple #[.int .u8 ((UInt8.ofNat x).toNat : Int), .int .i64 (off : Int), .bool true])
      rw [e]
end Go.Proofs.YtpoimhkfajppmaaDoor
