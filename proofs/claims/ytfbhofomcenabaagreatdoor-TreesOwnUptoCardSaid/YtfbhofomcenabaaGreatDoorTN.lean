/- What lines.untellPlain and lines.untellOctal answer. What lines.untell answers: the told byte at a place. What lines.begins and lines.Unquote answer. What trees.readQuotes answers. What trees.readNames answers. -/
import Derived.Test.YtfbhofomcenabaaGreatDoorTJ
import Derived.Deep.QuietTactic
import Derived.BigQuiet
import Derived.Test.YtfbhofomcenabaaGreatDoorTL
import Derived.BigRegion
namespace Go.Proofs.YtfbhofomcenabaaGreatDoor
open Go.RowKit

set_option maxRecDepth 100000 in
set_option maxHeartbeats 400000 in
theorem plain_any (c : UInt8) (off : Nat) (w : World) (ho : off ≤ 1073741824) :
    Calls Tryz.prog 156 #[.int .u8 c.toNat, .int .i64 off] w fun e w' => e = .returned (.tuple #[.int .u8 (Ln.plainP c off).1.toNat, .int .i64 ((Ln.plainP c off).2.1 : Nat), .bool (Ln.plainP c off).2.2]) ∧ w = w' := by
  have hc : c.toNat < 256 := c.toNat_lt
  by_cases h : c.toNat < 32 ∨ 127 ≤ c.toNat
  · have HP : Hid (Ln.plainP c off = (0, off, false)) := by show _ = _; rw [Ln.plainP, if_pos h]
    rcases h with h | h
    · have h' : (c.toNat : Int) < 32 := by omega
      go_enter Tryz.func156, Tryz.ntmps156
      go_wp2
      go_ret3
      exact ⟨by rw [HP.out]; rfl, rfl⟩
    · have h' : ¬ (c.toNat : Int) < 32 := by omega
      have h2 : (127 : Int) ≤ (c.toNat : Int) := by omega
      go_enter Tryz.func156, Tryz.ntmps156
      go_wp2
      go_ret3
      exact ⟨by rw [HP.out]; rfl, rfl⟩
  · have HP : Hid (Ln.plainP c off = (c, off + 1, true)) := by show _ = _; rw [Ln.plainP, if_neg h]
    have h' : ¬ (c.toNat : Int) < 32 := by omega
    have h2 : ¬ (127 : Int) ≤ (c.toNat : Int) := by omega
    clear h
    go_enter Tryz.func156, Tryz.ntmps156
    go_wp2
    go_ret3
    exact ⟨by rw [HP.out]; rfl, rfl⟩

set_option maxRecDepth 100000 in
set_option maxHeartbeats 1000000 in
theorem octal_any (s : ByteArray) (at0 : Nat) (w : World) (T : Tabs w) (hs : s.size ≤ 16777216) (ha : at0 ≤ s.size) :
    Calls Tryz.prog 157 #[.string s, .int .i64 at0] w fun e w' => e = .returned (.tuple #[.int .u8 (Ln.octP (s.data.toList.drop at0) at0).1.toNat, .int .i64 ((Ln.octP (s.data.toList.drop at0) at0).2.1 : Nat), .bool (Ln.octP (s.data.toList.drop at0) at0).2.2]) ∧ Below w.heap.size w w' := by
  obtain ⟨R, hR⟩ : ∃ R, Ln.octP (s.data.toList.drop at0) at0 = R := ⟨_, rfl⟩
  have HR : Hid (Ln.octGo 3 64 0 (s.data.toList.drop at0) at0 = R) := hR
  rw [hR]
  clear hR
  go_enter Tryz.func157, Tryz.ntmps157
  go_wp2
  go_loopw [1, 7, 10] (fun a v i wr => ∃ k x off : Nat, k ≤ 3 ∧ off ≤ s.size ∧ i = .int .i64 k ∧ v = .int .i64 x ∧ a = .int .i64 off ∧ x < 8 ^ k ∧ Hid (Ln.octGo (3 - k) (8 ^ (2 - k)) x (s.data.toList.drop off) off = R) ∧ Tabs wr ∧ Below w.heap.size w wr) (fun _ _ i _ => 3 - (intOf i).toNat)
  case atStart => exact ⟨0, 0, at0, by omega, ha, rfl, rfl, rfl, by decide, HR, T, Below.refl _ _⟩
  case round =>
    obtain ⟨k, x, off, hk, hoff, rfl, rfl, rfl, hx, HC, Tr, hnx⟩ := hrel
    have hsz := hnx.size
    rcases (show k = 0 ∨ k = 1 ∨ k = 2 ∨ k = 3 by omega) with rfl | rfl | rfl | rfl
    · have hx : x < 1 := hx
      have HC : Hid (Ln.octGo 3 64 x (s.data.toList.drop off) off = R) := HC
      by_cases hlt : off < s.size
      · have he : ((off : Int) == (s.size : Int)) = false := by simp; omega
        have hcb : s[off].toNat < 256 := s[off].toNat_lt
        have HC1 : Hid (Ln.octGo 3 64 x (s[off] :: s.data.toList.drop (off + 1)) off = R) := by have := HC.out; rwa [Ln.drop_cons s off hlt] at this
        by_cases h1 : s[off].toNat < 48
        · have hR : R = (0, off, false) := HC1.out.symm.trans (Ln.octGo_no (.inl h1))
          subst hR
          have h1' : (s[off].toNat : Int) < 48 := by omega
          go_wp2_with fail
          go_ret3
          exact ⟨rfl, hnx⟩
        have h1' : ¬ (s[off].toNat : Int) < 48 := by omega
        by_cases h2 : 55 < s[off].toNat
        · have hR : R = (0, off, false) := HC1.out.symm.trans (Ln.octGo_no (.inr h2))
          subst hR
          have h2' : (55 : Int) < (s[off].toNat : Int) := by omega
          go_wp2_with fail
          go_ret3
          exact ⟨rfl, hnx⟩
        have h2' : ¬ (55 : Int) < (s[off].toNat : Int) := by omega
        have eO : Ln.octB (((x : Int) * 8 + ((s[off].toNat : Int) - 48)) * 64) (((x : Int) * 8 + ((s[off].toNat : Int) - 48)) * 64 + 64 - 1) = Ln.octB (((x * 8 + (s[off].toNat - 48)) * 64 : Nat) : Int) (((x * 8 + (s[off].toNat - 48)) * 64 + 64 - 1 : Nat) : Int) := by
          congr 1 <;> omega
        cases hO : Ln.octB (((x * 8 + (s[off].toNat - 48)) * 64 : Nat) : Int) (((x * 8 + (s[off].toNat - 48)) * 64 + 64 - 1 : Nat) : Int)
        · have hR : R = (0, off, false) := HC1.out.symm.trans (Ln.octGo_out (by omega) hO)
          subst hR
          rw [hO] at eO
          clear hO HC HC1
          go_wp2_with fail
          refine (oct_any _ _ _ Tr (by omega)).mono ?_
          rintro e w1 ⟨rfl, hb⟩
          go_wp2_with fail
          go_ret3
          exact ⟨rfl, hnx.trans (hb.mono hsz)⟩
        · have HC2 : Hid (Ln.octGo 2 8 (x * 8 + (s[off].toNat - 48)) (s.data.toList.drop (off + 1)) (off + 1) = R) := by have := HC1.out; rwa [Ln.octGo_on (by omega) hO] at this
          rw [hO] at eO
          clear hO HC HC1
          go_wp2_with fail
          refine (oct_any _ _ _ Tr (by omega)).mono ?_
          rintro e w1 ⟨rfl, hb⟩
          go_wp2_with fail
          go_roundw
          case rel => exact ⟨1, x * 8 + (s[off].toNat - 48), off + 1, by omega, by omega, rfl, by go_num, by go_num, by show _ < 8; omega, HC2, Tr.below Tr.size hb, hnx.trans (hb.mono hsz)⟩
          case measure => simp [intOf]
      · have hR : R = (0, off, false) := by
          have := HC.out
          rw [List.drop_eq_nil_of_le (by rw [Ln.szL]; omega)] at this
          exact this.symm
        subst hR
        have he : ((off : Int) == (s.size : Int)) = true := by simp; omega
        go_wp2_with fail
        go_ret3
        exact ⟨rfl, hnx⟩
    · have hx : x < 8 := hx
      have HC : Hid (Ln.octGo 2 8 x (s.data.toList.drop off) off = R) := HC
      by_cases hlt : off < s.size
      · have he : ((off : Int) == (s.size : Int)) = false := by simp; omega
        have hcb : s[off].toNat < 256 := s[off].toNat_lt
        have HC1 : Hid (Ln.octGo 2 8 x (s[off] :: s.data.toList.drop (off + 1)) off = R) := by have := HC.out; rwa [Ln.drop_cons s off hlt] at this
        by_cases h1 : s[off].toNat < 48
        · have hR : R = (0, off, false) := HC1.out.symm.trans (Ln.octGo_no (.inl h1))
          subst hR
          have h1' : (s[off].toNat : Int) < 48 := by omega
          go_wp2_with fail
          go_ret3
          exact ⟨rfl, hnx⟩
        have h1' : ¬ (s[off].toNat : Int) < 48 := by omega
        by_cases h2 : 55 < s[off].toNat
        · have hR : R = (0, off, false) := HC1.out.symm.trans (Ln.octGo_no (.inr h2))
          subst hR
          have h2' : (55 : Int) < (s[off].toNat : Int) := by omega
          go_wp2_with fail
          go_ret3
          exact ⟨rfl, hnx⟩
        have h2' : ¬ (55 : Int) < (s[off].toNat : Int) := by omega
        have eO : Ln.octB (((x : Int) * 8 + ((s[off].toNat : Int) - 48)) * 8) (((x : Int) * 8 + ((s[off].toNat : Int) - 48)) * 8 + 8 - 1) = Ln.octB (((x * 8 + (s[off].toNat - 48)) * 8 : Nat) : Int) (((x * 8 + (s[off].toNat - 48)) * 8 + 8 - 1 : Nat) : Int) := by
          congr 1 <;> omega
        cases hO : Ln.octB (((x * 8 + (s[off].toNat - 48)) * 8 : Nat) : Int) (((x * 8 + (s[off].toNat - 48)) * 8 + 8 - 1 : Nat) : Int)
        · have hR : R = (0, off, false) := HC1.out.symm.trans (Ln.octGo_out (by omega) hO)
          subst hR
          rw [hO] at eO
          clear hO HC HC1
          go_wp2_with fail
          refine (oct_any _ _ _ Tr (by omega)).mono ?_
          rintro e w1 ⟨rfl, hb⟩
          go_wp2_with fail
          go_ret3
          exact ⟨rfl, hnx.trans (hb.mono hsz)⟩
        · have HC2 : Hid (Ln.octGo 1 1 (x * 8 + (s[off].toNat - 48)) (s.data.toList.drop (off + 1)) (off + 1) = R) := by have := HC1.out; rwa [Ln.octGo_on (by omega) hO] at this
          rw [hO] at eO
          clear hO HC HC1
          go_wp2_with fail
          refine (oct_any _ _ _ Tr (by omega)).mono ?_
          rintro e w1 ⟨rfl, hb⟩
          go_wp2_with fail
          go_roundw
          case rel => exact ⟨2, x * 8 + (s[off].toNat - 48), off + 1, by omega, by omega, rfl, by go_num, by go_num, by show _ < 64; omega, HC2, Tr.below Tr.size hb, hnx.trans (hb.mono hsz)⟩
          case measure => simp [intOf]
      · have hR : R = (0, off, false) := by
          have := HC.out
          rw [List.drop_eq_nil_of_le (by rw [Ln.szL]; omega)] at this
          exact this.symm
        subst hR
        have he : ((off : Int) == (s.size : Int)) = true := by simp; omega
        go_wp2_with fail
        go_ret3
        exact ⟨rfl, hnx⟩
    · have hx : x < 64 := hx
      have HC : Hid (Ln.octGo 1 1 x (s.data.toList.drop off) off = R) := HC
      by_cases hlt : off < s.size
      · have he : ((off : Int) == (s.size : Int)) = false := by simp; omega
        have hcb : s[off].toNat < 256 := s[off].toNat_lt
        have HC1 : Hid (Ln.octGo 1 1 x (s[off] :: s.data.toList.drop (off + 1)) off = R) := by have := HC.out; rwa [Ln.drop_cons s off hlt] at this
        by_cases h1 : s[off].toNat < 48
        · have hR : R = (0, off, false) := HC1.out.symm.trans (Ln.octGo_no (.inl h1))
          subst hR
          have h1' : (s[off].toNat : Int) < 48 := by omega
          go_wp2_with fail
          go_ret3
          exact ⟨rfl, hnx⟩
        have h1' : ¬ (s[off].toNat : Int) < 48 := by omega
        by_cases h2 : 55 < s[off].toNat
        · have hR : R = (0, off, false) := HC1.out.symm.trans (Ln.octGo_no (.inr h2))
          subst hR
          have h2' : (55 : Int) < (s[off].toNat : Int) := by omega
          go_wp2_with fail
          go_ret3
          exact ⟨rfl, hnx⟩
        have h2' : ¬ (55 : Int) < (s[off].toNat : Int) := by omega
        have eO : Ln.octB (((x : Int) * 8 + ((s[off].toNat : Int) - 48))) (((x : Int) * 8 + ((s[off].toNat : Int) - 48))) = Ln.octB (((x * 8 + (s[off].toNat - 48)) * 1 : Nat) : Int) (((x * 8 + (s[off].toNat - 48)) * 1 + 1 - 1 : Nat) : Int) := by
          congr 1 <;> omega
        cases hO : Ln.octB (((x * 8 + (s[off].toNat - 48)) * 1 : Nat) : Int) (((x * 8 + (s[off].toNat - 48)) * 1 + 1 - 1 : Nat) : Int)
        · have hR : R = (0, off, false) := HC1.out.symm.trans (Ln.octGo_out (by omega) hO)
          subst hR
          rw [hO] at eO
          clear hO HC HC1
          go_wp2_with fail
          refine (oct_any _ _ _ Tr (by omega)).mono ?_
          rintro e w1 ⟨rfl, hb⟩
          go_wp2_with fail
          go_ret3
          exact ⟨rfl, hnx.trans (hb.mono hsz)⟩
        · have HC2 : Hid (Ln.octGo 0 0 (x * 8 + (s[off].toNat - 48)) (s.data.toList.drop (off + 1)) (off + 1) = R) := by have := HC1.out; rwa [Ln.octGo_on (by omega) hO] at this
          rw [hO] at eO
          clear hO HC HC1
          go_wp2_with fail
          refine (oct_any _ _ _ Tr (by omega)).mono ?_
          rintro e w1 ⟨rfl, hb⟩
          go_wp2_with fail
          go_roundw
          case rel => exact ⟨3, x * 8 + (s[off].toNat - 48), off + 1, by omega, by omega, rfl, by go_num, by go_num, by show _ < 512; omega, HC2, Tr.below Tr.size hb, hnx.trans (hb.mono hsz)⟩
          case measure => simp [intOf]
      · have hR : R = (0, off, false) := by
          have := HC.out
          rw [List.drop_eq_nil_of_le (by rw [Ln.szL]; omega)] at this
          exact this.symm
        subst hR
        have he : ((off : Int) == (s.size : Int)) = true := by simp; omega
        go_wp2_with fail
        go_ret3
        exact ⟨rfl, hnx⟩
    · have hx : x < 512 := hx
      have hR : R = (UInt8.ofNat x, off, true) := HC.out.symm
      subst hR
      go_wp2_with fail
      go_ret3
      refine ⟨?_, hnx⟩
      have e : ((UInt8.ofNat x).toNat : Int) = (x : Int) % 256 := by simp
      show Ending.returned (.tuple #[.int .u8 ((x : Int) % 256), .int .i64 (off : Int), .bool true]) = .returned (.tuple #[.int .u8 ((UInt8.ofNat x).toNat : Int), .int .i64 (off : Int), .bool true])
      rw [e]
end Go.Proofs.YtfbhofomcenabaaGreatDoor
namespace Go.Proofs.YtfbhofomcenabaaGreatDoor
open Go.RowKit

abbrev TOLD (R : UInt8 × Nat × Bool) : Ending := .returned (.tuple #[.int .u8 R.1.toNat, .int .i64 (R.2.1 : Nat), .bool R.2.2])

theorem octal_int (s : ByteArray) (at0 : Nat) (a : Int) (h : a = (at0 : Int)) (w : World) (T : Tabs w) (hs : s.size ≤ 16777216) (ha : at0 ≤ s.size) :
    Calls Tryz.prog 157 #[.string s, .int .i64 a] w fun e w' => e = TOLD (Ln.octP (s.data.toList.drop at0) at0) ∧ Below w.heap.size w w' := by
  subst h
  exact octal_any s at0 w T hs ha

set_option maxRecDepth 100000 in
set_option maxHeartbeats 1000000 in
theorem untell_any (s : ByteArray) (at0 : Nat) (w : World) (T : Tabs w) (hs : s.size ≤ 16777216) (ha : at0 ≤ s.size) :
    Calls Tryz.prog 138 #[.string s, .int .i64 at0] w fun e w' => e = TOLD (Ln.untP (s.data.toList.drop at0) at0) ∧ Below w.heap.size w w' := by
  by_cases h0 : at0 < s.size
  · have e0 : ((at0 : Int) == (s.size : Int)) = false := by simp; omega
    cases h1 : ((s[at0].toNat : Int) == 92)
    · have HU : Hid (Ln.untP (s.data.toList.drop at0) at0 = Ln.plainP s[at0] at0) := by show _ = _; rw [Ln.drop_cons s at0 h0]; exact Ln.unt_plain (Ln.byteN92 h1)
      have h1' : ((s[at0].toNat : Int) != 92) = true := by simpa using h1
      go_enter Tryz.func138, Tryz.ntmps138
      go_wp2_with fail
      refine (plain_any _ _ _ (by omega)).mono ?_
      rintro e w' ⟨rfl, rfl⟩
      go_wp2_with fail
      go_ret3
      rw [HU.out]
      exact ⟨rfl, Below.refl _ _⟩
    have h1' : ((s[at0].toNat : Int) != 92) = false := by simpa using h1
    by_cases h2 : at0 + 1 < s.size
    · have e1 : ((at0 : Int) + 1 == (s.size : Int)) = false := by simp; omega
      cases h3 : ((s[at0 + 1].toNat : Int) == 92)
      · have hd92 := Ln.byteN92 h3
        have HL : Hid (Ln.letF s[at0 + 1] 14 < 14 → Ln.untP (s.data.toList.drop at0) at0 = (UInt8.ofNat (Ln.letF s[at0 + 1] 14), at0 + 2, true)) := fun hl => by
          rw [Ln.drop_cons s at0 h0, Ln.drop_cons s (at0 + 1) h2, Ln.byte92 h1]; exact Ln.unt_let hd92 hl
        have HO : Hid (¬ Ln.letF s[at0 + 1] 14 < 14 → Ln.untP (s.data.toList.drop at0) at0 = Ln.octP (s.data.toList.drop (at0 + 1)) (at0 + 1)) := fun hl => by
          rw [Ln.drop_cons s at0 h0, Ln.drop_cons s (at0 + 1) h2, Ln.byte92 h1]; exact Ln.unt_oct hd92 hl
        have hdb : s[at0 + 1].toNat < 256 := s[at0 + 1].toNat_lt
        clear hd92
        go_enter Tryz.func138, Tryz.ntmps138
        go_wp2_with fail
        go_loopw [38] (fun i wr => ∃ k m : Nat, k ≤ 14 ∧ i = .int .i64 k ∧ Hid (Ln.letF s[at0 + 1] 14 = Ln.letF s[at0 + 1] (14 - k)) ∧ wr = w.drewN m) (fun i _ => 14 - (intOf i).toNat)
        case atStart => exact ⟨0, 0, by omega, rfl, rfl, rfl⟩
        case round =>
          obtain ⟨k, m, hk, rfl, HC, rfl⟩ := hrel
          by_cases hlt : k < 14
          · have hc := T.lets k hlt
            have hn256 := Ln.lets_small k
            have HH : Hid (Ln.lets.getD k 0 ≠ 0 ∧ Ln.lets.getD k 0 = s[at0 + 1].toNat → Ln.letF s[at0 + 1] 14 = k) := fun h => HC.out.trans (Ln.letF_hit hlt h)
            have HM : Hid (¬ (Ln.lets.getD k 0 ≠ 0 ∧ Ln.lets.getD k 0 = s[at0 + 1].toNat) → Ln.letF s[at0 + 1] 14 = Ln.letF s[at0 + 1] (14 - (k + 1))) := fun h => HC.out.trans (Ln.letF_miss hlt h)
            obtain ⟨n, hn⟩ : ∃ n, Ln.lets.getD k 0 = n := ⟨_, rfl⟩
            rw [hn] at hc hn256 HH HM
            clear hn HC
            by_cases z : n = 0
            · have HN : Hid (Ln.letF s[at0 + 1] 14 = Ln.letF s[at0 + 1] (14 - (k + 1))) := HM.out (fun h => h.1 z)
              subst z
              go_wp2_with fail
              go_quiet (fail)
              go_wp2_with fail
              go_roundw
              case rel => exact ⟨k + 1, m + nq, by omega, by go_num, HN, by first | rfl | simp⟩
              case measure => simp [intOf]; omega
            have zb : ((n : Int) != 0) = true := by simp; omega
            by_cases y : n = s[at0 + 1].toNat
            · have HN : Hid (Ln.letF s[at0 + 1] 14 = k) := HH.out ⟨z, y⟩
              have yb : ((n : Int) == (s[at0 + 1].toNat : Int)) = true := by simp; omega
              have HU : Hid (Ln.untP (s.data.toList.drop at0) at0 = (UInt8.ofNat k, at0 + 2, true)) := by have := HL.out (by rw [HN.out]; exact hlt); rwa [HN.out] at this
              have HY : Hid (n = s[at0 + 1].toNat) := y
              clear y HH HM
              go_wp2_with fail
              go_quiet (fail)
              go_wp2_with fail
              go_ret3
              rw [HU.out]
              have e : ((UInt8.ofNat k).toNat : Int) = (k : Int) := by simp; omega
              refine ⟨?_, below_drewN (Below.refl _ _) _⟩
              show Ending.returned (.tuple #[.int .u8 (k : Int), .int .i64 ((at0 : Int) + 1 + 1), .bool true]) = .returned (.tuple #[.int .u8 ((UInt8.ofNat k).toNat : Int), .int .i64 ((at0 + 2 : Nat) : Int), .bool true])
              rw [e, show ((at0 : Int) + 1 + 1) = ((at0 + 2 : Nat) : Int) from by omega]
            · have HN : Hid (Ln.letF s[at0 + 1] 14 = Ln.letF s[at0 + 1] (14 - (k + 1))) := HM.out (fun h => y h.2)
              have yb : ((n : Int) == (s[at0 + 1].toNat : Int)) = false := by simp; omega
              clear HH HM
              go_wp2_with fail
              go_quiet (fail)
              go_wp2_with fail
              go_roundw
              case rel => exact ⟨k + 1, m + nq, by omega, by go_num, HN, by first | rfl | simp⟩
              case measure => simp [intOf]; omega
          · have hk14 : k = 14 := by omega
            have HU : Hid (Ln.untP (s.data.toList.drop at0) at0 = Ln.octP (s.data.toList.drop (at0 + 1)) (at0 + 1)) := HO.out (by rw [HC.out, hk14]; show ¬ (14 : Nat) < 14; omega)
            clear hk14 HC HL HO
            go_wp2_with fail
            refine (octal_int s (at0 + 1) ((at0 : Int) + 1) (by omega) _ (T.below (B := w.heap.size) T.size (below_drewN (Below.refl _ _) m)) hs (by omega)).mono ?_
            rintro e w1 ⟨rfl, hb⟩
            go_wp2_with fail
            go_ret3
            rw [HU.out]
            exact ⟨rfl, (below_drewN (Below.refl _ _) m).trans hb⟩
      · have HU : Hid (Ln.untP (s.data.toList.drop at0) at0 = (92, at0 + 2, true)) := by
          show _ = _; rw [Ln.drop_cons s at0 h0, Ln.drop_cons s (at0 + 1) h2, Ln.byte92 h1, Ln.byte92 h3]; rfl
        go_enter Tryz.func138, Tryz.ntmps138
        go_wp2_with fail
        go_ret3
        rw [HU.out]
        exact ⟨rfl, Below.refl _ _⟩
    · have HU : Hid (Ln.untP (s.data.toList.drop at0) at0 = (0, at0 + 1, false)) := by
        show _ = _; rw [Ln.drop_cons s at0 h0, Ln.byte92 h1, List.drop_eq_nil_of_le (by rw [Ln.szL]; omega)]; rfl
      have e1 : ((at0 : Int) + 1 == (s.size : Int)) = true := by simp; omega
      go_enter Tryz.func138, Tryz.ntmps138
      go_wp2_with fail
      go_ret3
      rw [HU.out]
      exact ⟨rfl, Below.refl _ _⟩
  · have HU : Hid (Ln.untP (s.data.toList.drop at0) at0 = (0, at0, false)) := by
      show _ = _; rw [List.drop_eq_nil_of_le (by rw [Ln.szL]; omega)]; rfl
    have e0 : ((at0 : Int) == (s.size : Int)) = true := by simp; omega
    go_enter Tryz.func138, Tryz.ntmps138
    go_wp2_with fail
    go_ret3
    rw [HU.out]
    exact ⟨rfl, Below.refl _ _⟩
end Go.Proofs.YtfbhofomcenabaaGreatDoor
namespace Go.Proofs.YtfbhofomcenabaaGreatDoor
open Go.RowKit

set_option maxRecDepth 100000 in
set_option maxHeartbeats 600000 in
theorem lbegins_any (s : ByteArray) (k : Nat) (a b : UInt8) (w : World) (hs : s.size ≤ 16777216) (hk : k ≤ s.size) :
    Calls Tryz.prog 137 #[.string s, .int .i64 k, .int .u8 a.toNat, .int .u8 b.toNat] w fun e w' => e = .returned (.bool (Ln.begL (s.data.toList.drop k) a b)) ∧ w = w' := by
  by_cases h : k + 1 < s.size
  · have HB : Hid (Ln.begL (s.data.toList.drop k) a b = (((s[k].toNat : Int) == (a.toNat : Int)) && ((s[k + 1].toNat : Int) == (b.toNat : Int)))) := Ln.beg_at h a b
    cases h1 : ((s[k].toNat : Int) == (a.toNat : Int))
    · have HB' : Hid (Ln.begL (s.data.toList.drop k) a b = false) := by have := HB.out; rwa [h1] at this
      go_enter Tryz.func137, Tryz.ntmps137
      go_wp2
      go_ret
      exact ⟨ret_bool HB'.out.symm, rfl⟩
    · have HB' : Hid (Ln.begL (s.data.toList.drop k) a b = ((s[k + 1].toNat : Int) == (b.toNat : Int))) := by have := HB.out; rwa [h1, Bool.true_and] at this
      go_enter Tryz.func137, Tryz.ntmps137
      go_wp2
      go_ret
      exact ⟨ret_bool HB'.out.symm, rfl⟩
  · have HB' : Hid (Ln.begL (s.data.toList.drop k) a b = false) := Ln.beg_past h a b
    have h' : decide ((k : Int) + 1 < (s.size : Int)) = false := by simp; omega
    go_enter Tryz.func137, Tryz.ntmps137
    go_wp2
    go_ret
    exact ⟨ret_bool HB'.out.symm, rfl⟩

set_option maxRecDepth 100000 in
set_option maxHeartbeats 1000000 in
theorem unq_any (s : ByteArray) (w : World) (T : Tabs w) (hs : s.size ≤ 16777216) :
    Calls Tryz.prog 111 #[.string s] w fun e w' => e = .returned (.tuple #[.string (Ln.bs (Ln.unqP s).1), .int .i64 ((Ln.unqP s).2.1 : Nat), .int .i64 (Ln.unqP s).2.2.1, .int .i64 ((Ln.unqP s).2.2.2 : Nat)]) ∧ Below w.heap.size w w' := by
  obtain ⟨i0, hi, hz0, hz1, hz2⟩ := info_parts Tryz.infoByte
  by_cases h0 : s.toList = []
  · have HR : Hid (Ln.unqP s = ([], 0, 10, 0)) := by show _ = _; rw [Ln.toL] at h0; rw [Ln.unqP, if_neg (by rw [h0]; simp)]
    go_enter Tryz.func111, Tryz.ntmps111
    go_wp2_with fail
    rw [HR.out]
    exact bodyPost_ret (v := .tuple #[.string ⟨#[]⟩, .int .i64 0, .int .i64 10, .int .i64 0]) (by simp [results, Tryz.results111, go_sem]) rfl ⟨rfl, Below.refl _ _⟩
  have hpos : 0 < s.size := by
    rw [Ln.toL] at h0
    have := Ln.szL s
    cases hl : s.data.toList with
    | nil => exact absurd hl h0
    | cons a b => rw [hl] at this; simp at this; omega
  have b0 : s.toList.isEmpty = false := by simpa using h0
  clear h0
  cases h1 : ((s[0].toNat : Int) == 34)
  · have HR : Hid (Ln.unqP s = ([], 0, 10, 0)) := by
      have hh := @Ln.head_is s 0 34 hpos
      rw [List.drop_zero] at hh
      show _ = _
      rw [Ln.unqP, if_neg (fun q => by have := hh.1 q; rw [show ((34 : UInt8).toNat : Int) = 34 from rfl, h1] at this; cases this)]
    have h1' : ((s[0].toNat : Int) != 34) = true := by simpa using h1
    go_enter Tryz.func111, Tryz.ntmps111
    go_wp2_with fail
    rw [HR.out]
    exact bodyPost_ret (v := .tuple #[.string ⟨#[]⟩, .int .i64 0, .int .i64 10, .int .i64 0]) (by simp [results, Tryz.results111, go_sem]) rfl ⟨rfl, Below.refl _ _⟩
  have HR0 : Ln.unqP s = Ln.unqGo s.data.toList s.size 1 [] := by
    have hh := @Ln.head_is s 0 34 hpos
    rw [List.drop_zero] at hh
    rw [Ln.unqP, if_pos (hh.2 h1)]
  have h1' : ((s[0].toNat : Int) != 34) = false := by simpa using h1
  obtain ⟨R, hR⟩ : ∃ R, Ln.unqP s = R := ⟨_, rfl⟩
  rw [hR] at HR0 ⊢
  have HR : Hid (Ln.unqGo s.data.toList s.size 1 [] = R) := HR0.symm
  have T2 := T.size
  clear hR HR0
  go_enter Tryz.func111, Tryz.ntmps111
  go_wp2_with fail
  go_loopw [6, 7] (fun v i wr => ∃ (off f : Nat) (out : List UInt8), off ≤ s.size ∧ s.size < off + f ∧ i = .int .i64 off ∧ out.length ≤ off ∧ Hid (Ln.unqGo s.data.toList f off out = R) ∧ wr.ownsRow w.heap.size 5 1 v out.length (bcells out) ∧ Tabs wr ∧ Below w.heap.size w wr) (fun _ i _ => s.size + 1 - (intOf i).toNat)
  case atStart => exact ⟨1, s.size, [], by omega, by omega, rfl, by simp, HR, World.ownsRow_nil _ _ _ _, T, Below.refl _ _⟩
  case round =>
    obtain ⟨off, f0, out, hoff, hf, rfl, hol, HC, hown, Tr, hnx⟩ := hrel
    have hsz := hnx.size
    obtain ⟨f, rfl⟩ : ∃ f, f0 = f + 1 := ⟨f0 - 1, by omega⟩
    by_cases hq : (s.data.toList.drop off).head? = some 34
    · have hlt : off < s.size := by
        by_cases h : off < s.size
        · exact h
        · rw [Ln.head_none h] at hq; cases hq
      have hc : ((s[off].toNat : Int) == 34) = true := (Ln.head_is hlt).1 hq
      have hR : R = (out, off + 1, 0, 0) := HC.out.symm.trans (Ln.unq_end hq)
      subst hR
      clear hq HC HR
      have i1 : (off : Int) < (s.size : Int) := by omega
      rcases hown.2 with ⟨hv, hn⟩ | ⟨g, cap, cur, hv, _⟩
      · subst hv
        have ho : out = [] := List.eq_nil_of_length_eq_zero hn
        subst ho
        have hcv : (convert 63 9 (.slice none 0 0)).run Tryz.prog wr = .ok (.string ByteArray.empty) wr := run_convert_bytes_nil wr 63 5 Tryz.underlying63 Tryz.underlying5 0 0 9 Tryz.underlying9
        go_wp2_with fail
        exact bodyPost_ret (v := .tuple #[.string ByteArray.empty, .int .i64 ((off : Int) + 1), .int .i64 0, .int .i64 0]) (by simp [results, Tryz.results111, go_sem]) rfl ⟨rfl, hnx⟩
      · subst hv
        have hcv := conv_own hown
        go_wp2_with fail
        exact bodyPost_ret (v := .tuple #[.string ⟨out.toArray⟩, .int .i64 ((off : Int) + 1), .int .i64 0, .int .i64 0]) (by simp [results, Tryz.results111, go_sem]) rfl ⟨rfl, hnx⟩
    have hguard : off = s.size ∨ (∃ h : off < s.size, (off : Int) < (s.size : Int) ∧ ((s[off].toNat : Int) == 34) = false) := by
      by_cases h : off < s.size
      · right
        refine ⟨h, by omega, ?_⟩
        cases hc : ((s[off].toNat : Int) == 34)
        · rfl
        · exact absurd ((Ln.head_is (a := 34) h).2 hc) hq
      · left; omega
    cases hb : Ln.begL (s.data.toList.drop off) 92 34
    · obtain ⟨U, hU⟩ : ∃ U, Ln.untP (s.data.toList.drop off) off = U := ⟨_, rfl⟩
      have hok := @Ln.unt_ok (s.data.toList.drop off) off
      rw [hU, List.length_drop, Ln.szL] at hok
      have HU : Hid (Ln.untP (s.data.toList.drop off) off = U) := hU
      obtain ⟨ub, un, uk⟩ := U
      cases uk
      · have hR : R = ([], 0, 10, un) := by have := HC.out.symm.trans (Ln.unq_bad hq hb (by rw [hU])); rwa [hU] at this
        subst hR
        clear hq HC HR hU hok
        rcases hguard with rfl | ⟨hlt, g1, g2⟩
        all_goals
          go_wp2_with (first | (go_at_call 137; refine (lbegins_any s _ 92 34 _ hs (by omega)).mono ?_; rintro e w' ⟨rfl, rfl⟩) | (go_at_call 138; refine (untell_any s _ _ Tr hs (by omega)).mono ?_; rw [HU.out]; rintro e w1 ⟨rfl, hb1⟩))
          exact bodyPost_ret (v := .tuple #[.string ⟨#[]⟩, .int .i64 0, .int .i64 10, .int .i64 (un : Int)]) (by simp [results, Tryz.results111, go_sem]) rfl ⟨rfl, hnx.trans (hb1.mono hsz)⟩
      · have HC2 : Hid (Ln.unqGo s.data.toList f un (out ++ [ub]) = R) := by have := HC.out; rw [Ln.unq_on hq hb (by rw [hU]), hU] at this; exact this
        obtain ⟨k1, k2⟩ := hok rfl
        have k1 : off < un := k1
        have k2 : un ≤ off + (s.size - off) := k2
        clear hq HC HR hU hok
        rcases hguard with g1 | ⟨hlt, g1, g2⟩
        · omega
        all_goals
          go_wp2_with (first | (go_at_call 137; refine (lbegins_any s _ 92 34 _ hs (by omega)).mono ?_; rintro e w' ⟨rfl, rfl⟩) | (go_at_call 138; refine (untell_any s _ _ Tr hs (by omega)).mono ?_; rw [HU.out]; rintro e w1 ⟨rfl, hb1⟩; replace hown := own_below hown hb1; replace Tr := Tr.below Tr.size hb1; replace hnx := hnx.trans (hb1.mono hsz); replace hsz := hnx.size) | (at_builtin; refine wpList_append_own _ rfl (.tmp 50) (.tmp 52) 63 rfl w.heap.size 5 i0 (.int .u8 0) 1 1 Tryz.underlying63 hi hz0 hz1 hz2 rfl (by decide) _ _ _ rfl (hown.alloc _) ⟨_, 0, none⟩ 1 1 [.int .u8 (ub.toNat : Int)] rfl rfl (cell_one_new _ _ _) (one_ints (k := .u8) _) (by unfold maxLen; omega) (by omega) (by simp; omega) ?_))
          intro v3 w3 hown3 hgr3 _
          have hB3 : Below w.heap.size w w3 := (hnx.alloc hsz _).grown hgr3 (by simp; omega) (fun g hg => (hown.lt g hg).1)
          have ho3 : w3.ownsRow w.heap.size 5 1 v3 (out ++ [ub]).length (bcells (out ++ [ub])) := by rw [bcells_append, List.length_append]; exact hown3
          have T3 : Tabs w3 := T.below T2 hB3
          clear hgr3 hown3
          go_wp2
          go_roundw
          case rel => exact ⟨un, f, out ++ [ub], by omega, by omega, rfl, by simp; omega, HC2, ho3, T3, hB3⟩
          case measure => simp [intOf]; omega
    · have hl2 : off + 1 < s.size := by
        by_cases h : off + 1 < s.size
        · exact h
        · rw [Ln.beg_past h] at hb; cases hb
      have HC2 : Hid (Ln.unqGo s.data.toList f (off + 2) (out ++ [34]) = R) := by have := HC.out; rwa [Ln.unq_quote hq hb] at this
      clear hq HC HR
      rcases hguard with g1 | ⟨hlt, g1, g2⟩
      · omega
      go_wp2_with (first | (go_at_call 137; refine (lbegins_any s _ 92 34 _ hs (by omega)).mono ?_; rintro e w' ⟨rfl, rfl⟩) | (at_builtin; refine wpList_append_own _ rfl (.tmp 35) (.tmp 36) 63 rfl w.heap.size 5 i0 (.int .u8 0) 1 1 Tryz.underlying63 hi hz0 hz1 hz2 rfl (by decide) _ _ _ rfl (hown.alloc _) ⟨_, 0, none⟩ 1 1 [.int .u8 34] rfl rfl (cell_one_new _ _ _) (one_ints (k := .u8) _) (by unfold maxLen; omega) (by omega) (by simp; omega) ?_))
      intro v3 w3 hown3 hgr3 _
      have hB3 : Below w.heap.size w w3 := (hnx.alloc hsz _).grown hgr3 (by simp; omega) (fun g hg => (hown.lt g hg).1)
      have ho3 : w3.ownsRow w.heap.size 5 1 v3 (out ++ [34]).length (bcells (out ++ [34])) := by rw [bcells_append, List.length_append]; exact hown3
      have T3 : Tabs w3 := T.below T2 hB3
      clear hgr3 hown3
      go_wp2
      go_roundw
      case rel => exact ⟨off + 2, f, out ++ [34], by omega, by omega, by go_num, by simp; omega, HC2, ho3, T3, hB3⟩
      case measure => simp [intOf]; omega
end Go.Proofs.YtfbhofomcenabaaGreatDoor
namespace Go.Proofs.YtfbhofomcenabaaGreatDoor
open Go.RowKit

namespace Ft
theorem unqGo_le (L : List UInt8) : ∀ (f off : Nat) (out : List UInt8), off ≤ L.length → out.length ≤ off → (Ln.unqGo L f off out).2.1 ≤ L.length ∧ (Ln.unqGo L f off out).1.length ≤ L.length
  | 0, off, out, _, _ => by simp [Ln.unqGo]
  | f + 1, off, out, h, ho => by
    rw [Ln.unqGo]
    split
    · rename_i h1
      have : off < L.length := by
        rcases Nat.lt_or_ge off L.length with h2 | h2
        · exact h2
        · rw [List.drop_eq_nil_of_le h2] at h1; cases h1
      exact ⟨this, by show out.length ≤ _; omega⟩
    · split
      · rename_i h1
        have h2 : off + 2 ≤ L.length := by
          refine Nat.le_of_not_lt fun h2 => ?_
          rw [Ln.beg_short (by rw [List.length_drop]; omega)] at h1
          cases h1
        exact unqGo_le L f (off + 2) (out ++ [34]) h2 (by simp; omega)
      · split
        · simp
        · rename_i h3
          have h4 := Ln.unt_ok (l := L.drop off) (off := off) (by simpa using h3)
          rw [List.length_drop] at h4
          exact unqGo_le L f _ _ (by omega) (by simp; omega)
theorem unq_le (s : ByteArray) : (Ln.unqP s).2.1 ≤ s.size ∧ (Ln.unqP s).1.length ≤ s.size := by
  unfold Ln.unqP
  split
  · rename_i h
    have h1 : 1 ≤ s.data.toList.length := by
      cases hl : s.data.toList with
      | nil => rw [hl] at h; cases h
      | cons a b => simp
    have := unqGo_le s.data.toList s.size 1 [] h1 (by simp)
    rw [Ln.szL] at this
    exact this
  · simp
/-- What readQuotes answers: the path's text, the data, whether they are. -/
def QuoIs (r : List UInt8) (k : Nat) (p d : ByteArray) (b : Bool) : Prop :=
  match quoR r k with
  | none => b = false
  | some y => b = true ∧ p = Ln.bs y.1 ∧ d = Ln.bs y.2
theorem extract_drop (s : ByteArray) (n : Nat) : s.extract n s.size = Ln.bs (s.data.toList.drop n) := by
  have h := Pl.extract_bs s n s.size
  rw [List.take_of_length_le (by rw [List.length_drop, Pl.szL]; omega)] at h
  exact h
end Ft

set_option maxRecDepth 100000 in
set_option maxHeartbeats 1000000 in
theorem readQ_any (s : ByteArray) (k : Nat) (w : World) (T : TxT w) (hs : s.size ≤ 16777216) :
    Calls Tryz.prog 82 #[.string s, .int .u8 (k : Int)] w fun e w' => (∃ p d b, e = .returned (.tuple #[.string p, .string d, .bool b]) ∧ Ft.QuoIs s.data.toList k p d b) ∧ Below w.heap.size w w' := by
  have HU1 := unq_any s w T.tabs hs
  have hle := Ft.unq_le s
  have hbs : Ln.bs s.data.toList = s := Ln.bs_data s
  have HQ : ∀ p d b, Ft.QuoIs s.data.toList k p d b = (match Ft.quoR s.data.toList k with | none => b = false | some y => b = true ∧ p = Ln.bs y.1 ∧ d = Ln.bs y.2) := fun _ _ _ => rfl
  unfold Ft.quoR at HQ
  simp only [hbs, Ln.szL] at HQ
  have HT : Hid _ := T
  obtain ⟨U, hU⟩ : ∃ U, U = Ln.unqP s := ⟨_, rfl⟩
  rw [← hU] at HU1 hle HQ
  clear hU hbs T
  obtain ⟨u1, n, wy, pl⟩ := U
  simp only at HU1 hle HQ
  by_cases hw : wy = 0
  · subst hw
    simp only [if_pos] at HQ
    by_cases hk : k = 1
    · subst hk
      simp only [if_pos] at HQ
      have HQ' : Hid _ := HQ
      clear HQ
      go_enter Tryz.func82, Tryz.ntmps82
      go_wp2_with fail
      refine HU1.mono ?_
      rintro e w1 ⟨rfl, b1⟩
      go_wp2_with fail
      go_ret3
      refine ⟨⟨_, _, _, rfl, ?_⟩, b1⟩
      rw [HQ'.out]
      by_cases hn : n = s.size
      · rw [if_pos hn]
        subst hn
        exact ⟨by simp, rfl, rfl⟩
      · rw [if_neg hn]
        have : ¬ (n : Int) = (s.size : Int) := by omega
        simpa using this
    · simp only [if_neg hk] at HQ
      obtain ⟨t, ht⟩ : ∃ t, t = Ln.bs (s.data.toList.drop n) := ⟨_, rfl⟩
      have hx : s.extract n s.size = t := by rw [ht]; exact Ft.extract_drop s n
      have htd : t.data.toList = s.data.toList.drop n := by rw [ht]; rfl
      rw [← htd] at HQ
      have hts : t.size ≤ s.size := by rw [← Ln.szL, htd, List.length_drop, Ln.szL]; omega
      have hk' : ((k : Int) == 1) = false := by rw [beq_eq_false_iff_ne]; omega
      have HC := fcutp_any t ⟨#[32]⟩
      have e32 : (⟨#[32]⟩ : ByteArray).data.toList = [32] := rfl
      rw [e32] at HC
      obtain ⟨r, hr⟩ : ∃ r, r = Ln.bs (Lib.trimPrefix t.data.toList [32]) := ⟨_, rfl⟩
      rw [← hr] at HC HQ
      have hrl : (Lib.trimPrefix t.data.toList [32]).length = r.size := by rw [hr, Ln.bs_size]
      rw [hrl] at HQ
      have hrs : r.size ≤ t.size := by
        rw [← hrl, ← Ln.szL t]
        unfold Lib.trimPrefix
        split
        · rw [List.length_drop]; omega
        · omega
      obtain ⟨hp, hhp⟩ : ∃ hp, hp = Lib.hasPrefix t.data.toList [32] := ⟨_, rfl⟩
      rw [← hhp] at HC HQ
      obtain ⟨V, hV⟩ : ∃ V, V = Ln.unqP r := ⟨_, rfl⟩
      have HU2 : ∀ w1, TxT w1 → _ := fun w1 T1 => unq_any r w1 (TxT.tabs T1) (by omega)
      rw [← hV] at HU2 HQ
      clear hV hr hrl hhp e32 htd ht
      obtain ⟨v1, m, wv, pv⟩ := V
      simp only at HU2 HQ
      have HQ' : Hid _ := HQ
      have HU2' : Hid _ := HU2
      have HC' : Hid _ := HC
      clear HQ HU2 HC
      go_enter Tryz.func82, Tryz.ntmps82
      go_wp2_with fail
      refine HU1.mono ?_
      rintro e w1 ⟨rfl, b1⟩
      have T1 : Hid _ := HT.out.under b1
      have hn2 : n ≤ s.size := hle.1
      have HB1 : Hid _ := b1
      clear b1 hle hs hts hrs
      go_wp2_with fail
      refine (HC'.out w1).mono ?_
      rintro e w2 ⟨rfl, rfl⟩
      go_wp2_with fail
      refine (HU2'.out w1 T1.out).mono ?_
      rintro e w2 ⟨rfl, b2⟩
      have HB2 : Hid (Below w.heap.size w w2) := HB1.out.trans (b2.mono HB1.out.size)
      clear b2 hx
      cases hp
      case false =>
        go_wp2_with fail
        go_ret3
        refine ⟨⟨_, _, _, rfl, ?_⟩, HB2.out⟩
        rw [HQ'.out]
        simp
      case true =>
        cases hv : (wv == 0)
        · have h1 : ¬ wv = 0 := by simpa using hv
          have HE : Hid (¬ wv = 0) := h1
          clear h1
          go_wp2_with fail
          go_ret3
          refine ⟨⟨_, _, _, rfl, ?_⟩, HB2.out⟩
          rw [HQ'.out]
          simp [HE.out]
        · have h1 : wv = 0 := by simpa using hv
          cases hm : ((m : Int) == (r.size : Int))
          · have HE : Hid (wv = 0 ∧ ¬ m = r.size) := ⟨h1, by have : ¬ (m : Int) = (r.size : Int) := by simpa using hm
                                                             omega⟩
            clear h1
            go_wp2_with fail
            go_ret3
            refine ⟨⟨_, _, _, rfl, ?_⟩, HB2.out⟩
            rw [HQ'.out]
            simp [HE.out.1, HE.out.2]
          · have HE : Hid (wv = 0 ∧ m = r.size) := ⟨h1, by have : (m : Int) = (r.size : Int) := by simpa using hm
                                                           omega⟩
            clear h1
            go_wp2_with fail
            go_ret3
            refine ⟨⟨_, _, _, rfl, ?_⟩, HB2.out⟩
            rw [HQ'.out]
            simp [HE.out.1, HE.out.2]
  · have HQ' : Hid (∀ p d b, Ft.QuoIs s.data.toList k p d b = (b = false)) := fun p d b => by rw [HQ]; simp [hw]
    have hw' : (wy != 0) = true := by simpa using hw
    clear HQ
    go_enter Tryz.func82, Tryz.ntmps82
    go_wp2_with fail
    refine HU1.mono ?_
    rintro e w1 ⟨rfl, b1⟩
    go_wp2_with fail
    go_ret3
    exact ⟨⟨_, _, _, rfl, by rw [HQ'.out]⟩, b1⟩
end Go.Proofs.YtfbhofomcenabaaGreatDoor
namespace Go.Proofs.YtfbhofomcenabaaGreatDoor
open Go.RowKit

namespace Ft
/-- What readNames leaves: no path, or a path of the call's own. -/
def NamE (w : World) (R : Option (List ByteArray)) (e : Ending) (w' : World) : Prop :=
  (match R with
  | none => e = .returned (.tuple #[.slice none 0 0, .bool false])
  | some p => ∃ g c, e = .returned (.tuple #[.slice (some ⟨g, 0, none⟩) p.length c, .bool true]) ∧ w.heap.size ≤ g ∧ Strs w' (some ⟨g, 0, none⟩) c p ∧ p ≠ [] ∧ p.length ≤ 64 ∧ p.all Pl.nameB = true) ∧ Below w.heap.size w w'
end Ft

set_option maxRecDepth 100000 in
set_option maxHeartbeats 1000000 in
theorem readN_any (s : ByteArray) (w : World) (T : TxT w) (hs : s.size ≤ 16777216) :
    Calls Tryz.prog 83 #[.string s] w (Ft.NamE w (Ft.namR s.data.toList)) := by
  have HC := fcutp_any s ⟨#[47]⟩ w
  have e47 : (⟨#[47]⟩ : ByteArray).data.toList = [47] := rfl
  rw [e47] at HC
  obtain ⟨R, hR⟩ : ∃ R, R = Ft.namR s.data.toList := ⟨_, rfl⟩
  rw [← hR]
  unfold Ft.namR at hR
  obtain ⟨r, hr⟩ : ∃ r, r = Ln.bs (Lib.trimPrefix s.data.toList [47]) := ⟨_, rfl⟩
  rw [← hr] at HC hR
  have hrs : r.size ≤ s.size := by
    rw [hr, Ln.bs_size, ← Ln.szL s]
    unfold Lib.trimPrefix
    split
    · rw [List.length_drop]; omega
    · omega
  obtain ⟨hp, hhp⟩ : ∃ hp, hp = Lib.hasPrefix s.data.toList [47] := ⟨_, rfl⟩
  rw [← hhp] at HC hR
  have HS : Hid _ := fsplit_any r w T (by omega)
  have hne : Pl.partsB r ≠ [] := by unfold Pl.partsB; intro e; exact Pl.spl_ne _ (List.map_eq_nil_iff.1 e)
  clear hr hhp e47 T hs hrs
  obtain ⟨P, hP⟩ : ∃ P, P = Pl.partsB r := ⟨_, rfl⟩
  rw [← hP] at HS hR hne
  have HD : Hid _ := hR
  clear hP hR
  have HNe : Hid _ := hne
  clear hne
  go_enter Tryz.func83, Tryz.ntmps83
  go_wp2_with fail
  refine HC.mono ?_
  rintro e w1 ⟨rfl, rfl⟩
  clear HC
  go_wp2_with fail
  refine Calls.mono HS.out ?_
  rintro e w2 ⟨rfl, hS, hB⟩
  have HB : Hid _ := hB
  cases hp
  · have HR : Hid (R = none) := by show _ = _; rw [HD.out]; simp
    clear hB
    go_wp2_with fail
    go_ret2
    rw [HR.out]
    exact ⟨rfl, HB.out⟩
  by_cases hl : P.length ≤ 64
  · have i1 : ¬ (64 : Int) < (P.length : Int) := by omega
    have i1' : decide ((64 : Int) < (P.length : Int)) = false := decide_eq_false i1
    have HD2 : Hid (R = if P.all Pl.nameB = true then some P else none) := by show _ = _; rw [HD.out]; simp [hl]
    have hg : w.heap.size < w2.heap.size := by
      obtain ⟨b, off, e, hlt, _⟩ := hS.cells 0 (List.length_pos_iff.2 HNe.out)
      cases e
      exact hlt
    clear HD hB i1
    go_wp2_with fail
    go_loop [25] (fun iv => ∃ k : Nat, k ≤ P.length ∧ iv = .int .i64 (k : Int) ∧ Hid ((P.take k).all Pl.nameB = true)) (fun iv => P.length - (intOf iv).toNat)
    case atStart => exact ⟨0, Nat.zero_le _, rfl, by simp [Hid]⟩
    case round =>
      obtain ⟨k, hk, rfl, HA⟩ := hrel
      by_cases hlt : k < P.length
      · obtain ⟨b, off, e, hb, hc⟩ := hS.cells k hlt
        cases e
        rw [Nat.zero_add] at hc
        have j1 : (k : Int) < (P.length : Int) := by omega
        have hsz := hS.size k hlt
        have HN := name_any (P[k]) w2 (by unfold maxLen; omega)
        cases hq : Pl.nameB (P[k])
        · have HR : Hid (R = none) := by show _ = _; rw [HD2.out, Pl.all_names_stop hlt hq]; rfl
          rw [hq] at HN
          clear hq hS
          generalize P[k] = x at *
          go_wp2_with (go_at_call 104; refine HN.mono ?_; rintro e w' ⟨rfl, rfl⟩)
          go_ret2
          rw [HR.out]
          exact ⟨rfl, HB.out⟩
        · have HA2 : Hid ((P.take (k + 1)).all Pl.nameB = true) := Pl.all_names_step hlt HA.out hq
          rw [hq] at HN
          clear hq
          generalize P[k] = x at *
          go_wp2_with (go_at_call 104; refine HN.mono ?_; rintro e w' ⟨rfl, rfl⟩)
          go_round
          case rel => exact ⟨k + 1, by omega, by go_num, HA2⟩
          case measure => simp [intOf]; omega
      · have j1 : ¬ (k : Int) < (P.length : Int) := by omega
        have hall : P.all Pl.nameB = true := by have := HA.out; rwa [List.take_of_length_le (by omega)] at this
        have HR : Hid (R = some P ∧ P.all Pl.nameB = true) := ⟨by rw [HD2.out, hall]; rfl, hall⟩
        clear hall
        go_wp2_with fail
        go_ret2
        rw [HR.out.1]
        exact ⟨⟨_, _, rfl, Nat.le_refl _, hS, HNe.out, hl, HR.out.2⟩, HB.out⟩
  · have i1 : (64 : Int) < (P.length : Int) := by omega
    have i1' : decide ((64 : Int) < (P.length : Int)) = true := decide_eq_true i1
    have HR : Hid (R = none) := by show _ = _; rw [HD.out]; simp [hl]
    clear HD hB
    go_wp2_with fail
    go_ret2
    rw [HR.out]
    exact ⟨rfl, HB.out⟩
end Go.Proofs.YtfbhofomcenabaaGreatDoor
