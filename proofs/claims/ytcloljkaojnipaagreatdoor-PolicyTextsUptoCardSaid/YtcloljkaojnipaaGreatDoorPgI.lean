/- What lines.untellPlain and lines.untellOctal answer. What lines.untell answers: the told byte at a place. What lines.tell answers: a byte, told, behind what was there. What lines.begins and lines.Unquote answer. -/
import Derived.Test.YtcloljkaojnipaaGreatDoorPgC
import Derived.Deep.QuietTactic
import Derived.BigQuiet
import Derived.Maps.AppendAt
namespace Go.Proofs.YtcloljkaojnipaaGreatDoor
open Go.RowKit

set_option maxRecDepth 100000 in
set_option maxHeartbeats 400000 in
theorem plain_any (c : UInt8) (off : Nat) (w : World) (ho : off ≤ 1073741824) :
    Calls Tryz.prog 133 #[.int .u8 c.toNat, .int .i64 off] w fun e w' => e = .returned (.tuple #[.int .u8 (Ln.plainP c off).1.toNat, .int .i64 ((Ln.plainP c off).2.1 : Nat), .bool (Ln.plainP c off).2.2]) ∧ w = w' := by
  have hc : c.toNat < 256 := c.toNat_lt
  by_cases h : c.toNat < 32 ∨ 127 ≤ c.toNat
  · have HP : Hid (Ln.plainP c off = (0, off, false)) := by show _ = _; rw [Ln.plainP, if_pos h]
    rcases h with h | h
    · have h' : (c.toNat : Int) < 32 := by omega
      go_enter Tryz.func133, Tryz.ntmps133
      go_wp2
      go_ret3
      exact ⟨by rw [HP.out]; rfl, rfl⟩
    · have h' : ¬ (c.toNat : Int) < 32 := by omega
      have h2 : (127 : Int) ≤ (c.toNat : Int) := by omega
      go_enter Tryz.func133, Tryz.ntmps133
      go_wp2
      go_ret3
      exact ⟨by rw [HP.out]; rfl, rfl⟩
  · have HP : Hid (Ln.plainP c off = (c, off + 1, true)) := by show _ = _; rw [Ln.plainP, if_neg h]
    have h' : ¬ (c.toNat : Int) < 32 := by omega
    have h2 : ¬ (127 : Int) ≤ (c.toNat : Int) := by omega
    clear h
    go_enter Tryz.func133, Tryz.ntmps133
    go_wp2
    go_ret3
    exact ⟨by rw [HP.out]; rfl, rfl⟩

set_option maxRecDepth 100000 in
set_option maxHeartbeats 1000000 in
theorem octal_any (s : ByteArray) (at0 : Nat) (w : World) (T : Tabs w) (hs : s.size ≤ 16777216) (ha : at0 ≤ s.size) :
    Calls Tryz.prog 134 #[.string s, .int .i64 at0] w fun e w' => e = .returned (.tuple #[.int .u8 (Ln.octP (s.data.toList.drop at0) at0).1.toNat, .int .i64 ((Ln.octP (s.data.toList.drop at0) at0).2.1 : Nat), .bool (Ln.octP (s.data.toList.drop at0) at0).2.2]) ∧ Below w.heap.size w w' := by
  obtain ⟨R, hR⟩ : ∃ R, Ln.octP (s.data.toList.drop at0) at0 = R := ⟨_, rfl⟩
  have HR : Hid (Ln.octGo 3 64 0 (s.data.toList.drop at0) at0 = R) := hR
  rw [hR]
  clear hR
  go_enter Tryz.func134, Tryz.ntmps134
  go_wp2
  go_loopw [1, 7, 10] (fun a v i wr => ∃ k x off : Nat, k ≤ 3 ∧ off ≤ s.size ∧ i = .int .i64 k ∧ v = .int .i64 x ∧ a = .int .i64 off ∧ x < 8 ^ k ∧ Hid (Ln.octGo (3 - k) (8 ^ (2 - k)) x (s.data.toList.drop off) off = R) ∧ Tabs wr ∧ Below w.heap.size w wr) (fun _ _ i _ => 3 - (intOf i).toNat)
  case atStart => exact ⟨0, 0, at0, by omega, ha, rfl, rfl, rfl, by decide, HR, T, Below.refl _ _⟩
  case round =>
    obtain ⟨k, x, off, hk, hoff, rfl, rfl, rfl, hx, HC, Tr, hnx⟩ := hrel
    have hsz := hnx.size
    rcases (show k = 0 ∨ k = 1 ∨ k = 2 ∨ k = 3 by omega) with rfl | rfl | rfl | rfl
    · have hx : x < 1 := hx
      have HC : Hid (Ln.octGo 3 64 x (s.data.toList.drop off) off = R) := HC
      by_cases hlt : off < s.size
      · have he : ((off : Int) == (s.size : Int)) = false := by simp; omega
        have hcb : s[off].toNat < 256 := s[off].toNat_lt
        have HC1 : Hid (Ln.octGo 3 64 x (s[off] :: s.data.toList.drop (off + 1)) off = R) := by have := HC.out; rwa [Ln.drop_cons s off hlt] at this
        by_cases h1 : s[off].toNat < 48
        · have hR : R = (0, off, false) := HC1.out.symm.trans (Ln.octGo_no (.inl h1))
          subst hR
          have h1' : (s[off].toNat : Int) < 48 := by omega
          go_wp2_with fail
          go_ret3
          exact ⟨rfl, hnx⟩
        have h1' : ¬ (s[off].toNat : Int) < 48 := by omega
        by_cases h2 : 55 < s[off].toNat
        · have hR : R = (0, off, false) := HC1.out.symm.trans (Ln.octGo_no (.inr h2))
          subst hR
          have h2' : (55 : Int) < (s[off].toNat : Int) := by omega
          go_wp2_with fail
          go_ret3
          exact ⟨rfl, hnx⟩
        have h2' : ¬ (55 : Int) < (s[off].toNat : Int) := by omega
        have eO : Ln.octB (((x : Int) * 8 + ((s[off].toNat : Int) - 48)) * 64) (((x : Int) * 8 + ((s[off].toNat : Int) - 48)) * 64 + 64 - 1) = Ln.octB (((x * 8 + (s[off].toNat - 48)) * 64 : Nat) : Int) (((x * 8 + (s[off].toNat - 48)) * 64 + 64 - 1 : Nat) : Int) := by
          congr 1 <;> omega
        cases hO : Ln.octB (((x * 8 + (s[off].toNat - 48)) * 64 : Nat) : Int) (((x * 8 + (s[off].toNat - 48)) * 64 + 64 - 1 : Nat) : Int)
        · have hR : R = (0, off, false) := HC1.out.symm.trans (Ln.octGo_out (by omega) hO)
          subst hR
          rw [hO] at eO
          clear hO HC HC1
          go_wp2_with fail
          refine (oct_any _ _ _ Tr (by omega)).mono ?_
          rintro e w1 ⟨rfl, hb⟩
          go_wp2_with fail
          go_ret3
          exact ⟨rfl, hnx.trans (hb.mono hsz)⟩
        · have HC2 : Hid (Ln.octGo 2 8 (x * 8 + (s[off].toNat - 48)) (s.data.toList.drop (off + 1)) (off + 1) = R) := by have := HC1.out; rwa [Ln.octGo_on (by omega) hO] at this
          rw [hO] at eO
          clear hO HC HC1
          go_wp2_with fail
          refine (oct_any _ _ _ Tr (by omega)).mono ?_
          rintro e w1 ⟨rfl, hb⟩
          go_wp2_with fail
          go_roundw
          case rel => exact ⟨1, x * 8 + (s[off].toNat - 48), off + 1, by omega, by omega, rfl, by go_num, by go_num, by show _ < 8; omega, HC2, Tr.below Tr.size hb, hnx.trans (hb.mono hsz)⟩
          case measure => simp [intOf]
      · have hR : R = (0, off, false) := by
          have := HC.out
          rw [List.drop_eq_nil_of_le (by rw [Ln.szL]; omega)] at this
          exact this.symm
        subst hR
        have he : ((off : Int) == (s.size : Int)) = true := by simp; omega
        go_wp2_with fail
        go_ret3
        exact ⟨rfl, hnx⟩
    · have hx : x < 8 := hx
      have HC : Hid (Ln.octGo 2 8 x (s.data.toList.drop off) off = R) := HC
      by_cases hlt : off < s.size
      · have he : ((off : Int) == (s.size : Int)) = false := by simp; omega
        have hcb : s[off].toNat < 256 := s[off].toNat_lt
        have HC1 : Hid (Ln.octGo 2 8 x (s[off] :: s.data.toList.drop (off + 1)) off = R) := by have := HC.out; rwa [Ln.drop_cons s off hlt] at this
        by_cases h1 : s[off].toNat < 48
        · have hR : R = (0, off, false) := HC1.out.symm.trans (Ln.octGo_no (.inl h1))
          subst hR
          have h1' : (s[off].toNat : Int) < 48 := by omega
          go_wp2_with fail
          go_ret3
          exact ⟨rfl, hnx⟩
        have h1' : ¬ (s[off].toNat : Int) < 48 := by omega
        by_cases h2 : 55 < s[off].toNat
        · have hR : R = (0, off, false) := HC1.out.symm.trans (Ln.octGo_no (.inr h2))
          subst hR
          have h2' : (55 : Int) < (s[off].toNat : Int) := by omega
          go_wp2_with fail
          go_ret3
          exact ⟨rfl, hnx⟩
        have h2' : ¬ (55 : Int) < (s[off].toNat : Int) := by omega
        have eO : Ln.octB (((x : Int) * 8 + ((s[off].toNat : Int) - 48)) * 8) (((x : Int) * 8 + ((s[off].toNat : Int) - 48)) * 8 + 8 - 1) = Ln.octB (((x * 8 + (s[off].toNat - 48)) * 8 : Nat) : Int) (((x * 8 + (s[off].toNat - 48)) * 8 + 8 - 1 : Nat) : Int) := by
          congr 1 <;> omega
        cases hO : Ln.octB (((x * 8 + (s[off].toNat - 48)) * 8 : Nat) : Int) (((x * 8 + (s[off].toNat - 48)) * 8 + 8 - 1 : Nat) : Int)
        · have hR : R = (0, off, false) := HC1.out.symm.trans (Ln.octGo_out (by omega) hO)
          subst hR
          rw [hO] at eO
          clear hO HC HC1
          go_wp2_with fail
          refine (oct_any _ _ _ Tr (by omega)).mono ?_
          rintro e w1 ⟨rfl, hb⟩
          go_wp2_with fail
          go_ret3
          exact ⟨rfl, hnx.trans (hb.mono hsz)⟩
        · have HC2 : Hid (Ln.octGo 1 1 (x * 8 + (s[off].toNat - 48)) (s.data.toList.drop (off + 1)) (off + 1) = R) := by have := HC1.out; rwa [Ln.octGo_on (by omega) hO] at this
          rw [hO] at eO
          clear hO HC HC1
          go_wp2_with fail
          refine (oct_any _ _ _ Tr (by omega)).mono ?_
          rintro e w1 ⟨rfl, hb⟩
          go_wp2_with fail
          go_roundw
          case rel => exact ⟨2, x * 8 + (s[off].toNat - 48), off + 1, by omega, by omega, rfl, by go_num, by go_num, by show _ < 64; omega, HC2, Tr.below Tr.size hb, hnx.trans (hb.mono hsz)⟩
          case measure => simp [intOf]
      · have hR : R = (0, off, false) := by
          have := HC.out
          rw [List.drop_eq_nil_of_le (by rw [Ln.szL]; omega)] at this
          exact this.symm
        subst hR
        have he : ((off : Int) == (s.size : Int)) = true := by simp; omega
        go_wp2_with fail
        go_ret3
        exact ⟨rfl, hnx⟩
    · have hx : x < 64 := hx
      have HC : Hid (Ln.octGo 1 1 x (s.data.toList.drop off) off = R) := HC
      by_cases hlt : off < s.size
      · have he : ((off : Int) == (s.size : Int)) = false := by simp; omega
        have hcb : s[off].toNat < 256 := s[off].toNat_lt
        have HC1 : Hid (Ln.octGo 1 1 x (s[off] :: s.data.toList.drop (off + 1)) off = R) := by have := HC.out; rwa [Ln.drop_cons s off hlt] at this
        by_cases h1 : s[off].toNat < 48
        · have hR : R = (0, off, false) := HC1.out.symm.trans (Ln.octGo_no (.inl h1))
          subst hR
          have h1' : (s[off].toNat : Int) < 48 := by omega
          go_wp2_with fail
          go_ret3
          exact ⟨rfl, hnx⟩
        have h1' : ¬ (s[off].toNat : Int) < 48 := by omega
        by_cases h2 : 55 < s[off].toNat
        · have hR : R = (0, off, false) := HC1.out.symm.trans (Ln.octGo_no (.inr h2))
          subst hR
          have h2' : (55 : Int) < (s[off].toNat : Int) := by omega
          go_wp2_with fail
          go_ret3
          exact ⟨rfl, hnx⟩
        have h2' : ¬ (55 : Int) < (s[off].toNat : Int) := by omega
        have eO : Ln.octB (((x : Int) * 8 + ((s[off].toNat : Int) - 48))) (((x : Int) * 8 + ((s[off].toNat : Int) - 48))) = Ln.octB (((x * 8 + (s[off].toNat - 48)) * 1 : Nat) : Int) (((x * 8 + (s[off].toNat - 48)) * 1 + 1 - 1 : Nat) : Int) := by
          congr 1 <;> omega
        cases hO : Ln.octB (((x * 8 + (s[off].toNat - 48)) * 1 : Nat) : Int) (((x * 8 + (s[off].toNat - 48)) * 1 + 1 - 1 : Nat) : Int)
        · have hR : R = (0, off, false) := HC1.out.symm.trans (Ln.octGo_out (by omega) hO)
          subst hR
          rw [hO] at eO
          clear hO HC HC1
          go_wp2_with fail
          refine (oct_any _ _ _ Tr (by omega)).mono ?_
          rintro e w1 ⟨rfl, hb⟩
          go_wp2_with fail
          go_ret3
          exact ⟨rfl, hnx.trans (hb.mono hsz)⟩
        · have HC2 : Hid (Ln.octGo 0 0 (x * 8 + (s[off].toNat - 48)) (s.data.toList.drop (off + 1)) (off + 1) = R) := by have := HC1.out; rwa [Ln.octGo_on (by omega) hO] at this
          rw [hO] at eO
          clear hO HC HC1
          go_wp2_with fail
          refine (oct_any _ _ _ Tr (by omega)).mono ?_
          rintro e w1 ⟨rfl, hb⟩
          go_wp2_with fail
          go_roundw
          case rel => exact ⟨3, x * 8 + (s[off].toNat - 48), off + 1, by omega, by omega, rfl, by go_num, by go_num, by show _ < 512; omega, HC2, Tr.below Tr.size hb, hnx.trans (hb.mono hsz)⟩
          case measure => simp [intOf]
      · have hR : R = (0, off, false) := by
          have := HC.out
          rw [List.drop_eq_nil_of_le (by rw [Ln.szL]; omega)] at this
          exact this.symm
        subst hR
        have he : ((off : Int) == (s.size : Int)) = true := by simp; omega
        go_wp2_with fail
        go_ret3
        exact ⟨rfl, hnx⟩
    · have hx : x < 512 := hx
      have hR : R = (UInt8.ofNat x, off, true) := HC.out.symm
      subst hR
      go_wp2_with fail
      go_ret3
      refine ⟨?_, hnx⟩
      have e : ((UInt8.ofNat x).toNat : Int) = (x : Int) % 256 := by simp
      show Ending.returned (.tuple #[.int .u8 ((x : Int) % 256), .int .i64 (off : Int), .bool true]) = .returned (.tuple #[.int .u8 ((UInt8.ofNat x).toNat : Int), .int .i64 (off : Int), .bool true])
      rw [e]
end Go.Proofs.YtcloljkaojnipaaGreatDoor
namespace Go.Proofs.YtcloljkaojnipaaGreatDoor
open Go.RowKit

abbrev TOLD (R : UInt8 × Nat × Bool) : Ending := .returned (.tuple #[.int .u8 R.1.toNat, .int .i64 (R.2.1 : Nat), .bool R.2.2])

theorem octal_int (s : ByteArray) (at0 : Nat) (a : Int) (h : a = (at0 : Int)) (w : World) (T : Tabs w) (hs : s.size ≤ 16777216) (ha : at0 ≤ s.size) :
    Calls Tryz.prog 134 #[.string s, .int .i64 a] w fun e w' => e = TOLD (Ln.octP (s.data.toList.drop at0) at0) ∧ Below w.heap.size w w' := by
  subst h
  exact octal_any s at0 w T hs ha

set_option maxRecDepth 100000 in
set_option maxHeartbeats 1000000 in
theorem untell_any (s : ByteArray) (at0 : Nat) (w : World) (T : Tabs w) (hs : s.size ≤ 16777216) (ha : at0 ≤ s.size) :
    Calls Tryz.prog 114 #[.string s, .int .i64 at0] w fun e w' => e = TOLD (Ln.untP (s.data.toList.drop at0) at0) ∧ Below w.heap.size w w' := by
  by_cases h0 : at0 < s.size
  · have e0 : ((at0 : Int) == (s.size : Int)) = false := by simp; omega
    cases h1 : ((s[at0].toNat : Int) == 92)
    · have HU : Hid (Ln.untP (s.data.toList.drop at0) at0 = Ln.plainP s[at0] at0) := by show _ = _; rw [Ln.drop_cons s at0 h0]; exact Ln.unt_plain (Ln.byteN92 h1)
      have h1' : ((s[at0].toNat : Int) != 92) = true := by simpa using h1
      go_enter Tryz.func114, Tryz.ntmps114
      go_wp2_with fail
      refine (plain_any _ _ _ (by omega)).mono ?_
      rintro e w' ⟨rfl, rfl⟩
      go_wp2_with fail
      go_ret3
      rw [HU.out]
      exact ⟨rfl, Below.refl _ _⟩
    have h1' : ((s[at0].toNat : Int) != 92) = false := by simpa using h1
    by_cases h2 : at0 + 1 < s.size
    · have e1 : ((at0 : Int) + 1 == (s.size : Int)) = false := by simp; omega
      cases h3 : ((s[at0 + 1].toNat : Int) == 92)
      · have hd92 := Ln.byteN92 h3
        have HL : Hid (Ln.letF s[at0 + 1] 14 < 14 → Ln.untP (s.data.toList.drop at0) at0 = (UInt8.ofNat (Ln.letF s[at0 + 1] 14), at0 + 2, true)) := fun hl => by
          rw [Ln.drop_cons s at0 h0, Ln.drop_cons s (at0 + 1) h2, Ln.byte92 h1]; exact Ln.unt_let hd92 hl
        have HO : Hid (¬ Ln.letF s[at0 + 1] 14 < 14 → Ln.untP (s.data.toList.drop at0) at0 = Ln.octP (s.data.toList.drop (at0 + 1)) (at0 + 1)) := fun hl => by
          rw [Ln.drop_cons s at0 h0, Ln.drop_cons s (at0 + 1) h2, Ln.byte92 h1]; exact Ln.unt_oct hd92 hl
        have hdb : s[at0 + 1].toNat < 256 := s[at0 + 1].toNat_lt
        clear hd92
        go_enter Tryz.func114, Tryz.ntmps114
        go_wp2_with fail
        go_loopw [38] (fun i wr => ∃ k m : Nat, k ≤ 14 ∧ i = .int .i64 k ∧ Hid (Ln.letF s[at0 + 1] 14 = Ln.letF s[at0 + 1] (14 - k)) ∧ wr = w.drewN m) (fun i _ => 14 - (intOf i).toNat)
        case atStart => exact ⟨0, 0, by omega, rfl, rfl, rfl⟩
        case round =>
          obtain ⟨k, m, hk, rfl, HC, rfl⟩ := hrel
          by_cases hlt : k < 14
          · have hc := T.lets k hlt
            have hn256 := Ln.lets_small k
            have HH : Hid (Ln.lets.getD k 0 ≠ 0 ∧ Ln.lets.getD k 0 = s[at0 + 1].toNat → Ln.letF s[at0 + 1] 14 = k) := fun h => HC.out.trans (Ln.letF_hit hlt h)
            have HM : Hid (¬ (Ln.lets.getD k 0 ≠ 0 ∧ Ln.lets.getD k 0 = s[at0 + 1].toNat) → Ln.letF s[at0 + 1] 14 = Ln.letF s[at0 + 1] (14 - (k + 1))) := fun h => HC.out.trans (Ln.letF_miss hlt h)
            obtain ⟨n, hn⟩ : ∃ n, Ln.lets.getD k 0 = n := ⟨_, rfl⟩
            rw [hn] at hc hn256 HH HM
            clear hn HC
            by_cases z : n = 0
            · have HN : Hid (Ln.letF s[at0 + 1] 14 = Ln.letF s[at0 + 1] (14 - (k + 1))) := HM.out (fun h => h.1 z)
              subst z
              go_wp2_with fail
              go_quiet (fail)
              go_wp2_with fail
              go_roundw
              case rel => exact ⟨k + 1, m + nq, by omega, by go_num, HN, by first | rfl | simp⟩
              case measure => simp [intOf]; omega
            have zb : ((n : Int) != 0) = true := by simp; omega
            by_cases y : n = s[at0 + 1].toNat
            · have HN : Hid (Ln.letF s[at0 + 1] 14 = k) := HH.out ⟨z, y⟩
              have yb : ((n : Int) == (s[at0 + 1].toNat : Int)) = true := by simp; omega
              have HU : Hid (Ln.untP (s.data.toList.drop at0) at0 = (UInt8.ofNat k, at0 + 2, true)) := by have := HL.out (by rw [HN.out]; exact hlt); rwa [HN.out] at this
              have HY : Hid (n = s[at0 + 1].toNat) := y
              clear y HH HM
              go_wp2_with fail
              go_quiet (fail)
              go_wp2_with fail
              go_ret3
              rw [HU.out]
              have e : ((UInt8.ofNat k).toNat : Int) = (k : Int) := by simp; omega
              refine ⟨?_, below_drewN (Below.refl _ _) _⟩
              show Ending.returned (.tuple #[.int .u8 (k : Int), .int .i64 ((at0 : Int) + 1 + 1), .bool true]) = .returned (.tuple #[.int .u8 ((UInt8.ofNat k).toNat : Int), .int .i64 ((at0 + 2 : Nat) : Int), .bool true])
              rw [e, show ((at0 : Int) + 1 + 1) = ((at0 + 2 : Nat) : Int) from by omega]
            · have HN : Hid (Ln.letF s[at0 + 1] 14 = Ln.letF s[at0 + 1] (14 - (k + 1))) := HM.out (fun h => y h.2)
              have yb : ((n : Int) == (s[at0 + 1].toNat : Int)) = false := by simp; omega
              clear HH HM
              go_wp2_with fail
              go_quiet (fail)
              go_wp2_with fail
              go_roundw
              case rel => exact ⟨k + 1, m + nq, by omega, by go_num, HN, by first | rfl | simp⟩
              case measure => simp [intOf]; omega
          · have hk14 : k = 14 := by omega
            have HU : Hid (Ln.untP (s.data.toList.drop at0) at0 = Ln.octP (s.data.toList.drop (at0 + 1)) (at0 + 1)) := HO.out (by rw [HC.out, hk14]; show ¬ (14 : Nat) < 14; omega)
            clear hk14 HC HL HO
            go_wp2_with fail
            refine (octal_int s (at0 + 1) ((at0 : Int) + 1) (by omega) _ (T.below (B := w.heap.size) T.size (below_drewN (Below.refl _ _) m)) hs (by omega)).mono ?_
            rintro e w1 ⟨rfl, hb⟩
            go_wp2_with fail
            go_ret3
            rw [HU.out]
            exact ⟨rfl, (below_drewN (Below.refl _ _) m).trans hb⟩
      · have HU : Hid (Ln.untP (s.data.toList.drop at0) at0 = (92, at0 + 2, true)) := by
          show _ = _; rw [Ln.drop_cons s at0 h0, Ln.drop_cons s (at0 + 1) h2, Ln.byte92 h1, Ln.byte92 h3]; rfl
        go_enter Tryz.func114, Tryz.ntmps114
        go_wp2_with fail
        go_ret3
        rw [HU.out]
        exact ⟨rfl, Below.refl _ _⟩
    · have HU : Hid (Ln.untP (s.data.toList.drop at0) at0 = (0, at0 + 1, false)) := by
        show _ = _; rw [Ln.drop_cons s at0 h0, Ln.byte92 h1, List.drop_eq_nil_of_le (by rw [Ln.szL]; omega)]; rfl
      have e1 : ((at0 : Int) + 1 == (s.size : Int)) = true := by simp; omega
      go_enter Tryz.func114, Tryz.ntmps114
      go_wp2_with fail
      go_ret3
      rw [HU.out]
      exact ⟨rfl, Below.refl _ _⟩
  · have HU : Hid (Ln.untP (s.data.toList.drop at0) at0 = (0, at0, false)) := by
      show _ = _; rw [List.drop_eq_nil_of_le (by rw [Ln.szL]; omega)]; rfl
    have e0 : ((at0 : Int) == (s.size : Int)) = true := by simp; omega
    go_enter Tryz.func114, Tryz.ntmps114
    go_wp2_with fail
    go_ret3
    rw [HU.out]
    exact ⟨rfl, Below.refl _ _⟩
end Go.Proofs.YtcloljkaojnipaaGreatDoor
namespace Go.Proofs.YtcloljkaojnipaaGreatDoor
open Go.RowKit

theorem grown_below {w w1 w' : World} {row : Option Nat} (hb : Below w.heap.size w w1) (h : w1.grownBy w' row) : w.grownBy w' row :=
  ⟨h.os.trans hb.os, h.tape.trans hb.tape, h.output.trans hb.output, Nat.le_trans hb.size h.size, fun k hk hne => (h.block k (Nat.lt_of_lt_of_le hk hb.size) hne).trans (hb.block k hk)⟩
theorem at_ge {w : World} {v v' : Value} {m : Nat} (h : v'.ownBlock = v.ownBlock ∨ v'.ownBlock = some m) (hm : w.heap.size ≤ m) : v'.ownBlock = v.ownBlock ∨ ∃ g, v'.ownBlock = some g ∧ w.heap.size ≤ g := by
  rcases h with h | h
  · exact .inl h
  · exact .inr ⟨_, h, hm⟩
theorem alloc_below (w : World) (o : Obj) : Below w.heap.size w (w.alloc o) := (Below.refl _ _).alloc (Nat.le_refl _) o

theorem cell_four_new (w : World) (a b c d : Value) (t : TypeId) : ∀ j u, [a, b, c, d][j]? = some u → (w.alloc (.cells #[a, b, c, d] t)).cell? ((⟨w.heap.size, 0, none⟩ : Addr).add j) = some u := by
  intro j u hj
  match j, hj with
  | 0, hj => simp at hj; subst hj; simp [Addr.add]
  | 1, hj => simp at hj; subst hj; simp [Addr.add]
  | 2, hj => simp at hj; subst hj; simp [Addr.add]
  | 3, hj => simp at hj; subst hj; simp [Addr.add]
  | j + 4, hj => simp at hj

theorem one_ints {k : IntKind} (l : List Value) (h : ∀ u ∈ l, ∃ n, u = .int k n := by simp) : ∀ u ∈ l, u.oneCell' = true := fun u hu => by
  obtain ⟨n, rfl⟩ := h u hu
  rfl
theorem bcells_oct (b : UInt8) : bcells [92, 48 + b / 64, 48 + b / 8 % 8, 48 + b % 8] = [.int .u8 92, .int .u8 (48 + (b.toNat : Int) / 64), .int .u8 (48 + (b.toNat : Int) / 8 % 8), .int .u8 (48 + (b.toNat : Int) % 8)] := by
  have hb : b.toNat < 256 := b.toNat_lt
  have e1 : (48 + b / 64).toNat = 48 + b.toNat / 64 := by simp [UInt8.toNat_add, UInt8.toNat_div]; omega
  have e2 : (48 + b / 8 % 8).toNat = 48 + b.toNat / 8 % 8 := by simp [UInt8.toNat_add, UInt8.toNat_div, UInt8.toNat_mod]; omega
  have e3 : (48 + b % 8).toNat = 48 + b.toNat % 8 := by simp [UInt8.toNat_add, UInt8.toNat_mod]; omega
  simp only [bcells, List.map_cons, List.map_nil, e1, e2, e3]
  simp
theorem bcells_let {n : Nat} (h : n < 256) : bcells [92, UInt8.ofNat n] = [.int .u8 92, .int .u8 (n : Int)] := by
  simp only [bcells, List.map_cons, List.map_nil, UInt8.toNat_ofNat', Nat.mod_eq_of_lt (show n < 2 ^ 8 by omega)]
  rfl

set_option maxRecDepth 100000 in
set_option maxHeartbeats 2000000 in
theorem tell_any (v : Value) (l : List UInt8) (b : UInt8) (base : Nat) (w : World) (T : Tabs w) (hbase : base ≤ w.heap.size) (hown : w.ownsRow base 5 1 v l.length (bcells l)) (hl : l.length ≤ 1073741824) :
    Calls Tryz.prog 99 #[v, .int .u8 b.toNat] w fun e w' => ∃ v', e = .returned v' ∧ w'.ownsRow base 5 1 v' (l ++ Ln.toldL b).length (bcells (l ++ Ln.toldL b)) ∧ w.grownBy w' v.ownBlock ∧
      (v'.ownBlock = v.ownBlock ∨ ∃ g, v'.ownBlock = some g ∧ w.heap.size ≤ g) := by
  obtain ⟨i0, hi, hz0, hz1, hz2⟩ := info_parts Tryz.infoByte
  have hbn : b.toNat < 256 := b.toNat_lt
  cases h1 : ((b.toNat : Int) == 92)
  · by_cases h2 : b.toNat < 14
    · have hc : w.cell? ⟨1, b.toNat, none⟩ = some (.int .u8 (Ln.lets.getD b.toNat 0 : Nat)) := T.lets _ h2
      obtain ⟨n, hn⟩ : ∃ n, Ln.lets.getD b.toNat 0 = n := ⟨_, rfl⟩
      rw [hn] at hc
      have HN : Hid (Ln.lets.getD b.toNat 0 = n) := hn
      clear hn
      by_cases h3 : n = 0
      · subst h3
        have h3' : (((0 : Nat) : Int) != 0) = false := rfl
        have hL : Ln.letB b = 0 := HN.out
        cases h4 : Ln.octB b.toNat b.toNat
        · have HT : Hid (Ln.toldL b = [b]) := Ln.told_plain h1 hL h4
          clear hL
          go_enter Tryz.func99, Tryz.ntmps99
          go_wp2_with fail
          refine (oct_any _ _ _ T (by omega)).mono ?_
          rintro e w1 ⟨rfl, hbo⟩
          have hown1 := own_below hown hbo
          have hbs := hbo.size
          go_wp2_with (at_builtin; refine wpList_append_own_at _ rfl (.tmp 46) (.tmp 48) 74 rfl base 5 i0 (.int .u8 0) 1 1 Tryz.underlying74 hi hz0 hz1 hz2 rfl (by decide) _ _ _ rfl (hown1.alloc _) ⟨w1.heap.size, 0, none⟩ 1 1 [.int .u8 (b.toNat : Int)] rfl rfl (cell_one_new _ _ _) ?c2 ?c3 ?c4 ?c5 ?_)
          case c2 => exact one_ints (k := .u8) _
          case c3 => unfold maxLen; omega
          case c4 => omega
          case c5 => simp; omega
          intro v' w2 hown' hgrow _ hat
          have R1 : w.grownBy w2 v.ownBlock := grown_below (hbo.trans ((Below.refl _ _).alloc hbs _)) hgrow
          have R2 := at_ge (w := w) hat (by omega)
          have R3 : w2.ownsRow base 5 1 v' (l ++ Ln.toldL b).length (bcells (l ++ Ln.toldL b)) := by
            rw [HT.out, bcells_append, List.length_append]; show w2.ownsRow base 5 1 v' (l.length + 1) (bcells l ++ [.int .u8 (b.toNat : Int)]); exact hown'
          clear hgrow hat hown'
          go_wp2
          go_ret
          exact ⟨v', rfl, R3, R1, R2⟩
        · have HT : Hid (Ln.toldL b = [92, 48 + b / 64, 48 + b / 8 % 8, 48 + b % 8]) := Ln.told_oct h1 hL h4
          clear hL
          go_enter Tryz.func99, Tryz.ntmps99
          go_wp2_with fail
          refine (oct_any _ _ _ T (by omega)).mono ?_
          rintro e w1 ⟨rfl, hbo⟩
          have hown1 := own_below hown hbo
          have hbs := hbo.size
          go_wp2_with (at_builtin; refine wpList_append_own_at _ rfl (.tmp 33) (.tmp 44) 74 rfl base 5 i0 (.int .u8 0) 1 1 Tryz.underlying74 hi hz0 hz1 hz2 rfl (by decide) _ _ _ rfl (hown1.alloc _) ⟨w1.heap.size, 0, none⟩ 4 4 [.int .u8 92, .int .u8 (48 + (b.toNat : Int) / 64), .int .u8 (48 + (b.toNat : Int) / 8 % 8), .int .u8 (48 + (b.toNat : Int) % 8)] rfl rfl (cell_four_new _ _ _ _ _ _) ?c2 ?c3 ?c4 ?c5 ?_)
          case c2 => exact one_ints (k := .u8) _
          case c3 => unfold maxLen; omega
          case c4 => omega
          case c5 => simp; omega
          intro v' w2 hown' hgrow _ hat
          have R1 : w.grownBy w2 v.ownBlock := grown_below (hbo.trans ((Below.refl _ _).alloc hbs _)) hgrow
          have R2 := at_ge (w := w) hat (by omega)
          have R3 : w2.ownsRow base 5 1 v' (l ++ Ln.toldL b).length (bcells (l ++ Ln.toldL b)) := by
            rw [HT.out, bcells_append, List.length_append]; rw [bcells_oct]; exact hown'
          clear hgrow hat hown'
          go_wp2
          go_ret
          exact ⟨v', rfl, R3, R1, R2⟩
      · have h3' : ((n : Int) != 0) = true := by simp; omega
        have hL : Ln.letB b = n := HN.out
        have HT : Hid (Ln.toldL b = [92, UInt8.ofNat n]) := by rw [← hL]; exact Ln.told_let h1 (by rw [hL]; exact h3)
        have HNb : n < 256 := by rw [← hL]; exact Ln.let_lt b
        clear hL
        go_enter Tryz.func99, Tryz.ntmps99
        go_wp2_with (at_builtin; refine wpList_append_own_at _ rfl (.tmp 21) (.tmp 25) 74 rfl base 5 i0 (.int .u8 0) 1 1 Tryz.underlying74 hi hz0 hz1 hz2 rfl (by decide) _ _ _ rfl (hown.alloc _) ⟨w.heap.size, 0, none⟩ 2 2 [.int .u8 92, .int .u8 (n : Int)] rfl rfl (cell_two_new _ _ _ _) ?c2 ?c3 ?c4 ?c5 ?_)
        case c2 => exact one_ints (k := .u8) _
        case c3 => unfold maxLen; omega
        case c4 => omega
        case c5 => simp; omega
        intro v' w2 hown' hgrow _ hat
        have R1 : w.grownBy w2 v.ownBlock := grown_below (alloc_below w _) hgrow
        have R2 := at_ge (w := w) hat (by omega)
        have R3 : w2.ownsRow base 5 1 v' (l ++ Ln.toldL b).length (bcells (l ++ Ln.toldL b)) := by
          rw [HT.out, bcells_append, List.length_append]; rw [bcells_let HNb]; exact hown'
        clear hgrow hat hown'
        go_wp2
        go_ret
        exact ⟨v', rfl, R3, R1, R2⟩
    · have h2' : decide ((b.toNat : Int) < 14) = false := by simp; omega
      have hL : Ln.letB b = 0 := Ln.let_big (by omega)
      cases h4 : Ln.octB b.toNat b.toNat
      · have HT : Hid (Ln.toldL b = [b]) := Ln.told_plain h1 hL h4
        clear hL
        go_enter Tryz.func99, Tryz.ntmps99
        go_wp2_with fail
        refine (oct_any _ _ _ T (by omega)).mono ?_
        rintro e w1 ⟨rfl, hbo⟩
        have hown1 := own_below hown hbo
        have hbs := hbo.size
        go_wp2_with (at_builtin; refine wpList_append_own_at _ rfl (.tmp 46) (.tmp 48) 74 rfl base 5 i0 (.int .u8 0) 1 1 Tryz.underlying74 hi hz0 hz1 hz2 rfl (by decide) _ _ _ rfl (hown1.alloc _) ⟨w1.heap.size, 0, none⟩ 1 1 [.int .u8 (b.toNat : Int)] rfl rfl (cell_one_new _ _ _) ?c2 ?c3 ?c4 ?c5 ?_)
        case c2 => exact one_ints (k := .u8) _
        case c3 => unfold maxLen; omega
        case c4 => omega
        case c5 => simp; omega
        intro v' w2 hown' hgrow _ hat
        have R1 : w.grownBy w2 v.ownBlock := grown_below (hbo.trans ((Below.refl _ _).alloc hbs _)) hgrow
        have R2 := at_ge (w := w) hat (by omega)
        have R3 : w2.ownsRow base 5 1 v' (l ++ Ln.toldL b).length (bcells (l ++ Ln.toldL b)) := by
          rw [HT.out, bcells_append, List.length_append]; show w2.ownsRow base 5 1 v' (l.length + 1) (bcells l ++ [.int .u8 (b.toNat : Int)]); exact hown'
        clear hgrow hat hown'
        go_wp2
        go_ret
        exact ⟨v', rfl, R3, R1, R2⟩
      · have HT : Hid (Ln.toldL b = [92, 48 + b / 64, 48 + b / 8 % 8, 48 + b % 8]) := Ln.told_oct h1 hL h4
        clear hL
        go_enter Tryz.func99, Tryz.ntmps99
        go_wp2_with fail
        refine (oct_any _ _ _ T (by omega)).mono ?_
        rintro e w1 ⟨rfl, hbo⟩
        have hown1 := own_below hown hbo
        have hbs := hbo.size
        go_wp2_with (at_builtin; refine wpList_append_own_at _ rfl (.tmp 33) (.tmp 44) 74 rfl base 5 i0 (.int .u8 0) 1 1 Tryz.underlying74 hi hz0 hz1 hz2 rfl (by decide) _ _ _ rfl (hown1.alloc _) ⟨w1.heap.size, 0, none⟩ 4 4 [.int .u8 92, .int .u8 (48 + (b.toNat : Int) / 64), .int .u8 (48 + (b.toNat : Int) / 8 % 8), .int .u8 (48 + (b.toNat : Int) % 8)] rfl rfl (cell_four_new _ _ _ _ _ _) ?c2 ?c3 ?c4 ?c5 ?_)
        case c2 => exact one_ints (k := .u8) _
        case c3 => unfold maxLen; omega
        case c4 => omega
        case c5 => simp; omega
        intro v' w2 hown' hgrow _ hat
        have R1 : w.grownBy w2 v.ownBlock := grown_below (hbo.trans ((Below.refl _ _).alloc hbs _)) hgrow
        have R2 := at_ge (w := w) hat (by omega)
        have R3 : w2.ownsRow base 5 1 v' (l ++ Ln.toldL b).length (bcells (l ++ Ln.toldL b)) := by
          rw [HT.out, bcells_append, List.length_append]; rw [bcells_oct]; exact hown'
        clear hgrow hat hown'
        go_wp2
        go_ret
        exact ⟨v', rfl, R3, R1, R2⟩
  · have hb : b = 92 := by rw [← UInt8.toNat_inj]; simp at h1; simp; omega
    have HT : Hid (Ln.toldL b = [92, 92]) := by rw [hb]; rfl
    clear hb
    go_enter Tryz.func99, Tryz.ntmps99
    go_wp2_with (at_builtin; refine wpList_append_own_at _ rfl _ _ 74 rfl base 5 i0 (.int .u8 0) 1 1 Tryz.underlying74 hi hz0 hz1 hz2 rfl (by decide) _ _ _ rfl (hown.alloc _) ⟨w.heap.size, 0, none⟩ 2 2 [.int .u8 92, .int .u8 92] rfl rfl (cell_two_new _ _ _ _) ?c2 ?c3 ?c4 ?c5 ?_)
    case c2 => intro u hu; simp at hu; subst hu; rfl
    case c3 => unfold maxLen; omega
    case c4 => omega
    case c5 => simp; omega
    intro v' w1 hown' hgrow _ hat
    have R1 : w.grownBy w1 v.ownBlock := grown_below (alloc_below w _) hgrow
    have R2 := at_ge (w := w) hat (by omega)
    clear hgrow hat
    go_wp2
    go_ret
    exact ⟨v', rfl, by rw [HT.out, bcells_append, List.length_append]; exact hown', R1, R2⟩
end Go.Proofs.YtcloljkaojnipaaGreatDoor
namespace Go.Proofs.YtcloljkaojnipaaGreatDoor
open Go.RowKit

set_option maxRecDepth 100000 in
set_option maxHeartbeats 600000 in
theorem lbegins_any (s : ByteArray) (k : Nat) (a b : UInt8) (w : World) (hs : s.size ≤ 16777216) (hk : k ≤ s.size) :
    Calls Tryz.prog 113 #[.string s, .int .i64 k, .int .u8 a.toNat, .int .u8 b.toNat] w fun e w' => e = .returned (.bool (Ln.begL (s.data.toList.drop k) a b)) ∧ w = w' := by
  by_cases h : k + 1 < s.size
  · have HB : Hid (Ln.begL (s.data.toList.drop k) a b = (((s[k].toNat : Int) == (a.toNat : Int)) && ((s[k + 1].toNat : Int) == (b.toNat : Int)))) := Ln.beg_at h a b
    cases h1 : ((s[k].toNat : Int) == (a.toNat : Int))
    · have HB' : Hid (Ln.begL (s.data.toList.drop k) a b = false) := by have := HB.out; rwa [h1] at this
      go_enter Tryz.func113, Tryz.ntmps113
      go_wp2
      go_ret
      exact ⟨ret_bool HB'.out.symm, rfl⟩
    · have HB' : Hid (Ln.begL (s.data.toList.drop k) a b = ((s[k + 1].toNat : Int) == (b.toNat : Int))) := by have := HB.out; rwa [h1, Bool.true_and] at this
      go_enter Tryz.func113, Tryz.ntmps113
      go_wp2
      go_ret
      exact ⟨ret_bool HB'.out.symm, rfl⟩
  · have HB' : Hid (Ln.begL (s.data.toList.drop k) a b = false) := Ln.beg_past h a b
    have h' : decide ((k : Int) + 1 < (s.size : Int)) = false := by simp; omega
    go_enter Tryz.func113, Tryz.ntmps113
    go_wp2
    go_ret
    exact ⟨ret_bool HB'.out.symm, rfl⟩

set_option maxRecDepth 100000 in
set_option maxHeartbeats 1000000 in
theorem unq_any (s : ByteArray) (w : World) (T : Tabs w) (hs : s.size ≤ 16777216) :
    Calls Tryz.prog 91 #[.string s] w fun e w' => e = .returned (.tuple #[.string (Ln.bs (Ln.unqP s).1), .int .i64 ((Ln.unqP s).2.1 : Nat), .int .i64 (Ln.unqP s).2.2.1, .int .i64 ((Ln.unqP s).2.2.2 : Nat)]) ∧ Below w.heap.size w w' := by
  obtain ⟨i0, hi, hz0, hz1, hz2⟩ := info_parts Tryz.infoByte
  by_cases h0 : s.toList = []
  · have HR : Hid (Ln.unqP s = ([], 0, 10, 0)) := by show _ = _; rw [Ln.toL] at h0; rw [Ln.unqP, if_neg (by rw [h0]; simp)]
    go_enter Tryz.func91, Tryz.ntmps91
    go_wp2_with fail
    rw [HR.out]
    exact bodyPost_ret (v := .tuple #[.string ⟨#[]⟩, .int .i64 0, .int .i64 10, .int .i64 0]) (by simp [results, Tryz.results91, go_sem]) rfl ⟨rfl, Below.refl _ _⟩
  have hpos : 0 < s.size := by
    rw [Ln.toL] at h0
    have := Ln.szL s
    cases hl : s.data.toList with
    | nil => exact absurd hl h0
    | cons a b => rw [hl] at this; simp at this; omega
  have b0 : s.toList.isEmpty = false := by simpa using h0
  clear h0
  cases h1 : ((s[0].toNat : Int) == 34)
  · have HR : Hid (Ln.unqP s = ([], 0, 10, 0)) := by
      have hh := @Ln.head_is s 0 34 hpos
      rw [List.drop_zero] at hh
      show _ = _
      rw [Ln.unqP, if_neg (fun q => by have := hh.1 q; rw [show ((34 : UInt8).toNat : Int) = 34 from rfl, h1] at this; cases this)]
    have h1' : ((s[0].toNat : Int) != 34) = true := by simpa using h1
    go_enter Tryz.func91, Tryz.ntmps91
    go_wp2_with fail
    rw [HR.out]
    exact bodyPost_ret (v := .tuple #[.string ⟨#[]⟩, .int .i64 0, .int .i64 10, .int .i64 0]) (by simp [results, Tryz.results91, go_sem]) rfl ⟨rfl, Below.refl _ _⟩
  have HR0 : Ln.unqP s = Ln.unqGo s.data.toList s.size 1 [] := by
    have hh := @Ln.head_is s 0 34 hpos
    rw [List.drop_zero] at hh
    rw [Ln.unqP, if_pos (hh.2 h1)]
  have h1' : ((s[0].toNat : Int) != 34) = false := by simpa using h1
  obtain ⟨R, hR⟩ : ∃ R, Ln.unqP s = R := ⟨_, rfl⟩
  rw [hR] at HR0 ⊢
  have HR : Hid (Ln.unqGo s.data.toList s.size 1 [] = R) := HR0.symm
  have T2 := T.size
  clear hR HR0
  go_enter Tryz.func91, Tryz.ntmps91
  go_wp2_with fail
  go_loopw [6, 7] (fun v i wr => ∃ (off f : Nat) (out : List UInt8), off ≤ s.size ∧ s.size < off + f ∧ i = .int .i64 off ∧ out.length ≤ off ∧ Hid (Ln.unqGo s.data.toList f off out = R) ∧ wr.ownsRow w.heap.size 5 1 v out.length (bcells out) ∧ Tabs wr ∧ Below w.heap.size w wr) (fun _ i _ => s.size + 1 - (intOf i).toNat)
  case atStart => exact ⟨1, s.size, [], by omega, by omega, rfl, by simp, HR, World.ownsRow_nil _ _ _ _, T, Below.refl _ _⟩
  case round =>
    obtain ⟨off, f0, out, hoff, hf, rfl, hol, HC, hown, Tr, hnx⟩ := hrel
    have hsz := hnx.size
    obtain ⟨f, rfl⟩ : ∃ f, f0 = f + 1 := ⟨f0 - 1, by omega⟩
    by_cases hq : (s.data.toList.drop off).head? = some 34
    · have hlt : off < s.size := by
        by_cases h : off < s.size
        · exact h
        · rw [Ln.head_none h] at hq; cases hq
      have hc : ((s[off].toNat : Int) == 34) = true := (Ln.head_is hlt).1 hq
      have hR : R = (out, off + 1, 0, 0) := HC.out.symm.trans (Ln.unq_end hq)
      subst hR
      clear hq HC HR
      have i1 : (off : Int) < (s.size : Int) := by omega
      rcases hown.2 with ⟨hv, hn⟩ | ⟨g, cap, cur, hv, _⟩
      · subst hv
        have ho : out = [] := List.eq_nil_of_length_eq_zero hn
        subst ho
        have hcv : (convert 74 9 (.slice none 0 0)).run Tryz.prog wr = .ok (.string ByteArray.empty) wr := run_convert_bytes_nil wr 74 5 Tryz.underlying74 Tryz.underlying5 0 0 9 Tryz.underlying9
        go_wp2_with fail
        exact bodyPost_ret (v := .tuple #[.string ByteArray.empty, .int .i64 ((off : Int) + 1), .int .i64 0, .int .i64 0]) (by simp [results, Tryz.results91, go_sem]) rfl ⟨rfl, hnx⟩
      · subst hv
        have hcv := conv_own hown
        go_wp2_with fail
        exact bodyPost_ret (v := .tuple #[.string ⟨out.toArray⟩, .int .i64 ((off : Int) + 1), .int .i64 0, .int .i64 0]) (by simp [results, Tryz.results91, go_sem]) rfl ⟨rfl, hnx⟩
    have hguard : off = s.size ∨ (∃ h : off < s.size, (off : Int) < (s.size : Int) ∧ ((s[off].toNat : Int) == 34) = false) := by
      by_cases h : off < s.size
      · right
        refine ⟨h, by omega, ?_⟩
        cases hc : ((s[off].toNat : Int) == 34)
        · rfl
        · exact absurd ((Ln.head_is (a := 34) h).2 hc) hq
      · left; omega
    cases hb : Ln.begL (s.data.toList.drop off) 92 34
    · obtain ⟨U, hU⟩ : ∃ U, Ln.untP (s.data.toList.drop off) off = U := ⟨_, rfl⟩
      have hok := @Ln.unt_ok (s.data.toList.drop off) off
      rw [hU, List.length_drop, Ln.szL] at hok
      have HU : Hid (Ln.untP (s.data.toList.drop off) off = U) := hU
      obtain ⟨ub, un, uk⟩ := U
      cases uk
      · have hR : R = ([], 0, 10, un) := by have := HC.out.symm.trans (Ln.unq_bad hq hb (by rw [hU])); rwa [hU] at this
        subst hR
        clear hq HC HR hU hok
        rcases hguard with rfl | ⟨hlt, g1, g2⟩
        all_goals
          go_wp2_with (first | (go_at_call 113; refine (lbegins_any s _ 92 34 _ hs (by omega)).mono ?_; rintro e w' ⟨rfl, rfl⟩) | (go_at_call 114; refine (untell_any s _ _ Tr hs (by omega)).mono ?_; rw [HU.out]; rintro e w1 ⟨rfl, hb1⟩))
          exact bodyPost_ret (v := .tuple #[.string ⟨#[]⟩, .int .i64 0, .int .i64 10, .int .i64 (un : Int)]) (by simp [results, Tryz.results91, go_sem]) rfl ⟨rfl, hnx.trans (hb1.mono hsz)⟩
      · have HC2 : Hid (Ln.unqGo s.data.toList f un (out ++ [ub]) = R) := by have := HC.out; rw [Ln.unq_on hq hb (by rw [hU]), hU] at this; exact this
        obtain ⟨k1, k2⟩ := hok rfl
        have k1 : off < un := k1
        have k2 : un ≤ off + (s.size - off) := k2
        clear hq HC HR hU hok
        rcases hguard with g1 | ⟨hlt, g1, g2⟩
        · omega
        all_goals
          go_wp2_with (first | (go_at_call 113; refine (lbegins_any s _ 92 34 _ hs (by omega)).mono ?_; rintro e w' ⟨rfl, rfl⟩) | (go_at_call 114; refine (untell_any s _ _ Tr hs (by omega)).mono ?_; rw [HU.out]; rintro e w1 ⟨rfl, hb1⟩; replace hown := own_below hown hb1; replace Tr := Tr.below Tr.size hb1; replace hnx := hnx.trans (hb1.mono hsz); replace hsz := hnx.size) | (at_builtin; refine wpList_append_own _ rfl (.tmp 50) (.tmp 52) 74 rfl w.heap.size 5 i0 (.int .u8 0) 1 1 Tryz.underlying74 hi hz0 hz1 hz2 rfl (by decide) _ _ _ rfl (hown.alloc _) ⟨_, 0, none⟩ 1 1 [.int .u8 (ub.toNat : Int)] rfl rfl (cell_one_new _ _ _) (one_ints (k := .u8) _) (by unfold maxLen; omega) (by omega) (by simp; omega) ?_))
          intro v3 w3 hown3 hgr3 _
          have hB3 : Below w.heap.size w w3 := (hnx.alloc hsz _).grown hgr3 (by simp; omega) (fun g hg => (hown.lt g hg).1)
          have ho3 : w3.ownsRow w.heap.size 5 1 v3 (out ++ [ub]).length (bcells (out ++ [ub])) := by rw [bcells_append, List.length_append]; exact hown3
          have T3 : Tabs w3 := T.below T2 hB3
          clear hgr3 hown3
          go_wp2
          go_roundw
          case rel => exact ⟨un, f, out ++ [ub], by omega, by omega, rfl, by simp; omega, HC2, ho3, T3, hB3⟩
          case measure => simp [intOf]; omega
    · have hl2 : off + 1 < s.size := by
        by_cases h : off + 1 < s.size
        · exact h
        · rw [Ln.beg_past h] at hb; cases hb
      have HC2 : Hid (Ln.unqGo s.data.toList f (off + 2) (out ++ [34]) = R) := by have := HC.out; rwa [Ln.unq_quote hq hb] at this
      clear hq HC HR
      rcases hguard with g1 | ⟨hlt, g1, g2⟩
      · omega
      go_wp2_with (first | (go_at_call 113; refine (lbegins_any s _ 92 34 _ hs (by omega)).mono ?_; rintro e w' ⟨rfl, rfl⟩) | (at_builtin; refine wpList_append_own _ rfl (.tmp 35) (.tmp 36) 74 rfl w.heap.size 5 i0 (.int .u8 0) 1 1 Tryz.underlying74 hi hz0 hz1 hz2 rfl (by decide) _ _ _ rfl (hown.alloc _) ⟨_, 0, none⟩ 1 1 [.int .u8 34] rfl rfl (cell_one_new _ _ _) (one_ints (k := .u8) _) (by unfold maxLen; omega) (by omega) (by simp; omega) ?_))
      intro v3 w3 hown3 hgr3 _
      have hB3 : Below w.heap.size w w3 := (hnx.alloc hsz _).grown hgr3 (by simp; omega) (fun g hg => (hown.lt g hg).1)
      have ho3 : w3.ownsRow w.heap.size 5 1 v3 (out ++ [34]).length (bcells (out ++ [34])) := by rw [bcells_append, List.length_append]; exact hown3
      have T3 : Tabs w3 := T.below T2 hB3
      clear hgr3 hown3
      go_wp2
      go_roundw
      case rel => exact ⟨off + 2, f, out ++ [34], by omega, by omega, by go_num, by simp; omega, HC2, ho3, T3, hB3⟩
      case measure => simp [intOf]; omega
end Go.Proofs.YtcloljkaojnipaaGreatDoor
