/- What lines.untell answers: the told byte at a place. -/
import Derived.Test.YtpoimhkfajppmaaDoorLOct
import Derived.Deep.QuietTactic
import Derived.BigQuiet
namespace Go.Proofs.YtpoimhkfajppmaaDoor
open Go.RowKit

abbrev TOLD (R : UInt8 × Nat × Bool) : Ending := .returned (.tuple #[.int .u8 R.1.toNat, .int .i64 (R.2.1 : Nat), .bool R.2.2])

theorem octal_int (s : ByteArray) (at0 : Nat) (a : Int) (h : a = (at0 : Int)) (w : World) (T : Tabs w) (hs : s.size ≤ 16777216) (ha : at0 ≤ s.size) :
    Calls Tryd.prog 47 #[.string s, .int .i64 a] w fun e w' => e = TOLD (Ln.octP (s.data.toList.drop at0) at0) ∧ Below w.heap.size w w' := by
  subst h
  exact octal_any s at0 w T hs ha

set_option maxRecDepth 100000 in
set_option maxHeartbeats 1000000 in
theorem untell_any (s : ByteArray) (at0 : Nat) (w : World) (T : Tabs w) (hs : s.size ≤ 16777216) (ha : at0 ≤ s.size) :
    Calls Tryd.prog 42 #[.string s, .int .i64 at0] w fun e w' => e = TOLD (Ln.untP (s.data.toList.drop at0) at0) ∧ Below w.heap.size w w' := by
  by_cases h0 : at0 < s.size
  · have e0 : ((at0 : Int) == (s.size : Int)) = false := by simp; omega
    cases h1 : ((s[at0].toNat : Int) == 92)
    · have HU : Hid (Ln.untP (s.data.toList.drop at0) at0 = Ln.plainP s[at0] at0) := by show _ = _; rw [Ln.drop_cons s at0 h0]; exact Ln.unt_plain (Ln.byteN92 h1)
      have h1' : ((s[at0].toNat : Int) != 92) = true := by simpa using h1
      go_enter Tryd.func42, Tryd.ntmps42
      go_wp2_with fail
      refine (plain_any _ _ _ (by omega)).mono ?_
      rintro e w' ⟨rfl, rfl⟩
      go_wp2_with fail
      go_ret3
      rw [HU.out]
      exact ⟨rfl, Below.refl _ _⟩
    have h1' : ((s[at0].toNat : Int) != 92) = false := by simpa using h1
    by_cases h2 : at0 + 1 < s.size
    · have e1 : ((at0 : Int) + 1 == (s.size : Int)) = false := by simp; omega
      cases h3 : ((s[at0 + 1].toNat : Int) == 92)
      · have hd92 := Ln.byteN92 h3
        have HL : Hid (Ln.letF s[at0 + 1] 14 < 14 → Ln.untP (s.data.toList.drop at0) at0 = (UInt8.ofNat (Ln.letF s[at0 + 1] 14), at0 + 2, true)) := fun hl => by
          rw [Ln.drop_cons s at0 h0, Ln.drop_cons s (at0 + 1) h2, Ln.byte92 h1]; exact Ln.unt_let hd92 hl
        have HO : Hid (¬ Ln.letF s[at0 + 1] 14 < 14 → Ln.untP (s.data.toList.drop at0) at0 = Ln.octP (s.data.toList.drop (at0 + 1)) (at0 + 1)) := fun hl => by
          rw [Ln.drop_cons s at0 h0, Ln.drop_cons s (at0 + 1) h2, Ln.byte92 h1]; exact Ln.unt_oct hd92 hl
        have hdb : s[at0 + 1].toNat < 256 := s[at0 + 1].toNat_lt
        clear hd92
        go_enter Tryd.func42, Tryd.ntmps42
        go_wp2_with fail
        go_loopw [38] (fun i wr => ∃ k m : Nat, k ≤ 14 ∧ i = .int .i64 k ∧ Hid (Ln.letF s[at0 + 1] 14 = Ln.letF s[at0 + 1] (14 - k)) ∧ wr = w.drewN m) (fun i _ => 14 - (intOf i).toNat)
        case atStart => exact ⟨0, 0, by omega, rfl, rfl, rfl⟩
        case round =>
          obtain ⟨k, m, hk, rfl, HC, rfl⟩ := hrel
          by_cases hlt : k < 14
          · have hc := T.lets k hlt
            have hn256 := Ln.lets_small k
            have HH : Hid (Ln.lets.getD k 0 ≠ 0 ∧ Ln.lets.getD k 0 = s[at0 + 1].toNat → Ln.letF s[at0 + 1] 14 = k) := fun h => HC.out.trans (Ln.letF_hit hlt h)
            have HM : Hid (¬ (Ln.lets.getD k 0 ≠ 0 ∧ Ln.lets.getD k 0 = s[at0 + 1].toNat) → Ln.letF s[at0 + 1] 14 = Ln.letF s[at0 + 1] (14 - (k + 1))) := fun h => HC.out.trans (Ln.letF_miss hlt h)
            obtain ⟨n, hn⟩ : ∃ n, Ln.lets.getD k 0 = n := ⟨_, rfl⟩
            rw [hn] at hc hn256 HH HM
            clear hn HC
            by_cases z : n = 0
            · have HN : Hid (Ln.letF s[at0 + 1] 14 = Ln.letF s[at0 + 1] (14 - (k + 1))) := HM.out (fun h => h.1 z)
              subst z
              go_wp2_with fail
              go_quiet (fail)
              go_wp2_with fail
              go_roundw
              case rel => exact ⟨k + 1, m + nq, by omega, by go_num, HN, by first | rfl | simp⟩
              case measure => simp [intOf]; omega
            have zb : ((n : Int) != 0) = true := by simp; omega
            by_cases y : n = s[at0 + 1].toNat
            · have HN : Hid (Ln.letF s[at0 + 1] 14 = k) := HH.out ⟨z, y⟩
              have yb : ((n : Int) == (s[at0 + 1].toNat : Int)) = true := by simp; omega
              have HU : Hid (Ln.untP (s.data.toList.drop at0) at0 = (UInt8.ofNat k, at0 + 2, true)) := by have := HL.out (by rw [HN.out]; exact hlt); rwa [HN.out] at this
              have HY : Hid (n = s[at0 + 1].toNat) := y
              clear y HH HM
              go_wp2_with fail
              go_quiet (fail)
              go_wp2_with fail
              go_ret3
              rw [HU.out]
              have e : ((UInt8.ofNat k).toNat : Int) = (k : Int) := by simp; omega
              refine ⟨?_, below_drewN (Below.refl _ _) _⟩
              show Ending.returned (.tuple #[.int .u8 (k : Int), .int .i64 ((at0 : Int) + 1 + 1), .bool true]) = .returned (.tuple #[.int .u8 ((UInt8.ofNat k).toNat : Int), .int .i64 ((at0 + 2 : Nat) : Int), .bool true])
              rw [e, show ((at0 : Int) + 1 + 1) = ((at0 + 2 : Nat) : Int) from by omega]
            · have HN : Hid (Ln.letF s[at0 + 1] 14 = Ln.letF s[at0 + 1] (14 - (k + 1))) := HM.out (fun h => y h.2)
              have yb : ((n : Int) == (s[at0 + 1].toNat : Int)) = false := by simp; omega
              clear HH HM
              go_wp2_with fail
              go_quiet (fail)
              go_wp2_with fail
              go_roundw
              case rel => exact ⟨k + 1, m + nq, by omega, by go_num, HN, by first | rfl | simp⟩
              case measure => simp [intOf]; omega
          · have hk14 : k = 14 := by omega
            have HU : Hid (Ln.untP (s.data.toList.drop at0) at0 = Ln.octP (s.data.toList.drop (at0 + 1)) (at0 + 1)) := HO.out (by rw [HC.out, hk14]; show ¬ (14 : Nat) < 14; omega)
            clear hk14 HC HL HO
            go_wp2_with fail
            refine (octal_int s (at0 + 1) ((at0 : Int) + 1) (by omega) _ (T.below (B := w.heap.size) T.size (below_drewN (Below.refl _ _) m)) hs (by omega)).mono ?_
            rintro e w1 ⟨rfl, hb⟩
            go_wp2_with fail
            go_ret3
            rw [HU.out]
            exact ⟨rfl, (below_drewN (Below.refl _ _) m).trans hb⟩
      · have HU : Hid (Ln.untP (s.data.toList.drop at0) at0 = (92, at0 + 2, true)) := by
          show _ = _; rw [Ln.drop_cons s at0 h0, Ln.drop_cons s (at0 + 1) h2, Ln.byte92 h1, Ln.byte92 h3]; rfl
        go_enter Tryd.func42, Tryd.ntmps42
        go_wp2_with fail
        go_ret3
        rw [HU.out]
        exact ⟨rfl, Below.refl _ _⟩
    · have HU : Hid (Ln.untP (s.data.toList.drop at0) at0 = (0, at0 + 1, false)) := by
        show _ = _; rw [Ln.drop_cons s at0 h0, Ln.byte92 h1, List.drop_eq_nil_of_le (by rw [Ln.szL]; omega)]; rfl
      have e1 : ((at0 : Int) + 1 == (s.size : Int)) = true := by simp; omega
      go_enter Tryd.func42, Tryd.ntmps42
      go_wp2_with fail
      go_ret3
      rw [HU.out]
      exact ⟨rfl, Below.refl _ _⟩
  · have HU : Hid (Ln.untP (s.data.toList.drop at0) at0 = (0, at0, false)) := by
      show _ = _; rw [List.drop_eq_nil_of_le (by rw [Ln.szL]; omega)]; rfl
    have e0 : ((at0 : Int) == (s.size : Int)) = true := by simp; omega
    go_enter Tryd.func42, Tryd.ntmps42
    go_wp2_with fail
    go_ret3
    rw [HU.out]
    exact ⟨rfl, Below.refl _ _⟩
end Go.Proofs.YtpoimhkfajppmaaDoor
