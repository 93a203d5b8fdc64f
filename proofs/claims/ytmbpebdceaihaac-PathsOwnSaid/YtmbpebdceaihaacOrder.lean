/- What paths.Compare (by slices.Compare and cmp.Compare) answer. -/
import Derived.Test.YtmbpebdceaihaacSame
import Derived.Test.YtmbpebdceaihaacWithin
namespace Go.Proofs.Ytmbpebdceaihaac
open Go.RowKit

set_option maxHeartbeats 400000 in
theorem isnan_any (s : ByteArray) (w : World) :
    Calls Try.prog 43 #[.string s] w fun e w' => e = .returned (.bool false) ∧ w = w' := by
  have hb : (s.toList != s.toList) = false := by simp
  go_enter Try.func43, Try.ntmps43
  go_wp2
  go_ret
  exact ⟨by simp, rfl⟩

set_option maxHeartbeats 400000 in
theorem cmp_any (x y : ByteArray) (w : World) :
    Calls Try.prog 37 #[.string x, .string y] w fun e w' => e = .returned (.int .i64 (Pl.cmpS x y)) ∧ w = w' := by
  cases h1 : Op.bytesLess x.toList y.toList
  · cases h2 : (x.toList == y.toList)
    · have HE : Hid (Pl.cmpS x y = 1) := Pl.cmpS_more h1 h2
      go_enter Try.func37, Try.ntmps37
      go_wp2_with (go_at_call 43; refine (isnan_any _ _).mono ?_; rintro e w' ⟨rfl, rfl⟩)
      go_ret
      exact ⟨ret_int HE.out.symm, rfl⟩
    · have HE : Hid (Pl.cmpS x y = 0) := Pl.cmpS_eq h2
      go_enter Try.func37, Try.ntmps37
      go_wp2_with (go_at_call 43; refine (isnan_any _ _).mono ?_; rintro e w' ⟨rfl, rfl⟩)
      go_ret
      exact ⟨ret_int HE.out.symm, rfl⟩
  · have HE : Hid (Pl.cmpS x y = -1) := Pl.cmpS_less h1
    go_enter Try.func37, Try.ntmps37
    go_wp2_with (go_at_call 43; refine (isnan_any _ _).mono ?_; rintro e w' ⟨rfl, rfl⟩)
    go_ret
    exact ⟨ret_int HE.out.symm, rfl⟩

set_option maxHeartbeats 400000 in
theorem slcmp_any (a1 a2 : Option Addr) (c1 c2 : Nat) (l1 l2 : List ByteArray) (w : World) (h1 : Strs w a1 c1 l1) (h2 : Strs w a2 c2 l2) :
    Calls Try.prog 26 #[.slice a1 l1.length c1, .slice a2 l2.length c2] w fun e w' => e = .returned (.int .i64 (Pl.cmpP l1 l2)) ∧ w = w' := by
  have hl1 := h1.len
  have hl2 := h2.len
  go_enter Try.func26, Try.ntmps26
  go_wp2
  go_loop [11] (fun i => ∃ k : Nat, k ≤ l1.length ∧ k ≤ l2.length ∧ i = .int .i64 k ∧ Hid (Pl.cmpP l1 l2 = Pl.cmpP (l1.drop k) (l2.drop k))) (fun i => l1.length - (intOf i).toNat)
  case atStart => exact ⟨0, Nat.zero_le _, Nat.zero_le _, rfl, rfl⟩
  case round =>
    obtain ⟨k, hk1, hk2, rfl, HC⟩ := hrel
    by_cases hlt1 : k < l1.length
    · obtain ⟨b1, o1, rfl, hb1, hc1⟩ := h1.cells k hlt1
      by_cases hlt2 : k < l2.length
      · obtain ⟨b2, o2, rfl, hb2, hc2⟩ := h2.cells k hlt2
        have HS : Hid (Pl.cmpS (l1[k]'hlt1) (l2[k]'hlt2) = 0 → Pl.cmpP (l1.drop k) (l2.drop k) = Pl.cmpP (l1.drop (k + 1)) (l2.drop (k + 1))) := Pl.cmpP_step hlt1 hlt2
        have HT : Hid (¬ Pl.cmpS (l1[k]'hlt1) (l2[k]'hlt2) = 0 → Pl.cmpP (l1.drop k) (l2.drop k) = Pl.cmpS (l1[k]'hlt1) (l2[k]'hlt2)) := Pl.cmpP_stop hlt1 hlt2
        generalize l1[k]'hlt1 = x at *
        generalize l2[k]'hlt2 = y at *
        by_cases hz : Pl.cmpS x y = 0
        · have HN : Hid (Pl.cmpP l1 l2 = Pl.cmpP (l1.drop (k + 1)) (l2.drop (k + 1))) := HC.out.trans (HS.out hz)
          have hz' : (Pl.cmpS x y != 0) = false := by simpa using hz
          clear hz
          go_wp2_with (go_at_call 37; refine (cmp_any _ _ _).mono ?_; rintro e w' ⟨rfl, rfl⟩)
          go_round
          case rel => exact ⟨k + 1, by omega, by omega, by go_num, HN⟩
          case measure => simp [intOf]; omega
        · have HN : Hid (Pl.cmpP l1 l2 = Pl.cmpS x y) := HC.out.trans (HT.out hz)
          have hz' : (Pl.cmpS x y != 0) = true := by simpa using hz
          clear hz
          go_wp2_with (go_at_call 37; refine (cmp_any _ _ _).mono ?_; rintro e w' ⟨rfl, rfl⟩)
          go_ret
          exact ⟨ret_int HN.out.symm, rfl⟩
      · have HN : Hid (Pl.cmpP l1 l2 = 1) := HC.out.trans (Pl.cmpP_more hlt1 hlt2)
        go_wp2
        go_ret
        exact ⟨ret_int HN.out.symm, rfl⟩
    · by_cases hlt2 : l1.length < l2.length
      · have HN : Hid (Pl.cmpP l1 l2 = -1) := HC.out.trans (Pl.cmpP_less hlt1 (by omega))
        go_wp2
        go_ret
        exact ⟨ret_int HN.out.symm, rfl⟩
      · have HN : Hid (Pl.cmpP l1 l2 = 0) := HC.out.trans (Pl.cmpP_end hlt1 (by omega))
        go_wp2
        go_ret
        exact ⟨ret_int HN.out.symm, rfl⟩

set_option maxHeartbeats 400000 in
theorem compare_any (a1 a2 : Option Addr) (c1 c2 : Nat) (l1 l2 : List ByteArray) (w : World) (h1 : Strs w a1 c1 l1) (h2 : Strs w a2 c2 l2) :
    Calls Try.prog 20 #[.slice a1 l1.length c1, .slice a2 l2.length c2] w fun e w' => e = .returned (.int .i64 (Pl.cmpP l1 l2)) ∧ w = w' := by
  have hl1 := h1.len
  have hl2 := h2.len
  go_enter Try.func20, Try.ntmps20
  go_wp2_with (go_at_call 26; refine (slcmp_any _ _ _ _ l1 l2 _ h1 h2).mono ?_; rintro e w' ⟨rfl, rfl⟩)
  go_ret
  exact ⟨rfl, rfl⟩

end Go.Proofs.Ytmbpebdceaihaac
