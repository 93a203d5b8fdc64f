/- What paths.shared, paths.Within and the reference's both and Same answer. -/
import Derived.Test.YtmbpebdceaihaacNames
import Derived.Deep.QuietTactic
import Derived.BigQuiet
namespace Go.Proofs.Ytmbpebdceaihaac
open Go.RowKit

set_option maxHeartbeats 800000 in
theorem shared_any (a1 a2 : Option Addr) (c1 c2 : Nat) (l1 l2 : List ByteArray) (w : World) (h1 : Strs w a1 c1 l1) (h2 : Strs w a2 c2 l2) :
    Calls Try.prog 22 #[.slice a1 l1.length c1, .slice a2 l2.length c2] w fun e w' => e = .returned (.int .i64 (Pl.com l1 l2 : Nat)) ∧ ∃ n, w' = w.drewN n := by
  have hl1 := h1.len
  have hl2 := h2.len
  go_enter Try.func22, Try.ntmps22
  go_wp2
  go_loopw [5] (fun v wr => ∃ k m : Nat, k ≤ l1.length ∧ k ≤ l2.length ∧ v = .int .i64 k ∧ Hid (Pl.com l1 l2 = k + Pl.com (l1.drop k) (l2.drop k)) ∧ wr = w.drewN m)
    (fun v _ => l1.length - (intOf v).toNat)
  case atStart => exact ⟨0, 0, Nat.zero_le _, Nat.zero_le _, rfl, by simp [Hid], rfl⟩
  case round =>
    obtain ⟨k, m, hk1, hk2, rfl, HC, rfl⟩ := hrel
    by_cases hlt1 : k < l1.length
    · by_cases hlt2 : k < l2.length
      · obtain ⟨b1, o1, rfl, hb1, hc1⟩ := h1.cells k hlt1
        obtain ⟨b2, o2, rfl, hb2, hc2⟩ := h2.cells k hlt2
        have HS := @Pl.com_step l1 l2 k hlt1 hlt2
        have HT := @Pl.com_stop l1 l2 k hlt1 hlt2
        have HS' : Hid (((l1[k]'hlt1).toList == (l2[k]'hlt2).toList) = true → Pl.com (l1.drop k) (l2.drop k) = 1 + Pl.com (l1.drop (k + 1)) (l2.drop (k + 1))) := HS
        have HT' : Hid (((l1[k]'hlt1).toList == (l2[k]'hlt2).toList) = false → Pl.com (l1.drop k) (l2.drop k) = 0) := HT
        clear HS HT
        have i1 : (k : Int) < (l1.length : Int) := by omega
        have i2 : (k : Int) < (l2.length : Int) := by omega
        generalize l1[k]'hlt1 = x at *
        generalize l2[k]'hlt2 = y at *
        cases hxy : (x.toList == y.toList)
        · have HE : Hid (Pl.com l1 l2 = k) := by have := HC.out; rw [HT'.out hxy] at this; exact this
          go_wp2_with fail
          go_quiet (fail)
          go_wp2
          go_ret
          exact ⟨ret_int (by rw [HE.out]), m + nq, by simp⟩
        · have HE : Hid (Pl.com l1 l2 = (k + 1) + Pl.com (l1.drop (k + 1)) (l2.drop (k + 1))) := by have := HC.out; rw [HS'.out hxy] at this; show _ = _; omega
          go_wp2_with fail
          go_quiet (fail)
          go_wp2
          go_roundw
          case rel => exact ⟨k + 1, m + nq, by omega, by omega, by go_num, HE, by first | rfl | simp⟩
          case measure => simp [intOf]; omega
      · have HE : Hid (Pl.com l1 l2 = k) := by have := HC.out; rw [Pl.com_end_right hlt2] at this; exact this
        have i1 : (k : Int) < (l1.length : Int) := by omega
        have i2 : decide ((k : Int) < (l2.length : Int)) = false := by simp; omega
        go_wp2_with fail
        go_quiet (fail)
        go_wp2
        go_ret
        exact ⟨ret_int (by rw [HE.out]), m + nq, by simp⟩
    · have HE : Hid (Pl.com l1 l2 = k) := by have := HC.out; rw [Pl.com_end_left hlt1] at this; exact this
      have i1 : decide ((k : Int) < (l1.length : Int)) = false := by simp; omega
      go_wp2_with fail
      go_quiet (fail)
      go_wp2
      go_ret
      exact ⟨ret_int (by rw [HE.out]), m + nq, by simp⟩
end Go.Proofs.Ytmbpebdceaihaac
