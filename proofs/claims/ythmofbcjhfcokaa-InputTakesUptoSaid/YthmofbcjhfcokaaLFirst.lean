/- What lines.First answers. -/
import Derived.Test.YthmofbcjhfcokaaLSplit
namespace Go.Proofs.Ythmofbcjhfcokaa
open Go.RowKit

set_option maxRecDepth 100000 in
set_option maxHeartbeats 1000000 in
theorem first_any (s : ByteArray) (w : World) (hs : s.size ≤ 67108864) :
    Calls Try.prog 26 #[.string s] w fun e w' => e = .returned (.tuple #[.string (Ln.bs (Ln.firstP [] s.data.toList).1), .string (Ln.bs (Ln.firstP [] s.data.toList).2.1), .bool (Ln.firstP [] s.data.toList).2.2]) ∧ ∃ n, w' = w.drewN n := by
  obtain ⟨R, hR⟩ : ∃ R, Ln.firstP [] s.data.toList = R := ⟨_, rfl⟩
  rw [hR]
  have HR : Hid (Ln.firstP (s.data.toList.take 0) (s.data.toList.drop 0) = R) := hR
  clear hR
  go_enter Try.func26, Try.ntmps26
  go_wp2
  go_loop [8] (fun i => ∃ k : Nat, k ≤ s.size ∧ i = .int .i64 k ∧ Hid (Ln.firstP (s.data.toList.take k) (s.data.toList.drop k) = R)) (fun i => s.size - (intOf i).toNat)
  case atStart => exact ⟨0, Nat.zero_le _, rfl, HR⟩
  case round =>
    obtain ⟨k, hk, rfl, HC⟩ := hrel
    by_cases hlt : k < s.size
    · cases hc : ((s[k].toNat : Int) == 10)
      · have HN : Hid (Ln.firstP (s.data.toList.take (k + 1)) (s.data.toList.drop (k + 1)) = R) := by
          have := HC.out
          rw [Ln.drop_cons s k hlt, Ln.first_other (Ln.byte_nlf hc), ← Ln.take_snoc s k hlt] at this
          exact this
        clear HC
        go_wp2
        go_round
        case rel => exact ⟨k + 1, by omega, by go_num, HN⟩
        case measure => simp [intOf]; omega
      · have hR : R = (s.data.toList.take k, s.data.toList.drop (k + 1), true) := by
          have := HC.out
          rw [Ln.drop_cons s k hlt, Ln.byte_lf hc] at this
          exact this.symm
        subst hR
        have E1 : Hid (s.extract 0 k = Ln.bs (s.data.toList.take k)) := by show _ = _; rw [Ln.extract_bs]; simp
        have E2 : Hid (s.extract (k + 1) s.size = Ln.bs (s.data.toList.drop (k + 1))) := by
          show _ = _; rw [Ln.extract_bs, List.take_of_length_le (by rw [List.length_drop, Ln.szL]; omega)]
        clear HC HR
        have hki : (k : Int) + 1 ≤ (s.size : Int) := by omega
        have hw1 : IntKind.i64.wrap ((k : Int) + 1) = (k : Int) + 1 := by rw [IntKind.wrap_i64]; omega
        go_wp2_with fail
        go_quiet (fail)
        go_wp2_with fail
        go_ret3
        refine ⟨?_, _, rfl⟩
        show Ending.returned (.tuple #[.string (s.extract 0 k), .string (s.extract (k + 1) s.size), .bool true]) = .returned (.tuple #[.string (Ln.bs (s.data.toList.take k)), .string (Ln.bs (s.data.toList.drop (k + 1))), .bool true])
        rw [E1.out, E2.out]
    · have hR : R = (s.data.toList, [], false) := by
        have := HC.out
        rw [Ln.take_all s k (by omega), List.drop_eq_nil_of_le (by rw [Ln.szL]; omega)] at this
        exact this.symm
      subst hR
      clear HC HR
      go_wp2_with fail
      go_ret3
      refine ⟨?_, 0, rfl⟩
      show Ending.returned (.tuple #[.string s, .string ⟨#[]⟩, .bool false]) = .returned (.tuple #[.string (Ln.bs s.data.toList), .string (Ln.bs []), .bool false])
      rw [Ln.bs_data]; rfl

end Go.Proofs.Ythmofbcjhfcokaa
