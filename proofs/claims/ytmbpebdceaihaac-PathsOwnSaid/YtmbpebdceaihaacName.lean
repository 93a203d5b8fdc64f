/- What paths.Name answers: whether a text may be a file's name. -/
import Derived.Test.YtmbpebdceaihaacChecked
import Derived.Test.YtmbpebdceaihaacPlain
import Derived.WalkKit
import Derived.WalkSpells
import Derived.WalkLawsBesides
namespace Go.Proofs.Ytmbpebdceaihaac
open Go.RowKit

theorem ret_bool {a b : Bool} (h : a = b) : Ending.returned (.bool a) = .returned (.bool b) := by rw [h]

set_option maxHeartbeats 400000 in
theorem name_any (s : ByteArray) (w : World) (hs : s.size ≤ maxLen) :
    Calls Try.prog 23 #[.string s] w fun e w' => e = .returned (.bool (Pl.nameB s)) ∧ w = w' := by
  unfold maxLen at hs
  by_cases h1 : s.toList = []
  · go_enter Try.func23, Try.ntmps23
    go_wp2
    go_ret
    exact ⟨ret_bool (Pl.name_empty h1).symm, rfl⟩
  by_cases h2 : (255 : Int) < (s.size : Int)
  · go_enter Try.func23, Try.ntmps23
    go_wp2
    go_ret
    exact ⟨ret_bool (Pl.name_long h2).symm, rfl⟩
  by_cases h3 : s.toList = [46]
  · go_enter Try.func23, Try.ntmps23
    go_wp2
    go_ret
    exact ⟨ret_bool (Pl.name_dot h3).symm, rfl⟩
  by_cases h4 : s.toList = [46, 46]
  · go_enter Try.func23, Try.ntmps23
    go_wp2
    go_ret
    exact ⟨ret_bool (Pl.name_dots h4).symm, rfl⟩
  have H := Pl.name_head h1 h2 h3 h4
  have HH : Hid (Pl.nameB s = s.data.toList.all Pl.okc) := H
  clear H
  have b1 : s.toList.isEmpty = false := by simpa using h1
  have b3 : (s.toList == [46]) = false := by simpa using h3
  have b4 : (s.toList == [46, 46]) = false := by simpa using h4
  clear h1 h3 h4
  go_enter Try.func23, Try.ntmps23
  go_wp2
  go_loop [21] (fun i => ∃ k : Nat, k ≤ s.size ∧ i = .int .i64 k ∧ (s.data.toList.take k).all Pl.okc = true) (fun i => s.size - (intOf i).toNat)
  case atStart => exact ⟨0, Nat.zero_le _, rfl, rfl⟩
  case round =>
    obtain ⟨k, hk, rfl, ha⟩ := hrel
    by_cases hlt : k < s.size
    · have HA : Hid ((s.data.toList.take k).all Pl.okc = true) := ha
      clear ha
      cases c1 : ((s[k].toNat : Int) == 47)
      · cases c0 : ((s[k].toNat : Int) == 0)
        · have HS := Pl.all_step hlt HA.out c1 c0
          have HT : Hid ((s.data.toList.take (k + 1)).all Pl.okc = true) := HS
          clear HS
          go_wp2
          go_round
          case rel => exact ⟨k + 1, by omega, by go_num, HT.out⟩
          case measure => simp [intOf]; omega
        · have HS := Pl.all_stop hlt (Or.inr c0)
          go_wp2
          go_ret
          exact ⟨ret_bool (by rw [HH.out, HS]), rfl⟩
      · have HS : Hid (s.data.toList.all Pl.okc = false) := Pl.all_stop hlt (Or.inl c1)
        go_wp2
        go_ret
        exact ⟨ret_bool (by rw [HH.out, HS.out]), rfl⟩
    · have HA : Hid ((s.data.toList.take k).all Pl.okc = true) := ha
      clear ha
      go_wp2
      go_ret
      exact ⟨ret_bool (by rw [HH.out, ← HA.out, Pl.take_all s k (by omega)]), rfl⟩
end Go.Proofs.Ytmbpebdceaihaac
