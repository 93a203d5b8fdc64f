/- Whether a text may be a suffix: strings.ContainsAny, maySuffix, the reference's suffix. -/
import Derived.Test.YtklcfjakhabbgaaArSx
namespace Go.Proofs.Ytklcfjakhabbgaa
open Go.RowKit

theorem Try.infoSet : (Try.prog.info? 97).map (fun i => (i.zero, i.size)) = some (some (.agg (Array.replicate 256 (.bool false))), 256) := by kernel_rfl

theorem iany_any (s : ByteArray) (w : World) (hs : s.size ≤ 1048576) :
    Calls Try.prog 54 #[.string s, .string Ar.sep2] w fun e w' => e = .returned (.int .i64 (Lib.indexAny s.data.toList [47, 0])) ∧ Below w.heap.size w w' := by
  by_cases h8 : s.size ≤ 8
  · exact iany_short s w h8
  · have hz := zero_of_info Try.infoSet
    refine (Any.strings_IndexAny_long Try.lays153 hz.1 hz.2 s Ar.sep2 w (by decide) (by omega) (by omega) (by decide) ?_).mono fun e w' ⟨h1, h2⟩ => ⟨h1, ?_⟩
    · intro j b hb
      match j, hb with
      | 0, hb => cases hb; decide
      | 1, hb => cases hb; decide
      | j + 2, hb => cases hb
    · rw [h2]
      exact ((Below.refl _ _).alloc (Nat.le_refl _) _).alloc (by simp) _

theorem canys_any (s : ByteArray) (w : World) (hs : s.size ≤ 1048576) :
    Calls Try.prog 45 #[.string s, .string ⟨#[47, 0]⟩] w fun e w' => e = .returned (.bool (!(s.data.toList.all Ar.okc))) ∧ Below w.heap.size w w' := by
  have HI : Hid (Calls Try.prog 54 #[.string s, .string ⟨#[47, 0]⟩] w _) := iany_any s w hs
  have HA := Ar.any_all s.data.toList
  generalize Lib.indexAny s.data.toList [47, 0] = K at *
  generalize s.data.toList.all Ar.okc = R at *
  have HE : Hid (decide (0 ≤ K) = !R) := HA
  clear HA
  go_enter Try.func45, Try.ntmps45
  go_wp2_with (go_at_call 54; refine Calls.mono HI.out ?_; rintro e w' ⟨rfl, hb⟩)
  go_ret
  exact ⟨ret_bool HE.out, hb⟩

set_option maxHeartbeats 400000 in
theorem sfx_any (s : ByteArray) (w : World) (hs : s.size ≤ maxLen) :
    Calls Try.prog 30 #[.string s] w fun e w' => e = .returned (.bool (Ar.sfxB s)) ∧ Below w.heap.size w w' := by
  unfold maxLen at hs
  by_cases h : s.size ≤ 255
  · have HI : Hid (Calls Try.prog 45 #[.string s, .string ⟨#[47, 0]⟩] w _) := canys_any s w (by omega)
    have HE : Hid (Ar.sfxB s = s.data.toList.all Ar.okc) := by show _ = _; rw [Ar.sfxB, decide_eq_true h, Bool.true_and]
    have h1 : (s.size : Int) ≤ 255 := by omega
    generalize s.data.toList.all Ar.okc = R at *
    go_enter Try.func30, Try.ntmps30
    go_wp2_with (go_at_call 45; refine Calls.mono HI.out ?_; rintro e w' ⟨rfl, hb⟩)
    go_ret
    exact ⟨ret_bool (by rw [HE.out]), hb⟩
  · have HE : Hid (Ar.sfxB s = false) := by show _ = _; rw [Ar.sfxB, decide_eq_false h, Bool.false_and]
    have h1 : ¬ (s.size : Int) ≤ 255 := by omega
    go_enter Try.func30, Try.ntmps30
    go_wp2_with fail
    go_ret
    exact ⟨ret_bool HE.out.symm, Below.refl _ _⟩

set_option maxHeartbeats 800000 in
theorem rsfx_any (s : ByteArray) (w : World) (hs : s.size ≤ maxLen) :
    Calls Try.prog 31 #[.string s] w fun e w' => e = .returned (.bool (Ar.sfxB s)) ∧ w = w' := by
  unfold maxLen at hs
  by_cases h : s.size ≤ 255
  · have HE : Hid (Ar.sfxB s = s.data.toList.all Ar.okc) := by show _ = _; rw [Ar.sfxB, decide_eq_true h, Bool.true_and]
    have h1 : ¬ (255 : Int) < (s.size : Int) := by omega
    go_enter Try.func31, Try.ntmps31
    go_wp2_with fail
    go_loop [3] (fun i => ∃ k : Nat, k ≤ s.size ∧ i = .int .i64 k ∧ Hid ((s.data.toList.take k).all Ar.okc = true)) (fun i => s.size - (intOf i).toNat)
    case atStart => exact ⟨0, Nat.zero_le _, rfl, rfl⟩
    case round =>
      obtain ⟨k, hk, rfl, HA⟩ := hrel
      by_cases hlt : k < s.size
      · have hsn := Ar.take_snoc s k hlt
        have hmem : s[k] ∈ s.data.toList := by
          have := Lib.data_getElem? s k hlt
          exact List.mem_of_getElem? this
        cases q1 : ((s[k].toNat : Int) == 47)
        · cases q2 : ((s[k].toNat : Int) == 0)
          · have HS : Hid ((s.data.toList.take (k + 1)).all Ar.okc = true) := by
              show _ = _
              rw [hsn, List.all_append, HA.out]
              simp [Ar.okc_of q1 q2]
            clear hsn hmem
            go_wp2_with fail
            go_round
            case rel => exact ⟨k + 1, by omega, by go_num, HS⟩
            case measure => simp [intOf]; omega
          · have HF : Hid (Ar.sfxB s = false) := by
              show _ = _
              rw [HE.out]
              exact List.all_eq_false.2 ⟨_, hmem, by simp [Ar.okc_no (Or.inr q2)]⟩
            clear hsn hmem
            go_wp2_with fail
            go_ret
            exact ⟨ret_bool HF.out.symm, rfl⟩
        · have HF : Hid (Ar.sfxB s = false) := by
            show _ = _
            rw [HE.out]
            exact List.all_eq_false.2 ⟨_, hmem, by simp [Ar.okc_no (Or.inl q1)]⟩
          clear hsn hmem
          go_wp2_with fail
          go_ret
          exact ⟨ret_bool HF.out.symm, rfl⟩
      · have HF : Hid (Ar.sfxB s = true) := by
          show _ = _
          have := HA.out
          rw [List.take_of_length_le (by rw [Ar.szL]; omega)] at this
          rw [HE.out, this]
        go_wp2_with fail
        go_ret
        exact ⟨ret_bool HF.out.symm, rfl⟩
  · have HE : Hid (Ar.sfxB s = false) := by show _ = _; rw [Ar.sfxB, decide_eq_false h, Bool.false_and]
    have h1 : (255 : Int) < (s.size : Int) := by omega
    go_enter Try.func31, Try.ntmps31
    go_wp2_with fail
    go_ret
    exact ⟨ret_bool HE.out.symm, rfl⟩
end Go.Proofs.Ytklcfjakhabbgaa
