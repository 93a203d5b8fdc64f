/- What paths.size and paths.Right answer: how long a path's own text is; whether a path may be so. -/
import Derived.Test.YtmbpebdceaihaacName
import Derived.Test.YtmbpebdceaihaacStrs
namespace Go.Proofs.Ytmbpebdceaihaac
open Go.RowKit

theorem ret_int {k : IntKind} {a b : Int} (h : a = b) : Ending.returned (.int k a) = .returned (.int k b) := by rw [h]

set_option maxHeartbeats 400000 in
theorem size_any (a : Option Addr) (cap : Nat) (l : List ByteArray) (w : World) (h : Strs w a cap l) (hs : Pl.sumP l ≤ 4611686018427387904) :
    Calls Try.prog 18 #[.slice a l.length cap] w fun e w' => e = .returned (.int .i64 (Pl.sizeP l)) ∧ w = w' := by
  have hl := h.len
  by_cases h0 : l.length = 0
  · have hb : ((l.length : Int) == 0) = true := by simpa using h0
    have HS : Hid (Pl.sizeP l = 1) := Pl.sizeP_zero h0
    clear h0
    go_enter Try.func18, Try.ntmps18
    go_wp2
    go_ret
    exact ⟨ret_int (by rw [HS.out]; rfl), rfl⟩
  have hb : ((l.length : Int) == 0) = false := by simpa using h0
  have HS : Hid (Pl.sizeP l = Pl.sumP l) := Pl.sizeP_pos h0
  clear h0
  go_enter Try.func18, Try.ntmps18
  go_wp2
  go_loop [3, 11] (fun n i => ∃ k : Nat, k ≤ l.length ∧ i = .int .i64 k ∧ n = .int .i64 (Pl.sumP (l.take k) : Nat)) (fun _ i => l.length - (intOf i).toNat)
  case atStart => exact ⟨0, Nat.zero_le _, rfl, by simp [Pl.sumP]⟩
  case round =>
    obtain ⟨k, hk, rfl, rfl⟩ := hrel
    by_cases hlt : k < l.length
    · obtain ⟨b, off, rfl, hb0, hc⟩ := h.cells k hlt
      have hz := h.size k hlt
      have ht := Pl.sumP_snoc l k hlt
      have hle := Pl.sumP_take_le l (k + 1)
      have HT : Hid (Pl.sumP (l.take (k + 1)) = Pl.sumP (l.take k) + 1 + (l[k]'hlt).size) := ht
      have hbd : Pl.sumP (l.take k) + 1 + (l[k]'hlt).size ≤ 4611686018427387904 := by omega
      clear ht hle
      generalize Pl.sumP (l.take k) = q at *
      go_wp2
      go_round
      case rel => exact ⟨k + 1, by omega, by go_num, by rw [HT.out]; go_num⟩
      case measure => simp [intOf]; omega
    · have ht : l.take k = l := List.take_of_length_le (by omega)
      rw [ht]
      go_wp2
      go_ret
      exact ⟨ret_int (by rw [HS.out]), rfl⟩

set_option maxHeartbeats 400000 in
theorem right_any (a : Option Addr) (cap : Nat) (l : List ByteArray) (w : World) (h : Strs w a cap l) :
    Calls Try.prog 14 #[.slice a l.length cap] w fun e w' => e = .returned (.bool (Pl.rightP l)) ∧ w = w' := by
  have hl := h.len
  go_enter Try.func14, Try.ntmps14
  go_wp2
  go_loop [7] (fun i => ∃ k : Nat, k ≤ l.length ∧ i = .int .i64 k ∧ (l.take k).all Pl.nameB = true) (fun i => l.length - (intOf i).toNat)
  case atStart => exact ⟨0, Nat.zero_le _, rfl, rfl⟩
  case round =>
    obtain ⟨k, hk, rfl, ha⟩ := hrel
    have HA : Hid ((l.take k).all Pl.nameB = true) := ha
    clear ha
    by_cases hlt : k < l.length
    · obtain ⟨b, off, rfl, hb0, hc⟩ := h.cells k hlt
      have hz := h.size k hlt
      cases hn : Pl.nameB (l[k]'hlt)
      · have HR : Hid (Pl.rightP l = false) := Pl.right_stop hlt hn
        go_wp2_with (go_at_call 23; refine (name_any _ _ (by unfold maxLen; omega)).mono ?_; rintro e w' ⟨rfl, rfl⟩)
        go_ret
        exact ⟨ret_bool HR.out.symm, rfl⟩
      · have HR : Hid ((l.take (k + 1)).all Pl.nameB = true) := Pl.all_names_step hlt HA.out hn
        go_wp2_with (go_at_call 23; refine (name_any _ _ (by unfold maxLen; omega)).mono ?_; rintro e w' ⟨rfl, rfl⟩)
        go_round
        case rel => exact ⟨k + 1, by omega, by go_num, HR.out⟩
        case measure => simp [intOf]; omega
    · have ht : l.take k = l := List.take_of_length_le (by omega)
      have HB : Hid (l.all Pl.nameB = true) := by have := HA.out; rw [ht] at this; exact this
      have hsum : Pl.sumP l ≤ 4611686018427387904 := by have := Pl.sumP_names l HB.out; omega
      clear ht HA
      go_wp2_with (go_at_call 18; refine (size_any _ _ l _ h hsum).mono ?_; rintro e w' ⟨rfl, rfl⟩)
      go_ret
      exact ⟨ret_bool (Pl.right_end HB.out), rfl⟩
end Go.Proofs.Ytmbpebdceaihaac
