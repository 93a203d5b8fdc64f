/- A copy of texts: copied. -/
import Derived.Test.YtklcfjakhabbgaaArRp
import Derived.Test.YtklcfjakhabbgaaArAd
namespace Go.Proofs.Ytklcfjakhabbgaa
open Go.RowKit

set_option maxRecDepth 100000 in
set_option maxHeartbeats 2000000 in
theorem copied_any (L : List ByteArray) (al : Option Addr) (cl : Nat) (w : World) (hL : Strs w al cl L) (hn : L.length ≤ 4398046511104) :
    Calls Try.prog 9 #[.slice al L.length cl] w fun e w' => ∃ v, e = .returned v ∧ w'.ownsRow w.heap.size 9 1 v L.length (L.map Value.string) ∧ Below w.heap.size w w' := by
  obtain ⟨i0, hi, hz0, hz1, hz2⟩ := info_parts Try.infoStr
  have HL : Hid _ := hL
  clear hL
  go_enter Try.func9, Try.ntmps9
  go_wp2_with fail
  go_loopw [3, 4] (fun v iv wr => ∃ k : Nat, iv = .int .i64 (k : Int) ∧ k ≤ L.length ∧ Hid (wr.ownsRow w.heap.size 9 1 v k ((L.take k).map Value.string)) ∧ Hid (Below w.heap.size w wr)) (fun _ iv _ => L.length - (intOf iv).toNat)
  case atStart => exact ⟨0, rfl, Nat.zero_le _, World.ownsRow_nil _ _ _ _, Below.refl _ _⟩
  case round =>
    obtain ⟨k, rfl, hk, HO, HB⟩ := hrel
    by_cases hlt : k < L.length
    · have hd : (k : Int) < (L.length : Int) := by omega
      have hw : IntKind.i64.wrap ((k : Int) + 1) = (k : Int) + 1 := by rw [IntKind.wrap_i64]; omega
      have HLr := HL.out.below (HB.out.mono (Nat.le_refl _))
      obtain ⟨bb, off, rfl, hbb, d0⟩ := HLr.cells k hlt
      have hes := HLr.size k hlt
      have HT : Hid (L.take (k + 1) = L.take k ++ [L[k]'hlt]) := by show _ = _; rw [List.take_succ_eq_append_getElem hlt]
      have hbs := HB.out.size
      generalize L[k]'hlt = x at *
      clear HLr
      go_wp2_with (at_builtin; refine wpList_append_own_at _ rfl (.tmp 11) (.tmp 16) 22 rfl w.heap.size 9 i0 (.string ⟨#[]⟩) 1 16 Try.underlying22 hi hz0 hz1 hz2 rfl (by decide) _ k ((L.take k).map Value.string) rfl (own_below HO.out (alloc_below _ _)) ⟨wr.heap.size, 0, none⟩ 1 1 [.string x] rfl rfl (strs_one wr x 9 hes).news (one_string x) (by unfold maxLen; omega) (by omega) (by simp; omega) ?_)
      intro v' w' ho1 hg1 _ _
      have HF : Hid (w'.ownsRow w.heap.size 9 1 v' (k + 1) ((L.take (k + 1)).map Value.string)) := by
        show World.ownsRow _ _ _ _ _ _ _
        rw [HT.out, List.map_append]
        first | exact ho1 | (rw [← List.map_take] at ho1; exact ho1)
      have HB2 : Hid (Below w.heap.size w w') := (HB.out.alloc hbs _).grown hg1 (by simp; omega) (fun g e => by have := (HO.out.lt g e).1; omega)
      clear ho1 hg1
      go_wp2_with fail
      go_roundw
      case rel => exact ⟨k + 1, by simp, by omega, HF, HB2⟩
      case measure => simp only [intOf]; omega
    · have hd : ¬ (k : Int) < (L.length : Int) := by omega
      obtain rfl : k = L.length := by omega
      have HO2 : Hid _ := HO.out
      rw [List.take_length] at HO2
      clear HO
      go_wp2_with fail
      go_ret
      exact ⟨_, rfl, HO2.out, HB.out⟩
end Go.Proofs.Ytklcfjakhabbgaa
