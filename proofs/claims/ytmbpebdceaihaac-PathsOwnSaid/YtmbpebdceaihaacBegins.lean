/- What paddocklaw02.begins answers: true, in every world. -/
import Derived.Test.YtmbpebdceaihaacNormal
import Derived.Test.YtmbpebdceaihaacPrint
import Derived.Test.YtmbpebdceaihaacOrder
namespace Go.Proofs.Ytmbpebdceaihaac
open Go.RowKit

theorem two_strs (w : World) (x y : ByteArray) (hx : x.size ≤ 1024) (hy : y.size ≤ 1024) : Strs (w.alloc (.cells #[.string x, .string y] 9)) (some ⟨w.heap.size, 0, none⟩) 2 [x, y] := by
  refine ⟨by simp, fun h => (by cases h), by simp, by decide, fun i hi => ?_, fun i hi => ⟨w.heap.size, 0, rfl, by simp, ?_⟩⟩
  · match i, hi with
    | 0, _ => simp; omega
    | 1, _ => simp; omega
  · match i, hi with
    | 0, _ => simp
    | 1, _ => simp
theorem one_strs (w : World) (x : ByteArray) (hx : x.size ≤ 1024) : Strs (w.alloc (.cells #[.string x] 9)) (some ⟨w.heap.size, 0, none⟩) 1 [x] := by
  refine ⟨by simp, fun h => (by cases h), by simp, by decide, fun i hi => ?_, fun i hi => ⟨w.heap.size, 0, rfl, by simp, ?_⟩⟩
  · match i, hi with
    | 0, _ => simp; omega
  · match i, hi with
    | 0, _ => simp

theorem beg_normal : Pl.normalP [⟨#[97]⟩, ⟨#[98]⟩] ⟨#[46, 46, 47, 99, 47]⟩ = ([⟨#[97]⟩, ⟨#[99]⟩], true, 0) := by decide +kernel
theorem beg_print : Pl.printP [⟨#[97]⟩, ⟨#[99]⟩] = (⟨#[47, 97, 47, 99]⟩, 0) := by decide +kernel
theorem beg_in : Pl.withinP [⟨#[97]⟩, ⟨#[99]⟩] [⟨#[97]⟩] = true := by decide +kernel
theorem beg_out : Pl.withinP [⟨#[97]⟩, ⟨#[99]⟩] [⟨#[98]⟩] = false := by decide +kernel

set_option maxHeartbeats 1000000 in
theorem begins_any (w : World) : Calls Try.prog 4 #[] w fun e w' => e = .returned (.bool true) ∧ Below w.heap.size w w' := by
  go_enter Try.func4, Try.ntmps4
  go_wp2_with fail
  refine (normal_any _ _ [⟨#[97]⟩, ⟨#[98]⟩] ⟨#[46, 46, 47, 99, 47]⟩ _ (two_strs w _ _ (by decide) (by decide)) (by decide)).mono ?_
  rw [beg_normal]
  rintro e w1 ⟨v1, rfl, hown1, hb1⟩
  obtain ⟨a1, c1, rfl, hs1⟩ := own_strs hown1 (by decide) (by decide)
  have hb1' : Below w.heap.size w w1 := ((Below.refl _ _).alloc (Nat.le_refl _) _).trans (hb1.mono (by simp))
  clear hown1 hb1
  go_wp2_with fail
  refine (print_any _ _ _ _ hs1).mono ?_
  rw [beg_print]
  rintro e w2 ⟨rfl, hb2⟩
  have hs2 := hs1.below hb2
  have hb2' : Below w.heap.size w w2 := hb1'.trans (hb2.mono hb1'.size)
  clear hb1' hs1 hb2
  have hsz := hb2'.size
  go_wp2_with fail
  refine (within_b _ _ _ _ [⟨#[97]⟩, ⟨#[99]⟩] [⟨#[97]⟩] _ (hs2.alloc _) (one_strs _ _ (by decide))).mono ?_
  rw [beg_in]
  rintro e w3 ⟨rfl, hb3⟩
  have hs3 := (hs2.alloc _).below hb3
  have hb3' : Below w.heap.size w w3 := (hb2'.alloc hsz _).trans (hb3.mono (by simp; omega))
  have hsz3 := hb3'.size
  clear hb2' hs2 hb3 hsz
  go_wp2_with fail
  refine (within_b _ _ _ _ [⟨#[97]⟩, ⟨#[99]⟩] [⟨#[98]⟩] _ (hs3.alloc _) (one_strs _ _ (by decide))).mono ?_
  rw [beg_out]
  rintro e w4 ⟨rfl, hb4⟩
  have hb4' : Below w.heap.size w w4 := (hb3'.alloc hsz3 _).trans (hb4.mono (by simp; omega))
  clear hb3' hs3 hb4 hsz3
  go_wp2_with fail
  go_ret
  exact ⟨rfl, hb4'⟩
end Go.Proofs.Ytmbpebdceaihaac
