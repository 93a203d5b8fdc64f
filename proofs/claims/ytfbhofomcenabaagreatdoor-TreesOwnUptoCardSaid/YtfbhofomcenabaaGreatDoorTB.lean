/- strings.IndexByte as this program holds it is the function that the library's contract speaks of. What trees.mayLead answers: may a text be a link's? -/
import Derived.Shelf.Lays
import Derived.Shelf.Small.Strs
import Derived.Test.YtfbhofomcenabaaGreatDoorChecked
import Derived.Test.YtfbhofomcenabaaGreatDoorTA
namespace Go.Proofs
open Go.Shelf
def Tryz.lays137_ren : Go.Shelf.Ren := ⟨fun | 137 => 116 | 217 => 143 | 266 => 163 | n => n, fun | 9 => 9 | 5 => 5 | 3 => 3 | n => n, fun | n => n⟩
theorem Tryz.lays137 : Go.Proofs.Lays.n137 Tryz.prog Tryz.lays137_ren := {
  mixed := by kernel_rfl
  f137 := Tryz.func116.trans (congrArg some (by kernel_rfl))
  f217 := Tryz.func143.trans (congrArg some (by kernel_rfl))
  f266 := Tryz.func163.trans (congrArg some (by kernel_rfl))
  t3 := Tryz.underlying3
  a3 := Tryz.isAgg3
  z3 := Tryz.sizeOf3
  v3 := Tryz.zeroValue3
  t5 := Tryz.underlying5
  a5 := Tryz.isAgg5
  z5 := Tryz.sizeOf5
  v5 := Tryz.zeroValue5
  t9 := Tryz.underlying9
  a9 := Tryz.isAgg9
  z9 := Tryz.sizeOf9
  v9 := Tryz.zeroValue9 }
end Go.Proofs
namespace Go.Proofs.YtfbhofomcenabaaGreatDoor
open Go.RowKit

namespace Ft
theorem index_low : ∀ (l : List UInt8) (c : UInt8), -1 ≤ Lib.indexByte l c
  | [], c => by simp [Lib.indexByte]
  | b :: l, c => by
    have := index_low l c
    rw [Lib.indexByte]
    split
    · omega
    · split
      · omega
      · omega
theorem index_all : ∀ (l : List UInt8), decide (Lib.indexByte l 0 < 0) = l.all (fun c => !(c == 0))
  | [] => by simp [Lib.indexByte]
  | b :: l => by
    have ih := index_all l
    have lo := index_low l 0
    rw [Lib.indexByte, List.all_cons]
    cases hb : (b == 0)
    · rw [if_neg (by simp)]
      simp only [Bool.not_false, Bool.true_and]
      rw [← ih]
      split
      · rename_i h
        have : Lib.indexByte l 0 = -1 := by simpa using h
        rw [this]
      · rename_i h
        have : ¬ Lib.indexByte l 0 = -1 := by simpa using h
        have h1 : ¬ Lib.indexByte l 0 + 1 < 0 := by omega
        have h2 : ¬ Lib.indexByte l 0 < 0 := by omega
        rw [decide_eq_false h1, decide_eq_false h2]
    · rw [if_pos rfl]
      simp
end Ft

set_option maxRecDepth 100000 in
set_option maxHeartbeats 400000 in
theorem maylead_any (s : ByteArray) (w : World) :
    Calls Tryz.prog 86 #[.string s] w fun e w' => e = .returned (.bool (Ft.tgtB s)) ∧ w = w' := by
  have HI : Hid (∀ w1, Calls Tryz.prog 116 #[.string s, .int .u8 0] w1 fun e w' => e = .returned (.int .i64 (Lib.indexByte s.data.toList 0)) ∧ w' = w1) := fun w1 => by
    have := Any.strings_IndexByte Tryz.lays137 s 0 w1
    exact this
  by_cases h0 : s.toList = []
  · have HE : Hid (Ft.tgtB s = false) := Ft.tgt_empty (by rw [← Pl.szL, ← Pl.toL, h0]; rfl)
    go_enter Tryz.func86, Tryz.ntmps86
    go_wp2_with fail
    go_ret
    exact ⟨by rw [HE.out]; rfl, rfl⟩
  have hp : ¬ s.size = 0 := fun e => h0 (List.eq_nil_of_length_eq_zero (by rw [Pl.toL, Pl.szL, e]))
  have e0 : (s.toList == []) = false := by simpa using h0
  have e0'' : s.toList.isEmpty = false := by simpa using h0
  by_cases h1 : 1024 < s.size
  · have HE : Hid (Ft.tgtB s = false) := Ft.tgt_long h1
    have e1 : ¬ (s.size : Int) ≤ 1024 := by omega
    have e1' : decide ((s.size : Int) ≤ 1024) = false := decide_eq_false e1
    go_enter Tryz.func86, Tryz.ntmps86
    go_wp2_with fail
    go_ret
    exact ⟨by rw [HE.out]; rfl, rfl⟩
  · have HE : Hid (Ft.tgtB s = decide (Lib.indexByte s.data.toList 0 < 0)) := by show _ = _; rw [Ft.tgt_head hp h1, Ft.index_all]
    have e1 : (s.size : Int) ≤ 1024 := by omega
    have e1' : decide ((s.size : Int) ≤ 1024) = true := decide_eq_true e1
    go_enter Tryz.func86, Tryz.ntmps86
    go_wp2_with (go_at_call 116; refine (HI.out _).mono ?_; rintro e w1 ⟨rfl, rfl⟩)
    go_ret
    exact ⟨by rw [HE.out]; rfl, rfl⟩
end Go.Proofs.YtfbhofomcenabaaGreatDoor
