/- What SetsBrackets answers. -/
import Derived.Test.YtmlpfgfpmbnbeaaSBrEq
import Derived.Test.YtmlpfgfpmbnbeaaLawSTurned
namespace Go.Proofs.Ytmlpfgfpmbnbeaa
open Go.RowKit

theorem bracketA_any (s : ByteArray) (w : World) (hs : s.size < 4294967281) (hm : MaxL w) :
    Calls Try.prog 32 #[.string s] w fun e w' => e = .returned (.tuple #[St.setV (St.brP (St.itemA s) s).1, .int .i64 ((St.brP (St.itemA s) s).2.1 : Nat), .int .i64 ((St.brP (St.itemA s) s).2.2.1 : Nat), .int .i64 ((St.brP (St.itemA s) s).2.2.2 : Nat)]) ∧ Below w.heap.size w w' :=
  bracketB_any s (St.itemA s) w (by omega) (fun j w1 hj hb => itemA_any s j w1 hs hj (hm.under hb)) (fun _ => St.itemA_ok)

set_option maxRecDepth 100000 in
set_option maxHeartbeats 2000000 in
theorem brackets_law (s : ByteArray) (w : World) (hs : s.size < 4294967281) (hm : MaxL w) :
    Calls Try.prog 5 #[.string s] w fun e w' => e = .returned (.bool true) ∧ Below w.heap.size w w' := by
  have HLV : Hid (∀ w, Calls Try.prog 11 #[] w fun e w' => e = .returned (.bool true) ∧ Below w.heap.size w w') := lives_any
  have H1 := bracketA_any s w hs hm
  have H2 : Hid (∀ w1, Calls Try.prog 33 #[.string s] w1 fun e w' => e = .returned (.tuple #[St.setV (St.brP (St.itemA s) s).1, .int .i64 ((St.brP (St.itemA s) s).2.1 : Nat), .int .i64 ((St.brP (St.itemA s) s).2.2.1 : Nat), .int .i64 ((St.brP (St.itemA s) s).2.2.2 : Nat)]) ∧ Below w1.heap.size w1 w') := fun w1 => by
    have := rbracket_any s w1 (by omega)
    rwa [St.brackets_one s (Nat.zero_le _)] at this
  generalize St.brP (St.itemA s) s = R at *
  obtain ⟨q, n, y, t⟩ := R
  simp only [St.setV] at H1 H2
  have E1 := set_eqn q
  go_enter Try.func5, Try.ntmps5
  go_wp2_with fail
  refine H1.mono ?_
  rintro x w1 ⟨rfl, hb1⟩
  have S1 := at_new w1 q
  have hB1 := hb1.alloc hb1.size (.cells #[.int .u64 (St.wd q 0 : Nat), .int .u64 (St.wd q 1 : Nat), .int .u64 (St.wd q 2 : Nat), .int .u64 (St.wd q 3 : Nat)] 25)
  clear hb1
  go_wp2_with fail
  refine (H2.out _).mono ?_
  rintro x w2 ⟨rfl, hb2⟩
  have S2 := (S1.under hb2).alloc (.cells #[.int .u64 (St.wd q 0 : Nat), .int .u64 (St.wd q 1 : Nat), .int .u64 (St.wd q 2 : Nat), .int .u64 (St.wd q 3 : Nat)] 25)
  have S3 := at_new w2 q
  have hB2 := (Below.more hB1 hb2 hB1.size).alloc (Nat.le_trans hB1.size hb2.size) (.cells #[.int .u64 (St.wd q 0 : Nat), .int .u64 (St.wd q 1 : Nat), .int .u64 (St.wd q 2 : Nat), .int .u64 (St.wd q 3 : Nat)] 25)
  clear hb2 hB1
  go_wp2_with fail
  refine (HLV.out _).mono ?_
  rintro x w3 ⟨rfl, hb3⟩
  have U2 := S2.under hb3
  have U3 := S3.under hb3
  have hB3 := Below.more hB2 hb3 hB2.size
  clear hb3
  obtain ⟨q0, q1, q2, q3⟩ := U2.cells
  obtain ⟨r0, r1, r2, r3⟩ := U3.cells
  go_wp2_with fail
  go_ret
  exact ⟨rfl, hB3⟩
end Go.Proofs.Ytmlpfgfpmbnbeaa
