/- What strings.IndexRune answers of a rune beyond ASCII in a text of two ASCII bytes. -/
import Derived.Test.YtklcfjakhabbgaaArS
import Derived.Laws.Cover4
namespace Go.Proofs.Ytklcfjakhabbgaa
open Go.RowKit

theorem slice_end (C : ByteArray) (hC : C.size = 2) (wx : World) : (Instr.slice 9 (.string C) (some (.int .i64 2)) none none).run Try.prog wx = .ok (.string (C.extract 2 2)) wx := by
  simp [Instr.slice, Instr.sliceBounds, Instr.sliceBound, asIntOf, run_underlying Try.underlying9, hC, go_sem]

set_option maxRecDepth 100000 in
set_option maxHeartbeats 2000000 in
theorem irune_high (C : ByteArray) (r : Int) (w : World) (hC : C.size = 2) (c0 : (C[0]'(by omega)).toNat < 128) (c1 : (C[1]'(by omega)).toNat < 128) (h1 : 128 ≤ r) (h2 : r ≤ 2147483647) :
    Calls Try.prog 64 #[.string C, .int .i32 r] w fun e w' => e = .returned (.int .i64 (-1)) ∧ Below w.heap.size w w' := by
  by_cases h3 : r = 65533
  · subst h3
    go_enter Try.func64, Try.ntmps64
    go_wp2_with fail
    go_loopw [5, 6] (fun _ _ wr => ∃ i : Nat, i ≤ 2 ∧ wr = w.iter C i) (fun _ _ wr => 2 - wr.iterPos w.heap.size)
    case atStart => exact ⟨0, by omega, rfl⟩
    case round =>
      obtain ⟨i, hi, rfl⟩ := hrel
      rcases (by omega : i = 0 ∨ i = 1 ∨ i = 2) with rfl | rfl | rfl
      · have hnx := fun ty => run_next_ascii (P := Try.prog) w C 0 ty (by omega) c0
        have q0 : ¬ (((C[0]'(by omega)).toNat : Int) = 65533) := by omega
        go_wp2_with fail
        go_roundw
        case rel => exact ⟨1, by omega, rfl⟩
        case measure => simp
      · have hnx := fun ty => run_next_ascii (P := Try.prog) w C 1 ty (by omega) c1
        have q1 : ¬ (((C[1]'(by omega)).toNat : Int) = 65533) := by omega
        go_wp2_with fail
        go_roundw
        case rel => exact ⟨2, by omega, rfl⟩
        case measure => simp
      · have hnx := fun ty => run_next_end (P := Try.prog) w C 2 ty (by omega)
        go_wp2_with fail
        go_ret
        exact ⟨rfl, alloc_below w _⟩
  have h3' : (r == 65533) = false := beq_eq_false_iff_ne.2 h3
  cases hv : Lib.validRune r
  · go_enter Try.func64, Try.ntmps64
    go_wp2_with (go_at_call 74; refine (Any.utf8_ValidRune Try.lays119 _ _).mono ?_; rintro e w' ⟨rfl, hw⟩; rw [hw, hv])
    go_ret
    exact ⟨rfl, Below.refl _ _⟩
  have HC2 : (C.size : Int) = 2 := by omega
  rcases Ar.encode_high r h1 with ⟨a, b, he, hb⟩ | hs
  · obtain ⟨E, hE⟩ : ∃ E : ByteArray, E = ⟨#[a, b]⟩ := ⟨_, rfl⟩
    rw [← hE] at he
    have hz : E.size = 2 := by rw [hE]; rfl
    have hzI : (E.size : Int) = 2 := by omega
    have hb1 : 128 ≤ (E[1]'(by omega)).toNat := by subst hE; exact hb
    have hne : (((C[1]'(by omega)).toNat : Int) == ((E[1]'(by omega)).toNat : Int)) = false := beq_eq_false_iff_ne.2 (by omega)
    clear hE hb
    have HI : Hid (∀ wx : World, Calls Try.prog 73 #[.string ByteArray.empty, .int .u8 ((E[1]'(by omega)).toNat : Int)] wx fun e w' => e = .returned (.int .i64 (-1)) ∧ w' = wx) := fun wx => (Any.strings_IndexByte Try.lays137 _ _ wx).mono fun e w' ⟨h1, h2⟩ => ⟨h1, h2⟩
    have hw2 : IntKind.i64.wrap (1 + 1) = 2 := by decide
    have hsl := fun wx => slice_end C hC wx
    go_enter Try.func64, Try.ntmps64
    go_wp2_with (go_at_call 74; refine (Any.utf8_ValidRune Try.lays119 _ _).mono ?_; rintro e w' ⟨rfl, hw⟩; rw [hw, hv])
    go_step3
    go_wp2_with fail
    go_loopw [9, 10] (fun i f wr => i = .int .i64 1 ∧ f = .int .i64 0 ∧ wr = w) (fun _ _ _ => 0)
    case atStart => exact ⟨rfl, rfl, rfl⟩
    case round =>
      obtain ⟨rfl, rfl, rfl⟩ := hrel
      go_wp2_with fail
      go_step3
      go_wp2_with fail
      go_quiet (fail)
      go_wp2_with fail
      go_quiet ((go_at_call 73; refine Calls.mono (HI.out _) ?_; rintro e w' ⟨rfl, rfl⟩; exact ⟨rfl, _, rfl⟩))
      go_wp2_with fail
      rw [Exit.noGoto_ret]
      go_wp2_with fail
      rw [Exit.noGoto_ret]
      go_ret
      exact ⟨rfl, below_drewN (Below.refl _ _) _⟩
  · obtain ⟨m, hm⟩ : ∃ m : Nat, (Utf8.encode r).size = m + 3 := ⟨(Utf8.encode r).size - 3, by omega⟩
    have hm4 : m ≤ 1 := by have := encode_size_le r; omega
    have e1 : ((Utf8.encode r).size : Int) = (m : Int) + 3 := by omega
    go_enter Try.func64, Try.ntmps64
    go_wp2_with (go_at_call 74; refine (Any.utf8_ValidRune Try.lays119 _ _).mono ?_; rintro e w' ⟨rfl, hw⟩; rw [hw, hv])
    go_step3
    go_wp2_with fail
    go_loopw [9, 10] (fun i f wr => i = .int .i64 ((m : Int) + 2) ∧ f = .int .i64 0 ∧ wr = w) (fun _ _ _ => 0)
    case atStart => exact ⟨by first | rfl | (congr 1; omega), rfl, rfl⟩
    case round =>
      obtain ⟨rfl, rfl, rfl⟩ := hrel
      go_wp2_with fail
      rw [Exit.noGoto_ret]
      go_ret
      exact ⟨rfl, Below.refl _ _⟩
end Go.Proofs.Ytklcfjakhabbgaa
