/- What strings.IndexAny answers of a text of at most eight bytes, for the two bytes that no suffix has. -/
import Derived.Test.YtklcfjakhabbgaaArIR
import Derived.Lib.OthersKept
namespace Go.Proofs.Ytklcfjakhabbgaa
open Go.RowKit Go.Lib

namespace Ar
def sep2 : ByteArray := ⟨#[47, 0]⟩
theorem okc_contains (c : UInt8) : okc c = !([47, 0] : List UInt8).contains c := by
  simp only [okc, List.contains_cons, List.contains_nil, Bool.or_false]
theorem any_all : ∀ l : List UInt8, (decide (0 ≤ Lib.indexAny l [47, 0])) = !(l.all okc)
  | [] => rfl
  | c :: r => by
    have ih := any_all r
    have hge := Lib.indexAny_ge [47, 0] r
    rw [List.all_cons, okc_contains, Lib.indexAny]
    cases hc : ([47, 0] : List UInt8).contains c
    · rw [Bool.not_false, Bool.true_and, ← ih]
      simp only [Bool.false_eq_true, if_false, beq_iff_eq]
      split
      · rename_i h; rw [h]
      · congr 1
        exact propext ⟨fun _ => by omega, fun _ => by omega⟩
    · simp
theorem high_no {x : UInt8} (h : 128 ≤ x.toNat) : ([47, 0] : List UInt8).contains x = false := by
  have a1 : x ≠ 47 := by intro e; subst e; simp at h
  have a2 : x ≠ 0 := by intro e; subst e; simp at h
  simp [a1, a2]
end Ar
set_option maxRecDepth 100000 in
set_option maxHeartbeats 2000000 in
theorem iany_short (s : ByteArray) (w : World) (h8 : s.size ≤ 8) :
    Calls Try.prog 54 #[.string s, .string Ar.sep2] w fun e w' => e = .returned (.int .i64 (Lib.indexAny s.data.toList [47, 0])) ∧ Below w.heap.size w w' := by
  obtain ⟨C, hC⟩ : ∃ C, C = Ar.sep2 := ⟨_, rfl⟩
  have hCs : C.size = 2 := by rw [hC]; rfl
  have c0 : (C[0]'(by omega)).toNat < 128 := by subst hC; show (47 : UInt8).toNat < 128; decide
  have c1 : (C[1]'(by omega)).toNat < 128 := by subst hC; show (0 : UInt8).toNat < 128; decide
  have hCl : Hid (C.data.toList = [47, 0]) := by subst hC; rfl
  have hemp : C.toList.isEmpty = false := by subst hC; rw [Lib.toList_data]; rfl
  rw [← hC]
  clear hC
  have hn1 : ((C.size : Int) == 1) = false := beq_eq_false_iff_ne.2 (by omega)
  have h8z : decide ((8 : Int) < (s.size : Int)) = false := decide_eq_false (by omega)
  have HR : Hid (∀ (r : Int) (wx : World), 128 ≤ r → r ≤ 2147483647 → Calls Try.prog 64 #[.string C, .int .i32 r] wx fun e w' => e = .returned (.int .i64 (-1)) ∧ Below wx.heap.size wx w') := fun r wx h1 h2 => irune_high C r wx hCs c0 c1 h1 h2
  have HR2 : Hid (∀ (x : UInt8) (wx : World), x.toNat < 128 → Calls Try.prog 64 #[.string C, .int .i32 x.toNat] wx fun e w' => e = .returned (.int .i64 (Lib.indexByte [47, 0] x)) ∧ w' = wx) := fun x wx hx => by
    have := Any.strings_IndexRune_ascii Try.lays152 C (x.toNat : Int) wx (by omega) (by omega)
    rw [show (((x.toNat : Int)).toNat.toUInt8) = x by simp, hCl.out] at this
    exact this
  clear c0 c1 hCs
  go_enter Try.func54, Try.ntmps54
  go_wp2_with (go_at_call 65; refine (Any.strings_shouldUseASCIISet Try.lays226 _ _).mono ?_; rintro e w' ⟨rfl, hw⟩; rw [hw, h8z])
  go_loopw [9, 10] (fun _ _ wr => ∃ i : Nat, Hid (Lib.NoAny s.data.toList [47, 0] i) ∧ wr.heap[w.heap.size]? = some (.stringIter s i) ∧ Hid (Below w.heap.size w wr)) (fun _ _ wr => s.size - wr.iterPos w.heap.size)
  case atStart => exact ⟨0, Lib.NoAny.zero _ _, heap_alloc_new _ _, alloc_below w _⟩
  case round =>
    obtain ⟨i, HN, hit, HB⟩ := hrel
    by_cases hi : i < s.size
    · by_cases ha : (s[i]'hi).toNat < 128
      · have hnx := fun ty => run_next_ascii_at (P := Try.prog) wr w.heap.size s i ty hit hi ha
        have hit2 : (wr.iterAt w.heap.size s (i + 1)).heap[w.heap.size]? = some (.stringIter s (i + 1)) := iterAt_heap _ _ _ _ _ hit
        have HB2 : Hid (Below w.heap.size w (wr.iterAt w.heap.size s (i + 1))) := below_iterAt HB.out (Nat.le_refl _) _ _
        have hxl : s.data.toList[i]? = some (s[i]'hi) := Lib.data_getElem? s i hi
        have hcon := Lib.contains_iff_indexByte [47, 0] (s[i]'hi)
        have HM : Hid (wr.iterPos w.heap.size = i) := iterPos_of hit
        generalize s[i]'hi = x at *
        have Hx : Hid (s.data.toList[i]? = some x) := hxl
        clear hxl
        cases hin : ([47, 0] : List UInt8).contains x
        · rw [hin] at hcon
          have hlt : ¬ ((0 : Int) ≤ Lib.indexByte [47, 0] x) := of_decide_eq_false hcon.symm
          clear hcon
          have HN2 : Hid (Lib.NoAny s.data.toList [47, 0] (i + 1)) := HN.out.succ Hx.out hin
          go_wp2_with (go_at_call 64; refine Calls.mono (HR2.out x _ ha) ?_; rintro e w' ⟨rfl, rfl⟩)
          go_roundw
          case rel => exact ⟨i + 1, HN2, hit2, HB2⟩
          case measure => rw [iterPos_of hit2, HM.out]; omega
        · rw [hin] at hcon
          have hge : (0 : Int) ≤ Lib.indexByte [47, 0] x := of_decide_eq_true hcon.symm
          clear hcon
          go_wp2_with (go_at_call 64; refine Calls.mono (HR2.out x _ ha) ?_; rintro e w' ⟨rfl, rfl⟩)
          go_ret
          exact ⟨by rw [Lib.indexAny_hit HN.out Hx.out hin]; rfl, HB2.out⟩
      · have hnx := fun ty => run_next_any_at (P := Try.prog) wr w.heap.size s i ty hit hi
        have hdec := decode_high s i hi (by omega)
        have hle := decode_le s i
        have HN2 : Hid (Lib.NoAny s.data.toList [47, 0] (i + (Utf8.decode s i).2)) := fun j b hj hb => by
          by_cases hji : j < i
          · exact HN.out j b hji hb
          · obtain ⟨hjs, hge⟩ := Ar.decode_cont s i hi (by omega) j (by omega) hj
            rw [Ar.get_bang s j hjs] at hge
            have : s.data.toList[j]? = some (s[j]'hjs) := Lib.data_getElem? s j hjs
            rw [hb] at this
            cases this
            exact Ar.high_no hge
        generalize hr : Utf8.decode s i = D at *
        obtain ⟨r, n⟩ := D
        have HD : Hid (Utf8.decode s i = (r, n)) := hr
        clear hr
        simp only at hnx hdec hle HN2
        have hit2 : (wr.iterAt w.heap.size s (i + n)).heap[w.heap.size]? = some (.stringIter s (i + n)) := iterAt_heap _ _ _ _ _ hit
        have HB2 : Hid (Below w.heap.size w (wr.iterAt w.heap.size s (i + n))) := below_iterAt HB.out (Nat.le_refl _) _ _
        have HM : Hid (wr.iterPos w.heap.size = i) := iterPos_of hit
        have hcall := HR.out (r : Int) (wr.iterAt w.heap.size s (i + n)) (by omega) (by omega)
        have HC : Hid _ := hcall
        clear hcall ha
        go_wp2_with (go_at_call 64; refine Calls.mono HC.out ?_; rintro e w5 ⟨rfl, hb5⟩)
        have hit5 : w5.heap[w.heap.size]? = some (.stringIter s (i + n)) := by rw [hb5.block _ (lt_of_block hit2)]; exact hit2
        have HB5 : Hid (Below w.heap.size w w5) := below_up HB2.out hb5 (Nat.le_refl _)
        go_roundw
        case rel => exact ⟨i + n, HN2, hit5, HB5⟩
        case measure => rw [iterPos_of hit5, HM.out]; omega
    · have hnx := fun ty => run_next_end_at (P := Try.prog) wr w.heap.size s i ty hit hi
      go_wp2_with fail
      go_ret
      exact ⟨by rw [Lib.indexAny_none (fun j b _ hb => HN.out j b (by have := (List.getElem?_eq_some_iff.1 hb).1; rw [← Lib.size_eq] at this; omega) hb)]; rfl, HB.out⟩
end Go.Proofs.Ytklcfjakhabbgaa
