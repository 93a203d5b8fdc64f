/- Plain: a value right behind its letter, in the next argument, behind a long name. -/
import Derived.Test.YtklcfjakhabbgaaArSh
import Derived.Test.YtklcfjakhabbgaaArLe
namespace Go.Proofs.Ytklcfjakhabbgaa
namespace Ar
/-- The letter and the long name of a piece. -/
def vLt (f : Bool) : ByteArray := if f then ⟨#[45, 102]⟩ else ⟨#[45, 101]⟩
def vNm (f : Bool) : ByteArray := if f then ⟨#[45, 45, 102, 105, 108, 101, 61]⟩ else ⟨#[45, 45, 101, 120, 112, 114, 101, 115, 115, 105, 111, 110, 61]⟩
def vX (f : Bool) (v : ByteArray) : Av := { av0' with sc := [(f, v)] }
theorem cut_expr (r : List UInt8) : cutEq (101 :: 120 :: 112 :: 114 :: 101 :: 115 :: 115 :: 105 :: 111 :: 110 :: 61 :: r) = ([101, 120, 112, 114, 101, 115, 115, 105, 111, 110], r, true) := by
  simp [cutEq]
theorem cut_file (r : List UInt8) : cutEq (102 :: 105 :: 108 :: 101 :: 61 :: r) = ([102, 105, 108, 101], r, true) := by
  simp [cutEq]
theorem goes_nm {L : List ByteArray} {a : Nat} {x : Av} {f : Bool} {v : ByteArray} {r : List ByteArray} (h : L.drop a = (vNm f ++ v) :: r) : Goes L a x (a + 1) { x with sc := x.sc ++ [(f, v)] } := by
  cases f
  · refine goes_opt (a' := a) h (l := 45 :: 101 :: 120 :: 112 :: 114 :: 101 :: 115 :: 115 :: 105 :: 111 :: 110 :: 61 :: v.data.toList) ?_ (by simp) (by simp) ?_ (Nat.le_refl _)
    · rw [ByteArray.data_append, Array.toList_append]; rfl
    · unfold optionF
      rw [if_pos List.head?_cons]
      unfold longF
      rw [show List.drop 1 (45 :: 101 :: 120 :: 112 :: 114 :: 101 :: 115 :: 115 :: 105 :: 111 :: 110 :: 61 :: v.data.toList) = 101 :: 120 :: 112 :: 114 :: 101 :: 115 :: 115 :: 105 :: 111 :: 110 :: 61 :: v.data.toList from rfl, cut_expr]
      dsimp only
      rw [show idxN (bs [101, 120, 112, 114, 101, 115, 115, 105, 111, 110]) = 3 from by decide, bs_data]
      rfl
  · refine goes_opt (a' := a) h (l := 45 :: 102 :: 105 :: 108 :: 101 :: 61 :: v.data.toList) ?_ (by simp) (by simp) ?_ (Nat.le_refl _)
    · rw [ByteArray.data_append, Array.toList_append]; rfl
    · unfold optionF
      rw [if_pos List.head?_cons]
      unfold longF
      rw [show List.drop 1 (45 :: 102 :: 105 :: 108 :: 101 :: 61 :: v.data.toList) = 102 :: 105 :: 108 :: 101 :: 61 :: v.data.toList from rfl, cut_file]
      dsimp only
      rw [show idxN (bs [102, 105, 108, 101]) = 4 from by decide, bs_data]
      rfl
theorem goes_lt {L : List ByteArray} {a : Nat} {x : Av} {f : Bool} {v : ByteArray} {r : List ByteArray} (hv : v.data.toList ≠ []) (h : L.drop a = (vLt f ++ v) :: r) : Goes L a x (a + 1) { x with sc := x.sc ++ [(f, v)] } := by
  cases f
  · refine goes_opt (a' := a) h (l := 101 :: v.data.toList) ?_ (by simp) (by simp) ?_ (Nat.le_refl _)
    · rw [ByteArray.data_append, Array.toList_append]; rfl
    · unfold optionF
      rw [if_neg (by simp), lettersF_here (by decide) (by decide) (Or.inl hv), bs_data]
      rfl
  · refine goes_opt (a' := a) h (l := 102 :: v.data.toList) ?_ (by simp) (by simp) ?_ (Nat.le_refl _)
    · rw [ByteArray.data_append, Array.toList_append]; rfl
    · unfold optionF
      rw [if_neg (by simp), lettersF_here (by decide) (by decide) (Or.inl hv), bs_data]
      rfl
theorem read_vl {f : Bool} {v : ByteArray} {R : List ByteArray} (hn : 2 + R.length ≤ 65536) : readF ([vLt f, v] ++ R) = rdB R (vX f v) 2 ∧ readF ([vNm f ++ v] ++ R) = rdB R (vX f v) 1 ∧ (v.data.toList ≠ [] → readF ([vLt f ++ v] ++ R) = rdB R (vX f v) 1) := by
  refine ⟨?_, ?_, fun hv => ?_⟩
  · refine read_behind (A := [vLt f, v]) (by simp only [List.length_cons, List.length_nil]; omega) ?_
    exact (goes_p (a := 0) (x := av0') (p := (f, v)) (r := R) (by cases f <;> rfl)).1
  · exact read_behind (A := [vNm f ++ v]) (by simp only [List.length_cons, List.length_nil]; omega) (goes_nm (r := R) rfl)
  · exact read_behind (A := [vLt f ++ v]) (by simp only [List.length_cons, List.length_nil]; omega) (goes_lt hv (r := R) rfl)
theorem rdB_err (R : List ByteArray) (x : Av) (m : Nat) : (rdB R x m).2.1 = 0 ∨ (rdB R x m).2.1 = 260 := by
  unfold rdB
  dsimp only
  split
  · split
    · exact .inl rfl
    · exact .inr rfl
  · exact .inr rfl
theorem rdB_le (R : List ByteArray) (x : Av) : (rdB R x 0).2.2 ≤ R.length := by
  unfold rdB
  dsimp only
  have h := opts_at R R.length 0 x (Nat.zero_le _)
  generalize optsF R R.length 0 x = y at *
  split
  · unfold operF
    split
    · split
      · exact Nat.zero_le _
      · show 0 + y.2.1 ≤ _; omega
    · exact Nat.zero_le _
  · show 0 + y.2.1 ≤ _; omega
end Ar
end Go.Proofs.Ytklcfjakhabbgaa
