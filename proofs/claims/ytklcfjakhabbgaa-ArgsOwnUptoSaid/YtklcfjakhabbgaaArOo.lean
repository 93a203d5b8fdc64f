/- What (*reading).option does: what an argument has behind its first byte. -/
import Derived.Test.YtklcfjakhabbgaaArLe
import Derived.Test.YtklcfjakhabbgaaArLo
namespace Go.Proofs.Ytklcfjakhabbgaa
open Go.RowKit

namespace Ar
def dashB (l : List UInt8) : Bool := decide (l.head? = some 45)
def dashR (l : List UInt8) : List UInt8 := if dashB l then l.drop 1 else l
theorem dash_pre : ∀ l : List UInt8, Lib.hasPrefix l [45] = dashB l
  | [] => rfl
  | c :: r => by
    show ((45 : UInt8) == c && List.isPrefixOf [] r) = decide (some c = some 45)
    rw [show List.isPrefixOf [] r = true by cases r <;> rfl, Bool.and_true]
    by_cases h : c = 45
    · subst h; rfl
    · rw [beq_eq_false_iff_ne.2 (Ne.symm h), decide_eq_false (by intro q; exact h (Option.some.inj q))]
theorem dash_trim (l : List UInt8) : Lib.trimPrefix l [45] = dashR l := by
  unfold Lib.trimPrefix dashR
  rw [dash_pre]
  rfl
end Ar
theorem cutP_any (s : ByteArray) (w : World) : Calls Try.prog 41 #[.string s, .string ⟨#[45]⟩] w fun e w' => e = .returned (.tuple #[.string (Ar.bs (Ar.dashR s.data.toList)), .bool (Ar.dashB s.data.toList)]) ∧ w' = w := by
  refine (Any.strings_CutPrefix Try.lays103 s ⟨#[45]⟩ w).mono ?_
  rintro e w' ⟨rfl, rfl⟩
  refine ⟨?_, rfl⟩
  rw [← Ar.dash_trim, ← Ar.dash_pre]; rfl
theorem dashR_size (s : ByteArray) : (Ar.bs (Ar.dashR s.data.toList)).size ≤ s.size := by
  rw [Ar.bs_size, ← Ar.szL]
  unfold Ar.dashR
  split
  · simp
  · exact Nat.le_refl _

set_option maxRecDepth 100000 in
set_option maxHeartbeats 1000000 in
theorem option_any {w0 W : World} {n0 g B : Nat} {al : Option Addr} {cl : Nat} {L : List ByteArray} {at' : Nat} {x : Ar.Av} {vs vn : Value} (h : RdM w0 n0 g B al cl L at' x vs vn W) (s : ByteArray) (hs : s.size ≤ 2097152) (hat : at' < L.length) (hsc : x.sc.length ≤ 131072) (hm : ∃ m, w0.cell? ⟨0, 0, none⟩ = some (.int .i64 m)) (hg0 : 0 < n0) :
    Calls Try.prog 42 #[.pointer (some ⟨g, 0, none⟩), .string s] W fun e w' => e = .returned (.bool (Ar.optionF L s.data.toList at' x).1) ∧ ∃ vs', RdM w0 n0 g B al cl L (Ar.optionF L s.data.toList at' x).2.1 (Ar.optionF L s.data.toList at' x).2.2 vs' vn w' := by
  obtain ⟨Y, hY⟩ : ∃ Y, Y = Ar.optionF L s.data.toList at' x := ⟨_, rfl⟩
  have HY : Hid _ := hY
  rw [← hY]
  clear hY
  have HC : Hid _ := cutP_any s W
  have hz := dashR_size s
  have HL : Hid _ := long_any h (Ar.bs (Ar.dashR s.data.toList)) (by omega) hsc hm hg0
  have HE : Hid _ := letters_any h s hs hat hsc
  clear hm hg0 h
  rw [Ar.data_bs] at HL
  unfold Ar.optionF at HY
  cases hd : Ar.dashB s.data.toList
  · have h1 : ¬ s.data.toList.head? = some 45 := by simpa [Ar.dashB] using hd
    rw [if_neg h1] at HY
    rw [hd] at HC
    generalize Ar.dashR s.data.toList = R at *
    rw [← HY.out] at HE
    clear HL hd h1 hz HY
    go_enter Try.func42, Try.ntmps42
    go_upto_region 3 with (go_at_call 41; refine Calls.mono HC.out ?_; rintro e w1 ⟨rfl, rfl⟩)
    refine Calls.mono HE.out ?_
    rintro e w2 ⟨rfl, vs2, hr2⟩
    have HR : Hid _ := hr2
    clear hr2
    go_wp2_with fail
    go_ret
    exact ⟨rfl, vs2, HR.out⟩
  · have h1 : s.data.toList.head? = some 45 := by simpa [Ar.dashB] using hd
    have h2 : Ar.dashR s.data.toList = s.data.toList.drop 1 := by unfold Ar.dashR; rw [hd]; rfl
    rw [if_pos h1, ← h2] at HY
    rw [hd] at HC
    generalize Ar.dashR s.data.toList = R at *
    rw [← HY.out] at HL
    clear HE hd h1 hz HY h2
    go_enter Try.func42, Try.ntmps42
    go_upto_region 2 with (go_at_call 41; refine Calls.mono HC.out ?_; rintro e w1 ⟨rfl, rfl⟩)
    go_wp2_with fail
    refine Calls.mono HL.out ?_
    rintro e w2 ⟨rfl, vs2, hr2⟩
    have HR : Hid _ := hr2
    clear hr2
    go_wp2_with fail
    go_ret
    exact ⟨rfl, vs2, HR.out⟩
end Go.Proofs.Ytklcfjakhabbgaa
