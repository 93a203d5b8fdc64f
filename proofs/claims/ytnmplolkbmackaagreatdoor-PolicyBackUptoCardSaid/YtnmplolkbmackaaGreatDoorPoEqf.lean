/- What slices.EqualFunc answers of two lists of paths, and policy.samePaths. -/
import Derived.Test.YtnmplolkbmackaaGreatDoorPoSame
namespace Go.Proofs.YtnmplolkbmackaaGreatDoor
open Go.RowKit

namespace Pl
theorem cmp_dec (p q : List ByteArray) : (cmpP p q == 0) = decide (p = q) := by
  by_cases h : p = q
  · subst h
    rw [decide_eq_true rfl, beq_iff_eq]
    exact (cmpP_cmp.eq p p).2 rfl
  · rw [decide_eq_false h]
    exact beq_eq_false_iff_ne.2 fun e => h ((cmpP_cmp.eq p q).1 e)
end Pl

theorem eqclo_any (a1 a2 : Option Addr) (c1 c2 : Nat) (p q : List ByteArray) (w : World) (h1 : Strs w a1 c1 p) (h2 : Strs w a2 c2 q) :
    Calls Tryz.prog 67 #[.slice a1 p.length c1, .slice a2 q.length c2] w fun e w' => e = .returned (.bool (decide (p = q))) ∧ w = w' := by
  have hl1 := h1.len
  have hl2 := h2.len
  have HD : Hid ((Pl.cmpP p q == 0) = decide (p = q)) := Pl.cmp_dec p q
  go_enter Tryz.func67, Tryz.ntmps67
  go_wp2_with (go_at_call 58; refine (compare_any _ _ _ _ p q _ h1 h2).mono ?_; rintro e w' ⟨rfl, rfl⟩)
  go_ret
  exact ⟨by rw [← HD.out]; rfl, rfl⟩

set_option maxRecDepth 100000 in
set_option maxHeartbeats 1000000 in
theorem eqf_any (a1 a2 : Option Addr) (c1 c2 : Nat) (l1 l2 : List (List ByteArray)) (w : World) (h1 : Pts w a1 c1 l1) (h2 : Pts w a2 c2 l2) :
    Calls Tryz.prog 66 #[.slice a1 l1.length c1, .slice a2 l2.length c2, .func (.func 67) #[] #[]] w fun e w' => e = .returned (.bool (decide (l1 = l2))) ∧ Below w.heap.size w w' := by
  have hl1 := h1.len
  have hl2 := h2.len
  by_cases hn : l1.length = l2.length
  · have HN : Hid (l1.length = l2.length) := hn
    have hq : ((l1.length : Int) != (l2.length : Int)) = false := by simp [hn]
    clear hn
    go_enter Tryz.func66, Tryz.ntmps66
    go_wp2_with fail
    go_loopw [17] (fun i wr => ∃ k : Nat, k ≤ l1.length ∧ i = .int .i64 k ∧ Hid (l1.take k = l2.take k) ∧ Below w.heap.size w wr) (fun i _ => l1.length - (intOf i).toNat)
    case atStart => exact ⟨0, Nat.zero_le _, rfl, rfl, Below.refl _ _⟩
    case round =>
      obtain ⟨k, hk, rfl, HK, hnx⟩ := hrel
      have hsz := hnx.size
      by_cases hlt : k < l1.length
      · have hlt2 : k < l2.length := by have := HN.out; omega
        obtain ⟨b1, o1, x1, d1, rfl, hb1, e1, s1⟩ := (h1.below hnx).cells k hlt
        obtain ⟨b2, o2, x2, d2, rfl, hb2, e2, s2⟩ := (h2.below hnx).cells k hlt2
        have i1 : (k : Int) < (l1.length : Int) := by omega
        have i2 : (k : Int) < (l2.length : Int) := by omega
        have HS : Hid (l1[k]'hlt = l2[k]'hlt2 → l1.take (k + 1) = l2.take (k + 1)) := fun e => by
          rw [List.take_succ_eq_append_getElem hlt, List.take_succ_eq_append_getElem hlt2, HK.out, e]
        have HD : Hid (l1[k]'hlt ≠ l2[k]'hlt2 → ¬ l1 = l2) := fun e q => e (by subst q; rfl)
        have y1 := s1.len
        have y2 := s2.len
        generalize l1[k]'hlt = p at *
        generalize l2[k]'hlt2 = q at *
        have hsm := eqclo_any _ _ _ _ p q wr s1 s2
        cases hpq : decide (p = q)
        · have hne : Hid (decide (l1 = l2) = false) := decide_eq_false (HD.out (of_decide_eq_false hpq))
          rw [hpq] at hsm
          clear hpq
          go_wp2_with fail
          refine hsm.mono ?_
          rintro e w2 ⟨rfl, rfl⟩
          go_wp2_with fail
          go_ret
          rw [hne.out]
          exact ⟨rfl, hnx⟩
        · have HE : Hid (l1.take (k + 1) = l2.take (k + 1)) := HS.out (of_decide_eq_true hpq)
          rw [hpq] at hsm
          clear hpq
          go_wp2_with fail
          refine hsm.mono ?_
          rintro e w2 ⟨rfl, rfl⟩
          go_wp2_with fail
          go_roundw
          case rel => exact ⟨k + 1, by omega, by go_num, HE, hnx⟩
          case measure => simp [intOf]; omega
      · have i1 : ¬ (k : Int) < (l1.length : Int) := by omega
        have HE : Hid (decide (l1 = l2) = true) := decide_eq_true (by
          have := HK.out
          have hh := HN.out
          rwa [List.take_of_length_le (by omega), List.take_of_length_le (by omega)] at this)
        go_wp2_with fail
        go_ret
        rw [HE.out]
        exact ⟨rfl, hnx⟩
  · have hq : ((l1.length : Int) != (l2.length : Int)) = true := by simp; omega
    have HE : Hid (decide (l1 = l2) = false) := decide_eq_false fun e => hn (by rw [e])
    go_enter Tryz.func66, Tryz.ntmps66
    go_wp2_with fail
    go_ret
    rw [HE.out]
    exact ⟨rfl, Below.refl _ _⟩
end Go.Proofs.YtnmplolkbmackaaGreatDoor
