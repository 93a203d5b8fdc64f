/- PathsOrder answers true for every three paths: the walk of the law over its callees' contracts. -/
import Derived.Test.YtjmfgffihkbnlacBegins
namespace Go.Proofs.Ytjmfgffihkbnlac
open Go.RowKit

theorem order_facts (p q r : List ByteArray) :
    (Pl.withinP p q = true → Pl.withinP q r = true → Pl.withinP p r = true) ∧
    (Pl.sameP p q = (Pl.withinP p q && Pl.withinP q p)) ∧ ((Pl.cmpP p q == 0) = (Pl.withinP p q && Pl.withinP q p)) ∧ (Pl.cmpP p q = - Pl.cmpP q p) ∧
    (Pl.withinP p q = true → ¬ 0 < Pl.cmpP q p) ∧ (¬ 0 < Pl.cmpP p q → ¬ 0 < Pl.cmpP q r → Pl.cmpP p r ≤ 0) := by
  have hw := Pl.within_iff
  have key : p = q ↔ (Pl.withinP p q && Pl.withinP q p) = true := by
    rw [Bool.and_eq_true, hw, hw]
    constructor
    · rintro rfl; exact ⟨⟨[], by simp⟩, ⟨[], by simp⟩⟩
    · rintro ⟨⟨a, h1⟩, ⟨b, h2⟩⟩
      have hl : a.length = 0 := by
        have e1 := congrArg List.length h1
        have e2 := congrArg List.length h2
        simp at e1 e2; omega
      rw [h1, List.eq_nil_of_length_eq_zero hl]; simp
  refine ⟨?_, ?_, ?_, ?_, ?_, ?_⟩
  · rw [hw, hw, hw]
    rintro ⟨a, rfl⟩ ⟨b, rfl⟩
    exact ⟨b ++ a, by simp⟩
  · rw [Bool.eq_iff_iff, Pl.same_iff]; exact key
  · rw [Bool.eq_iff_iff, ← key]; simpa using Pl.cmpP_cmp.eq p q
  · exact Pl.cmpP_cmp.neg p q
  · rw [hw]
    rintro ⟨a, rfl⟩
    have := Pl.cmpP_prefix q a
    omega
  · intro h1 h2
    exact Pl.cmpP_cmp.trans p q r (by omega) (by omega)

set_option maxHeartbeats 4000000 in
theorem order_any (ap aq ar : Option Addr) (cp cq cr : Nat) (p q r : List ByteArray) (w : World) (hp : Strs w ap cp p) (hq : Strs w aq cq q) (hr : Strs w ar cr r) :
    Calls Try.prog 8 #[.slice ap p.length cp, .slice aq q.length cq, .slice ar r.length cr] w fun e w' => e = .returned (.bool true) ∧ Below w.heap.size w w' := by
  have lp := hp.len
  have lq := hq.len
  have lr := hr.len
  obtain ⟨F1, F2, F3, F4, F5, F6⟩ := order_facts p q r
  have r1 := Pl.cmpP_cmp.rng p q
  have r2 := Pl.cmpP_cmp.rng q p
  have n1 : (Pl.cmpP p q != - Pl.cmpP q p) = false := by simpa using F4
  have hB : Below w.heap.size w w := Below.refl _ _
  have b1 : -1 ≤ Pl.cmpP q p := by omega
  have b2 : Pl.cmpP q p ≤ 1 := by omega
  clear r1 r2 F4
  cases e1 : Pl.withinP p q
  · rw [e1] at F2 F3
    simp only [Bool.false_and] at F2 F3
    clear F1 F5
    by_cases c1 : 0 < Pl.cmpP p q
    · clear F6
      go_enter Try.func8, Try.ntmps8
      go_wp2_with (first
        | (go_at_call 19; refine (begins_any _).mono ?_; rintro e w' ⟨rfl, hb⟩; replace hp := hp.below hb; replace hq := hq.below hb; replace hr := hr.below hb; replace hB := hB.trans (hb.mono hB.size); clear hb)
        | (go_at_call 10; refine (within_b _ _ _ _ _ _ _ (by assumption) (by assumption)).mono ?_; rintro e w' ⟨rfl, hb⟩; replace hp := hp.below hb; replace hq := hq.below hb; replace hr := hr.below hb; replace hB := hB.trans (hb.mono hB.size); clear hb)
        | (go_at_call 23; refine (same_b _ _ _ _ _ _ _ (by assumption) (by assumption)).mono ?_; rintro e w' ⟨rfl, hb⟩; replace hp := hp.below hb; replace hq := hq.below hb; replace hr := hr.below hb; replace hB := hB.trans (hb.mono hB.size); clear hb)
        | (go_at_call 12; refine (compare_any _ _ _ _ _ _ _ (by assumption) (by assumption)).mono ?_; rintro e w' ⟨rfl, rfl⟩))
      go_ret
      exact ⟨rfl, hB⟩
    · by_cases c2 : 0 < Pl.cmpP q r
      · clear F6
        go_enter Try.func8, Try.ntmps8
        go_wp2_with (first
          | (go_at_call 19; refine (begins_any _).mono ?_; rintro e w' ⟨rfl, hb⟩; replace hp := hp.below hb; replace hq := hq.below hb; replace hr := hr.below hb; replace hB := hB.trans (hb.mono hB.size); clear hb)
          | (go_at_call 10; refine (within_b _ _ _ _ _ _ _ (by assumption) (by assumption)).mono ?_; rintro e w' ⟨rfl, hb⟩; replace hp := hp.below hb; replace hq := hq.below hb; replace hr := hr.below hb; replace hB := hB.trans (hb.mono hB.size); clear hb)
          | (go_at_call 23; refine (same_b _ _ _ _ _ _ _ (by assumption) (by assumption)).mono ?_; rintro e w' ⟨rfl, hb⟩; replace hp := hp.below hb; replace hq := hq.below hb; replace hr := hr.below hb; replace hB := hB.trans (hb.mono hB.size); clear hb)
          | (go_at_call 12; refine (compare_any _ _ _ _ _ _ _ (by assumption) (by assumption)).mono ?_; rintro e w' ⟨rfl, rfl⟩))
        go_ret
        exact ⟨rfl, hB⟩
      · have c3 : Pl.cmpP p r ≤ 0 := F6 c1 c2
        clear F6
        go_enter Try.func8, Try.ntmps8
        go_wp2_with (first
          | (go_at_call 19; refine (begins_any _).mono ?_; rintro e w' ⟨rfl, hb⟩; replace hp := hp.below hb; replace hq := hq.below hb; replace hr := hr.below hb; replace hB := hB.trans (hb.mono hB.size); clear hb)
          | (go_at_call 10; refine (within_b _ _ _ _ _ _ _ (by assumption) (by assumption)).mono ?_; rintro e w' ⟨rfl, hb⟩; replace hp := hp.below hb; replace hq := hq.below hb; replace hr := hr.below hb; replace hB := hB.trans (hb.mono hB.size); clear hb)
          | (go_at_call 23; refine (same_b _ _ _ _ _ _ _ (by assumption) (by assumption)).mono ?_; rintro e w' ⟨rfl, hb⟩; replace hp := hp.below hb; replace hq := hq.below hb; replace hr := hr.below hb; replace hB := hB.trans (hb.mono hB.size); clear hb)
          | (go_at_call 12; refine (compare_any _ _ _ _ _ _ _ (by assumption) (by assumption)).mono ?_; rintro e w' ⟨rfl, rfl⟩))
        go_ret
        exact ⟨rfl, hB⟩
  · have F5' := F5 e1
    rw [e1] at F2 F3
    simp only [Bool.true_and] at F2 F3
    clear F5
    cases e2 : Pl.withinP q r
    · clear F1
      cases e3 : Pl.withinP q p
      · rw [e3] at F2 F3
        by_cases c1 : 0 < Pl.cmpP p q
        · clear F6
          go_enter Try.func8, Try.ntmps8
          go_wp2_with (first
            | (go_at_call 19; refine (begins_any _).mono ?_; rintro e w' ⟨rfl, hb⟩; replace hp := hp.below hb; replace hq := hq.below hb; replace hr := hr.below hb; replace hB := hB.trans (hb.mono hB.size); clear hb)
            | (go_at_call 10; refine (within_b _ _ _ _ _ _ _ (by assumption) (by assumption)).mono ?_; rintro e w' ⟨rfl, hb⟩; replace hp := hp.below hb; replace hq := hq.below hb; replace hr := hr.below hb; replace hB := hB.trans (hb.mono hB.size); clear hb)
            | (go_at_call 23; refine (same_b _ _ _ _ _ _ _ (by assumption) (by assumption)).mono ?_; rintro e w' ⟨rfl, hb⟩; replace hp := hp.below hb; replace hq := hq.below hb; replace hr := hr.below hb; replace hB := hB.trans (hb.mono hB.size); clear hb)
            | (go_at_call 12; refine (compare_any _ _ _ _ _ _ _ (by assumption) (by assumption)).mono ?_; rintro e w' ⟨rfl, rfl⟩))
          go_ret
          exact ⟨rfl, hB⟩
        · by_cases c2 : 0 < Pl.cmpP q r
          · clear F6
            go_enter Try.func8, Try.ntmps8
            go_wp2_with (first
              | (go_at_call 19; refine (begins_any _).mono ?_; rintro e w' ⟨rfl, hb⟩; replace hp := hp.below hb; replace hq := hq.below hb; replace hr := hr.below hb; replace hB := hB.trans (hb.mono hB.size); clear hb)
              | (go_at_call 10; refine (within_b _ _ _ _ _ _ _ (by assumption) (by assumption)).mono ?_; rintro e w' ⟨rfl, hb⟩; replace hp := hp.below hb; replace hq := hq.below hb; replace hr := hr.below hb; replace hB := hB.trans (hb.mono hB.size); clear hb)
              | (go_at_call 23; refine (same_b _ _ _ _ _ _ _ (by assumption) (by assumption)).mono ?_; rintro e w' ⟨rfl, hb⟩; replace hp := hp.below hb; replace hq := hq.below hb; replace hr := hr.below hb; replace hB := hB.trans (hb.mono hB.size); clear hb)
              | (go_at_call 12; refine (compare_any _ _ _ _ _ _ _ (by assumption) (by assumption)).mono ?_; rintro e w' ⟨rfl, rfl⟩))
            go_ret
            exact ⟨rfl, hB⟩
          · have c3 : Pl.cmpP p r ≤ 0 := F6 c1 c2
            clear F6
            go_enter Try.func8, Try.ntmps8
            go_wp2_with (first
              | (go_at_call 19; refine (begins_any _).mono ?_; rintro e w' ⟨rfl, hb⟩; replace hp := hp.below hb; replace hq := hq.below hb; replace hr := hr.below hb; replace hB := hB.trans (hb.mono hB.size); clear hb)
              | (go_at_call 10; refine (within_b _ _ _ _ _ _ _ (by assumption) (by assumption)).mono ?_; rintro e w' ⟨rfl, hb⟩; replace hp := hp.below hb; replace hq := hq.below hb; replace hr := hr.below hb; replace hB := hB.trans (hb.mono hB.size); clear hb)
              | (go_at_call 23; refine (same_b _ _ _ _ _ _ _ (by assumption) (by assumption)).mono ?_; rintro e w' ⟨rfl, hb⟩; replace hp := hp.below hb; replace hq := hq.below hb; replace hr := hr.below hb; replace hB := hB.trans (hb.mono hB.size); clear hb)
              | (go_at_call 12; refine (compare_any _ _ _ _ _ _ _ (by assumption) (by assumption)).mono ?_; rintro e w' ⟨rfl, rfl⟩))
            go_ret
            exact ⟨rfl, hB⟩
      · rw [e3] at F2 F3
        by_cases c1 : 0 < Pl.cmpP p q
        · clear F6
          go_enter Try.func8, Try.ntmps8
          go_wp2_with (first
            | (go_at_call 19; refine (begins_any _).mono ?_; rintro e w' ⟨rfl, hb⟩; replace hp := hp.below hb; replace hq := hq.below hb; replace hr := hr.below hb; replace hB := hB.trans (hb.mono hB.size); clear hb)
            | (go_at_call 10; refine (within_b _ _ _ _ _ _ _ (by assumption) (by assumption)).mono ?_; rintro e w' ⟨rfl, hb⟩; replace hp := hp.below hb; replace hq := hq.below hb; replace hr := hr.below hb; replace hB := hB.trans (hb.mono hB.size); clear hb)
            | (go_at_call 23; refine (same_b _ _ _ _ _ _ _ (by assumption) (by assumption)).mono ?_; rintro e w' ⟨rfl, hb⟩; replace hp := hp.below hb; replace hq := hq.below hb; replace hr := hr.below hb; replace hB := hB.trans (hb.mono hB.size); clear hb)
            | (go_at_call 12; refine (compare_any _ _ _ _ _ _ _ (by assumption) (by assumption)).mono ?_; rintro e w' ⟨rfl, rfl⟩))
          go_ret
          exact ⟨rfl, hB⟩
        · by_cases c2 : 0 < Pl.cmpP q r
          · clear F6
            go_enter Try.func8, Try.ntmps8
            go_wp2_with (first
              | (go_at_call 19; refine (begins_any _).mono ?_; rintro e w' ⟨rfl, hb⟩; replace hp := hp.below hb; replace hq := hq.below hb; replace hr := hr.below hb; replace hB := hB.trans (hb.mono hB.size); clear hb)
              | (go_at_call 10; refine (within_b _ _ _ _ _ _ _ (by assumption) (by assumption)).mono ?_; rintro e w' ⟨rfl, hb⟩; replace hp := hp.below hb; replace hq := hq.below hb; replace hr := hr.below hb; replace hB := hB.trans (hb.mono hB.size); clear hb)
              | (go_at_call 23; refine (same_b _ _ _ _ _ _ _ (by assumption) (by assumption)).mono ?_; rintro e w' ⟨rfl, hb⟩; replace hp := hp.below hb; replace hq := hq.below hb; replace hr := hr.below hb; replace hB := hB.trans (hb.mono hB.size); clear hb)
              | (go_at_call 12; refine (compare_any _ _ _ _ _ _ _ (by assumption) (by assumption)).mono ?_; rintro e w' ⟨rfl, rfl⟩))
            go_ret
            exact ⟨rfl, hB⟩
          · have c3 : Pl.cmpP p r ≤ 0 := F6 c1 c2
            clear F6
            go_enter Try.func8, Try.ntmps8
            go_wp2_with (first
              | (go_at_call 19; refine (begins_any _).mono ?_; rintro e w' ⟨rfl, hb⟩; replace hp := hp.below hb; replace hq := hq.below hb; replace hr := hr.below hb; replace hB := hB.trans (hb.mono hB.size); clear hb)
              | (go_at_call 10; refine (within_b _ _ _ _ _ _ _ (by assumption) (by assumption)).mono ?_; rintro e w' ⟨rfl, hb⟩; replace hp := hp.below hb; replace hq := hq.below hb; replace hr := hr.below hb; replace hB := hB.trans (hb.mono hB.size); clear hb)
              | (go_at_call 23; refine (same_b _ _ _ _ _ _ _ (by assumption) (by assumption)).mono ?_; rintro e w' ⟨rfl, hb⟩; replace hp := hp.below hb; replace hq := hq.below hb; replace hr := hr.below hb; replace hB := hB.trans (hb.mono hB.size); clear hb)
              | (go_at_call 12; refine (compare_any _ _ _ _ _ _ _ (by assumption) (by assumption)).mono ?_; rintro e w' ⟨rfl, rfl⟩))
            go_ret
            exact ⟨rfl, hB⟩
    · have F1' := F1 e1 e2
      clear F1
      cases e3 : Pl.withinP q p
      · rw [e3] at F2 F3
        by_cases c1 : 0 < Pl.cmpP p q
        · clear F6
          go_enter Try.func8, Try.ntmps8
          go_wp2_with (first
            | (go_at_call 19; refine (begins_any _).mono ?_; rintro e w' ⟨rfl, hb⟩; replace hp := hp.below hb; replace hq := hq.below hb; replace hr := hr.below hb; replace hB := hB.trans (hb.mono hB.size); clear hb)
            | (go_at_call 10; refine (within_b _ _ _ _ _ _ _ (by assumption) (by assumption)).mono ?_; rintro e w' ⟨rfl, hb⟩; replace hp := hp.below hb; replace hq := hq.below hb; replace hr := hr.below hb; replace hB := hB.trans (hb.mono hB.size); clear hb)
            | (go_at_call 23; refine (same_b _ _ _ _ _ _ _ (by assumption) (by assumption)).mono ?_; rintro e w' ⟨rfl, hb⟩; replace hp := hp.below hb; replace hq := hq.below hb; replace hr := hr.below hb; replace hB := hB.trans (hb.mono hB.size); clear hb)
            | (go_at_call 12; refine (compare_any _ _ _ _ _ _ _ (by assumption) (by assumption)).mono ?_; rintro e w' ⟨rfl, rfl⟩))
          go_ret
          exact ⟨rfl, hB⟩
        · by_cases c2 : 0 < Pl.cmpP q r
          · clear F6
            go_enter Try.func8, Try.ntmps8
            go_wp2_with (first
              | (go_at_call 19; refine (begins_any _).mono ?_; rintro e w' ⟨rfl, hb⟩; replace hp := hp.below hb; replace hq := hq.below hb; replace hr := hr.below hb; replace hB := hB.trans (hb.mono hB.size); clear hb)
              | (go_at_call 10; refine (within_b _ _ _ _ _ _ _ (by assumption) (by assumption)).mono ?_; rintro e w' ⟨rfl, hb⟩; replace hp := hp.below hb; replace hq := hq.below hb; replace hr := hr.below hb; replace hB := hB.trans (hb.mono hB.size); clear hb)
              | (go_at_call 23; refine (same_b _ _ _ _ _ _ _ (by assumption) (by assumption)).mono ?_; rintro e w' ⟨rfl, hb⟩; replace hp := hp.below hb; replace hq := hq.below hb; replace hr := hr.below hb; replace hB := hB.trans (hb.mono hB.size); clear hb)
              | (go_at_call 12; refine (compare_any _ _ _ _ _ _ _ (by assumption) (by assumption)).mono ?_; rintro e w' ⟨rfl, rfl⟩))
            go_ret
            exact ⟨rfl, hB⟩
          · have c3 : Pl.cmpP p r ≤ 0 := F6 c1 c2
            clear F6
            go_enter Try.func8, Try.ntmps8
            go_wp2_with (first
              | (go_at_call 19; refine (begins_any _).mono ?_; rintro e w' ⟨rfl, hb⟩; replace hp := hp.below hb; replace hq := hq.below hb; replace hr := hr.below hb; replace hB := hB.trans (hb.mono hB.size); clear hb)
              | (go_at_call 10; refine (within_b _ _ _ _ _ _ _ (by assumption) (by assumption)).mono ?_; rintro e w' ⟨rfl, hb⟩; replace hp := hp.below hb; replace hq := hq.below hb; replace hr := hr.below hb; replace hB := hB.trans (hb.mono hB.size); clear hb)
              | (go_at_call 23; refine (same_b _ _ _ _ _ _ _ (by assumption) (by assumption)).mono ?_; rintro e w' ⟨rfl, hb⟩; replace hp := hp.below hb; replace hq := hq.below hb; replace hr := hr.below hb; replace hB := hB.trans (hb.mono hB.size); clear hb)
              | (go_at_call 12; refine (compare_any _ _ _ _ _ _ _ (by assumption) (by assumption)).mono ?_; rintro e w' ⟨rfl, rfl⟩))
            go_ret
            exact ⟨rfl, hB⟩
      · rw [e3] at F2 F3
        by_cases c1 : 0 < Pl.cmpP p q
        · clear F6
          go_enter Try.func8, Try.ntmps8
          go_wp2_with (first
            | (go_at_call 19; refine (begins_any _).mono ?_; rintro e w' ⟨rfl, hb⟩; replace hp := hp.below hb; replace hq := hq.below hb; replace hr := hr.below hb; replace hB := hB.trans (hb.mono hB.size); clear hb)
            | (go_at_call 10; refine (within_b _ _ _ _ _ _ _ (by assumption) (by assumption)).mono ?_; rintro e w' ⟨rfl, hb⟩; replace hp := hp.below hb; replace hq := hq.below hb; replace hr := hr.below hb; replace hB := hB.trans (hb.mono hB.size); clear hb)
            | (go_at_call 23; refine (same_b _ _ _ _ _ _ _ (by assumption) (by assumption)).mono ?_; rintro e w' ⟨rfl, hb⟩; replace hp := hp.below hb; replace hq := hq.below hb; replace hr := hr.below hb; replace hB := hB.trans (hb.mono hB.size); clear hb)
            | (go_at_call 12; refine (compare_any _ _ _ _ _ _ _ (by assumption) (by assumption)).mono ?_; rintro e w' ⟨rfl, rfl⟩))
          go_ret
          exact ⟨rfl, hB⟩
        · by_cases c2 : 0 < Pl.cmpP q r
          · clear F6
            go_enter Try.func8, Try.ntmps8
            go_wp2_with (first
              | (go_at_call 19; refine (begins_any _).mono ?_; rintro e w' ⟨rfl, hb⟩; replace hp := hp.below hb; replace hq := hq.below hb; replace hr := hr.below hb; replace hB := hB.trans (hb.mono hB.size); clear hb)
              | (go_at_call 10; refine (within_b _ _ _ _ _ _ _ (by assumption) (by assumption)).mono ?_; rintro e w' ⟨rfl, hb⟩; replace hp := hp.below hb; replace hq := hq.below hb; replace hr := hr.below hb; replace hB := hB.trans (hb.mono hB.size); clear hb)
              | (go_at_call 23; refine (same_b _ _ _ _ _ _ _ (by assumption) (by assumption)).mono ?_; rintro e w' ⟨rfl, hb⟩; replace hp := hp.below hb; replace hq := hq.below hb; replace hr := hr.below hb; replace hB := hB.trans (hb.mono hB.size); clear hb)
              | (go_at_call 12; refine (compare_any _ _ _ _ _ _ _ (by assumption) (by assumption)).mono ?_; rintro e w' ⟨rfl, rfl⟩))
            go_ret
            exact ⟨rfl, hB⟩
          · have c3 : Pl.cmpP p r ≤ 0 := F6 c1 c2
            clear F6
            go_enter Try.func8, Try.ntmps8
            go_wp2_with (first
              | (go_at_call 19; refine (begins_any _).mono ?_; rintro e w' ⟨rfl, hb⟩; replace hp := hp.below hb; replace hq := hq.below hb; replace hr := hr.below hb; replace hB := hB.trans (hb.mono hB.size); clear hb)
              | (go_at_call 10; refine (within_b _ _ _ _ _ _ _ (by assumption) (by assumption)).mono ?_; rintro e w' ⟨rfl, hb⟩; replace hp := hp.below hb; replace hq := hq.below hb; replace hr := hr.below hb; replace hB := hB.trans (hb.mono hB.size); clear hb)
              | (go_at_call 23; refine (same_b _ _ _ _ _ _ _ (by assumption) (by assumption)).mono ?_; rintro e w' ⟨rfl, hb⟩; replace hp := hp.below hb; replace hq := hq.below hb; replace hr := hr.below hb; replace hB := hB.trans (hb.mono hB.size); clear hb)
              | (go_at_call 12; refine (compare_any _ _ _ _ _ _ _ (by assumption) (by assumption)).mono ?_; rintro e w' ⟨rfl, rfl⟩))
            go_ret
            exact ⟨rfl, hB⟩
end Go.Proofs.Ytjmfgffihkbnlac
