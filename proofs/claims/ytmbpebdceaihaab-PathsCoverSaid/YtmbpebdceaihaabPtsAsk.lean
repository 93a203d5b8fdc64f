/- What the reference's Within, Compare and Alike, and both Insides answer. -/
import Derived.Test.YtmbpebdceaihaabPts
import Derived.Test.YtmbpebdceaihaabOrder
namespace Go.Proofs.Ytmbpebdceaihaab
open Go.RowKit

namespace Pl
theorem com_drop : ∀ a b : List ByteArray, cmpP a b = cmpP (a.drop (com a b)) (b.drop (com a b))
  | [], b => by simp [com_nil_left]
  | _ :: _, [] => by simp [com_nil_right]
  | x :: r, y :: t => by
    have ih := com_drop r t
    by_cases h : (x.toList == y.toList) = true
    · have e : com (x :: r) (y :: t) = com r t + 1 := by simp only [com, h, if_true]; omega
      rw [e, List.drop_succ_cons, List.drop_succ_cons, ← ih]
      simp only [cmpP, lex, cmpS_eq h, if_true]
    · have e : com (x :: r) (y :: t) = 0 := by simp only [com]; rw [if_neg h]
      rw [e]; rfl
theorem com_part : ∀ (a b : List ByteArray) (h1 : com a b < a.length) (h2 : com a b < b.length), ((a[com a b]'h1).toList == (b[com a b]'h2).toList) = false
  | [], _, h1, _ => absurd h1 (by simp)
  | _ :: _, [], _, h2 => absurd h2 (by simp)
  | x :: r, y :: t, h1, h2 => by
    by_cases h : (x.toList == y.toList) = true
    · have e : com (x :: r) (y :: t) = com r t + 1 := by simp only [com, h, if_true]; omega
      have ih := com_part r t (by rw [e] at h1; simpa using h1) (by rw [e] at h2; simpa using h2)
      simp only [e, List.getElem_cons_succ]
      exact ih
    · have e : com (x :: r) (y :: t) = 0 := by simp only [com]; rw [if_neg h]
      simp only [e, List.getElem_cons_zero]
      simpa using h
def insideB (l : List (List ByteArray)) (p : List ByteArray) : Bool := l.any fun q => withinP p q
theorem inside_step {l : List (List ByteArray)} {p : List ByteArray} {k : Nat} (hk : k < l.length) (h : withinP p (l[k]'hk) = false) : insideB (l.drop k) p = insideB (l.drop (k + 1)) p := by
  rw [List.drop_eq_getElem_cons hk, insideB, List.any_cons, h]; rfl
theorem inside_hit {l : List (List ByteArray)} {p : List ByteArray} {k : Nat} (hk : k < l.length) (h : withinP p (l[k]'hk) = true) : insideB (l.drop k) p = true := by
  rw [List.drop_eq_getElem_cons hk, insideB, List.any_cons, h]; rfl
end Pl

set_option maxRecDepth 100000 in
set_option maxHeartbeats 400000 in
theorem rwithin_q (a1 a2 : Option Addr) (c1 c2 : Nat) (l1 l2 : List ByteArray) (w : World) (h1 : Strs w a1 c1 l1) (h2 : Strs w a2 c2 l2) :
    Calls Try.prog 7 #[.slice a1 l1.length c1, .slice a2 l2.length c2] w fun e w' => e = .returned (.bool (Pl.withinP l1 l2)) ∧ ∃ n, w' = w.drewN n := by
  have hl1 := h1.len
  have hl2 := h2.len
  by_cases hq : l2.length ≤ l1.length
  · have hq' : (l2.length : Int) ≤ (l1.length : Int) := by omega
    clear hq
    go_enter Try.func7, Try.ntmps7
    go_wp2_with (go_at_call 18; refine (both_any _ _ _ _ l1 l2 _ h1 h2).mono ?_; rintro e w' ⟨rfl, n, rfl⟩)
    go_ret
    exact ⟨rfl, n, rfl⟩
  · have HE : Hid (Pl.withinP l1 l2 = false) := by
      have := (Pl.com_le l1 l2).2
      show _ = _
      simp only [Pl.withinP, beq_eq_false_iff_ne]
      omega
    have hq' : ¬ (l2.length : Int) ≤ (l1.length : Int) := by omega
    clear hq
    go_enter Try.func7, Try.ntmps7
    go_wp2_with fail
    go_ret
    exact ⟨ret_bool HE.out.symm, 0, rfl⟩

set_option maxRecDepth 100000 in
set_option maxHeartbeats 800000 in
theorem rcompare_q (a1 a2 : Option Addr) (c1 c2 : Nat) (l1 l2 : List ByteArray) (w : World) (h1 : Strs w a1 c1 l1) (h2 : Strs w a2 c2 l2) :
    Calls Try.prog 9 #[.slice a1 l1.length c1, .slice a2 l2.length c2] w fun e w' => e = .returned (.int .i64 (Pl.cmpP l1 l2)) ∧ ∃ n, w' = w.drewN n := by
  have hl1 := h1.len
  have hl2 := h2.len
  have hb := both_any _ _ _ _ l1 l2 w h1 h2
  have hcd := Pl.com_drop l1 l2
  have hcl := Pl.com_le l1 l2
  have hcp := Pl.com_part l1 l2
  obtain ⟨k, hk⟩ : ∃ k, Pl.com l1 l2 = k := ⟨_, rfl⟩
  rw [hk] at hb hcd hcl
  have HB : Hid (Calls Try.prog 18 #[.slice a1 l1.length c1, .slice a2 l2.length c2] w fun e w' => e = .returned (.int .i64 (k : Nat)) ∧ ∃ n, w' = w.drewN n) := hb
  have HP : Hid (∀ (h1 : k < l1.length) (h2 : k < l2.length), ((l1[k]'h1).toList == (l2[k]'h2).toList) = false) := by subst hk; exact hcp
  have HCD : Hid (Pl.cmpP l1 l2 = Pl.cmpP (l1.drop k) (l2.drop k)) := hcd
  clear hb hcd hcp hk
  by_cases e1 : k = l1.length
  · by_cases e2 : k = l2.length
    · have HE : Hid (Pl.cmpP l1 l2 = 0) := HCD.out.trans (Pl.cmpP_end (by omega) (by omega))
      have q1 : ((k : Int) == (l1.length : Int)) = true := by rw [e1]; simp
      have q2 : ((k : Int) == (l2.length : Int)) = true := by rw [← e2]; simp
      clear e1 e2
      go_enter Try.func9, Try.ntmps9
      go_wp2_with (go_at_call 18; refine HB.out.mono ?_; rintro e w' ⟨rfl, n, rfl⟩)
      go_ret
      exact ⟨ret_int HE.out.symm, n, rfl⟩
    · have HE : Hid (Pl.cmpP l1 l2 = -1) := HCD.out.trans (Pl.cmpP_less (by omega) (by omega))
      have q1 : ((k : Int) == (l1.length : Int)) = true := by rw [e1]; simp
      have q2 : ((k : Int) == (l2.length : Int)) = false := by rw [beq_eq_false_iff_ne]; omega
      clear e1 e2
      go_enter Try.func9, Try.ntmps9
      go_wp2_with (go_at_call 18; refine HB.out.mono ?_; rintro e w' ⟨rfl, n, rfl⟩)
      go_ret
      exact ⟨ret_int HE.out.symm, n, rfl⟩
  · have q1 : ((k : Int) == (l1.length : Int)) = false := by rw [beq_eq_false_iff_ne]; omega
    by_cases e2 : k = l2.length
    · have HE : Hid (Pl.cmpP l1 l2 = 1) := HCD.out.trans (Pl.cmpP_more (by omega) (by omega))
      have q2 : ((k : Int) == (l2.length : Int)) = true := by rw [← e2]; simp
      clear e1 e2
      go_enter Try.func9, Try.ntmps9
      go_wp2_with (go_at_call 18; refine HB.out.mono ?_; rintro e w' ⟨rfl, n, rfl⟩)
      go_ret
      exact ⟨ret_int HE.out.symm, n, rfl⟩
    · have k1 : k < l1.length := by omega
      have k2 : k < l2.length := by omega
      have q2 : ((k : Int) == (l2.length : Int)) = false := by rw [beq_eq_false_iff_ne]; omega
      have hne := HP.out k1 k2
      have hst := @Pl.cmpP_stop l1 l2 k k1 k2
      obtain ⟨b1, o1, rfl, hb1, d1⟩ := h1.cells k k1
      obtain ⟨b2, o2, rfl, hb2, d2⟩ := h2.cells k k2
      have i1 : (k : Int) < (l1.length : Int) := by omega
      have i2 : (k : Int) < (l2.length : Int) := by omega
      have HST : Hid (¬ Pl.cmpS (l1[k]'k1) (l2[k]'k2) = 0 → Pl.cmpP l1 l2 = Pl.cmpS (l1[k]'k1) (l2[k]'k2)) := fun h => HCD.out.trans (hst h)
      clear hst HP e1 e2
      generalize l1[k]'k1 = x at *
      generalize l2[k]'k2 = y at *
      cases hless : Op.bytesLess x.toList y.toList
      · have HE : Hid (Pl.cmpP l1 l2 = 1) := by
          have e := Pl.cmpS_more hless hne
          show _ = _
          rw [HST.out (by rw [e]; decide), e]
        go_enter Try.func9, Try.ntmps9
        go_wp2_with (go_at_call 18; refine HB.out.mono ?_; rintro e w' ⟨rfl, n, rfl⟩)
        all_goals (try (go_quiet (fail)))
        all_goals (try (go_wp2_with fail))
        go_ret
        exact ⟨ret_int HE.out.symm, by first | exact ⟨_, rfl⟩ | exact ⟨_, World.drewN_drewN _ _ _⟩⟩
      · have HE : Hid (Pl.cmpP l1 l2 = -1) := by
          have e := Pl.cmpS_less hless
          show _ = _
          rw [HST.out (by rw [e]; decide), e]
        go_enter Try.func9, Try.ntmps9
        go_wp2_with (go_at_call 18; refine HB.out.mono ?_; rintro e w' ⟨rfl, n, rfl⟩)
        all_goals (try (go_quiet (fail)))
        all_goals (try (go_wp2_with fail))
        go_ret
        exact ⟨ret_int HE.out.symm, by first | exact ⟨_, rfl⟩ | exact ⟨_, World.drewN_drewN _ _ _⟩⟩

theorem rwithin_any (a1 a2 : Option Addr) (c1 c2 : Nat) (l1 l2 : List ByteArray) (w : World) (h1 : Strs w a1 c1 l1) (h2 : Strs w a2 c2 l2) :
    Calls Try.prog 7 #[.slice a1 l1.length c1, .slice a2 l2.length c2] w fun e w' => e = .returned (.bool (Pl.withinP l1 l2)) ∧ Below w.heap.size w w' :=
  (rwithin_q a1 a2 c1 c2 l1 l2 w h1 h2).mono fun _ _ ⟨he, n, hw⟩ => ⟨he, by rw [hw]; exact below_drewN (Below.refl _ _) n⟩
theorem rcompare_any (a1 a2 : Option Addr) (c1 c2 : Nat) (l1 l2 : List ByteArray) (w : World) (h1 : Strs w a1 c1 l1) (h2 : Strs w a2 c2 l2) :
    Calls Try.prog 9 #[.slice a1 l1.length c1, .slice a2 l2.length c2] w fun e w' => e = .returned (.int .i64 (Pl.cmpP l1 l2)) ∧ Below w.heap.size w w' :=
  (rcompare_q a1 a2 c1 c2 l1 l2 w h1 h2).mono fun _ _ ⟨he, n, hw⟩ => ⟨he, by rw [hw]; exact below_drewN (Below.refl _ _) n⟩
end Go.Proofs.Ytmbpebdceaihaab
