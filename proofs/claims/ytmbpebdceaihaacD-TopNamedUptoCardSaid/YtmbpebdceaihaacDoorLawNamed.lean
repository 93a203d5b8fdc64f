/- TopNamed answers true for every two paths and every text that are not too long: the walk of the law over its callees' contracts. -/
import Derived.Test.YtmbpebdceaihaacDoorTopParts
import Derived.Test.YtmbpebdceaihaacDoorLPlainQ
namespace Go.Proofs.YtmbpebdceaihaacDoor
open Go.RowKit

theorem names_strs {w : World} {base : Nat} {e : TypeId} {v : Value} {l : List ByteArray} (h : w.ownsRow base e 1 v l.length (l.map Value.string)) (hn : l.all Pl.nameB = true ∧ l.length ≤ 1024) :
    ∃ a cap, v = .slice a l.length cap ∧ Strs w a cap l := own_strs h (by omega) (names_size hn.1)

set_option maxRecDepth 100000 in
set_option maxHeartbeats 4000000 in
theorem lawNamed_any (ap aq : Option Addr) (cp cq : Nat) (p q : List ByteArray) (b : ByteArray) (w : World) (T : Tabs w) (hp : Strs w ap cp p) (hq : Strs w aq cq q) (hb : b.size ≤ 1048576) :
    Calls Tryd.prog 3 #[.slice ap p.length cp, .slice aq q.length cq, .string b] w fun e w' => e = .returned (.bool true) ∧ Below w.heap.size w w' := by
  have lp := hp.len
  have lq := hq.len
  have hB : Below w.heap.size w w := Below.refl _ _
  by_cases hr : Pl.rightP p = true ∧ Pl.rightP q = true
  · obtain ⟨rp, rq⟩ := hr
    obtain ⟨t, e1, z1, n1, c1⟩ := Pl.text_top rp
    obtain ⟨u, e2, z2, n2, c2⟩ := Pl.text_top rq
    have hw := Pl.within_sl rp rq
    obtain ⟨N1, N2, N3, hN⟩ : ∃ a b c, Pl.normalP q t = (a, b, c) := ⟨_, _, _, rfl⟩
    have hn := n1 q rq
    rw [hN] at hn
    obtain ⟨rfl, rfl⟩ : N1 = p ∧ N3 = 0 := hn
    have HN : Hid (Pl.normalP q t = (N1, N2, 0)) := hN
    have HNM : Hid (N1.all Pl.nameB = true ∧ N1.length ≤ 1024) := by have := Pl.normal_names q t; rw [hN] at this; exact this
    have HP1 : Hid (Pl.printP N1 = (t, 0)) := e1
    have HP2 : Hid (Pl.printP q = (u, 0)) := e2
    have hqz : (Ln.quoP t).size ≤ 4 * t.size + 2 := by
      have := Ln.quoS_len t.data.toList
      rw [Ln.szL] at this
      rw [Ln.quoP, Ln.bs_size, List.length_append]; simp; omega
    have hqq := Ln.unq_quoted t b
    obtain ⟨Q, hQ⟩ : ∃ Q, Ln.quoP t = Q := ⟨_, rfl⟩
    rw [hQ] at hqq hqz
    have HQ : Hid (Ln.quoP t = Q) := hQ
    have hadd : Q.size + b.size ≤ 9223372036854775807 := by omega
    have hqts : (Q ++ b).size = Q.size + b.size := by simp
    obtain ⟨QT, hQT⟩ : ∃ QT, Q ++ b = QT := ⟨_, rfl⟩
    rw [hQT] at hqq hqts
    have HQT : Hid (Q ++ b = QT) := hQT
    have HUQ : Hid (Ln.unqP QT = (t.data.toList, Q.size, 0, 0)) := hqq
    have HSB : Hid (Ln.bs t.data.toList = t) := Ln.bs_data t
    have hQTz : QT.size ≤ 16777216 := by omega
    have s1 := Pl.slB_size N1
    have s2 := Pl.slB_size q
    have HW : Hid (Pl.withinP N1 q = (decide ((Pl.slB q).size ≤ (Pl.slB N1).size) && ((Pl.slB N1).extract 0 (Pl.slB q).size).toList == (Pl.slB q).toList)) := hw
    generalize Pl.slB N1 = X at *
    generalize Pl.slB q = Y at *
    clear e1 e2 n1 n2 hw hN hQ hQT hqts hqq rp rq
    go_enter Tryd.func3, Tryd.ntmps3
    go_wp2_with fail
    refine (topbegins_any _ T).mono ?_
    rintro e w1 ⟨rfl, hb1⟩
    replace T := T.below T.size hb1; replace hp := hp.below hb1; replace hq := hq.below hb1; replace hB := hB.trans (hb1.mono hB.size); clear hb1
    go_wp2_with fail
    refine (print_any _ _ N1 _ hp).mono ?_
    rw [HP1.out]
    rintro e w2 ⟨rfl, hb1⟩
    replace T := T.below T.size hb1; replace hp := hp.below hb1; replace hq := hq.below hb1; replace hB := hB.trans (hb1.mono hB.size); clear hb1
    go_wp2_with fail
    refine (print_any _ _ q _ hq).mono ?_
    rw [HP2.out]
    rintro e w3 ⟨rfl, hb1⟩
    replace T := T.below T.size hb1; replace hp := hp.below hb1; replace hq := hq.below hb1; replace hB := hB.trans (hb1.mono hB.size); clear hb1
    go_wp2_with fail
    refine (quote_any t _ T (by omega)).mono ?_
    rw [HQ.out]
    rintro e w4 ⟨rfl, hb1⟩
    replace T := T.below T.size hb1; replace hp := hp.below hb1; replace hq := hq.below hb1; replace hB := hB.trans (hb1.mono hB.size); clear hb1
    go_wp2_with fail
    rw [HQT.out]
    refine (unq_any QT _ T hQTz).mono ?_
    rw [HUQ.out, HSB.out]
    rintro e w5 ⟨rfl, hb1⟩
    replace T := T.below T.size hb1; replace hp := hp.below hb1; replace hq := hq.below hb1; replace hB := hB.trans (hb1.mono hB.size); clear hb1
    go_wp2_with fail
    refine (normal_any _ _ q t _ hq (by omega)).mono ?_
    rw [HN.out]
    rintro e w6 ⟨v6, rfl, hown, hb1⟩
    obtain ⟨a6, c6, rfl, s6⟩ := names_strs hown HNM.out
    replace T := T.below T.size hb1; replace hp := hp.below hb1; replace hq := hq.below hb1; replace hB := hB.trans (hb1.mono hB.size); clear hb1 hown
    go_wp2_with fail
    refine (quote_any t _ T (by omega)).mono ?_
    rw [HQ.out]
    rintro e w7 ⟨rfl, hb1⟩
    replace s6 := s6.below hb1; replace hp := hp.below hb1; replace hq := hq.below hb1; replace hB := hB.trans (hb1.mono hB.size); clear hb1
    go_wp2_with fail
    refine (topsame_self _ _ _ _ N1 _ s6 hp).mono ?_
    rintro e w8 ⟨rfl, hb1⟩
    replace hp := hp.below hb1; replace hq := hq.below hb1; replace hB := hB.trans (hb1.mono hB.size); clear hb1 s6
    have hx : t.size + (⟨#[47]⟩ : ByteArray).size ≤ 9223372036854775807 := by show t.size + 1 ≤ _; omega
    have hy : u.size + (⟨#[47]⟩ : ByteArray).size ≤ 9223372036854775807 := by show u.size + 1 ≤ _; omega
    replace c1 : ((t.toList == [47]) = true ∧ t = X) ∨ ((t.toList == [47]) = false ∧ t ++ ⟨#[47]⟩ = X) := by simpa only [bne, Bool.not_eq_false', Bool.not_eq_true'] using c1
    replace c2 : ((u.toList == [47]) = true ∧ u = Y) ∨ ((u.toList == [47]) = false ∧ u ++ ⟨#[47]⟩ = Y) := by simpa only [bne, Bool.not_eq_false', Bool.not_eq_true'] using c2
    rcases c1 with ⟨x1, rfl⟩ | ⟨x1, hX⟩
    · rcases c2 with ⟨y1, rfl⟩ | ⟨y1, hY⟩
      · go_wp2_with fail
        refine (within_b _ _ _ _ N1 q _ hp hq).mono ?_
        rw [HW.out]
        rintro e w9 ⟨rfl, hb9⟩
        replace hB := hB.trans (hb9.mono hB.size)
        clear hb9 HW
        by_cases hle : u.size ≤ t.size
        · have hle' : (t.size : Int) ≥ (u.size : Int) := by omega
          have hle2 : decide (u.size ≤ t.size) = true := by simpa using hle
          rw [hle2, Bool.true_and]
          go_wp2_with fail
          go_ret
          exact ⟨ret_bool (by simp), hB⟩
        · have hle' : ¬ (t.size : Int) ≥ (u.size : Int) := by omega
          have hle2 : decide (u.size ≤ t.size) = false := by simpa using hle
          rw [hle2, Bool.false_and]
          go_wp2_with fail
          go_ret
          exact ⟨ret_bool (by simp), hB⟩
      · have HY : Hid (u ++ ⟨#[47]⟩ = Y) := hY
        clear hY
        go_wp2_with fail
        rw [HY.out]
        refine (within_b _ _ _ _ N1 q _ hp hq).mono ?_
        rw [HW.out]
        rintro e w9 ⟨rfl, hb9⟩
        replace hB := hB.trans (hb9.mono hB.size)
        clear hb9 HW
        by_cases hle : Y.size ≤ t.size
        · have hle' : (t.size : Int) ≥ (Y.size : Int) := by omega
          have hle2 : decide (Y.size ≤ t.size) = true := by simpa using hle
          rw [hle2, Bool.true_and]
          go_wp2_with fail
          go_ret
          exact ⟨ret_bool (by simp), hB⟩
        · have hle' : ¬ (t.size : Int) ≥ (Y.size : Int) := by omega
          have hle2 : decide (Y.size ≤ t.size) = false := by simpa using hle
          rw [hle2, Bool.false_and]
          go_wp2_with fail
          go_ret
          exact ⟨ret_bool (by simp), hB⟩
    · have HX : Hid (t ++ ⟨#[47]⟩ = X) := hX
      clear hX
      rcases c2 with ⟨y1, rfl⟩ | ⟨y1, hY⟩
      · go_wp2_with fail
        rw [HX.out]
        refine (within_b _ _ _ _ N1 q _ hp hq).mono ?_
        rw [HW.out]
        rintro e w9 ⟨rfl, hb9⟩
        replace hB := hB.trans (hb9.mono hB.size)
        clear hb9 HW
        by_cases hle : u.size ≤ X.size
        · have hle' : (X.size : Int) ≥ (u.size : Int) := by omega
          have hle2 : decide (u.size ≤ X.size) = true := by simpa using hle
          rw [hle2, Bool.true_and]
          go_wp2_with fail
          go_ret
          exact ⟨ret_bool (by simp), hB⟩
        · have hle' : ¬ (X.size : Int) ≥ (u.size : Int) := by omega
          have hle2 : decide (u.size ≤ X.size) = false := by simpa using hle
          rw [hle2, Bool.false_and]
          go_wp2_with fail
          go_ret
          exact ⟨ret_bool (by simp), hB⟩
      · have HY : Hid (u ++ ⟨#[47]⟩ = Y) := hY
        clear hY
        go_wp2_with fail
        rw [HX.out, HY.out]
        refine (within_b _ _ _ _ N1 q _ hp hq).mono ?_
        rw [HW.out]
        rintro e w9 ⟨rfl, hb9⟩
        replace hB := hB.trans (hb9.mono hB.size)
        clear hb9 HW
        by_cases hle : Y.size ≤ X.size
        · have hle' : (X.size : Int) ≥ (Y.size : Int) := by omega
          have hle2 : decide (Y.size ≤ X.size) = true := by simpa using hle
          rw [hle2, Bool.true_and]
          go_wp2_with fail
          go_ret
          exact ⟨ret_bool (by simp), hB⟩
        · have hle' : ¬ (X.size : Int) ≥ (Y.size : Int) := by omega
          have hle2 : decide (Y.size ≤ X.size) = false := by simpa using hle
          rw [hle2, Bool.false_and]
          go_wp2_with fail
          go_ret
          exact ⟨ret_bool (by simp), hB⟩
  · have hbad : ∀ l : List ByteArray, Pl.rightP l = false → Pl.printP l = (Pl.bs [], 20) := fun l h => by rw [Pl.printP, if_pos h]
    have hgood : ∀ l : List ByteArray, Pl.rightP l = true → ∃ t, Pl.printP l = (t, 0) := fun l h => ⟨_, Pl.print_right h⟩
    have hbe : Pl.bs [] = ⟨#[]⟩ := rfl
    obtain ⟨t, k1, h1, g1⟩ : ∃ t k, Pl.printP p = (t, k) ∧ ((k = 20 ∧ Pl.rightP p = false) ∨ (k = 0 ∧ Pl.rightP p = true)) := by
      cases h : Pl.rightP p
      · exact ⟨_, _, hbad p h, .inl ⟨rfl, rfl⟩⟩
      · obtain ⟨t, ht⟩ := hgood p h; exact ⟨t, 0, ht, .inr ⟨rfl, rfl⟩⟩
    obtain ⟨u, k2, h2, g2⟩ : ∃ t k, Pl.printP q = (t, k) ∧ ((k = 20 ∧ Pl.rightP q = false) ∨ (k = 0 ∧ Pl.rightP q = true)) := by
      cases h : Pl.rightP q
      · exact ⟨_, _, hbad q h, .inl ⟨rfl, rfl⟩⟩
      · obtain ⟨t, ht⟩ := hgood q h; exact ⟨t, 0, ht, .inr ⟨rfl, rfl⟩⟩
    have HP1 : Hid (Pl.printP p = (t, k1)) := h1
    have HP2 : Hid (Pl.printP q = (u, k2)) := h2
    clear h1 h2 hbad hgood hbe
    rcases g1 with ⟨rfl, r1⟩ | ⟨rfl, r1⟩ <;> rcases g2 with ⟨rfl, r2⟩ | ⟨rfl, r2⟩
    case inr.inr => exact absurd ⟨r1, r2⟩ hr
    all_goals
      clear hr
      have HR1 : Hid (Pl.rightP p = _) := r1
      have HR2 : Hid (Pl.rightP q = _) := r2
      clear r1 r2
      go_enter Tryd.func3, Tryd.ntmps3
      go_wp2_with fail
      refine (topbegins_any _ T).mono ?_
      rintro e w1 ⟨rfl, hb1⟩
      replace T := T.below T.size hb1; replace hp := hp.below hb1; replace hq := hq.below hb1; replace hB := hB.trans (hb1.mono hB.size); clear hb1
      go_wp2_with fail
      refine (print_any _ _ p _ hp).mono ?_
      rw [HP1.out]
      rintro e w2 ⟨rfl, hb1⟩
      replace hp := hp.below hb1; replace hq := hq.below hb1; replace hB := hB.trans (hb1.mono hB.size); clear hb1
      go_wp2_with fail
      refine (print_any _ _ q _ hq).mono ?_
      rw [HP2.out]
      rintro e w3 ⟨rfl, hb1⟩
      replace hp := hp.below hb1; replace hq := hq.below hb1; replace hB := hB.trans (hb1.mono hB.size); clear hb1
      go_wp2_with fail
      refine (right_any _ _ p _ hp).mono ?_
      rw [HR1.out]
      rintro e w' ⟨rfl, rfl⟩
      go_wp2_with fail
      refine (right_any _ _ q _ hq).mono ?_
      rw [HR2.out]
      rintro e w' ⟨rfl, rfl⟩
      go_wp2_with fail
      go_ret
      exact ⟨rfl, hB⟩
end Go.Proofs.YtmbpebdceaihaacDoor
