/- LinesTold answers true for every two texts that are not too long and every width: the walk of the law over its callees' contracts. -/
import Derived.Test.YtmbpebdceaihaaaDoorLLives
import Derived.Test.YtmbpebdceaihaaaDoorLPlainT
namespace Go.Proofs.YtmbpebdceaihaaaDoor
open Go.RowKit

set_option maxRecDepth 100000 in
set_option maxHeartbeats 4000000 in
theorem lawTold_any (s t : ByteArray) (width : Int) (w : World) (T : Tabs w) (hs : s.size + t.size ≤ 1048576) (hw : -9223372036854775808 ≤ width) (hw2 : width ≤ 9223372036854775807) :
    Calls Tryd.prog 8 #[.string s, .int .i64 width, .string t] w fun e w' => e = .returned (.bool true) ∧ Below w.heap.size w w' := by
  have hB : Below w.heap.size w w := Below.refl _ _
  by_cases h0 : width < 0
  · have HP : Hid (Ln.listP s width = (Ln.bs [], 2)) := by show _ = _; rw [Ln.listP, if_pos h0]
    go_enter Tryd.func8, Tryd.ntmps8
    go_wp2_with fail
    refine (lives_any _ T).mono ?_
    rintro e w1 ⟨rfl, hb⟩
    replace T := T.below T.size hb; replace hB := hB.trans (hb.mono hB.size); clear hb
    go_wp2_with fail
    refine (list_any s width _ T (by omega) hw hw2).mono ?_
    rw [HP.out, show Ln.bs [] = ⟨#[]⟩ from rfl]
    rintro e w2 ⟨rfl, hb⟩
    replace hB := hB.trans (hb.mono hB.size); clear hb
    go_wp2_with fail
    go_ret
    exact ⟨rfl, hB⟩
  have hU := Ln.unl_list h0 s
  have hR := Ln.rows_list h0 s
  have hz := Ln.list_size (width := width) s
  have hP0 : (Ln.listP s width).2 = 0 := by rw [Ln.listP, if_neg h0]
  obtain ⟨A, a2, hP⟩ : ∃ a b, Ln.listP s width = (a, b) := ⟨_, _, rfl⟩
  rw [hP] at hU hR hz hP0
  obtain rfl : a2 = 0 := hP0
  have HP : Hid (Ln.listP s width = (A, 0)) := hP
  have HU : Hid (Ln.unlP A = (s.data.toList, 0, 0)) := hU
  have HSB : Hid (Ln.bs s.data.toList = s) := Ln.bs_data s
  have hq := Ln.unq_quoted s t
  have hqz : (Ln.quoP s).size ≤ 4 * s.size + 2 := by
    have := Ln.quoS_len s.data.toList
    rw [Ln.szL] at this
    rw [Ln.quoP, Ln.bs_size, List.length_append]; simp; omega
  obtain ⟨Q, hQ⟩ : ∃ Q, Ln.quoP s = Q := ⟨_, rfl⟩
  rw [hQ] at hq hqz
  have HQ : Hid (Ln.quoP s = Q) := hQ
  have hadd : Q.size + t.size ≤ 9223372036854775807 := by omega
  have hqts : (Q ++ t).size = Q.size + t.size := by simp
  obtain ⟨QT, hQT⟩ : ∃ QT, Q ++ t = QT := ⟨_, rfl⟩
  rw [hQT] at hq hqts
  have HQT : Hid (Q ++ t = QT) := hQT
  have HUQ : Hid (Ln.unqP QT = (s.data.toList, Q.size, 0, 0)) := hq
  have hQTz : QT.size ≤ 16777216 := by omega
  have hAz : A.size ≤ 16777216 := by have : A.size ≤ 6 * s.size + 2 := hz; omega
  clear hU hP hq hQ hQT hqts hz
  have hR : Ln.splB A ≠ [] ∧ (∀ x ∈ Ln.splB A, Ln.goodB width x) ∧ (width ≤ 1 → (Ln.splB A).length = 1) := hR
  have hn := Ln.splB_len A
  have HM : Hid (∀ x ∈ Ln.splB A, x.1.size ≤ 67108864) := fun x hx => Nat.le_trans (Ln.splB_mem A x hx) (by omega)
  obtain ⟨S, hS⟩ : ∃ S, Ln.splB A = S := ⟨_, rfl⟩
  rw [hS] at hn HM hR
  have HS : Hid (Ln.splB A = S) := hS
  clear hS
  obtain ⟨r1, r2, r3⟩ := hR
  have HG : Hid (∀ x ∈ S, Ln.goodB width x) := r2
  have HL1 : Hid (width ≤ 1 → S.length = 1) := r3
  have hpos : 0 < S.length := List.length_pos_iff.2 r1
  clear r1 r2 r3
  go_enter Tryd.func8, Tryd.ntmps8
  go_wp2_with fail
  refine (lives_any _ T).mono ?_
  rintro e w1 ⟨rfl, hb⟩
  replace T := T.below T.size hb; replace hB := hB.trans (hb.mono hB.size); clear hb
  go_wp2_with fail
  refine (list_any s width _ T (by omega) hw hw2).mono ?_
  rw [HP.out]
  rintro e w2 ⟨rfl, hb⟩
  replace T := T.below T.size hb; replace hB := hB.trans (hb.mono hB.size); clear hb
  go_wp2_with fail
  refine (unl_any A _ T hAz).mono ?_
  rw [HU.out]
  simp only [UNL]
  rw [HSB.out]
  rintro e w3 ⟨rfl, hb⟩
  replace T := T.below T.size hb; replace hB := hB.trans (hb.mono hB.size); clear hb
  go_wp2_with fail
  refine (quote_any s _ T (by omega)).mono ?_
  rw [HQ.out]
  rintro e w4 ⟨rfl, hb⟩
  replace T := T.below T.size hb; replace hB := hB.trans (hb.mono hB.size); clear hb
  go_wp2_with fail
  rw [HQT.out]
  refine (unq_any QT _ T hQTz).mono ?_
  rw [HUQ.out, HSB.out]
  rintro e w5 ⟨rfl, hb⟩
  replace T := T.below T.size hb; replace hB := hB.trans (hb.mono hB.size); clear hb
  go_wp2_with fail
  refine (rsplit_any A _ (by omega)).mono ?_
  rw [HS.out]
  rintro e w6 ⟨v6, rfl, hown, hb⟩
  obtain ⟨a6, c6, rfl, s6⟩ := own_lns hown (by omega) HM.out
  replace hB := hB.trans (hb.mono hB.size); clear hb hown
  go_wp2_with fail
  go_loopw [88] (fun i wr => ∃ k : Nat, k ≤ S.length ∧ i = .int .i64 k ∧ Below w6.heap.size w6 wr) (fun i _ => S.length - (intOf i).toNat)
  case atStart => exact ⟨0, Nat.zero_le _, rfl, Below.refl _ _⟩
  case round =>
    obtain ⟨k, hk, rfl, hnx⟩ := hrel
    replace s6 := s6.below hnx
    by_cases hlt : k < S.length
    · obtain ⟨b1, o1, hal, hb1, d1, d2⟩ := s6.cells k hlt
      obtain ⟨g1, g2, g3, g4⟩ := HG.out _ (List.getElem_mem hlt)
      have g5 := HM.out _ (List.getElem_mem hlt)
      generalize S[k]'hlt = x at *
      obtain ⟨x1, x2⟩ := x
      obtain rfl : x2 = true := g1
      have g2 : 0 < x1.size := g2
      have G3 : Hid (∀ i (h : i < x1.size), 32 ≤ x1[i].toNat ∧ x1[i].toNat ≤ 126) := g3
      have g4 : 4 < width → (x1.size : Int) ≤ width := g4
      have g5 : x1.size ≤ 67108864 := g5
      subst hal
      clear g3
      have i1 : (k : Int) < (S.length : Int) := by omega
      have z0 : ((x1.size : Int) == 0) = false := by rw [beq_eq_false_iff_ne]; omega
      rcases (show (width > 4 ∧ ¬ (x1.size : Int) > width) ∨ (¬ width > 4) by
        by_cases h4 : 4 < width
        · exact .inl ⟨h4, by have := g4 h4; omega⟩
        · exact .inr (by omega)) with ⟨q1, q2⟩ | q1
      all_goals
        clear g4
        go_wp2_with fail
        go_loopw [20] (fun i wq => ∃ j m : Nat, j ≤ x1.size ∧ i = .int .i64 j ∧ wq = (wr.alloc (.cells #[.string x1, .bool true] 32)).drewN m) (fun i _ => x1.size - (intOf i).toNat)
        case atStart => exact ⟨0, 0, Nat.zero_le _, rfl, rfl⟩
        case round =>
          obtain ⟨j, m, hj, rfl, rfl⟩ := hrel
          by_cases hjl : j < x1.size
          · have j1 : (j : Int) < (x1.size : Int) := by omega
            obtain ⟨p1, p2⟩ := G3.out j hjl
            have p1' : ¬ (x1[j].toNat : Int) < 32 := by omega
            have p2' : ¬ (x1[j].toNat : Int) > 126 := by omega
            go_wp2_with fail
            go_roundw
            case rel => exact ⟨j + 1, m, by omega, by go_num, rfl⟩
            case measure => simp [intOf]; omega
          · have j1 : ¬ (j : Int) < (x1.size : Int) := by omega
            have hb2 : Below w6.heap.size w6 ((wr.alloc (.cells #[.string x1, .bool true] 32)).drewN m) := below_drewN (hnx.alloc hnx.size _) m
            go_wp2_with fail
            go_roundw
            case rel => exact ⟨k + 1, by omega, by go_num, hb2⟩
            case measure => simp [intOf]; omega
    · have hB2 := hB.trans (hnx.mono hB.size)
      have i1 : ¬ (k : Int) < (S.length : Int) := by omega
      have i2 : (S.length : Int) > 0 := by omega
      by_cases q1 : 1 < width
      · have q1' : width > 1 := q1
        go_wp2_with fail
        go_ret
        exact ⟨rfl, hB2⟩
      · have q1' : ¬ width > 1 := by omega
        have q2 : ((S.length : Int) == 1) = true := by rw [HL1.out (by omega)]; rfl
        go_wp2_with fail
        go_ret
        exact ⟨rfl, hB2⟩
end Go.Proofs.YtmbpebdceaihaaaDoor
