/- What the reference's Alike answers of two lists of paths: whether they are one. -/
import Derived.Test.YtnmplolkbmackaaGreatDoorPgF
namespace Go.Proofs.YtnmplolkbmackaaGreatDoor
open Go.RowKit

set_option maxRecDepth 100000 in
set_option maxHeartbeats 1000000 in
theorem alike_gen (a1 a2 : Option Addr) (c1 c2 : Nat) (l1 l2 : List (List ByteArray)) (w : World) (h1 : Pts w a1 c1 l1) (h2 : Pts w a2 c2 l2) :
    Calls Tryz.prog 33 #[.slice a1 l1.length c1, .slice a2 l2.length c2] w fun e w' => e = .returned (.bool (decide (l1 = l2))) ∧ Below w.heap.size w w' := by
  have hl1 := h1.len
  have hl2 := h2.len
  by_cases hn : l1.length = l2.length
  · have HN : Hid (l1.length = l2.length) := hn
    have hq : ((l1.length : Int) != (l2.length : Int)) = false := by simp [hn]
    clear hn
    go_enter Tryz.func33, Tryz.ntmps33
    go_wp2_with fail
    go_loopw [5] (fun i wr => ∃ k : Nat, k ≤ l1.length ∧ i = .int .i64 k ∧ Hid (l1.take k = l2.take k) ∧ Below w.heap.size w wr) (fun i _ => l1.length - (intOf i).toNat)
    case atStart => exact ⟨0, Nat.zero_le _, rfl, rfl, Below.refl _ _⟩
    case round =>
      obtain ⟨k, hk, rfl, HK, hnx⟩ := hrel
      have hsz := hnx.size
      by_cases hlt : k < l1.length
      · have hlt2 : k < l2.length := by have := HN.out; omega
        obtain ⟨b1, o1, x1, d1, rfl, hb1, e1, s1⟩ := (h1.below hnx).cells k hlt
        obtain ⟨b2, o2, x2, d2, rfl, hb2, e2, s2⟩ := (h2.below hnx).cells k hlt2
        have i1 : (k : Int) < (l1.length : Int) := by omega
        have i2 : (k : Int) < (l2.length : Int) := by omega
        have HS : Hid (l1[k]'hlt = l2[k]'hlt2 → l1.take (k + 1) = l2.take (k + 1)) := fun e => by
          rw [List.take_succ_eq_append_getElem hlt, List.take_succ_eq_append_getElem hlt2, HK.out, e]
        have HD : Hid (l1[k]'hlt ≠ l2[k]'hlt2 → ¬ l1 = l2) := fun e q => e (by subst q; rfl)
        have y1 := s1.len
        have y2 := s2.len
        generalize l1[k]'hlt = p at *
        generalize l2[k]'hlt2 = q at *
        have hsm := same_b _ _ _ _ p q wr.drew (s1.below (Below.refl _ _).drew) (s2.below (Below.refl _ _).drew)
        cases hpq : Pl.sameP p q
        · have hne : Hid (decide (l1 = l2) = false) := decide_eq_false (HD.out fun e => by subst e; rw [(Pl.same_iff p p).2 rfl] at hpq; cases hpq)
          rw [hpq] at hsm
          have HW : Hid (Calls Tryz.prog 65 #[.slice x1 p.length d1, .slice x2 q.length d2] wr.drew fun e w' => e = .returned (.bool false) ∧ Below wr.drew.heap.size wr.drew w') := hsm
          clear hsm hpq
          go_wp2_with fail
          go_region_with (go_at_call 65; refine HW.out.mono ?_; rintro e w2 ⟨rfl, hb⟩)
          all_goals have hB2 : Below w.heap.size w w2 := hnx.drew.trans (hb.mono hsz)
          all_goals go_wp2_with fail
          all_goals go_ret
          all_goals (rw [hne.out]; exact ⟨rfl, hB2⟩)
        · have HE : Hid (l1.take (k + 1) = l2.take (k + 1)) := HS.out ((Pl.same_iff p q).1 hpq)
          rw [hpq] at hsm
          have HW : Hid (Calls Tryz.prog 65 #[.slice x1 p.length d1, .slice x2 q.length d2] wr.drew fun e w' => e = .returned (.bool true) ∧ Below wr.drew.heap.size wr.drew w') := hsm
          clear hsm hpq
          go_wp2_with fail
          go_region_with (go_at_call 65; refine HW.out.mono ?_; rintro e w2 ⟨rfl, hb⟩)
          all_goals have hB2 : Below w.heap.size w w2 := hnx.drew.trans (hb.mono hsz)
          all_goals go_wp2_with fail
          all_goals exact ⟨⟨k + 1, by omega, by go_num, HE, hB2⟩, by simp [intOf]; omega⟩
      · have i1 : ¬ (k : Int) < (l1.length : Int) := by omega
        have HE : Hid (decide (l1 = l2) = true) := decide_eq_true (by
          have := HK.out
          have hh := HN.out
          rwa [List.take_of_length_le (by omega), List.take_of_length_le (by omega)] at this)
        go_wp2_with fail
        go_ret
        rw [HE.out]
        exact ⟨rfl, hnx⟩
  · have hq : ((l1.length : Int) != (l2.length : Int)) = true := by simp; omega
    have HE : Hid (decide (l1 = l2) = false) := decide_eq_false fun e => hn (by rw [e])
    go_enter Tryz.func33, Tryz.ntmps33
    go_wp2_with fail
    go_ret
    rw [HE.out]
    exact ⟨rfl, Below.refl _ _⟩
end Go.Proofs.YtnmplolkbmackaaGreatDoor
