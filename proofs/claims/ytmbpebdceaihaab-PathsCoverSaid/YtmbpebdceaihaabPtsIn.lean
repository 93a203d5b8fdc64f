/- What both Insides and the reference's Alike of one list answer. -/
import Derived.Test.YtmbpebdceaihaabPtsAsk
import Derived.Deep.RegionWith
namespace Go.Proofs.Ytmbpebdceaihaab
open Go.RowKit

set_option maxRecDepth 100000 in
set_option maxHeartbeats 1000000 in
theorem inside_any (a ap : Option Addr) (cap cp : Nat) (l : List (List ByteArray)) (p : List ByteArray) (w : World) (h : Pts w a cap l) (hp : Strs w ap cp p) :
    Calls Try.prog 13 #[.slice a l.length cap, .slice ap p.length cp] w fun e w' => e = .returned (.bool (Pl.insideB l p)) ∧ Below w.heap.size w w' := by
  have hl := h.len
  go_enter Try.func13, Try.ntmps13
  go_wp2_with fail
  go_loopw [9] (fun i wr => ∃ k : Nat, k ≤ l.length ∧ i = .int .i64 k ∧ Hid (Pl.insideB l p = Pl.insideB (l.drop k) p) ∧ Below w.heap.size w wr) (fun i _ => l.length - (intOf i).toNat)
  case atStart => exact ⟨0, Nat.zero_le _, rfl, rfl, Below.refl _ _⟩
  case round =>
    obtain ⟨k, hk, rfl, HC, hnx⟩ := hrel
    have hsz := hnx.size
    by_cases hlt : k < l.length
    · obtain ⟨b, off, x, c, rfl, hb, hc, hs⟩ := (h.below hnx).cells k hlt
      have hpr := hp.below hnx
      have HS : Hid (Pl.withinP p (l[k]'hlt) = false → Pl.insideB (l.drop k) p = Pl.insideB (l.drop (k + 1)) p) := Pl.inside_step hlt
      have HH : Hid (Pl.withinP p (l[k]'hlt) = true → Pl.insideB (l.drop k) p = true) := Pl.inside_hit hlt
      have i1 : (k : Int) < (l.length : Int) := by omega
      have hxl := hs.len
      generalize l[k]'hlt = q at *
      have hwi := within_any _ _ _ _ p q wr hpr hs
      cases hw : Pl.withinP p q
      · rw [hw] at hwi
        have HW : Hid (Calls Try.prog 6 #[.slice ap p.length cp, .slice x q.length c] wr fun e w' => e = .returned (.bool false) ∧ ∃ n, w' = wr.drewN n) := hwi
        have HE : Hid (Pl.insideB l p = Pl.insideB (l.drop (k + 1)) p) := HC.out.trans (HS.out hw)
        clear hwi HS HH HC
        go_wp2_with fail
        refine HW.out.mono ?_
        rintro e w' ⟨rfl, nq, rfl⟩
        go_wp2_with fail
        go_roundw
        case rel => exact ⟨k + 1, by omega, by go_num, HE, below_drewN hnx nq⟩
        case measure => simp [intOf]; omega
      · rw [hw] at hwi
        have HW : Hid (Calls Try.prog 6 #[.slice ap p.length cp, .slice x q.length c] wr fun e w' => e = .returned (.bool true) ∧ ∃ n, w' = wr.drewN n) := hwi
        have HE : Hid (Pl.insideB l p = true) := HC.out.trans (HH.out hw)
        clear hwi HS HH HC
        go_wp2_with fail
        refine HW.out.mono ?_
        rintro e w' ⟨rfl, nq, rfl⟩
        go_wp2_with fail
        go_ret
        exact ⟨ret_bool HE.out.symm, below_drewN hnx nq⟩
    · have HE : Hid (Pl.insideB l p = false) := by
        have := HC.out
        rw [List.drop_eq_nil_of_le (by omega)] at this
        exact this
      have i1 : ¬ (k : Int) < (l.length : Int) := by omega
      go_wp2_with fail
      go_ret
      exact ⟨ret_bool HE.out.symm, hnx⟩

set_option maxRecDepth 100000 in
set_option maxHeartbeats 1000000 in
theorem rinside_any (a ap : Option Addr) (cap cp : Nat) (l : List (List ByteArray)) (p : List ByteArray) (w : World) (h : Pts w a cap l) (hp : Strs w ap cp p) :
    Calls Try.prog 14 #[.slice a l.length cap, .slice ap p.length cp] w fun e w' => e = .returned (.bool (Pl.insideB l p)) ∧ Below w.heap.size w w' := by
  have hl := h.len
  go_enter Try.func14, Try.ntmps14
  go_wp2_with fail
  go_loopw [5] (fun i wr => ∃ k : Nat, k ≤ l.length ∧ i = .int .i64 k ∧ Hid (Pl.insideB l p = Pl.insideB (l.drop k) p) ∧ Below w.heap.size w wr) (fun i _ => l.length - (intOf i).toNat)
  case atStart => exact ⟨0, Nat.zero_le _, rfl, rfl, Below.refl _ _⟩
  case round =>
    obtain ⟨k, hk, rfl, HC, hnx⟩ := hrel
    have hsz := hnx.size
    by_cases hlt : k < l.length
    · obtain ⟨b, off, x, c, rfl, hb, hc, hs⟩ := (h.below hnx).cells k hlt
      have hpr := hp.below hnx
      have HS : Hid (Pl.withinP p (l[k]'hlt) = false → Pl.insideB (l.drop k) p = Pl.insideB (l.drop (k + 1)) p) := Pl.inside_step hlt
      have HH : Hid (Pl.withinP p (l[k]'hlt) = true → Pl.insideB (l.drop k) p = true) := Pl.inside_hit hlt
      have i1 : (k : Int) < (l.length : Int) := by omega
      have hxl := hs.len
      generalize l[k]'hlt = q at *
      have hwi := rwithin_any _ _ _ _ p q wr hpr hs
      cases hw : Pl.withinP p q
      · rw [hw] at hwi
        have HW : Hid (Calls Try.prog 7 #[.slice ap p.length cp, .slice x q.length c] wr fun e w' => e = .returned (.bool false) ∧ Below wr.heap.size wr w') := hwi
        have HE : Hid (Pl.insideB l p = Pl.insideB (l.drop (k + 1)) p) := HC.out.trans (HS.out hw)
        clear hwi HS HH HC
        go_wp2_with fail
        refine HW.out.mono ?_
        rintro e w2 ⟨rfl, hb2⟩
        go_wp2_with fail
        go_roundw
        case rel => exact ⟨k + 1, by omega, by go_num, HE, hnx.trans (hb2.mono hsz)⟩
        case measure => simp [intOf]; omega
      · rw [hw] at hwi
        have HW : Hid (Calls Try.prog 7 #[.slice ap p.length cp, .slice x q.length c] wr fun e w' => e = .returned (.bool true) ∧ Below wr.heap.size wr w') := hwi
        have HE : Hid (Pl.insideB l p = true) := HC.out.trans (HH.out hw)
        clear hwi HS HH HC
        go_wp2_with fail
        refine HW.out.mono ?_
        rintro e w2 ⟨rfl, hb2⟩
        go_wp2_with fail
        go_ret
        exact ⟨ret_bool HE.out.symm, hnx.trans (hb2.mono hsz)⟩
    · have HE : Hid (Pl.insideB l p = false) := by
        have := HC.out
        rw [List.drop_eq_nil_of_le (by omega)] at this
        exact this
      have i1 : ¬ (k : Int) < (l.length : Int) := by omega
      go_wp2_with fail
      go_ret
      exact ⟨ret_bool HE.out.symm, hnx⟩

set_option maxRecDepth 100000 in
set_option maxHeartbeats 1000000 in
/-- Two lists of paths that read as one are alike. -/
theorem alike_self (a1 a2 : Option Addr) (c1 c2 : Nat) (l : List (List ByteArray)) (w : World) (h1 : Pts w a1 c1 l) (h2 : Pts w a2 c2 l) :
    Calls Try.prog 10 #[.slice a1 l.length c1, .slice a2 l.length c2] w fun e w' => e = .returned (.bool true) ∧ Below w.heap.size w w' := by
  have hl := h1.len
  have hq : ((l.length : Int) != (l.length : Int)) = false := by simp
  go_enter Try.func10, Try.ntmps10
  go_wp2_with fail
  go_loopw [5] (fun i wr => ∃ k : Nat, k ≤ l.length ∧ i = .int .i64 k ∧ Below w.heap.size w wr) (fun i _ => l.length - (intOf i).toNat)
  case atStart => exact ⟨0, Nat.zero_le _, rfl, Below.refl _ _⟩
  case round =>
    obtain ⟨k, hk, rfl, hnx⟩ := hrel
    have hsz := hnx.size
    by_cases hlt : k < l.length
    · obtain ⟨b1, o1, x1, d1, rfl, hb1, e1, s1⟩ := (h1.below hnx).cells k hlt
      obtain ⟨b2, o2, x2, d2, rfl, hb2, e2, s2⟩ := (h2.below hnx).cells k hlt
      have i1 : (k : Int) < (l.length : Int) := by omega
      have hxl := s1.len
      generalize l[k]'hlt = q at *
      have hsm := same_b _ _ _ _ q q wr.drew (s1.below (Below.refl _ _).drew) (s2.below (Below.refl _ _).drew)
      rw [(Pl.same_iff q q).2 rfl] at hsm
      have HW : Hid (Calls Try.prog 20 #[.slice x1 q.length d1, .slice x2 q.length d2] wr.drew fun e w' => e = .returned (.bool true) ∧ Below wr.drew.heap.size wr.drew w') := hsm
      clear hsm
      go_wp2_with fail
      go_region_with (go_at_call 20; refine HW.out.mono ?_; rintro e w2 ⟨rfl, hb⟩)
      all_goals have hB2 : Below w.heap.size w w2 := hnx.drew.trans (hb.mono hsz)
      all_goals go_wp2_with fail
      all_goals exact ⟨⟨k + 1, by omega, by go_num, hB2⟩, by simp [intOf]; omega⟩
    · have i1 : ¬ (k : Int) < (l.length : Int) := by omega
      go_wp2_with fail
      go_ret
      exact ⟨rfl, hnx⟩
end Go.Proofs.Ytmbpebdceaihaab
