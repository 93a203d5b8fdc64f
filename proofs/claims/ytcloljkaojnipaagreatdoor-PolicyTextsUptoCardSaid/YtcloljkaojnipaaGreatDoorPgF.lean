/- What the reference's Within, Compare and Alike, and both Insides answer. What both Insides and the reference's Alike of one list answer. Which blocks of memory have turned. -/
import Derived.Test.YtcloljkaojnipaaGreatDoorPgE
import Derived.Deep.RegionWith
import Derived.Laws.Rows
namespace Go.Proofs.YtcloljkaojnipaaGreatDoor
open Go.RowKit

namespace Pl
theorem com_drop : ∀ a b : List ByteArray, cmpP a b = cmpP (a.drop (com a b)) (b.drop (com a b))
  | [], b => by simp [com_nil_left]
  | _ :: _, [] => by simp [com_nil_right]
  | x :: r, y :: t => by
    have ih := com_drop r t
    by_cases h : (x.toList == y.toList) = true
    · have e : com (x :: r) (y :: t) = com r t + 1 := by simp only [com, h, if_true]; omega
      rw [e, List.drop_succ_cons, List.drop_succ_cons, ← ih]
      simp only [cmpP, lex, cmpS_eq h, if_true]
    · have e : com (x :: r) (y :: t) = 0 := by simp only [com]; rw [if_neg h]
      rw [e]; rfl
theorem com_part : ∀ (a b : List ByteArray) (h1 : com a b < a.length) (h2 : com a b < b.length), ((a[com a b]'h1).toList == (b[com a b]'h2).toList) = false
  | [], _, h1, _ => absurd h1 (by simp)
  | _ :: _, [], _, h2 => absurd h2 (by simp)
  | x :: r, y :: t, h1, h2 => by
    by_cases h : (x.toList == y.toList) = true
    · have e : com (x :: r) (y :: t) = com r t + 1 := by simp only [com, h, if_true]; omega
      have ih := com_part r t (by rw [e] at h1; simpa using h1) (by rw [e] at h2; simpa using h2)
      simp only [e, List.getElem_cons_succ]
      exact ih
    · have e : com (x :: r) (y :: t) = 0 := by simp only [com]; rw [if_neg h]
      simp only [e, List.getElem_cons_zero]
      simpa using h
def insideB (l : List (List ByteArray)) (p : List ByteArray) : Bool := l.any fun q => withinP p q
theorem inside_step {l : List (List ByteArray)} {p : List ByteArray} {k : Nat} (hk : k < l.length) (h : withinP p (l[k]'hk) = false) : insideB (l.drop k) p = insideB (l.drop (k + 1)) p := by
  rw [List.drop_eq_getElem_cons hk, insideB, List.any_cons, h]; rfl
theorem inside_hit {l : List (List ByteArray)} {p : List ByteArray} {k : Nat} (hk : k < l.length) (h : withinP p (l[k]'hk) = true) : insideB (l.drop k) p = true := by
  rw [List.drop_eq_getElem_cons hk, insideB, List.any_cons, h]; rfl
end Pl

set_option maxRecDepth 100000 in
set_option maxHeartbeats 400000 in
theorem rwithin_q (a1 a2 : Option Addr) (c1 c2 : Nat) (l1 l2 : List ByteArray) (w : World) (h1 : Strs w a1 c1 l1) (h2 : Strs w a2 c2 l2) :
    Calls Tryz.prog 63 #[.slice a1 l1.length c1, .slice a2 l2.length c2] w fun e w' => e = .returned (.bool (Pl.withinP l1 l2)) ∧ ∃ n, w' = w.drewN n := by
  have hl1 := h1.len
  have hl2 := h2.len
  by_cases hq : l2.length ≤ l1.length
  · have hq' : (l2.length : Int) ≤ (l1.length : Int) := by omega
    clear hq
    go_enter Tryz.func63, Tryz.ntmps63
    go_wp2_with (go_at_call 89; refine (both_any _ _ _ _ l1 l2 _ h1 h2).mono ?_; rintro e w' ⟨rfl, n, rfl⟩)
    go_ret
    exact ⟨rfl, n, rfl⟩
  · have HE : Hid (Pl.withinP l1 l2 = false) := by
      have := (Pl.com_le l1 l2).2
      show _ = _
      simp only [Pl.withinP, beq_eq_false_iff_ne]
      omega
    have hq' : ¬ (l2.length : Int) ≤ (l1.length : Int) := by omega
    clear hq
    go_enter Tryz.func63, Tryz.ntmps63
    go_wp2_with fail
    go_ret
    exact ⟨ret_bool HE.out.symm, 0, rfl⟩

set_option maxRecDepth 100000 in
set_option maxHeartbeats 800000 in
theorem rcompare_q (a1 a2 : Option Addr) (c1 c2 : Nat) (l1 l2 : List ByteArray) (w : World) (h1 : Strs w a1 c1 l1) (h2 : Strs w a2 c2 l2) :
    Calls Tryz.prog 64 #[.slice a1 l1.length c1, .slice a2 l2.length c2] w fun e w' => e = .returned (.int .i64 (Pl.cmpP l1 l2)) ∧ ∃ n, w' = w.drewN n := by
  have hl1 := h1.len
  have hl2 := h2.len
  have hb := both_any _ _ _ _ l1 l2 w h1 h2
  have hcd := Pl.com_drop l1 l2
  have hcl := Pl.com_le l1 l2
  have hcp := Pl.com_part l1 l2
  obtain ⟨k, hk⟩ : ∃ k, Pl.com l1 l2 = k := ⟨_, rfl⟩
  rw [hk] at hb hcd hcl
  have HB : Hid (Calls Tryz.prog 89 #[.slice a1 l1.length c1, .slice a2 l2.length c2] w fun e w' => e = .returned (.int .i64 (k : Nat)) ∧ ∃ n, w' = w.drewN n) := hb
  have HP : Hid (∀ (h1 : k < l1.length) (h2 : k < l2.length), ((l1[k]'h1).toList == (l2[k]'h2).toList) = false) := by subst hk; exact hcp
  have HCD : Hid (Pl.cmpP l1 l2 = Pl.cmpP (l1.drop k) (l2.drop k)) := hcd
  clear hb hcd hcp hk
  by_cases e1 : k = l1.length
  · by_cases e2 : k = l2.length
    · have HE : Hid (Pl.cmpP l1 l2 = 0) := HCD.out.trans (Pl.cmpP_end (by omega) (by omega))
      have q1 : ((k : Int) == (l1.length : Int)) = true := by rw [e1]; simp
      have q2 : ((k : Int) == (l2.length : Int)) = true := by rw [← e2]; simp
      clear e1 e2
      go_enter Tryz.func64, Tryz.ntmps64
      go_wp2_with (go_at_call 89; refine HB.out.mono ?_; rintro e w' ⟨rfl, n, rfl⟩)
      go_ret
      exact ⟨ret_int HE.out.symm, n, rfl⟩
    · have HE : Hid (Pl.cmpP l1 l2 = -1) := HCD.out.trans (Pl.cmpP_less (by omega) (by omega))
      have q1 : ((k : Int) == (l1.length : Int)) = true := by rw [e1]; simp
      have q2 : ((k : Int) == (l2.length : Int)) = false := by rw [beq_eq_false_iff_ne]; omega
      clear e1 e2
      go_enter Tryz.func64, Tryz.ntmps64
      go_wp2_with (go_at_call 89; refine HB.out.mono ?_; rintro e w' ⟨rfl, n, rfl⟩)
      go_ret
      exact ⟨ret_int HE.out.symm, n, rfl⟩
  · have q1 : ((k : Int) == (l1.length : Int)) = false := by rw [beq_eq_false_iff_ne]; omega
    by_cases e2 : k = l2.length
    · have HE : Hid (Pl.cmpP l1 l2 = 1) := HCD.out.trans (Pl.cmpP_more (by omega) (by omega))
      have q2 : ((k : Int) == (l2.length : Int)) = true := by rw [← e2]; simp
      clear e1 e2
      go_enter Tryz.func64, Tryz.ntmps64
      go_wp2_with (go_at_call 89; refine HB.out.mono ?_; rintro e w' ⟨rfl, n, rfl⟩)
      go_ret
      exact ⟨ret_int HE.out.symm, n, rfl⟩
    · have k1 : k < l1.length := by omega
      have k2 : k < l2.length := by omega
      have q2 : ((k : Int) == (l2.length : Int)) = false := by rw [beq_eq_false_iff_ne]; omega
      have hne := HP.out k1 k2
      have hst := @Pl.cmpP_stop l1 l2 k k1 k2
      obtain ⟨b1, o1, rfl, hb1, d1⟩ := h1.cells k k1
      obtain ⟨b2, o2, rfl, hb2, d2⟩ := h2.cells k k2
      have i1 : (k : Int) < (l1.length : Int) := by omega
      have i2 : (k : Int) < (l2.length : Int) := by omega
      have HST : Hid (¬ Pl.cmpS (l1[k]'k1) (l2[k]'k2) = 0 → Pl.cmpP l1 l2 = Pl.cmpS (l1[k]'k1) (l2[k]'k2)) := fun h => HCD.out.trans (hst h)
      clear hst HP e1 e2
      generalize l1[k]'k1 = x at *
      generalize l2[k]'k2 = y at *
      cases hless : Op.bytesLess x.toList y.toList
      · have HE : Hid (Pl.cmpP l1 l2 = 1) := by
          have e := Pl.cmpS_more hless hne
          show _ = _
          rw [HST.out (by rw [e]; decide), e]
        go_enter Tryz.func64, Tryz.ntmps64
        go_wp2_with (go_at_call 89; refine HB.out.mono ?_; rintro e w' ⟨rfl, n, rfl⟩)
        all_goals (try (go_quiet (fail)))
        all_goals (try (go_wp2_with fail))
        go_ret
        exact ⟨ret_int HE.out.symm, by first | exact ⟨_, rfl⟩ | exact ⟨_, World.drewN_drewN _ _ _⟩⟩
      · have HE : Hid (Pl.cmpP l1 l2 = -1) := by
          have e := Pl.cmpS_less hless
          show _ = _
          rw [HST.out (by rw [e]; decide), e]
        go_enter Tryz.func64, Tryz.ntmps64
        go_wp2_with (go_at_call 89; refine HB.out.mono ?_; rintro e w' ⟨rfl, n, rfl⟩)
        all_goals (try (go_quiet (fail)))
        all_goals (try (go_wp2_with fail))
        go_ret
        exact ⟨ret_int HE.out.symm, by first | exact ⟨_, rfl⟩ | exact ⟨_, World.drewN_drewN _ _ _⟩⟩

theorem rwithin_any (a1 a2 : Option Addr) (c1 c2 : Nat) (l1 l2 : List ByteArray) (w : World) (h1 : Strs w a1 c1 l1) (h2 : Strs w a2 c2 l2) :
    Calls Tryz.prog 63 #[.slice a1 l1.length c1, .slice a2 l2.length c2] w fun e w' => e = .returned (.bool (Pl.withinP l1 l2)) ∧ Below w.heap.size w w' :=
  (rwithin_q a1 a2 c1 c2 l1 l2 w h1 h2).mono fun _ _ ⟨he, n, hw⟩ => ⟨he, by rw [hw]; exact below_drewN (Below.refl _ _) n⟩
theorem rcompare_any (a1 a2 : Option Addr) (c1 c2 : Nat) (l1 l2 : List ByteArray) (w : World) (h1 : Strs w a1 c1 l1) (h2 : Strs w a2 c2 l2) :
    Calls Tryz.prog 64 #[.slice a1 l1.length c1, .slice a2 l2.length c2] w fun e w' => e = .returned (.int .i64 (Pl.cmpP l1 l2)) ∧ Below w.heap.size w w' :=
  (rcompare_q a1 a2 c1 c2 l1 l2 w h1 h2).mono fun _ _ ⟨he, n, hw⟩ => ⟨he, by rw [hw]; exact below_drewN (Below.refl _ _) n⟩
end Go.Proofs.YtcloljkaojnipaaGreatDoor
namespace Go.Proofs.YtcloljkaojnipaaGreatDoor
open Go.RowKit

set_option maxRecDepth 100000 in
set_option maxHeartbeats 1000000 in
theorem inside_any (a ap : Option Addr) (cap cp : Nat) (l : List (List ByteArray)) (p : List ByteArray) (w : World) (h : Pts w a cap l) (hp : Strs w ap cp p) :
    Calls Tryz.prog 36 #[.slice a l.length cap, .slice ap p.length cp] w fun e w' => e = .returned (.bool (Pl.insideB l p)) ∧ Below w.heap.size w w' := by
  have hl := h.len
  go_enter Tryz.func36, Tryz.ntmps36
  go_wp2_with fail
  go_loopw [9] (fun i wr => ∃ k : Nat, k ≤ l.length ∧ i = .int .i64 k ∧ Hid (Pl.insideB l p = Pl.insideB (l.drop k) p) ∧ Below w.heap.size w wr) (fun i _ => l.length - (intOf i).toNat)
  case atStart => exact ⟨0, Nat.zero_le _, rfl, rfl, Below.refl _ _⟩
  case round =>
    obtain ⟨k, hk, rfl, HC, hnx⟩ := hrel
    have hsz := hnx.size
    by_cases hlt : k < l.length
    · obtain ⟨b, off, x, c, rfl, hb, hc, hs⟩ := (h.below hnx).cells k hlt
      have hpr := hp.below hnx
      have HS : Hid (Pl.withinP p (l[k]'hlt) = false → Pl.insideB (l.drop k) p = Pl.insideB (l.drop (k + 1)) p) := Pl.inside_step hlt
      have HH : Hid (Pl.withinP p (l[k]'hlt) = true → Pl.insideB (l.drop k) p = true) := Pl.inside_hit hlt
      have i1 : (k : Int) < (l.length : Int) := by omega
      have hxl := hs.len
      generalize l[k]'hlt = q at *
      have hwi := within_any _ _ _ _ p q wr hpr hs
      cases hw : Pl.withinP p q
      · rw [hw] at hwi
        have HW : Hid (Calls Tryz.prog 59 #[.slice ap p.length cp, .slice x q.length c] wr fun e w' => e = .returned (.bool false) ∧ ∃ n, w' = wr.drewN n) := hwi
        have HE : Hid (Pl.insideB l p = Pl.insideB (l.drop (k + 1)) p) := HC.out.trans (HS.out hw)
        clear hwi HS HH HC
        go_wp2_with fail
        refine HW.out.mono ?_
        rintro e w' ⟨rfl, nq, rfl⟩
        go_wp2_with fail
        go_roundw
        case rel => exact ⟨k + 1, by omega, by go_num, HE, below_drewN hnx nq⟩
        case measure => simp [intOf]; omega
      · rw [hw] at hwi
        have HW : Hid (Calls Tryz.prog 59 #[.slice ap p.length cp, .slice x q.length c] wr fun e w' => e = .returned (.bool true) ∧ ∃ n, w' = wr.drewN n) := hwi
        have HE : Hid (Pl.insideB l p = true) := HC.out.trans (HH.out hw)
        clear hwi HS HH HC
        go_wp2_with fail
        refine HW.out.mono ?_
        rintro e w' ⟨rfl, nq, rfl⟩
        go_wp2_with fail
        go_ret
        exact ⟨ret_bool HE.out.symm, below_drewN hnx nq⟩
    · have HE : Hid (Pl.insideB l p = false) := by
        have := HC.out
        rw [List.drop_eq_nil_of_le (by omega)] at this
        exact this
      have i1 : ¬ (k : Int) < (l.length : Int) := by omega
      go_wp2_with fail
      go_ret
      exact ⟨ret_bool HE.out.symm, hnx⟩

set_option maxRecDepth 100000 in
set_option maxHeartbeats 1000000 in
theorem rinside_any (a ap : Option Addr) (cap cp : Nat) (l : List (List ByteArray)) (p : List ByteArray) (w : World) (h : Pts w a cap l) (hp : Strs w ap cp p) :
    Calls Tryz.prog 38 #[.slice a l.length cap, .slice ap p.length cp] w fun e w' => e = .returned (.bool (Pl.insideB l p)) ∧ Below w.heap.size w w' := by
  have hl := h.len
  go_enter Tryz.func38, Tryz.ntmps38
  go_wp2_with fail
  go_loopw [5] (fun i wr => ∃ k : Nat, k ≤ l.length ∧ i = .int .i64 k ∧ Hid (Pl.insideB l p = Pl.insideB (l.drop k) p) ∧ Below w.heap.size w wr) (fun i _ => l.length - (intOf i).toNat)
  case atStart => exact ⟨0, Nat.zero_le _, rfl, rfl, Below.refl _ _⟩
  case round =>
    obtain ⟨k, hk, rfl, HC, hnx⟩ := hrel
    have hsz := hnx.size
    by_cases hlt : k < l.length
    · obtain ⟨b, off, x, c, rfl, hb, hc, hs⟩ := (h.below hnx).cells k hlt
      have hpr := hp.below hnx
      have HS : Hid (Pl.withinP p (l[k]'hlt) = false → Pl.insideB (l.drop k) p = Pl.insideB (l.drop (k + 1)) p) := Pl.inside_step hlt
      have HH : Hid (Pl.withinP p (l[k]'hlt) = true → Pl.insideB (l.drop k) p = true) := Pl.inside_hit hlt
      have i1 : (k : Int) < (l.length : Int) := by omega
      have hxl := hs.len
      generalize l[k]'hlt = q at *
      have hwi := rwithin_any _ _ _ _ p q wr hpr hs
      cases hw : Pl.withinP p q
      · rw [hw] at hwi
        have HW : Hid (Calls Tryz.prog 63 #[.slice ap p.length cp, .slice x q.length c] wr fun e w' => e = .returned (.bool false) ∧ Below wr.heap.size wr w') := hwi
        have HE : Hid (Pl.insideB l p = Pl.insideB (l.drop (k + 1)) p) := HC.out.trans (HS.out hw)
        clear hwi HS HH HC
        go_wp2_with fail
        refine HW.out.mono ?_
        rintro e w2 ⟨rfl, hb2⟩
        go_wp2_with fail
        go_roundw
        case rel => exact ⟨k + 1, by omega, by go_num, HE, hnx.trans (hb2.mono hsz)⟩
        case measure => simp [intOf]; omega
      · rw [hw] at hwi
        have HW : Hid (Calls Tryz.prog 63 #[.slice ap p.length cp, .slice x q.length c] wr fun e w' => e = .returned (.bool true) ∧ Below wr.heap.size wr w') := hwi
        have HE : Hid (Pl.insideB l p = true) := HC.out.trans (HH.out hw)
        clear hwi HS HH HC
        go_wp2_with fail
        refine HW.out.mono ?_
        rintro e w2 ⟨rfl, hb2⟩
        go_wp2_with fail
        go_ret
        exact ⟨ret_bool HE.out.symm, hnx.trans (hb2.mono hsz)⟩
    · have HE : Hid (Pl.insideB l p = false) := by
        have := HC.out
        rw [List.drop_eq_nil_of_le (by omega)] at this
        exact this
      have i1 : ¬ (k : Int) < (l.length : Int) := by omega
      go_wp2_with fail
      go_ret
      exact ⟨ret_bool HE.out.symm, hnx⟩

set_option maxRecDepth 100000 in
set_option maxHeartbeats 1000000 in
/-- Two lists of paths that read as one are alike. -/
theorem alike_self (a1 a2 : Option Addr) (c1 c2 : Nat) (l : List (List ByteArray)) (w : World) (h1 : Pts w a1 c1 l) (h2 : Pts w a2 c2 l) :
    Calls Tryz.prog 33 #[.slice a1 l.length c1, .slice a2 l.length c2] w fun e w' => e = .returned (.bool true) ∧ Below w.heap.size w w' := by
  have hl := h1.len
  have hq : ((l.length : Int) != (l.length : Int)) = false := by simp
  go_enter Tryz.func33, Tryz.ntmps33
  go_wp2_with fail
  go_loopw [5] (fun i wr => ∃ k : Nat, k ≤ l.length ∧ i = .int .i64 k ∧ Below w.heap.size w wr) (fun i _ => l.length - (intOf i).toNat)
  case atStart => exact ⟨0, Nat.zero_le _, rfl, Below.refl _ _⟩
  case round =>
    obtain ⟨k, hk, rfl, hnx⟩ := hrel
    have hsz := hnx.size
    by_cases hlt : k < l.length
    · obtain ⟨b1, o1, x1, d1, rfl, hb1, e1, s1⟩ := (h1.below hnx).cells k hlt
      obtain ⟨b2, o2, x2, d2, rfl, hb2, e2, s2⟩ := (h2.below hnx).cells k hlt
      have i1 : (k : Int) < (l.length : Int) := by omega
      have hxl := s1.len
      generalize l[k]'hlt = q at *
      have hsm := same_b _ _ _ _ q q wr.drew (s1.below (Below.refl _ _).drew) (s2.below (Below.refl _ _).drew)
      rw [(Pl.same_iff q q).2 rfl] at hsm
      have HW : Hid (Calls Tryz.prog 65 #[.slice x1 q.length d1, .slice x2 q.length d2] wr.drew fun e w' => e = .returned (.bool true) ∧ Below wr.drew.heap.size wr.drew w') := hsm
      clear hsm
      go_wp2_with fail
      go_region_with (go_at_call 65; refine HW.out.mono ?_; rintro e w2 ⟨rfl, hb⟩)
      all_goals have hB2 : Below w.heap.size w w2 := hnx.drew.trans (hb.mono hsz)
      all_goals go_wp2_with fail
      all_goals exact ⟨⟨k + 1, by omega, by go_num, hB2⟩, by simp [intOf]; omega⟩
    · have i1 : ¬ (k : Int) < (l.length : Int) := by omega
      go_wp2_with fail
      go_ret
      exact ⟨rfl, hnx⟩
end Go.Proofs.YtcloljkaojnipaaGreatDoor
namespace Go.Proofs.YtcloljkaojnipaaGreatDoor
open Go.RowKit

/-- Of the blocks of A none but those of O has turned. -/
structure Tu (O : Nat → Prop) (A B : World) : Prop where
  os : B.os = A.os
  tape : B.tape = A.tape
  output : B.output = A.output
  size : A.heap.size ≤ B.heap.size
  block : ∀ k, k < A.heap.size → ¬ O k → B.heap[k]? = A.heap[k]?
theorem Tu.refl (O : Nat → Prop) (A : World) : Tu O A A := ⟨rfl, rfl, rfl, Nat.le_refl _, fun _ _ _ => rfl⟩
theorem Tu.mono {O O' : Nat → Prop} {A B : World} (h : Tu O A B) (hO : ∀ k, k < A.heap.size → O k → O' k) : Tu O' A B :=
  ⟨h.os, h.tape, h.output, h.size, fun k hk hn => h.block k hk (fun e => hn (hO k hk e))⟩
theorem Tu.trans {O O' : Nat → Prop} {A B C : World} (h : Tu O A B) (h' : Tu O' B C) (hO : ∀ k, k < A.heap.size → O' k → O k) : Tu O A C :=
  ⟨h'.os.trans h.os, h'.tape.trans h.tape, h'.output.trans h.output, Nat.le_trans h.size h'.size, fun k hk hn => (h'.block k (by have := h.size; omega) (fun e => hn (hO k hk e))).trans (h.block k hk hn)⟩
theorem Tu.of_below {O : Nat → Prop} {A B : World} (h : Below A.heap.size A B) : Tu O A B :=
  ⟨h.os, h.tape, h.output, h.size, fun k hk _ => h.block k hk⟩
theorem Tu.alloc {O : Nat → Prop} {A B : World} (h : Tu O A B) (o : Obj) : Tu O A (B.alloc o) :=
  h.trans (O' := fun _ => False) (Tu.of_below ((Below.refl B.heap.size B).alloc (Nat.le_refl _) o)) (fun _ _ e => e.elim)
theorem Tu.below {O : Nat → Prop} {A B : World} {n : Nat} (h : Tu O A B) (hn : n ≤ A.heap.size) (hO : ∀ k, O k → n ≤ k) : Below n A B :=
  ⟨h.os, h.tape, h.output, h.size, fun k hk => h.block k (by omega) (fun e => by have := hO k e; omega)⟩
theorem Tu.drew {O : Nat → Prop} {A B : World} (h : Tu O A B) : Tu O A B.drew := ⟨h.os, h.tape, h.output, h.size, h.block⟩
theorem Tu.setCell {O : Nat → Prop} {A B : World} (h : Tu O A B) {p : Addr} (hp : p.block < A.heap.size → O p.block) (v : Value) : Tu O A (B.setCell p v) := by
  have y := (Below.refl 0 B).setCell (p := p) (Nat.zero_le _) v
  exact h.trans (O' := fun k => k = p.block) ⟨y.os, y.tape, y.output, y.size, fun k _ hn => heap_setCell_other B p k v hn⟩ (fun k hk e => by subst e; exact hp hk)
theorem Tu.of_grown {O : Nat → Prop} {A B : World} {r : Option Nat} (h : A.grownBy B r) (hr : ∀ k, r = some k → O k) : Tu O A B :=
  ⟨h.os, h.tape, h.output, h.size, fun k hk hn => h.block k hk (fun e => hn (hr k e.symm))⟩
end Go.Proofs.YtcloljkaojnipaaGreatDoor
