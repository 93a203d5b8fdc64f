/- What the reference's Cover answers: the cover of its list, in memory of its own. -/
import Derived.Test.YtcloljkaojnipaaGreatDoorPgF
import Derived.Deep.QuietTactic
import Derived.BigQuiet
namespace Go.Proofs.YtcloljkaojnipaaGreatDoor
open Go.RowKit

namespace Pl
def Bad (l : List (List ByteArray)) (i k : Nat) : Prop := ∃ (hk : k < l.length) (hi : i < l.length), In (l[i]'hi) (l[k]'hk) ∧ ((l[k]'hk).length < (l[i]'hi).length ∨ k < i)
theorem keep_iff {l : List (List ByteArray)} {i : Nat} : keepB l i ↔ ∀ k, k < l.length → ¬ Bad l i k :=
  ⟨fun h k hk ⟨_, hi, hb⟩ => h k hk hi hb, fun h k hk hi hb => h k hk ⟨hk, hi, hb⟩⟩
theorem swap_other {A B : List (List ByteArray)} {x y : List ByteArray} {i : Nat} (h1 : i ≠ A.length) (h2 : i ≠ A.length + 1) : (A ++ x :: y :: B)[i]? = (A ++ y :: x :: B)[i]? := by
  rcases Nat.lt_or_ge i A.length with h | h
  · rw [List.getElem?_append_left h, List.getElem?_append_left h]
  · rw [List.getElem?_append_right h, List.getElem?_append_right h]
    obtain ⟨j, rfl⟩ : ∃ j, i = A.length + (j + 2) := ⟨i - A.length - 2, by omega⟩
    rw [show A.length + (j + 2) - A.length = j + 2 by omega]
    rfl
end Pl

/-- Two neighbours in a row of paths, exchanged. -/
theorem prow_swap {w : World} {base g n c : Nat} {A B : List (List ByteArray)} {x y : List ByteArray} {xs : List Value} {u0 u1 : Value} (hn : (A ++ y :: x :: B).length = n)
    (ox : w.ownsRow base 26 1 (.slice (some ⟨g, 0, none⟩) n c) n xs) (ex : Elts w (some g) xs (A ++ y :: x :: B)) (h0 : xs[A.length]? = some u0) (h1 : xs[A.length + 1]? = some u1) :
    PRow ((w.setCell ⟨g, A.length + 1, none⟩ u0).setCell ⟨g, A.length, none⟩ u1) base (.slice (some ⟨g, 0, none⟩) n c) (A ++ x :: y :: B) := by
  obtain ⟨st1, gr1⟩ := ox.stored (A.length + 1) u0
  obtain ⟨st2, gr2⟩ := st1.stored A.length u1
  have hn' : (A ++ x :: y :: B).length = n := by rw [← hn]; simp
  have hxl : xs.length = n := by simpa using ox.1
  have hnl : A.length + 1 < n := by rw [← hn]; simp
  refine ⟨(xs.set (A.length + 1) u0).set A.length u1, by rw [hn']; exact st2, fun i hi => ?_⟩
  have go : ∀ (z : Option Addr) (d : Nat) (q : List ByteArray), Strs w z d q → Off z q (some g) → Strs ((w.setCell ⟨g, A.length + 1, none⟩ u0).setCell ⟨g, A.length, none⟩ u1) z d q := fun z d q hs ho => (hs.grownO gr1 ho).grownO gr2 ho
  have hi' : i < n := by rw [← hn']; exact hi
  by_cases e1 : i = A.length
  · subst e1
    obtain ⟨z, d, k1, k2, k3⟩ := ex (A.length + 1) (by rw [hn]; omega)
    have el : (A ++ y :: x :: B)[A.length + 1]'(by rw [hn]; omega) = x := by
      rw [List.getElem_append_right (by omega)]; simp
    have el' : (A ++ x :: y :: B)[A.length]'hi = x := by
      rw [List.getElem_append_right (by omega)]; simp
    rw [el] at k1 k2 k3
    rw [el']
    refine ⟨z, d, ?_, go z d x k2 k3, k3⟩
    rw [List.getElem?_set_self (by simp; omega), ← h1, k1]
  · by_cases e2 : i = A.length + 1
    · subst e2
      obtain ⟨z, d, k1, k2, k3⟩ := ex A.length (by rw [hn]; omega)
      have el : (A ++ y :: x :: B)[A.length]'(by rw [hn]; omega) = y := by
        rw [List.getElem_append_right (by omega)]; simp
      have el' : (A ++ x :: y :: B)[A.length + 1]'hi = y := by
        rw [List.getElem_append_right (by omega)]; simp
      rw [el] at k1 k2 k3
      rw [el']
      refine ⟨z, d, ?_, go z d y k2 k3, k3⟩
      rw [List.getElem?_set_ne (by omega), List.getElem?_set_self (by omega), ← h0, k1]
    · obtain ⟨z, d, k1, k2, k3⟩ := ex i (by rw [hn]; exact hi')
      have el : (A ++ x :: y :: B)[i]'hi = (A ++ y :: x :: B)[i]'(by rw [hn]; exact hi') := by
        have := Pl.swap_other (A := A) (B := B) (x := x) (y := y) e1 e2
        rw [List.getElem?_eq_getElem hi, List.getElem?_eq_getElem (by rw [hn]; exact hi')] at this
        exact Option.some.inj this
      rw [el]
      refine ⟨z, d, ?_, go z d _ k2 k3, k3⟩
      rw [List.getElem?_set_ne (by omega), List.getElem?_set_ne (by omega), k1]

set_option maxRecDepth 100000 in
set_option maxHeartbeats 4000000 in
theorem rcover_any (a : Option Addr) (cap : Nat) (l : List (List ByteArray)) (w : World) (h : Pts w a cap l) :
    Calls Tryz.prog 30 #[.slice a l.length cap] w fun e w' => ∃ c v, e = .returned v ∧ Pl.Cov l c ∧ c.length ≤ l.length ∧ PRow w' w.heap.size v c ∧ Below w.heap.size w w' := by
  obtain ⟨i0, hi, hz0, hz1, hz2⟩ := info_parts Tryz.infoPath
  have hl := h.len
  go_enter Tryz.func30, Tryz.ntmps30
  go_wp2_with fail
  go_loopw [3, 4] (fun v iv wr => ∃ (i : Nat) (out : List (List ByteArray)), i ≤ l.length ∧ iv = .int .i64 i ∧ Pl.CovR l i out ∧ out.length ≤ i ∧ PRow wr w.heap.size v out ∧ Below w.heap.size w wr) (fun _ iv _ => l.length - (intOf iv).toNat)
  case atStart => exact ⟨0, [], Nat.zero_le _, rfl, Pl.covR_zero l, Nat.le_refl _, PRow.empty _ _, Below.refl _ _⟩
  case round =>
    obtain ⟨i, out, hil, rfl, hcov, hol, hpr, hnx⟩ := hrel
    obtain ⟨wo, rfl⟩ : ∃ wo, wo = wr := ⟨_, rfl⟩
    have hsz := hnx.size
    have HCV : Hid (Pl.CovR l i out) := hcov
    clear hcov
    by_cases hlt : i < l.length
    · have j1 : (i : Int) < (l.length : Int) := by omega
      go_wp2_with fail
      go_loopw [5, 6] (fun kv jv wq => ∃ (k : Nat) (kp : Bool), k ≤ l.length ∧ jv = .int .i64 k ∧ kv = .bool kp ∧ Hid (kp = true ↔ ∀ j, j < k → ¬ Pl.Bad l i j) ∧ Below wo.heap.size wo wq) (fun _ jv _ => l.length - (intOf jv).toNat)
      case atStart => exact ⟨0, true, Nat.zero_le _, rfl, rfl, ⟨fun _ j hj => absurd hj (by omega), fun _ => rfl⟩, Below.refl _ _⟩
      case round =>
        obtain ⟨k, kp, hkl, rfl, rfl, HK, hnq⟩ := hrel
        have hszq := hnq.size
        by_cases hkt : k < l.length
        · have k1 : (k : Int) < (l.length : Int) := by omega
          have hq := h.below (hnx.trans (hnq.mono hsz))
          obtain ⟨b1, o1, x1, d1, e0, hb1, c1, s1⟩ := hq.cells i hlt
          obtain ⟨b2, o2, x2, d2, rfl, hb2, c2, s2⟩ := hq.cells k hkt
          cases e0
          have HBad : Hid (Pl.Bad l i k ↔ Pl.In (l[i]'hlt) (l[k]'hkt) ∧ ((l[k]'hkt).length < (l[i]'hlt).length ∨ k < i)) := ⟨fun ⟨_, _, hh⟩ => hh, fun hh => ⟨hkt, hlt, hh⟩⟩
          have hx1 := s1.len
          have hx2 := s2.len
          generalize l[i]'hlt = p at *
          generalize l[k]'hkt = q at *
          have hstep : Hid (∀ kp' : Bool, (kp' = true ↔ kp = true ∧ ¬ Pl.Bad l i k) → (kp' = true ↔ ∀ j, j < k + 1 → ¬ Pl.Bad l i j)) := fun kp' hh => by
            rw [hh, HK.out]
            constructor
            · rintro ⟨g1, g2⟩ j hj
              rcases Nat.lt_or_ge j k with hjk | hjk
              · exact g1 j hjk
              · have : j = k := by omega
                subst this; exact g2
            · intro g; exact ⟨fun j hj => g j (by omega), g k (by omega)⟩
          have hwi : ∀ n, Calls Tryz.prog 63 #[.slice x1 p.length d1, .slice x2 q.length d2] (wr.drewN n) fun e w' => e = .returned (.bool (Pl.withinP p q)) ∧ ∃ m, w' = (wr.drewN n).drewN m := fun n => rwithin_q _ _ _ _ p q _ (s1.drewN n) (s2.drewN n)
          cases hw : Pl.withinP p q
          · rw [hw] at hwi
            have HW : Hid (∀ n, Calls Tryz.prog 63 #[.slice x1 p.length d1, .slice x2 q.length d2] (wr.drewN n) fun e w' => e = .returned (.bool false) ∧ ∃ m, w' = (wr.drewN n).drewN m) := hwi
            have HN : Hid (kp = true ↔ ∀ j, j < k + 1 → ¬ Pl.Bad l i j) := hstep.out kp ⟨fun hh => ⟨hh, fun hb => by have := (HBad.out.1 hb).1; rw [(Pl.within_in p q).2 this] at hw; cases hw⟩, fun hh => hh.1⟩
            clear hwi hstep HBad HK
            go_wp2_with fail
            go_quiet (first | (go_at_call 63; refine Calls.quiet_of (HW.out _)))
            have hB2 : Below wo.heap.size wo (wr.drewN nq) := below_drewN hnq nq
            go_wp2_with fail
            exact ⟨⟨k + 1, kp, by omega, by go_num, rfl, HN, hB2⟩, by simp [intOf]; omega⟩
          · rw [hw] at hwi
            have HW : Hid (∀ n, Calls Tryz.prog 63 #[.slice x1 p.length d1, .slice x2 q.length d2] (wr.drewN n) fun e w' => e = .returned (.bool true) ∧ ∃ m, w' = (wr.drewN n).drewN m) := hwi
            have hin := (Pl.within_in p q).1 hw
            clear hwi
            by_cases t1 : q.length < p.length
            · have t1' : (q.length : Int) < (p.length : Int) := by omega
              have HN : Hid (false = true ↔ ∀ j, j < k + 1 → ¬ Pl.Bad l i j) := hstep.out false ⟨fun hh => absurd hh (by simp), fun hh => absurd (HBad.out.2 ⟨hin, .inl t1⟩) hh.2⟩
              clear hstep HBad HK hin
              go_wp2_with fail
              go_quiet (first | (go_at_call 63; refine Calls.quiet_of (HW.out _)))
              have hB2 : Below wo.heap.size wo (wr.drewN nq) := below_drewN hnq nq
              go_wp2_with fail
              exact ⟨⟨k + 1, false, by omega, by go_num, rfl, HN, hB2⟩, by simp [intOf]; omega⟩
            · have t1' : decide ((q.length : Int) < (p.length : Int)) = false := by simp; omega
              by_cases t2 : k < i
              · have t2' : (k : Int) < (i : Int) := by omega
                have HN : Hid (false = true ↔ ∀ j, j < k + 1 → ¬ Pl.Bad l i j) := hstep.out false ⟨fun hh => absurd hh (by simp), fun hh => absurd (HBad.out.2 ⟨hin, .inr t2⟩) hh.2⟩
                clear hstep HBad HK hin
                go_wp2_with fail
                go_quiet (first | (go_at_call 63; refine Calls.quiet_of (HW.out _)))
                have hB2 : Below wo.heap.size wo (wr.drewN nq) := below_drewN hnq nq
                go_wp2_with fail
                exact ⟨⟨k + 1, false, by omega, by go_num, rfl, HN, hB2⟩, by simp [intOf]; omega⟩
              · have t2' : decide ((k : Int) < (i : Int)) = false := by simp; omega
                have HN : Hid (kp = true ↔ ∀ j, j < k + 1 → ¬ Pl.Bad l i j) := hstep.out kp ⟨fun hh => ⟨hh, fun hb => by rcases (HBad.out.1 hb).2 with g | g <;> omega⟩, fun hh => hh.1⟩
                clear hstep HBad HK hin
                go_wp2_with fail
                go_quiet (first | (go_at_call 63; refine Calls.quiet_of (HW.out _)))
                have hB2 : Below wo.heap.size wo (wr.drewN nq) := below_drewN hnq nq
                go_wp2_with fail
                exact ⟨⟨k + 1, kp, by omega, by go_num, rfl, HN, hB2⟩, by simp [intOf]; omega⟩
        · have HKP : Hid (kp = true ↔ Pl.keepB l i) := by
            have e : k = l.length := by omega
            have := HK.out
            rw [e] at this
            show _ ↔ _
            rw [this, Pl.keep_iff]
          have k1 : ¬ (k : Int) < (l.length : Int) := by omega
          have hB1 := hnx.trans (hnq.mono hsz)
          have hs1 := hB1.size
          have hpr1 := hpr.below hnq
          clear HK hpr
          cases kp
          · have HC2 : Hid (Pl.CovR l (i + 1) out) := Pl.covR_skip HCV.out (fun hh => by have := HKP.out.2 hh; cases this)
            go_wp2_with fail
            go_roundw
            case rel => exact ⟨i + 1, out, by omega, by go_num, HC2.out, by omega, hpr1, hB1⟩
            case measure => simp [intOf]; omega
          · have hkeep := HKP.out.1 rfl
            have HKEEP : Hid (Pl.keepB l i) := hkeep
            have HNEW : Hid ((l[i]'hlt) ∉ out) := Pl.keep_new hlt HCV.out hkeep
            obtain ⟨b1, o1, x1, d1, rfl, hb1, c1, s1⟩ := (h.below hB1).cells i hlt
            have hx1 := s1.len
            clear hkeep HKP
            obtain ⟨p, hp⟩ : ∃ p, l[i]'hlt = p := ⟨_, rfl⟩
            rw [hp] at HNEW c1 s1 hx1
            have HPI : Hid (l[i]'hlt = p) := hp
            clear hp
            go_wp2_with fail
            refine (copy_any _ _ p _ s1).mono ?_
            rintro e w3 ⟨v3, rfl, hown, hb3⟩
            obtain ⟨x3, c3, rfl, s3⟩ := own_strs hown (by omega) s1.mem
            obtain ⟨xs, ox0, ex0⟩ := hpr1
            have hoff : Off x3 p (Value.ownBlock _) := fun hp a2 e q => by
              have g1 := own_strs_ge hown hp a2 e
              have g2 := (ox0.lt a2.block q.symm).2
              omega
            have hB3 := hB1.trans (hb3.mono hs1)
            have hs3 := hB3.size
            have ox := own_below ox0 hb3
            have ex := ex0.below hb3
            clear hown hb3 ox0 ex0
            go_wp2_with (at_builtin; refine wpList_append_far _ rfl _ _ 22 rfl w.heap.size 26 i0 (.slice none 0 0) 1 24 Tryz.underlying22 hi hz0 hz1 hz2 rfl (by decide) _ _ _ rfl (ox.alloc _) ⟨w3.heap.size, 0, none⟩ 1 1 [.slice x3 p.length c3] rfl rfl (cell_one_new _ _ _) ?c2 ?c3 ?c4 ?c5 ?_)
            case c2 => first | rfl | (intro u hu; simp at hu; subst hu; rfl)
            case c3 => unfold maxLen; omega
            case c4 => omega
            case c5 => simp; omega
            intro v4 w4 own4 hgr4 _ hat4
            have hB4 : Below w.heap.size w w4 := (hB3.alloc hs3 _).grown hgr4 (by simp; omega) (fun g hg => (ox.lt g hg).1)
            have hpr4 := prow_snoc ox ex s3 hoff own4 hgr4 hat4 (by simp)
            obtain ⟨g4, c4, rfl, hg4, _⟩ := own4.form (by omega)
            have hcap4 : out.length + 1 ≤ c4 ∧ c4 ≤ maxLen := by
              rcases own4.2 with ⟨h0, _⟩ | ⟨g', cap', cur, hv, _, _, h1, h2, _⟩
              · cases h0
              · cases hv; exact ⟨h1, h2⟩
            unfold maxLen at hcap4
            clear own4 hgr4 hat4 ox ex hoff s3
            go_wp2_with fail
            go_loopw [7] (fun kv wq => ∃ A B : List (List ByteArray), Hid (A ++ B = out) ∧ A.length ≤ out.length ∧ kv = .int .i64 A.length ∧ Hid (∀ y ∈ B, Pl.cmpP p y < 0) ∧ PRow wq w.heap.size (.slice (some ⟨g4, 0, none⟩) (out.length + 1) c4) (A ++ p :: B) ∧ Below w.heap.size w wq) (fun kv _ => (intOf kv).toNat)
            case atStart => exact ⟨out, [], by simp [Hid], Nat.le_refl _, by first | rfl | go_num, fun y hy => (by cases hy), hpr4, hB4⟩
            case round =>
              obtain ⟨A, B, HAB, hAl, rfl, HBg, hpr5, hB5⟩ := hrel
              have hs5 := hB5.size
              have HLEN : Hid ((A ++ p :: B).length = out.length + 1) := by
                have := congrArg List.length HAB.out
                show _ = _
                simp at this ⊢; omega
              have HDONE : Hid ((∀ y ∈ A, Pl.cmpP y p < 0) → Pl.CovR l (i + 1) (A ++ p :: B)) := fun hA => by
                have h1 := HCV.out
                rw [← HAB.out] at h1
                have h2 := Pl.covR_put hlt h1 HKEEP.out (by rw [HPI.out]; exact hA) (by rw [HPI.out]; exact HBg.out)
                rw [HPI.out] at h2
                exact h2
              by_cases hA0 : A = []
              · have HC2 : Hid (Pl.CovR l (i + 1) (A ++ p :: B)) := HDONE.out (fun y hy => by rw [hA0] at hy; cases hy)
                have hll := HLEN.out
                clear HDONE
                rw [show ((A.length : Nat) : Int) = 0 by rw [hA0]; rfl]
                go_wp2_with fail
                go_quiet (fail)
                have hprq := hpr5.below (below_drewN (Below.refl _ _) nq)
                have hBq := below_drewN hB5 nq
                go_wp2_with fail
                go_roundw
                case rel => exact ⟨i + 1, A ++ p :: B, by omega, by go_num, HC2.out, by omega, hprq, hBq⟩
                case measure => simp [intOf]; omega
              · obtain ⟨A', y, rfl⟩ : ∃ A' y, A = A' ++ [y] := ⟨A.dropLast, A.getLast hA0, (List.dropLast_concat_getLast hA0).symm⟩
                have HEQ : Hid (A' ++ [y] ++ p :: B = A' ++ y :: p :: B) := by simp [Hid]
                obtain ⟨xs5, ox5, ex5⟩ := hpr5
                rw [HLEN.out] at ox5
                rw [HEQ.out] at ex5
                have HL2 : Hid ((A' ++ y :: p :: B).length = out.length + 1) := by have := HLEN.out; rw [HEQ.out] at this; exact this
                obtain ⟨z1, e1, g1, s5, o5⟩ := ex5 (A'.length + 1) (by rw [HL2.out]; simp at hAl; omega)
                obtain ⟨z0, e0, g0, s6, o6⟩ := ex5 A'.length (by rw [HL2.out]; simp at hAl; omega)
                have el1 : (A' ++ y :: p :: B)[A'.length + 1]'(by rw [HL2.out]; simp at hAl; omega) = p := by rw [List.getElem_append_right (by omega)]; simp
                have el0 : (A' ++ y :: p :: B)[A'.length]'(by rw [HL2.out]; simp at hAl; omega) = y := by rw [List.getElem_append_right (by omega)]; simp
                rw [el1] at g1 s5 o5
                rw [el0] at g0 s6 o6
                have hAl' : A'.length + 1 ≤ out.length := by simpa using hAl
                have q1 : wr.cell? ⟨g4, A'.length + 1, none⟩ = some (.slice z1 p.length e1) := by rw [ox5.cellAt _ (by omega), g1]
                have q0 : wr.cell? ⟨g4, A'.length, none⟩ = some (.slice z0 y.length e0) := by rw [ox5.cellAt _ (by omega), g0]
                have f1 := ox5.frozenAt (A'.length + 1)
                have f0 := ox5.frozenAt A'.length
                have hy6 := s6.len
                have HSW : Hid (∀ n, PRow (((wr.drewN n).setCell ⟨g4, A'.length + 1, none⟩ (.slice z0 y.length e0)).setCell ⟨g4, A'.length, none⟩ (.slice z1 p.length e1)) w.heap.size (.slice (some ⟨g4, 0, none⟩) (out.length + 1) c4) (A' ++ p :: y :: B)) :=
                  fun n => prow_swap HL2.out (own_below ox5 (below_drewN (Below.refl _ _) n)) (ex5.below (below_drewN (Below.refl _ _) n)) g0 g1
                have HB6 : Hid (∀ n, Below w.heap.size w (((wr.drewN n).setCell ⟨g4, A'.length + 1, none⟩ (.slice z0 y.length e0)).setCell ⟨g4, A'.length, none⟩ (.slice z1 p.length e1))) :=
                  fun n => ((below_drewN hB5 n).setCell (p := ⟨g4, A'.length + 1, none⟩) hg4 (.slice z0 y.length e0)).setCell (p := ⟨g4, A'.length, none⟩) hg4 (.slice z1 p.length e1)
                have HPR : Hid (PRow wr w.heap.size (.slice (some ⟨g4, 0, none⟩) (out.length + 1) c4) (A' ++ [y] ++ p :: B)) := ⟨xs5, by rw [HLEN.out]; exact ox5, by rw [HEQ.out]; exact ex5⟩
                have hcm : ∀ n, Calls Tryz.prog 64 #[.slice z1 p.length e1, .slice z0 y.length e0] (wr.drewN n) fun e w' => e = .returned (.int .i64 (Pl.cmpP p y)) ∧ ∃ m, w' = (wr.drewN n).drewN m := fun n => rcompare_q _ _ _ _ p y _ (s5.drewN n) (s6.drewN n)
                have HYO : Hid (y ∈ out) := by show _ ∈ _; rw [← HAB.out]; simp
                have hsl : (A' ++ [y]).length = A'.length + 1 := by simp
                rw [hsl]
                clear ox5 ex5 g1 g0 o5 o6 el1 el0 s5 s6 hsl hAl hA0
                have t0 : ((A'.length + 1 : Nat) : Int) > 0 := by omega
                by_cases hlt2 : Pl.cmpP p y < 0
                · have HBg2 : Hid (∀ z ∈ y :: B, Pl.cmpP p z < 0) := fun z hz => by
                    rcases List.mem_cons.1 hz with rfl | hz
                    · exact hlt2
                    · exact HBg.out z hz
                  have HAB2 : Hid (A' ++ (y :: B) = out) := by show _ = _; rw [← HAB.out]; simp
                  generalize Pl.cmpP p y = C at *
                  have HCM : Hid (∀ n, Calls Tryz.prog 64 #[.slice z1 p.length e1, .slice z0 y.length e0] (wr.drewN n) fun e w' => e = .returned (.int .i64 C) ∧ ∃ m, w' = (wr.drewN n).drewN m) := hcm
                  clear hcm HDONE HBg HAB
                  go_wp2_with fail
                  go_quiet (first | (go_at_call 64; refine Calls.quiet_of (HCM.out _)))
                  go_wp2_with fail
                  exact ⟨⟨A', y :: B, HAB2, by omega, rfl, HBg2, HSW.out nq, HB6.out nq⟩, by simp [intOf]⟩
                · have hne : ¬ Pl.cmpP p y = 0 := fun e => HNEW.out (by rw [(Pl.cmpP_cmp.eq p y).1 e]; exact HYO.out)
                  have hyp : Pl.cmpP y p < 0 := by have := Pl.cmpP_cmp.neg p y; omega
                  have HC2 : Hid (Pl.CovR l (i + 1) (A' ++ [y] ++ p :: B)) := HDONE.out (fun z hz => by
                    rcases List.mem_append.1 hz with hz | hz
                    · have hup := HCV.out.up
                      rw [← HAB.out] at hup
                      have h1 := (List.pairwise_append.1 (List.pairwise_append.1 hup).1).2.2 z hz y (by simp)
                      exact Pl.cmpP_cmp.strict z y p h1 (by omega)
                    · simp at hz; subst hz; exact hyp)
                  have hll := HLEN.out
                  have hC : decide (Pl.cmpP p y < 0) = false := by simpa using hlt2
                  generalize Pl.cmpP p y = C at *
                  have HCM : Hid (∀ n, Calls Tryz.prog 64 #[.slice z1 p.length e1, .slice z0 y.length e0] (wr.drewN n) fun e w' => e = .returned (.int .i64 C) ∧ ∃ m, w' = (wr.drewN n).drewN m) := hcm
                  clear hcm HDONE HBg HAB hne hyp hlt2 HSW HB6
                  go_wp2_with fail
                  go_quiet (first | (go_at_call 64; refine Calls.quiet_of (HCM.out _)))
                  have hprq : PRow _ _ _ _ := HPR.out.below (below_drewN (Below.refl _ _) nq)
                  have hBq := below_drewN hB5 nq
                  go_wp2_with fail
                  go_roundw
                  case rel => exact ⟨i + 1, A' ++ [y] ++ p :: B, by omega, by go_num, HC2.out, by omega, hprq, hBq⟩
                  case measure => simp [intOf]; omega
    · have e : i = l.length := by omega
      have HCE : Hid (Pl.Cov l out) := by
        have := HCV.out
        rw [e] at this
        exact Pl.covR_end this
      have j1 : ¬ (i : Int) < (l.length : Int) := by omega
      go_wp2_with fail
      go_ret
      exact ⟨out, _, rfl, HCE.out, by omega, hpr, hnx⟩
end Go.Proofs.YtcloljkaojnipaaGreatDoor
