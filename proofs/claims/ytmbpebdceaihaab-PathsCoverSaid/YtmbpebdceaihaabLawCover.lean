/- PathsCover answers true for every list of paths and every path: the walk of the law over its callees' contracts. -/
import Derived.Test.YtmbpebdceaihaabCover
import Derived.Test.YtmbpebdceaihaabPtsIn
import Derived.Test.YtmbpebdceaihaabBegins
import Derived.Deep.QuietTactic
import Derived.BigQuiet
namespace Go.Proofs.Ytmbpebdceaihaab
open Go.RowKit

namespace Pl
theorem inside_iff {l : List (List ByteArray)} {p : List ByteArray} : insideB l p = true ↔ ∃ q ∈ l, In p q := by
  simp only [insideB, List.any_eq_true, within_in]
theorem cov_inside {l c : List (List ByteArray)} (h : Cov l c) (p : List ByteArray) : insideB c p = insideB l p := by
  rw [Bool.eq_iff_iff, inside_iff, inside_iff]
  constructor
  · rintro ⟨q, hq, hi⟩; exact ⟨q, ((h.mem q).1 hq).1, hi⟩
  · rintro ⟨q, hq, hi⟩
    obtain ⟨m, hm, h1, h2⟩ := least_ex l q.length q (Nat.le_refl _) hq
    exact ⟨m, (h.mem m).2 ⟨hm, h2⟩, hi.trans h1⟩
theorem cov_there {l c : List (List ByteArray)} (h : Cov l c) {p : List ByteArray} (hp : p ∈ c) : insideB l p = true := inside_iff.2 ⟨p, ((h.mem p).1 hp).1, In.refl p⟩
theorem cov_all {l c : List (List ByteArray)} (h : Cov l c) {p : List ByteArray} (hp : p ∈ l) : insideB c p = true := by
  rw [cov_inside h]; exact inside_iff.2 ⟨p, hp, In.refl p⟩
theorem cov_less {l c : List (List ByteArray)} (h : Cov l c) {i k : Nat} (hi : i < k) (hk : k < c.length) : cmpP (c[i]'(by omega)) (c[k]'hk) < 0 :=
  List.pairwise_iff_getElem.1 h.up i k (by omega) hk hi
theorem cov_apart {l c : List (List ByteArray)} (h : Cov l c) {i k : Nat} (hik : i ≠ k) (hi : i < c.length) (hk : k < c.length) : withinP (c[i]'hi) (c[k]'hk) = false := by
  cases hw : withinP (c[i]'hi) (c[k]'hk)
  · rfl
  · exfalso
    have h1 := (within_in _ _).1 hw
    have h2 := ((h.mem (c[i]'hi)).1 (List.getElem_mem hi)).2 (c[k]'hk) ((h.mem (c[k]'hk)).1 (List.getElem_mem hk)).1 h1
    have h3 := (cmpP_cmp.eq (c[k]'hk) (c[i]'hi)).2 h2
    rcases Nat.lt_or_ge i k with g | g
    · have := cov_less h g hk
      have := cmpP_cmp.neg (c[k]'hk) (c[i]'hi)
      omega
    · have := cov_less h (show k < i by omega) hi
      omega
end Pl

set_option maxRecDepth 100000 in
set_option maxHeartbeats 1000000 in
theorem lawCover_any (al ap : Option Addr) (cl cp : Nat) (l : List (List ByteArray)) (p : List ByteArray) (w : World) (hl : Pts w al cl l) (hp : Strs w ap cp p) :
    Calls Try.prog 4 #[.slice al l.length cl, .slice ap p.length cp] w fun e w' => e = .returned (.bool true) ∧ Below w.heap.size w w' := by
  have ll := hl.len
  have lp := hp.len
  have hB : Below w.heap.size w w := Below.refl _ _
  go_enter Try.func4, Try.ntmps4
  go_wp2_with fail
  refine (begins_any _).mono ?_
  rintro e w1 ⟨rfl, hb⟩
  replace hl := hl.below hb; replace hp := hp.below hb; replace hB := hB.trans (hb.mono hB.size); clear hb
  go_wp2_with fail
  refine (cover_any _ _ l _ hl).mono ?_
  rintro e w2 ⟨c, v2, rfl, hc1, hcl, hpr, hb⟩
  have HC : Hid (Pl.Cov l c) := hc1
  obtain ⟨ac, cc, rfl, hc⟩ := hpr.pts (by omega)
  replace hl := hl.below hb; replace hp := hp.below hb; replace hB := hB.trans (hb.mono hB.size); clear hb hpr hc1
  have lc := hc.len
  have HIN : Hid (Pl.insideB c p = Pl.insideB l p) := Pl.cov_inside HC.out p
  obtain ⟨I, hI⟩ : ∃ I, Pl.insideB l p = I := ⟨_, rfl⟩
  rw [hI] at HIN
  have HI : Hid (Pl.insideB l p = I) := hI
  clear hI
  go_wp2_with fail
  refine (inside_any _ _ _ _ c p _ hc hp).mono ?_
  rw [HIN.out]
  rintro e w3 ⟨rfl, hb⟩
  replace hl := hl.below hb; replace hc := hc.below hb; replace hp := hp.below hb; replace hB := hB.trans (hb.mono hB.size); clear hb
  go_wp2_with fail
  refine (inside_any _ _ _ _ l p _ hl hp).mono ?_
  rw [HI.out]
  rintro e w4 ⟨rfl, hb⟩
  replace hl := hl.below hb; replace hc := hc.below hb; replace hB := hB.trans (hb.mono hB.size); clear hb hp
  have bI : (I != I) = false := by simp
  go_wp2_with fail
  refine (cover_any _ _ c _ hc).mono ?_
  rintro e w5 ⟨c', v5, rfl, hc2, hcl', hpr5, hb⟩
  obtain rfl := (Pl.Cov.self HC.out).unique hc2
  obtain ⟨a5, c5, rfl, s5⟩ := hpr5.pts (by omega)
  replace hl := hl.below hb; replace hc := hc.below hb; replace hB := hB.trans (hb.mono hB.size); clear hb hpr5 hc2
  go_wp2_with fail
  refine (alike_self _ _ _ _ c _ s5 hc).mono ?_
  rintro e w6 ⟨rfl, hb⟩
  replace hl := hl.below hb; replace hc := hc.below hb; replace hB := hB.trans (hb.mono hB.size); clear hb s5
  go_wp2_with fail
  go_loopw [6] (fun iv wr => ∃ i : Nat, i ≤ c.length ∧ iv = .int .i64 i ∧ Below w6.heap.size w6 wr) (fun iv _ => c.length - (intOf iv).toNat)
  case atStart => exact ⟨0, Nat.zero_le _, rfl, Below.refl _ _⟩
  case round =>
    obtain ⟨i, hil, rfl, hnx⟩ := hrel
    obtain ⟨wo, rfl⟩ : ∃ wo, wo = wr := ⟨_, rfl⟩
    have hsz := hnx.size
    by_cases hlt : i < c.length
    · have i1 : (i : Int) < (c.length : Int) := by omega
      have hcw := hc.below hnx
      obtain ⟨b1, o1, x1, d1, rfl, hb1, c1, s1⟩ := hcw.cells i hlt
      have HT : Hid (Pl.insideB l (c[i]'hlt) = true) := Pl.cov_there HC.out (List.getElem_mem hlt)
      have HX : Hid (∀ k (hk : k < c.length), i ≠ k → Pl.withinP (c[i]'hlt) (c[k]'hk) = false) := fun k hk hik => Pl.cov_apart HC.out hik hlt hk
      have HY : Hid (∀ k (hk : k < c.length), i < k → Pl.cmpP (c[i]'hlt) (c[k]'hk) < 0) := fun k hk hik => Pl.cov_less HC.out hik hk
      have hx1 := s1.len
      have HCI : Hid (∀ wz : World, Pts wz (some ⟨b1, o1, none⟩) cc c → ∃ b off y d, (some (⟨b1, o1, none⟩ : Addr)) = some ⟨b, off, none⟩ ∧ b < wz.heap.size ∧ wz.cell? ⟨b, off + i, none⟩ = some (.slice y (c[i]'hlt).length d) ∧ Strs wz y d (c[i]'hlt)) := fun wz hz => hz.cells i hlt
      generalize c[i]'hlt = x at *
      go_wp2_with fail
      refine (inside_any _ _ _ _ l x _ (hl.below hnx) s1).mono ?_
      rw [HT.out]
      rintro e w7 ⟨rfl, hb7⟩
      have hB7 := hnx.trans (hb7.mono hsz)
      have hs7 := hB7.size
      clear hb7 c1 s1 hb1 hcw
      go_wp2_with fail
      go_loopw [7] (fun kv wq => ∃ k : Nat, k ≤ c.length ∧ kv = .int .i64 k ∧ Below w6.heap.size w6 wq) (fun kv _ => c.length - (intOf kv).toNat)
      case atStart => exact ⟨0, Nat.zero_le _, rfl, hB7⟩
      case round =>
        obtain ⟨k, hkl, rfl, hnq⟩ := hrel
        by_cases hkt : k < c.length
        · have k1 : (k : Int) < (c.length : Int) := by omega
          have hcq := hc.below hnq
          obtain ⟨b2, o2, x2, d2, e2, hb2, c2, s2⟩ := hcq.cells k hkt
          obtain ⟨b3, o3, x3, d3, e3, hb3, c3, s3⟩ := HCI.out _ hcq
          cases e2
          cases e3
          have HXk := HX.out k hkt
          have HYk := HY.out k hkt
          have HXk' : Hid (i ≠ k → Pl.withinP x (c[k]'hkt) = false) := HXk
          have HYk' : Hid (i < k → Pl.cmpP x (c[k]'hkt) < 0) := HYk
          have hx2 := s2.len
          clear HXk HYk
          generalize c[k]'hkt = y at *
          have hwi : ∀ n, Calls Try.prog 6 #[.slice x3 x.length d3, .slice x2 y.length d2] (wr.drewN n) fun e w' => e = .returned (.bool (Pl.withinP x y)) ∧ ∃ m, w' = (wr.drewN n).drewN m := fun n => within_any _ _ _ _ x y _ (s3.drewN n) (s2.drewN n)
          have hcm : ∀ n, Calls Try.prog 8 #[.slice x3 x.length d3, .slice x2 y.length d2] (wr.drewN n) fun e w' => e = .returned (.int .i64 (Pl.cmpP x y)) ∧ w' = wr.drewN n := fun n => (compare_any _ _ _ _ x y _ (s3.drewN n) (s2.drewN n)).mono fun e w' ⟨he, hw⟩ => ⟨he, hw.symm⟩
          by_cases hik : i = k
          · subst hik
            clear hwi hcm HXk' HYk'
            have t1 : ((i : Int) != (i : Int)) = false := by simp
            have t2 : decide ((i : Int) < (i : Int)) = false := by simp
            go_wp2_with fail
            go_quiet (fail)
            have hBq := below_drewN hnq nq
            go_wp2_with fail
            go_roundw
            case rel => exact ⟨i + 1, by omega, by go_num, hBq⟩
            case measure => simp [intOf]; omega
          · have t1 : ((i : Int) != (k : Int)) = true := by rw [bne_iff_ne]; omega
            have t1' : (i == k) = false := by simpa using hik
            have t1'' : ((i : Int) == (k : Int)) = false := by rw [beq_eq_false_iff_ne]; omega
            rw [HXk'.out hik] at hwi
            have HWI : Hid (∀ n, Calls Try.prog 6 #[.slice x3 x.length d3, .slice x2 y.length d2] (wr.drewN n) fun e w' => e = .returned (.bool false) ∧ ∃ m, w' = (wr.drewN n).drewN m) := hwi
            clear hwi HXk'
            by_cases hlk : i < k
            · have t2 : (i : Int) < (k : Int) := by omega
              have hC := HYk'.out hlk
              generalize Pl.cmpP x y = C at *
              have hC2 : decide (C ≥ 0) = false := by simpa using hC
              have HCM : Hid (∀ n, Calls Try.prog 8 #[.slice x3 x.length d3, .slice x2 y.length d2] (wr.drewN n) fun e w' => e = .returned (.int .i64 C) ∧ w' = wr.drewN n) := hcm
              clear hcm HYk' hik hlk
              go_wp2_with fail
              go_quiet (first | (go_at_call 6; refine Calls.quiet_of (HWI.out _)) | (go_at_call 8; refine Calls.quiet_of_same (HCM.out _)))
              have hBq := below_drewN hnq nq
              go_wp2_with fail
              go_roundw
              case rel => exact ⟨k + 1, by omega, by go_num, hBq⟩
              case measure => simp [intOf]; omega
            · have t2 : decide ((i : Int) < (k : Int)) = false := by simp; omega
              have t2' : decide (i < k) = false := by simp; omega
              have t2'' : (i < k) = False := by simp; omega
              clear hcm HYk' hik hlk
              go_wp2_with fail
              go_quiet (first | (go_at_call 6; refine Calls.quiet_of (HWI.out _)))
              have hBq := below_drewN hnq nq
              go_wp2_with fail
              go_roundw
              case rel => exact ⟨k + 1, by omega, by go_num, hBq⟩
              case measure => simp [intOf]; omega
        · have k1 : ¬ (k : Int) < (c.length : Int) := by omega
          go_wp2_with fail
          go_roundw
          case rel => exact ⟨i + 1, by omega, by go_num, hnq⟩
          case measure => simp [intOf]; omega
    · have i1 : ¬ (i : Int) < (c.length : Int) := by omega
      go_wp2_with fail
      go_loopw [8] (fun iv wq => ∃ k : Nat, k ≤ l.length ∧ iv = .int .i64 k ∧ Below w6.heap.size w6 wq) (fun iv _ => l.length - (intOf iv).toNat)
      case atStart => exact ⟨0, Nat.zero_le _, rfl, hnx⟩
      case round =>
        obtain ⟨k, hkl, rfl, hnq⟩ := hrel
        have hsq := hnq.size
        by_cases hkt : k < l.length
        · have k1 : (k : Int) < (l.length : Int) := by omega
          obtain ⟨b2, o2, x2, d2, rfl, hb2, c2, s2⟩ := (hl.below hnq).cells k hkt
          have HT : Hid (Pl.insideB c (l[k]'hkt) = true) := Pl.cov_all HC.out (List.getElem_mem hkt)
          have hx2 := s2.len
          generalize l[k]'hkt = x at *
          go_wp2_with fail
          refine (inside_any _ _ _ _ c x _ (hc.below hnq) s2).mono ?_
          rw [HT.out]
          rintro e w7 ⟨rfl, hb7⟩
          have hB7 := hnq.trans (hb7.mono hsq)
          go_wp2_with fail
          go_roundw
          case rel => exact ⟨k + 1, by omega, by go_num, hB7⟩
          case measure => simp [intOf]; omega
        · have k1 : ¬ (k : Int) < (l.length : Int) := by omega
          have hBE := hB.trans (hnq.mono hB.size)
          go_wp2_with fail
          go_ret
          exact ⟨rfl, hBE⟩
end Go.Proofs.Ytmbpebdceaihaab
