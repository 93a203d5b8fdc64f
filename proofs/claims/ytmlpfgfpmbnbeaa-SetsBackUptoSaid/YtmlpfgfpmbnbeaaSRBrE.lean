/- What the reference's Bracket answers. -/
import Derived.Test.YtmlpfgfpmbnbeaaSRBrD
import Derived.Test.YtmlpfgfpmbnbeaaSLives
import Derived.Deep.DeepCutAuto
namespace Go.Proofs.Ytmlpfgfpmbnbeaa
open Go.RowKit

namespace St
def rbrGo (s : ByteArray) (none : Bool) (first : Nat) : Nat → Nat → (Nat → Bool) → (Nat → Bool) × Nat × Nat × Nat
  | 0, _, _ => (inL [], 0, 70, s.size)
  | f + 1, k, acc =>
    if k < s.size then
      if bt s k = 93 ∧ first < k then (if none then (fun x => !acc x) else acc, k + 1, 0, 0)
      else if (ritemP s k).2.2.2 = true then rbrGo s none first f (ritemP s k).2.1 (fun x => acc x || (ritemP s k).1 x) else (inL [], 0, 70, (ritemP s k).2.2.1)
    else (inL [], 0, 70, s.size)
def k0 (ng : Bool) : Nat := if ng then 1 else 0
def rbrP (s : ByteArray) : (Nat → Bool) × Nat × Nat × Nat := rbrGo s (pre1 s 0 94) (k0 (pre1 s 0 94)) (s.size + 1) (k0 (pre1 s 0 94)) (inL [])
theorem rbr_end {s : ByteArray} {none : Bool} {first f k : Nat} {acc : Nat → Bool} (h : ¬ k < s.size) : rbrGo s none first f k acc = (inL [], 0, 70, s.size) := by
  cases f with
  | zero => rfl
  | succ f => rw [rbrGo, if_neg h]
theorem rbr_ok {s : ByteArray} {none : Bool} {first f k : Nat} {acc : Nat → Bool} (h : k < s.size) (h2 : bt s k = 93 ∧ first < k) : rbrGo s none first (f + 1) k acc = (if none then (fun x => !acc x) else acc, k + 1, 0, 0) := by rw [rbrGo, if_pos h, if_pos h2]
theorem rbr_go {s : ByteArray} {none : Bool} {first f k : Nat} {acc : Nat → Bool} (h : k < s.size) (h2 : ¬ (bt s k = 93 ∧ first < k)) (h3 : (ritemP s k).2.2.2 = true) : rbrGo s none first (f + 1) k acc = rbrGo s none first f (ritemP s k).2.1 (fun x => acc x || (ritemP s k).1 x) := by rw [rbrGo, if_pos h, if_neg h2, if_pos h3]
theorem rbr_bad {s : ByteArray} {none : Bool} {first f k : Nat} {acc : Nat → Bool} (h : k < s.size) (h2 : ¬ (bt s k = 93 ∧ first < k)) (h3 : (ritemP s k).2.2.2 = false) : rbrGo s none first (f + 1) k acc = (inL [], 0, 70, (ritemP s k).2.2.1) := by rw [rbrGo, if_pos h, if_neg h2, h3]; rfl
theorem ritem_ok {s : ByteArray} {k : Nat} (_hk : k < s.size) (h : (ritemP s k).2.2.2 = true) : k < (ritemP s k).2.1 ∧ (ritemP s k).2.1 ≤ s.size := by
  revert h
  unfold ritemP
  split
  · intro h
    simp only at h ⊢
    unfold clsR at h ⊢
    cases he : endC s s.size (k + 2) with
    | none => rw [he] at h; cases h
    | some m =>
      have h1 := endC_some he
      have h2 := pre2_room h1.2.1 (by decide) (by decide)
      simp only [clsF]
      omega
  · split
    · intro h
      exact one_ok h
    · split
      · intro h; cases h
      · rename_i hok
        have e1 : (elemP s k).2.2 = true := by simpa using hok
        have a := elem_ok e1
        split
        · intro _; exact a
        · split
          · intro h; cases h
          · rename_i h2
            intro _
            have e2 : (elemP s ((elemP s k).2.1 + 1)).2.2 = true := by
              cases hq : (elemP s ((elemP s k).2.1 + 1)).2.2
              · rw [hq] at h2; exact absurd rfl h2
              · rfl
            have b := elem_ok e2
            show k < (elemP s ((elemP s k).2.1 + 1)).2.1 ∧ (elemP s ((elemP s k).2.1 + 1)).2.1 ≤ s.size
            omega
end St

set_option maxRecDepth 100000 in
set_option maxHeartbeats 4000000 in
theorem rbracket_any (s : ByteArray) (w : World) (hs : s.size ≤ 140737488355328) :
    Calls Try.prog 33 #[.string s] w fun e w' => e = .returned (.tuple #[St.setV (St.rbrP s).1, .int .i64 ((St.rbrP s).2.1 : Nat), .int .i64 ((St.rbrP s).2.2.1 : Nat), .int .i64 ((St.rbrP s).2.2.2 : Nat)]) ∧ Below w.heap.size w w' := by
  obtain ⟨R, hR⟩ : ∃ R, St.rbrP s = R := ⟨_, rfl⟩
  rw [hR]
  obtain ⟨ng, hng⟩ : ∃ ng, St.pre1 s 0 94 = ng := ⟨_, rfl⟩
  have HR : Hid (St.rbrGo s ng (St.k0 ng) (s.size + 1) (St.k0 ng) (St.inL []) = R) := by rw [← hR, ← hng]; rfl
  have HNg : Hid (St.pre1 s 0 94 = ng) := hng
  have hk0 : St.k0 ng ≤ s.size := by
    rw [← hng]
    unfold St.k0
    split
    · rename_i h
      unfold St.pre1 at h
      rw [beq_iff_eq] at h
      have : St.bt s 0 < 256 := by omega
      exact St.bt_lt_iff.1 this
    · omega
  clear hR hng
  have HI : Hid (∀ k w1, k < s.size → Calls Try.prog 43 #[.string s, .int .i64 (k : Int)] w1 fun e w' => e = .returned (.tuple #[St.setV (St.ritemP s k).1, .int .i64 ((St.ritemP s k).2.1 : Nat), .int .i64 ((St.ritemP s k).2.2.1 : Nat), .bool (St.ritemP s k).2.2.2]) ∧ Below w1.heap.size w1 w') := fun k w1 hk => ritem_any s k w1 hs hk
  have HM : Hid (∀ k, k < s.size → (St.ritemP s k).2.2.2 = true → k < (St.ritemP s k).2.1 ∧ (St.ritemP s k).2.1 ≤ s.size) := fun k hk h => St.ritem_ok hk h
  have HN : Hid (∀ p w1, Calls Try.prog 27 #[St.setV p] w1 fun e w' => e = .returned (St.setV (fun x => !p x)) ∧ Below w1.heap.size w1 w') := fun p w1 => rnot_any p w1
  have HOr : Hid (∀ p q w1, Calls Try.prog 25 #[St.setV p, St.setV q] w1 fun e w' => e = .returned (St.setV (fun x => p x || q x)) ∧ Below w1.heap.size w1 w') := fun p q w1 => ror_any p q w1
  simp only [St.setV] at HI HN HOr
  have A0 := atS0 w
  have hb0 : Below w.heap.size w (w.alloc (.cells #[.int .u64 0, .int .u64 0, .int .u64 0, .int .u64 0] 25)) := (Below.refl _ _).alloc (Nat.le_refl _) _
  go_enter Try.func33, Try.ntmps33
  go_upto_region 2 with fail
  obtain ⟨W, hW⟩ : ∃ W, W = w.alloc (.cells #[.int .u64 0, .int .u64 0, .int .u64 0, .int .u64 0] 25) := ⟨_, rfl⟩
  have hWs : W.heap.size = w.heap.size + 1 := by rw [hW]; simp
  rw [← hW] at A0 hb0 ⊢
  clear hW
  go_cut [7] (fun b wx => b = .bool ng ∧ W = wx)
  case first =>
    by_cases h0 : 0 < s.size
    · have g0 : (s.size : Int) > 0 := by omega
      have d0 : decide (0 < (s.size : Int)) = true := by simpa using g0
      have r0 := str_at s 0 0 rfl h0
      have HV : Hid (ng = ((s[0]'h0).toNat == 94)) := by show _ = _; rw [← HNg.out]; unfold St.pre1; rw [St.bt_in h0]
      generalize (s[0]'h0).toNat = x0 at *
      by_cases e0 : x0 = 94
      · have b0 : ((x0 : Int) == 94) = true := by rw [beq_iff_eq]; omega
        have hv : ng = true := by rw [HV.out, e0]; rfl
        subst hv
        go_wp2_with fail
        go_meet
        case rel => exact ⟨rfl, rfl⟩
      · have b0 : ((x0 : Int) == 94) = false := by rw [beq_eq_false_iff_ne]; omega
        have hv : ng = false := by rw [HV.out]; simpa using e0
        subst hv
        go_wp2_with fail
        go_meet
        case rel => exact ⟨rfl, rfl⟩
    · have g0 : ¬ (s.size : Int) > 0 := by omega
      have d0 : decide (0 < (s.size : Int)) = false := by simpa using g0
      have hv : ng = false := by
        rw [← HNg.out]; unfold St.pre1; rw [St.bt_out (s := s) (k := 0) (by omega)]; rfl
      subst hv
      go_wp2_with fail
      go_meet
      case rel => exact ⟨rfl, rfl⟩
  case rest =>
    obtain ⟨rfl, rfl⟩ := hcut
    go_upto_if 22 with fail
    go_cut [6] (fun v wx => v = .int .i64 (St.k0 ng : Nat) ∧ W = wx)
    case first =>
      cases ng
      · go_wp2_with fail
        go_meet
        case rel => exact ⟨rfl, rfl⟩
      · go_wp2_with fail
        go_meet
        case rel => exact ⟨rfl, rfl⟩
    case rest =>
      obtain ⟨rfl, rfl⟩ := hcut
      clear HNg
      generalize St.k0 ng = fst at *
      have A1 : SetAt (W.alloc (.cells #[.int .u64 0, .int .u64 0, .int .u64 0, .int .u64 0] 25)) (w.heap.size + 1) (St.inL []) := at_zero' hWs
      have A2 := A0.alloc (.cells #[.int .u64 0, .int .u64 0, .int .u64 0, .int .u64 0] 25)
      have hb1 := hb0.alloc hb0.size (.cells #[.int .u64 0, .int .u64 0, .int .u64 0, .int .u64 0] 25)
      have HFF : Hid (s.size < fst + (s.size + 1)) := by show _ < _; omega
      go_wp2_with fail
      (try rw [hWs])
      go_loopw [6] (fun v wr => ∃ (k f : Nat) (acc : Nat → Bool), fst ≤ k ∧ k ≤ s.size ∧ v = .int .i64 k ∧ s.size < k + f ∧ Hid (St.rbrGo s ng fst f k acc = R) ∧ SetAt wr (w.heap.size + 1) acc ∧ SetAt wr w.heap.size (St.inL []) ∧ Below w.heap.size w wr) (fun v _ => s.size - (intOf v).toNat)
      case atStart => exact ⟨fst, s.size + 1, St.inL [], Nat.le_refl _, hk0, rfl, HFF.out, HR, A1, A2, hb1⟩
      case round =>
        clear HR A0 A1 A2 hb0 hb1 HFF
        obtain ⟨k, f0, acc, hfk, hk, rfl, hf, HC, S1, S0, hnx⟩ := hrel
        obtain ⟨f, rfl⟩ : ∃ f, f0 = f + 1 := ⟨f0 - 1, by omega⟩
        have hl1 := S1.lt
        by_cases hlt : k < s.size
        · have gk : (k : Int) < (s.size : Int) := by omega
          have r0 := str_at s k (k : Int) rfl hlt
          have HBk : Hid (St.bt s k = (s[k]'hlt).toNat) := St.bt_in hlt
          generalize (s[k]'hlt).toNat = x0 at *
          by_cases h2 : St.bt s k = 93 ∧ fst < k
          · replace HC : Hid ((if ng = true then (fun x => !acc x) else acc, k + 1, 0, 0) = R) := by have := HC.out; rwa [St.rbr_ok hlt h2] at this
            have e0 : x0 = 93 := by rw [← HBk.out]; exact h2.1
            have b0 : ((x0 : Int) == 93) = true := by rw [beq_iff_eq]; omega
            have gf : (k : Int) > (fst : Int) := by omega
            have df : decide ((fst : Int) < (k : Int)) = true := by simpa using gf
            clear h2 HBk e0
            obtain ⟨q0, q1, q2, q3⟩ := S1.cells
            cases ng
            · obtain ⟨t0, t1, t2, t3⟩ := S0.cells
              have f1 := S0.frozen 0
              have f2 := S0.frozen 1
              have f3 := S0.frozen 2
              have f4 := S0.frozen 3
              go_wp2_with fail
              (try simp only [Exit.inBlock, Exit.then])
              refine bodyPost_ret (results_set4 rfl _ _ w.heap.size acc rfl (S0.put (q := acc))) rfl ⟨?_, put4_below hnx (Nat.le_refl _)⟩
              rw [← HC.out]
              rfl
            · obtain ⟨na, hna⟩ : ∃ na, na = fun x => !acc x := ⟨_, rfl⟩
              replace HC : Hid ((na, k + 1, 0, 0) = R) := by rw [hna]; exact HC
              have HN1 : Hid (∀ w1, Calls Try.prog 27 #[.agg #[.int .u64 (St.wd acc 0 : Nat), .int .u64 (St.wd acc 1 : Nat), .int .u64 (St.wd acc 2 : Nat), .int .u64 (St.wd acc 3 : Nat)]] w1 fun e w' => e = .returned (.agg #[.int .u64 (St.wd na 0 : Nat), .int .u64 (St.wd na 1 : Nat), .int .u64 (St.wd na 2 : Nat), .int .u64 (St.wd na 3 : Nat)]) ∧ Below w1.heap.size w1 w') := fun w1 => by rw [hna]; exact HN.out acc w1
              clear hna
              go_wp2_with fail
              refine (HN1.out _).mono ?_
              rintro x w2 ⟨rfl, hb2⟩
              have U1 := S1.under hb2
              have U0 := S0.under hb2
              have hB2 := Below.more hnx hb2 (by omega)
              clear hb2 q0 q1 q2 q3
              obtain ⟨q0, q1, q2, q3⟩ := U1.cells
              have e1 := U1.frozen 0
              have e2 := U1.frozen 1
              have e3 := U1.frozen 2
              have e4 := U1.frozen 3
              have V1 := U1.put (q := na)
              have V0 := U0.other (g' := w.heap.size + 1) (q := na) (by omega)
              have hB3 := put4_below (q := na) hB2 (show w.heap.size ≤ w.heap.size + 1 by omega)
              obtain ⟨t0, t1, t2, t3⟩ := U0.cells
              have f1 := U0.frozen 0
              have f2 := U0.frozen 1
              have f3 := U0.frozen 2
              have f4 := U0.frozen 3
              go_wp2_with fail
              (try simp only [Exit.inBlock, Exit.then])
              refine bodyPost_ret (results_set4 rfl _ _ w.heap.size na rfl (V0.put (q := na))) rfl ⟨?_, put4_below hB3 (Nat.le_refl _)⟩
              rw [← HC.out]
              rfl
          · have HIk := HI.out k
            have HIk : Hid (∀ w1, Calls Try.prog 43 #[.string s, .int .i64 (k : Int)] w1 fun e w' => e = .returned (.tuple #[.agg #[.int .u64 (St.wd (St.ritemP s k).1 0 : Nat), .int .u64 (St.wd (St.ritemP s k).1 1 : Nat), .int .u64 (St.wd (St.ritemP s k).1 2 : Nat), .int .u64 (St.wd (St.ritemP s k).1 3 : Nat)], .int .i64 ((St.ritemP s k).2.1 : Nat), .int .i64 ((St.ritemP s k).2.2.1 : Nat), .bool (St.ritemP s k).2.2.2]) ∧ Below w1.heap.size w1 w') := fun w1 => HI.out k w1 hlt
            have HMk := HM.out k hlt
            have hgd : ((x0 : Int) == 93) = false ∨ (((x0 : Int) == 93) = true ∧ ¬ (k : Int) > (fst : Int)) := by
              by_cases e0 : x0 = 93
              · right
                refine ⟨by rw [beq_iff_eq]; omega, ?_⟩
                intro hgt
                exact h2 ⟨by rw [HBk.out, e0], by omega⟩
              · left
                rw [beq_eq_false_iff_ne]; omega
            have HC' := HC.out
            cases hok : (St.ritemP s k).2.2.2
            · rw [St.rbr_bad hlt h2 hok] at HC'
              replace HC : Hid ((St.inL [], 0, 70, (St.ritemP s k).2.2.1) = R) := HC'
              rw [hok] at HIk
              obtain ⟨E, hE⟩ : ∃ E, St.ritemP s k = E := ⟨_, rfl⟩
              rw [hE] at HIk HC
              clear hE HC' HMk hok HBk h2
              obtain ⟨st, nx, at', ok⟩ := E
              simp only at HIk HC
              obtain ⟨t0, t1, t2, t3⟩ := S0.cells
              rcases hgd with b0 | ⟨b0, b1⟩
              · go_wp2_with fail
                refine (HIk.out _).mono ?_
                rintro x w2 ⟨rfl, hb2⟩
                have U0 := S0.under hb2
                have hB2 := Below.more hnx hb2 (by omega)
                have hl2 := U0.lt
                clear hb2 t0 t1 t2 t3
                obtain ⟨t0, t1, t2, t3⟩ := U0.cells
                have f1 := U0.frozen 0
                have f2 := U0.frozen 1
                have f3 := U0.frozen 2
                have f4 := U0.frozen 3
                go_wp2_with fail
                (try simp only [Exit.inBlock, Exit.then])
                have hB3 := putZ_below hB2 (Nat.le_refl _)
                refine bodyPost_ret (results_set4 rfl _ _ w.heap.size (St.inL []) rfl (U0.putZ.alloc _)) rfl ⟨?_, hB3.alloc hB3.size _⟩
                rw [← HC.out]
                rfl
              · have d1 : decide ((fst : Int) < (k : Int)) = false := by simpa using b1
                go_wp2_with fail
                refine (HIk.out _).mono ?_
                rintro x w2 ⟨rfl, hb2⟩
                have U0 := S0.under hb2
                have hB2 := Below.more hnx hb2 (by omega)
                have hl2 := U0.lt
                clear hb2 t0 t1 t2 t3
                obtain ⟨t0, t1, t2, t3⟩ := U0.cells
                have f1 := U0.frozen 0
                have f2 := U0.frozen 1
                have f3 := U0.frozen 2
                have f4 := U0.frozen 3
                go_wp2_with fail
                (try simp only [Exit.inBlock, Exit.then])
                have hB3 := putZ_below hB2 (Nat.le_refl _)
                refine bodyPost_ret (results_set4 rfl _ _ w.heap.size (St.inL []) rfl (U0.putZ.alloc _)) rfl ⟨?_, hB3.alloc hB3.size _⟩
                rw [← HC.out]
                rfl
            · rw [St.rbr_go hlt h2 hok] at HC'
              replace HC : Hid (St.rbrGo s ng fst f (St.ritemP s k).2.1 (fun x => acc x || (St.ritemP s k).1 x) = R) := HC'
              have hmk := HMk hok
              rw [hok] at HIk
              obtain ⟨E, hE⟩ : ∃ E, St.ritemP s k = E := ⟨_, rfl⟩
              rw [hE] at HIk HC hmk
              clear hE HC' HMk hok HBk h2
              obtain ⟨st, nx, at', ok⟩ := E
              simp only at HIk HC hmk
              obtain ⟨hm1, hm2⟩ := hmk
              obtain ⟨nacc, hnacc⟩ : ∃ nacc, nacc = fun x => acc x || st x := ⟨_, rfl⟩
              rw [← hnacc] at HC
              have HO1 : Hid (∀ w1, Calls Try.prog 25 #[.agg #[.int .u64 (St.wd acc 0 : Nat), .int .u64 (St.wd acc 1 : Nat), .int .u64 (St.wd acc 2 : Nat), .int .u64 (St.wd acc 3 : Nat)], .agg #[.int .u64 (St.wd st 0 : Nat), .int .u64 (St.wd st 1 : Nat), .int .u64 (St.wd st 2 : Nat), .int .u64 (St.wd st 3 : Nat)]] w1 fun e w' => e = .returned (.agg #[.int .u64 (St.wd nacc 0 : Nat), .int .u64 (St.wd nacc 1 : Nat), .int .u64 (St.wd nacc 2 : Nat), .int .u64 (St.wd nacc 3 : Nat)]) ∧ Below w1.heap.size w1 w') := fun w1 => by rw [hnacc]; exact HOr.out acc st w1
              clear hnacc
              rcases hgd with b0 | ⟨b0, b1⟩
              · go_wp2_with fail
                refine (HIk.out _).mono ?_
                rintro x w2 ⟨rfl, hb2⟩
                have U0 := S0.under hb2
                have U1 := S1.under hb2
                have hB2 := Below.more hnx hb2 (by omega)
                have hl2 := U1.lt
                clear hb2
                obtain ⟨q0, q1, q2, q3⟩ := U1.cells
                have V0 := U0.alloc (.cells #[.int .u64 (St.wd st 0 : Nat), .int .u64 (St.wd st 1 : Nat), .int .u64 (St.wd st 2 : Nat), .int .u64 (St.wd st 3 : Nat)] 25)
                have V1 := U1.alloc (.cells #[.int .u64 (St.wd st 0 : Nat), .int .u64 (St.wd st 1 : Nat), .int .u64 (St.wd st 2 : Nat), .int .u64 (St.wd st 3 : Nat)] 25)
                have hB3 := hB2.alloc hB2.size (.cells #[.int .u64 (St.wd st 0 : Nat), .int .u64 (St.wd st 1 : Nat), .int .u64 (St.wd st 2 : Nat), .int .u64 (St.wd st 3 : Nat)] 25)
                go_wp2_with fail
                refine (HO1.out _).mono ?_
                rintro x w3 ⟨rfl, hb3⟩
                have X0 := V0.under hb3
                have X1 := V1.under hb3
                have hB4 := Below.more hB3 hb3 hB3.size
                clear hb3 q0 q1 q2 q3
                obtain ⟨q0, q1, q2, q3⟩ := X1.cells
                have f1 := X1.frozen 0
                have f2 := X1.frozen 1
                have f3 := X1.frozen 2
                have f4 := X1.frozen 3
                go_wp2_with fail
                refine ⟨⟨nx, f, nacc, by omega, hm2, rfl, by omega, HC, X1.put, X0.other (by omega), put4_below hB4 (by omega)⟩, ?_⟩
                simp [intOf]; omega
              · have d1 : decide ((fst : Int) < (k : Int)) = false := by simpa using b1
                go_wp2_with fail
                refine (HIk.out _).mono ?_
                rintro x w2 ⟨rfl, hb2⟩
                have U0 := S0.under hb2
                have U1 := S1.under hb2
                have hB2 := Below.more hnx hb2 (by omega)
                have hl2 := U1.lt
                clear hb2
                obtain ⟨q0, q1, q2, q3⟩ := U1.cells
                have V0 := U0.alloc (.cells #[.int .u64 (St.wd st 0 : Nat), .int .u64 (St.wd st 1 : Nat), .int .u64 (St.wd st 2 : Nat), .int .u64 (St.wd st 3 : Nat)] 25)
                have V1 := U1.alloc (.cells #[.int .u64 (St.wd st 0 : Nat), .int .u64 (St.wd st 1 : Nat), .int .u64 (St.wd st 2 : Nat), .int .u64 (St.wd st 3 : Nat)] 25)
                have hB3 := hB2.alloc hB2.size (.cells #[.int .u64 (St.wd st 0 : Nat), .int .u64 (St.wd st 1 : Nat), .int .u64 (St.wd st 2 : Nat), .int .u64 (St.wd st 3 : Nat)] 25)
                go_wp2_with fail
                refine (HO1.out _).mono ?_
                rintro x w3 ⟨rfl, hb3⟩
                have X0 := V0.under hb3
                have X1 := V1.under hb3
                have hB4 := Below.more hB3 hb3 hB3.size
                clear hb3 q0 q1 q2 q3
                obtain ⟨q0, q1, q2, q3⟩ := X1.cells
                have f1 := X1.frozen 0
                have f2 := X1.frozen 1
                have f3 := X1.frozen 2
                have f4 := X1.frozen 3
                go_wp2_with fail
                refine ⟨⟨nx, f, nacc, by omega, hm2, rfl, by omega, HC, X1.put, X0.other (by omega), put4_below hB4 (by omega)⟩, ?_⟩
                simp [intOf]; omega
        · replace HC : Hid ((St.inL [], 0, 70, s.size) = R) := by have := HC.out; rwa [St.rbr_end hlt] at this
          have gk : ¬ (k : Int) < (s.size : Int) := by omega
          obtain ⟨t0, t1, t2, t3⟩ := S0.cells
          have f1 := S0.frozen 0
          have f2 := S0.frozen 1
          have f3 := S0.frozen 2
          have f4 := S0.frozen 3
          go_wp2_with fail
          (try simp only [Exit.inBlock, Exit.then])
          refine bodyPost_ret (results_set4 rfl _ _ w.heap.size (St.inL []) rfl S0.putZ) rfl ⟨?_, putZ_below hnx (Nat.le_refl _)⟩
          rw [← HC.out]
          rfl
end Go.Proofs.Ytmlpfgfpmbnbeaa
