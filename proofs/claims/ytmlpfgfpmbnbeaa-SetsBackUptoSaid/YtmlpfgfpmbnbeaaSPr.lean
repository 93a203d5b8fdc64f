/- What sets.Print answers. -/
import Derived.Test.YtmlpfgfpmbnbeaaSPrint
import Derived.Test.YtmlpfgfpmbnbeaaSEq
import Derived.Test.YtmlpfgfpmbnbeaaSFold
namespace Go.Proofs.Ytmlpfgfpmbnbeaa
open Go.RowKit

namespace St
/-- The last byte of the run that k is in. -/
def toP (p : Nat → Bool) : Nat → Nat → Nat
  | 0, k => k
  | f + 1, k => if decide (k + 1 < 256) && p (k + 1) then toP p f (k + 1) else k
def prGo (p : Nat → Bool) : Nat → Nat → List UInt8 → List UInt8
  | 0, _, out => out
  | f + 1, k, out => if k < 256 then (if p k then prGo p f (toP p 256 k + 1) (out ++ runB k (toP p 256 k)) else prGo p f (k + 1) out) else out
def negP (p : Nat → Bool) : Bool := sameS p (inL []) || (!sameS p (fun _ => true) && decide (128 < cnt p 256))
def printB (p : Nat → Bool) : List UInt8 := prGo (if negP p then (fun x => !p x) else p) 257 0 (if negP p then [94] else []) ++ [93]
theorem toP_yes {p : Nat → Bool} {f k : Nat} (h : k + 1 < 256) (hp : p (k + 1) = true) : toP p (f + 1) k = toP p f (k + 1) := by rw [toP, decide_eq_true h, hp]; rfl
theorem toP_no {p : Nat → Bool} {f k : Nat} (h : ¬ (k + 1 < 256 ∧ p (k + 1) = true)) : toP p f k = k := by
  cases f with
  | zero => rfl
  | succ f =>
    rw [toP, if_neg]
    intro q
    rw [Bool.and_eq_true, decide_eq_true_iff] at q
    exact h q
theorem toP_range (p : Nat → Bool) : ∀ f k, k < 256 → k ≤ toP p f k ∧ toP p f k < 256
  | 0, k, h => ⟨Nat.le_refl _, h⟩
  | f + 1, k, h => by
    rw [toP]
    split
    · rename_i q
      rw [Bool.and_eq_true, decide_eq_true_iff] at q
      have := toP_range p f (k + 1) q.1
      omega
    · exact ⟨Nat.le_refl _, h⟩
theorem prGo_yes {p : Nat → Bool} {f k : Nat} {out : List UInt8} (h : k < 256) (hp : p k = true) : prGo p (f + 1) k out = prGo p f (toP p 256 k + 1) (out ++ runB k (toP p 256 k)) := by rw [prGo, if_pos h, hp]; rfl
theorem prGo_no {p : Nat → Bool} {f k : Nat} {out : List UInt8} (h : k < 256) (hp : p k = false) : prGo p (f + 1) k out = prGo p f (k + 1) out := by rw [prGo, if_pos h, hp]; rfl
theorem prGo_end {p : Nat → Bool} {f k : Nat} {out : List UInt8} (h : 256 ≤ k) : prGo p f k out = out := by
  cases f with
  | zero => rfl
  | succ f => rw [prGo, if_neg (by omega)]
theorem runB_len (a b : Nat) : (runB a b).length ≤ 11 := by
  have hel : ∀ c, (eltB c).length ≤ 5 := by intro c; unfold eltB; split <;> simp
  have h1 := hel a
  have h2 := hel b
  unfold runB
  rw [List.length_append]
  split
  · simp; omega
  · rw [List.length_append]
    split <;> simp <;> omega
end St

theorem own_put {w : World} {base g : Nat} {v : Value} {L : List UInt8} {q : Nat → Bool} (h : w.ownsRow base 5 1 v L.length (bcells L)) (hg : g < base := by omega) : (put4 w g q).ownsRow base 5 1 v L.length (bcells L) := by
  refine ⟨h.1, ?_⟩
  rcases h.2 with h2 | ⟨g', cap, cur, hv, hbg, hg', r⟩
  · exact .inl h2
  · have hne : g' ≠ g := by omega
    exact .inr ⟨g', cap, cur, hv, hbg, by rw [heap_setCell_other _ _ _ _ hne, heap_setCell_other _ _ _ _ hne, heap_setCell_other _ _ _ _ hne, heap_setCell_other _ _ _ _ hne]; exact hg', r⟩

set_option maxRecDepth 100000 in
set_option maxHeartbeats 2000000 in
theorem print_any (p : Nat → Bool) (w : World) :
    Calls Try.prog 30 #[St.setV p] w fun e w' => e = .returned (.string ⟨(St.printB p).toArray⟩) ∧ Below w.heap.size w w' := by
  obtain ⟨i0, hi, hz0, hz1, hz2⟩ := info_parts Try.infoByte
  obtain ⟨R, hR⟩ : ∃ R, St.printB p = R := ⟨_, rfl⟩
  rw [hR]
  have HR : Hid (St.prGo (if St.negP p then (fun x => !p x) else p) 257 0 (if St.negP p then [94] else []) ++ [93] = R) := hR
  clear hR
  obtain ⟨al, hal⟩ : ∃ al : Nat → Bool, al = fun _ => true := ⟨_, rfl⟩
  have HNE : Hid (St.negP p = (St.sameS p (St.inL []) || (!St.sameS p al && decide (128 < St.cnt p 256)))) := by rw [hal]; rfl
  have HZ : Hid (∀ wx, (binOp .eql 25 (St.setV p) (.agg #[.int .u64 0, .int .u64 0, .int .u64 0, .int .u64 0])).run Try.prog wx = .ok (.bool (St.sameS p (St.inL []))) wx) := fun wx => by
    have h := set_eql p (St.inL []) wx
    rw [show St.setV (St.inL []) = .agg #[.int .u64 0, .int .u64 0, .int .u64 0, .int .u64 0] by unfold St.setV; rw [wd_none, wd_none, wd_none, wd_none]; rfl] at h
    exact h
  have HN0 : Hid (∀ w1, Calls Try.prog 26 #[.agg #[.int .u64 0, .int .u64 0, .int .u64 0, .int .u64 0]] w1 fun e w' => e = .returned (St.setV al) ∧ Below w1.heap.size w1 w') := fun w1 => by
    rw [hal]
    have h := not_any (St.inL []) w1
    rw [show St.setV (St.inL []) = .agg #[.int .u64 0, .int .u64 0, .int .u64 0, .int .u64 0] by unfold St.setV; rw [wd_none, wd_none, wd_none, wd_none]; rfl] at h
    exact h
  have HY : Hid (∀ wx, (binOp .neq 25 (St.setV p) (St.setV al)).run Try.prog wx = .ok (.bool (!St.sameS p al)) wx) := fun wx => set_neq p al wx
  have HC : Hid (∀ w1, Calls Try.prog 19 #[St.setV p] w1 fun e w' => e = .returned (.int .i64 (St.cnt p 256 : Nat)) ∧ Below w1.heap.size w1 w') := fun w1 => count_any p w1
  obtain ⟨np, hnp⟩ : ∃ np : Nat → Bool, np = fun x => !p x := ⟨_, rfl⟩
  have HN1 : Hid (∀ w1, Calls Try.prog 26 #[St.setV p] w1 fun e w' => e = .returned (St.setV np) ∧ Below w1.heap.size w1 w') := fun w1 => by rw [hnp]; exact not_any p w1
  rw [← hnp] at HR
  have hcl := St.cnt_le p 256
  generalize St.cnt p 256 = n at *
  have A0 : SetAt (w.alloc (.cells #[.int .u64 (St.wd p 0 : Nat), .int .u64 (St.wd p 1 : Nat), .int .u64 (St.wd p 2 : Nat), .int .u64 (St.wd p 3 : Nat)] 25)) w.heap.size p := at_new w p
  have hnx0 : Below w.heap.size w (w.alloc (.cells #[.int .u64 (St.wd p 0 : Nat), .int .u64 (St.wd p 1 : Nat), .int .u64 (St.wd p 2 : Nat), .int .u64 (St.wd p 3 : Nat)] 25)) := (Below.refl _ _).alloc (Nat.le_refl _) _
  simp only [St.setV] at HZ HN0 HY HC HN1 ⊢
  clear hal hnp
  have hzE := HZ.out
  have hyE := HY.out
  cases hz : St.sameS p (St.inL [])
  · cases hy : St.sameS p al
    · by_cases hn : 128 < n
      · have HN : Hid (St.negP p = true) := by show _ = _; rw [HNE.out, hz, hy, decide_eq_true hn]; rfl
        replace HR : Hid (St.prGo np 257 0 [94] ++ [93] = R) := by have := HR.out; rw [HN.out] at this; exact this
        rw [hz] at hzE
        rw [hy] at hyE
        have hn' : 128 < (n : Int) := by omega
        clear HZ HY HNE hz hy
        go_enter Try.func30, Try.ntmps30
        go_wp2_with fail
        refine (HN0.out _).mono ?_
        rintro x w1 ⟨rfl, hb⟩
        have S := (A0.under hb).alloc (.cells #[.int .u64 (St.wd al 0 : Nat), .int .u64 (St.wd al 1 : Nat), .int .u64 (St.wd al 2 : Nat), .int .u64 (St.wd al 3 : Nat)] 25)
        have hnx := (Below.more hnx0 hb hnx0.size).alloc (Nat.le_trans hnx0.size hb.size) (.cells #[.int .u64 (St.wd al 0 : Nat), .int .u64 (St.wd al 1 : Nat), .int .u64 (St.wd al 2 : Nat), .int .u64 (St.wd al 3 : Nat)] 25)
        obtain ⟨q0, q1, q2, q3⟩ := (A0.under hb).cells
        have hl1 := (A0.under hb).lt
        clear hb
        go_wp2_with fail
        refine (HC.out _).mono ?_
        rintro x w2 ⟨rfl, hb⟩
        replace S := S.under hb
        replace hnx := Below.more hnx hb hnx.size
        have hl2 := S.lt
        clear hb q0 q1 q2 q3
        obtain ⟨q0, q1, q2, q3⟩ := S.cells
        go_wp2_with (at_builtin; refine wpList_append_own _ rfl (.tmp 22) (.tmp 23) 22 rfl (w.heap.size + 1) 5 i0 (.int .u8 0) 1 1 Try.underlying22 hi hz0 hz1 hz2 rfl (by decide) _ _ _ rfl (World.ownsRow_nil _ _ _ _) ⟨w2.heap.size, 0, none⟩ 1 1 [.int .u8 94] rfl rfl (cell_one_new _ _ _) ?c2 ?c3 ?c4 ?c5 ?_)
        case c2 => first | exact one_ints (k := .u8) _ | rfl | (intro u hu; simp at hu; subst hu; rfl)
        case c3 => unfold maxLen; omega
        case c4 => omega
        case c5 => first | omega | (simp; omega)
        intro v3 w3 hown3 hgr3 _
        have S3 : SetAt w3 w.heap.size p := (S.alloc _).grown hgr3 (fun e => by cases e)
        have hB3 : Below w.heap.size w w3 := (hnx.alloc hnx.size _).grown hgr3 (by have := hnx.size; simp at this ⊢; omega) (fun g hg => by cases hg)
        have HO3 : w3.ownsRow (w.heap.size + 1) 5 1 v3 [94].length (bcells [94]) := hown3
        clear hgr3 hown3 q0 q1 q2 q3
        obtain ⟨q0, q1, q2, q3⟩ := S3.cells
        go_wp2_with fail
        refine (HN1.out _).mono ?_
        rintro x w4 ⟨rfl, hb⟩
        have S4 := S3.under hb
        have hB4 := Below.more hB3 hb hB3.size
        have HO4 := own_below HO3 hb
        have hl4 := S4.lt
        clear hb q0 q1 q2 q3 S3 HO3
        obtain ⟨r0, r1, r2, r3⟩ := S4.cells
        have f0 := S4.frozen 0
        have f1 := S4.frozen 1
        have f2 := S4.frozen 2
        have f3 := S4.frozen 3
        have HL0 : Hid (([94] : List UInt8).length ≤ 1 + 11 * 0) := (by decide : ([94] : List UInt8).length ≤ 1 + 11 * 0)
        have SQ : SetAt (put4 w4 w.heap.size np) w.heap.size np := S4.put
        have HO0 : World.ownsRow (put4 w4 w.heap.size np) (w.heap.size + 1) 5 1 v3 [94].length (bcells [94]) := own_put HO4
        have HB0 : Below w.heap.size w (put4 w4 w.heap.size np) := put4_below hB4 (Nat.le_refl _)
        go_wp2_with fail
        go_loopw [3, 5] (fun v i wr => ∃ (k f : Nat) (L : List UInt8), k ≤ 256 ∧ i = .int .i64 k ∧ 256 < k + f ∧ L.length ≤ 1 + 11 * k ∧ Hid (St.prGo np f k L ++ [93] = R) ∧ SetAt wr w.heap.size np ∧ wr.ownsRow (w.heap.size + 1) 5 1 v L.length (bcells L) ∧ Below w.heap.size w wr) (fun _ i _ => 256 - (intOf i).toNat)
        case atStart => exact ⟨0, 257, [94], by omega, rfl, by omega, HL0.out, HR, SQ, HO0, HB0⟩
        case round =>
          clear HR HN HL0 HO0
          obtain ⟨k, f0, L, hk, rfl, hf, hLl, HC1, S1, hown, hnr⟩ := hrel
          obtain ⟨f, rfl⟩ | rfl : (∃ f, f0 = f + 1) ∨ f0 = 0 := by
            cases f0 with
            | zero => exact .inr rfl
            | succ f => exact .inl ⟨f, rfl⟩
          · have hlr := S1.lt
            by_cases hlt : k < 256
            · have hw := wrap_byte hlt
              obtain ⟨t0, t1, t2, t3⟩ := S1.cells
              cases hp : np k
              · replace HC1 : Hid (St.prGo np f (k + 1) L ++ [93] = R) := by have := HC1.out; rwa [St.prGo_no hlt hp] at this
                go_wp2_with fail
                refine (has_any np k hlt _).mono ?_
                rw [hp]
                rintro x w5 ⟨rfl, hb⟩
                go_wp2_with fail
                refine ⟨⟨k + 1, f, L, by omega, by go_num, by omega, by omega, HC1, S1.under hb, own_below hown hb, Below.more hnr hb (by omega)⟩, ?_⟩
                simp [intOf]; omega
              · replace HC1 : Hid (St.prGo np f (St.toP np 256 k + 1) (L ++ St.runB k (St.toP np 256 k)) ++ [93] = R) := by have := HC1.out; rwa [St.prGo_yes hlt hp] at this
                have hrg := St.toP_range np 256 k hlt
                obtain ⟨T, hT⟩ : ∃ T, St.toP np 256 k = T := ⟨_, rfl⟩
                rw [hT] at HC1 hrg
                have HT : Hid (St.toP np 256 k = T) := hT
                clear hT
                go_wp2_with fail
                refine (has_any np k hlt _).mono ?_
                rw [hp]
                rintro x w5 ⟨rfl, hb⟩
                have S5 := S1.under hb
                have ho5 := own_below hown hb
                have hn5 := Below.more hnr hb (by omega)
                have hs5 := hb.size
                clear hb t0 t1 t2 t3 S1 hown hnr
                go_wp2_with fail
                go_loopw [6] (fun t wi => ∃ (m g : Nat), k ≤ m ∧ m < 256 ∧ t = .int .i64 m ∧ 256 ≤ m + g ∧ Hid (St.toP np g m = T) ∧ Below w5.heap.size w5 wi) (fun t _ => 256 - (intOf t).toNat)
                case atStart => exact ⟨k, 256, Nat.le_refl _, hlt, rfl, by omega, HT, Below.refl _ _⟩
                case round =>
                  clear HT
                  obtain ⟨m, g0, hkm, hm6, rfl, hg, HT1, hbi⟩ := hrel
                  have S6 := S5.under hbi
                  have ho6 := own_below ho5 hbi
                  have hn6 := Below.more hn5 hbi hn5.size
                  have hs6 := hbi.size
                  by_cases hm : m + 1 < 256
                  · obtain ⟨g, rfl⟩ : ∃ g, g0 = g + 1 := ⟨g0 - 1, by omega⟩
                    have n1 : IntKind.u8.wrap ((m : Int) + 1) = (m : Int) + 1 := by rw [IntKind.wrap_u8']; omega
                    have HH : Hid (∀ w1, Calls Try.prog 17 #[.agg #[.int .u64 (St.wd np 0 : Nat), .int .u64 (St.wd np 1 : Nat), .int .u64 (St.wd np 2 : Nat), .int .u64 (St.wd np 3 : Nat)], .int .u8 ((m : Int) + 1)] w1 fun e w' => e = .returned (.bool (np (m + 1))) ∧ Below w1.heap.size w1 w') := fun w1 => has_any np (m + 1) hm w1
                    obtain ⟨t0, t1, t2, t3⟩ := S6.cells
                    have hmI : (m : Int) + 1 < 256 := by omega
                    have hmD : decide ((m : Int) + 1 < 256) = true := by simpa using hmI
                    cases hq : np (m + 1)
                    · rw [hq] at HH
                      replace HT1 : Hid (m = T) := by have := HT1.out; rwa [St.toP_no (by rw [hq]; simp)] at this
                      have hmT := HT1.out
                      subst hmT
                      have hw2 := wrap_byte hm6
                      go_wp2_with fail
                      refine (HH.out _).mono ?_
                      rintro x w7 ⟨rfl, hb⟩
                      have S7 := S6.under hb
                      have ho7 := own_below ho6 hb
                      have hn7 := Below.more hn6 hb hn6.size
                      have hs7 := hb.size
                      have HA := run_app _ L k m (w.heap.size + 1) w7 hkm hm6 (by omega) ho7 (by omega)
                      have hrl := St.runB_len k m
                      clear hb t0 t1 t2 t3 n1
                      go_wp2_with fail
                      refine HA.mono ?_
                      rintro x w8 ⟨v8, rfl, ho8, hb8⟩
                      go_wp2_with fail
                      refine ⟨⟨m + 1, f, L ++ St.runB k m, by omega, by go_num, by omega, by rw [List.length_append]; omega, HC1, S7.below hb8 (by omega), ho8, hn7.trans (hb8.mono (by omega))⟩, ?_⟩
                      simp [intOf]; omega
                    · rw [hq] at HH
                      replace HT1 : Hid (St.toP np g (m + 1) = T) := by have := HT1.out; rwa [St.toP_yes hm hq] at this
                      go_wp2_with fail
                      refine (HH.out _).mono ?_
                      rintro x w7 ⟨rfl, hb⟩
                      go_wp2_with fail
                      refine ⟨⟨m + 1, g, by omega, hm, by go_num, by omega, HT1, Below.more hbi hb hs6⟩, ?_⟩
                      simp [intOf]; omega
                  · replace HT1 : Hid (m = T) := by have := HT1.out; rwa [St.toP_no (by omega)] at this
                    have hmT := HT1.out
                    subst hmT
                    have hw2 := wrap_byte hm6
                    have hmI : ¬ (m : Int) + 1 < 256 := by omega
                    have hmD : decide ((m : Int) + 1 < 256) = false := by simpa using hmI
                    have HA := run_app _ L k m (w.heap.size + 1) wr hkm hm6 (by omega) ho6 (by omega)
                    have hrl := St.runB_len k m
                    go_wp2_with fail
                    refine HA.mono ?_
                    rintro x w8 ⟨v8, rfl, ho8, hb8⟩
                    go_wp2_with fail
                    refine ⟨⟨m + 1, f, L ++ St.runB k m, by omega, by go_num, by omega, by rw [List.length_append]; omega, HC1, S6.below hb8 (by omega), ho8, hn6.trans (hb8.mono (by omega))⟩, ?_⟩
                    simp [intOf]; omega
            · replace HC1 : Hid (L ++ [93] = R) := by have := HC1.out; rwa [St.prGo_end (by omega)] at this
              go_wp2_with (at_builtin; refine wpList_append_own _ rfl (.tmp 56) (.tmp 57) 22 rfl (w.heap.size + 1) 5 i0 (.int .u8 0) 1 1 Try.underlying22 hi hz0 hz1 hz2 rfl (by decide) _ _ _ rfl (hown.alloc _) ⟨wr.heap.size, 0, none⟩ 1 1 [.int .u8 93] rfl rfl (cell_one_new _ _ _) ?e2 ?e3 ?e4 ?e5 ?_)
              case e2 => first | exact one_ints (k := .u8) _ | rfl | (intro u hu; simp at hu; subst hu; rfl)
              case e3 => unfold maxLen; omega
              case e4 => omega
              case e5 => first | omega | (simp; omega)
              intro v6 w6 hown6 hgr6 _
              have hB6 : Below w.heap.size w w6 := (hnr.alloc (by omega) _).grown hgr6 (by simp; omega) (fun g hg => Nat.le_of_succ_le (hown.lt g hg).1)
              have ho6 : w6.ownsRow (w.heap.size + 1) 5 1 v6 (L ++ [93]).length (bcells (L ++ [93])) := by rw [bcells_append, List.length_append]; exact hown6
              clear hgr6 hown6
              have hJ0 : (L ++ [93]).length ≠ 0 := by rw [List.length_append]; simp
              generalize L ++ [93] = J at *
              have hre := HC1.out
              subst hre
              rcases ho6.2 with ⟨hv, hn0⟩ | ⟨g, cp, cur, hv, _⟩
              · exact absurd hn0 hJ0
              · subst hv
                have hcv := conv_own ho6
                clear hJ0
                go_wp2_with fail
                go_ret
                exact ⟨rfl, hB6⟩
          · omega
      · have HN : Hid (St.negP p = false) := by show _ = _; rw [HNE.out, hz, hy, decide_eq_false hn]; rfl
        replace HR : Hid (St.prGo p 257 0 [] ++ [93] = R) := by have := HR.out; rw [HN.out] at this; exact this
        rw [hz] at hzE
        rw [hy] at hyE
        have hn' : ¬ 128 < (n : Int) := by omega
        clear HZ HY HNE hz hy
        go_enter Try.func30, Try.ntmps30
        go_wp2_with fail
        refine (HN0.out _).mono ?_
        rintro x w1 ⟨rfl, hb⟩
        have S := (A0.under hb).alloc (.cells #[.int .u64 (St.wd al 0 : Nat), .int .u64 (St.wd al 1 : Nat), .int .u64 (St.wd al 2 : Nat), .int .u64 (St.wd al 3 : Nat)] 25)
        have hnx := (Below.more hnx0 hb hnx0.size).alloc (Nat.le_trans hnx0.size hb.size) (.cells #[.int .u64 (St.wd al 0 : Nat), .int .u64 (St.wd al 1 : Nat), .int .u64 (St.wd al 2 : Nat), .int .u64 (St.wd al 3 : Nat)] 25)
        obtain ⟨q0, q1, q2, q3⟩ := (A0.under hb).cells
        have hl1 := (A0.under hb).lt
        clear hb
        go_wp2_with fail
        refine (HC.out _).mono ?_
        rintro x w2 ⟨rfl, hb⟩
        replace S := S.under hb
        replace hnx := Below.more hnx hb hnx.size
        have hl2 := S.lt
        clear hb q0 q1 q2 q3
        obtain ⟨q0, q1, q2, q3⟩ := S.cells
        have HO0 : World.ownsRow w2 (w.heap.size + 1) 5 1 (.slice none 0 0) ([] : List UInt8).length (bcells []) := World.ownsRow_nil _ _ _ _
        have HL0 : Hid (([] : List UInt8).length ≤ 1 + 11 * 0) := (by decide : ([] : List UInt8).length ≤ 1 + 11 * 0)
        go_wp2_with fail
        go_loopw [3, 5] (fun v i wr => ∃ (k f : Nat) (L : List UInt8), k ≤ 256 ∧ i = .int .i64 k ∧ 256 < k + f ∧ L.length ≤ 1 + 11 * k ∧ Hid (St.prGo p f k L ++ [93] = R) ∧ SetAt wr w.heap.size p ∧ wr.ownsRow (w.heap.size + 1) 5 1 v L.length (bcells L) ∧ Below w.heap.size w wr) (fun _ i _ => 256 - (intOf i).toNat)
        case atStart => exact ⟨0, 257, [], by omega, rfl, by omega, HL0.out, HR, S, HO0, hnx⟩
        case round =>
          clear HR HN HL0 HO0
          obtain ⟨k, f0, L, hk, rfl, hf, hLl, HC1, S1, hown, hnr⟩ := hrel
          obtain ⟨f, rfl⟩ | rfl : (∃ f, f0 = f + 1) ∨ f0 = 0 := by
            cases f0 with
            | zero => exact .inr rfl
            | succ f => exact .inl ⟨f, rfl⟩
          · have hlr := S1.lt
            by_cases hlt : k < 256
            · have hw := wrap_byte hlt
              obtain ⟨t0, t1, t2, t3⟩ := S1.cells
              cases hp : p k
              · replace HC1 : Hid (St.prGo p f (k + 1) L ++ [93] = R) := by have := HC1.out; rwa [St.prGo_no hlt hp] at this
                go_wp2_with fail
                refine (has_any p k hlt _).mono ?_
                rw [hp]
                rintro x w5 ⟨rfl, hb⟩
                go_wp2_with fail
                refine ⟨⟨k + 1, f, L, by omega, by go_num, by omega, by omega, HC1, S1.under hb, own_below hown hb, Below.more hnr hb (by omega)⟩, ?_⟩
                simp [intOf]; omega
              · replace HC1 : Hid (St.prGo p f (St.toP p 256 k + 1) (L ++ St.runB k (St.toP p 256 k)) ++ [93] = R) := by have := HC1.out; rwa [St.prGo_yes hlt hp] at this
                have hrg := St.toP_range p 256 k hlt
                obtain ⟨T, hT⟩ : ∃ T, St.toP p 256 k = T := ⟨_, rfl⟩
                rw [hT] at HC1 hrg
                have HT : Hid (St.toP p 256 k = T) := hT
                clear hT
                go_wp2_with fail
                refine (has_any p k hlt _).mono ?_
                rw [hp]
                rintro x w5 ⟨rfl, hb⟩
                have S5 := S1.under hb
                have ho5 := own_below hown hb
                have hn5 := Below.more hnr hb (by omega)
                have hs5 := hb.size
                clear hb t0 t1 t2 t3 S1 hown hnr
                go_wp2_with fail
                go_loopw [6] (fun t wi => ∃ (m g : Nat), k ≤ m ∧ m < 256 ∧ t = .int .i64 m ∧ 256 ≤ m + g ∧ Hid (St.toP p g m = T) ∧ Below w5.heap.size w5 wi) (fun t _ => 256 - (intOf t).toNat)
                case atStart => exact ⟨k, 256, Nat.le_refl _, hlt, rfl, by omega, HT, Below.refl _ _⟩
                case round =>
                  clear HT
                  obtain ⟨m, g0, hkm, hm6, rfl, hg, HT1, hbi⟩ := hrel
                  have S6 := S5.under hbi
                  have ho6 := own_below ho5 hbi
                  have hn6 := Below.more hn5 hbi hn5.size
                  have hs6 := hbi.size
                  by_cases hm : m + 1 < 256
                  · obtain ⟨g, rfl⟩ : ∃ g, g0 = g + 1 := ⟨g0 - 1, by omega⟩
                    have n1 : IntKind.u8.wrap ((m : Int) + 1) = (m : Int) + 1 := by rw [IntKind.wrap_u8']; omega
                    have HH : Hid (∀ w1, Calls Try.prog 17 #[.agg #[.int .u64 (St.wd p 0 : Nat), .int .u64 (St.wd p 1 : Nat), .int .u64 (St.wd p 2 : Nat), .int .u64 (St.wd p 3 : Nat)], .int .u8 ((m : Int) + 1)] w1 fun e w' => e = .returned (.bool (p (m + 1))) ∧ Below w1.heap.size w1 w') := fun w1 => has_any p (m + 1) hm w1
                    obtain ⟨t0, t1, t2, t3⟩ := S6.cells
                    have hmI : (m : Int) + 1 < 256 := by omega
                    have hmD : decide ((m : Int) + 1 < 256) = true := by simpa using hmI
                    cases hq : p (m + 1)
                    · rw [hq] at HH
                      replace HT1 : Hid (m = T) := by have := HT1.out; rwa [St.toP_no (by rw [hq]; simp)] at this
                      have hmT := HT1.out
                      subst hmT
                      have hw2 := wrap_byte hm6
                      go_wp2_with fail
                      refine (HH.out _).mono ?_
                      rintro x w7 ⟨rfl, hb⟩
                      have S7 := S6.under hb
                      have ho7 := own_below ho6 hb
                      have hn7 := Below.more hn6 hb hn6.size
                      have hs7 := hb.size
                      have HA := run_app _ L k m (w.heap.size + 1) w7 hkm hm6 (by omega) ho7 (by omega)
                      have hrl := St.runB_len k m
                      clear hb t0 t1 t2 t3 n1
                      go_wp2_with fail
                      refine HA.mono ?_
                      rintro x w8 ⟨v8, rfl, ho8, hb8⟩
                      go_wp2_with fail
                      refine ⟨⟨m + 1, f, L ++ St.runB k m, by omega, by go_num, by omega, by rw [List.length_append]; omega, HC1, S7.below hb8 (by omega), ho8, hn7.trans (hb8.mono (by omega))⟩, ?_⟩
                      simp [intOf]; omega
                    · rw [hq] at HH
                      replace HT1 : Hid (St.toP p g (m + 1) = T) := by have := HT1.out; rwa [St.toP_yes hm hq] at this
                      go_wp2_with fail
                      refine (HH.out _).mono ?_
                      rintro x w7 ⟨rfl, hb⟩
                      go_wp2_with fail
                      refine ⟨⟨m + 1, g, by omega, hm, by go_num, by omega, HT1, Below.more hbi hb hs6⟩, ?_⟩
                      simp [intOf]; omega
                  · replace HT1 : Hid (m = T) := by have := HT1.out; rwa [St.toP_no (by omega)] at this
                    have hmT := HT1.out
                    subst hmT
                    have hw2 := wrap_byte hm6
                    have hmI : ¬ (m : Int) + 1 < 256 := by omega
                    have hmD : decide ((m : Int) + 1 < 256) = false := by simpa using hmI
                    have HA := run_app _ L k m (w.heap.size + 1) wr hkm hm6 (by omega) ho6 (by omega)
                    have hrl := St.runB_len k m
                    go_wp2_with fail
                    refine HA.mono ?_
                    rintro x w8 ⟨v8, rfl, ho8, hb8⟩
                    go_wp2_with fail
                    refine ⟨⟨m + 1, f, L ++ St.runB k m, by omega, by go_num, by omega, by rw [List.length_append]; omega, HC1, S6.below hb8 (by omega), ho8, hn6.trans (hb8.mono (by omega))⟩, ?_⟩
                    simp [intOf]; omega
            · replace HC1 : Hid (L ++ [93] = R) := by have := HC1.out; rwa [St.prGo_end (by omega)] at this
              go_wp2_with (at_builtin; refine wpList_append_own _ rfl (.tmp 56) (.tmp 57) 22 rfl (w.heap.size + 1) 5 i0 (.int .u8 0) 1 1 Try.underlying22 hi hz0 hz1 hz2 rfl (by decide) _ _ _ rfl (hown.alloc _) ⟨wr.heap.size, 0, none⟩ 1 1 [.int .u8 93] rfl rfl (cell_one_new _ _ _) ?e2 ?e3 ?e4 ?e5 ?_)
              case e2 => first | exact one_ints (k := .u8) _ | rfl | (intro u hu; simp at hu; subst hu; rfl)
              case e3 => unfold maxLen; omega
              case e4 => omega
              case e5 => first | omega | (simp; omega)
              intro v6 w6 hown6 hgr6 _
              have hB6 : Below w.heap.size w w6 := (hnr.alloc (by omega) _).grown hgr6 (by simp; omega) (fun g hg => Nat.le_of_succ_le (hown.lt g hg).1)
              have ho6 : w6.ownsRow (w.heap.size + 1) 5 1 v6 (L ++ [93]).length (bcells (L ++ [93])) := by rw [bcells_append, List.length_append]; exact hown6
              clear hgr6 hown6
              have hJ0 : (L ++ [93]).length ≠ 0 := by rw [List.length_append]; simp
              generalize L ++ [93] = J at *
              have hre := HC1.out
              subst hre
              rcases ho6.2 with ⟨hv, hn0⟩ | ⟨g, cp, cur, hv, _⟩
              · exact absurd hn0 hJ0
              · subst hv
                have hcv := conv_own ho6
                clear hJ0
                go_wp2_with fail
                go_ret
                exact ⟨rfl, hB6⟩
          · omega
    · have HN : Hid (St.negP p = false) := by show _ = _; rw [HNE.out, hz, hy]; rfl
      replace HR : Hid (St.prGo p 257 0 [] ++ [93] = R) := by have := HR.out; rw [HN.out] at this; exact this
      rw [hz] at hzE
      rw [hy] at hyE
      clear HZ HY HNE hz hy
      go_enter Try.func30, Try.ntmps30
      go_wp2_with fail
      refine (HN0.out _).mono ?_
      rintro x w1 ⟨rfl, hb⟩
      have S := (A0.under hb).alloc (.cells #[.int .u64 (St.wd al 0 : Nat), .int .u64 (St.wd al 1 : Nat), .int .u64 (St.wd al 2 : Nat), .int .u64 (St.wd al 3 : Nat)] 25)
      have hnx := (Below.more hnx0 hb hnx0.size).alloc (Nat.le_trans hnx0.size hb.size) (.cells #[.int .u64 (St.wd al 0 : Nat), .int .u64 (St.wd al 1 : Nat), .int .u64 (St.wd al 2 : Nat), .int .u64 (St.wd al 3 : Nat)] 25)
      obtain ⟨q0, q1, q2, q3⟩ := (A0.under hb).cells
      have hl1 := (A0.under hb).lt
      clear hb
      have HO0 : World.ownsRow (w1.alloc (.cells #[.int .u64 (St.wd al 0 : Nat), .int .u64 (St.wd al 1 : Nat), .int .u64 (St.wd al 2 : Nat), .int .u64 (St.wd al 3 : Nat)] 25)) (w.heap.size + 1) 5 1 (.slice none 0 0) ([] : List UInt8).length (bcells []) := World.ownsRow_nil _ _ _ _
      have HL0 : Hid (([] : List UInt8).length ≤ 1 + 11 * 0) := (by decide : ([] : List UInt8).length ≤ 1 + 11 * 0)
      go_wp2_with fail
      go_loopw [3, 5] (fun v i wr => ∃ (k f : Nat) (L : List UInt8), k ≤ 256 ∧ i = .int .i64 k ∧ 256 < k + f ∧ L.length ≤ 1 + 11 * k ∧ Hid (St.prGo p f k L ++ [93] = R) ∧ SetAt wr w.heap.size p ∧ wr.ownsRow (w.heap.size + 1) 5 1 v L.length (bcells L) ∧ Below w.heap.size w wr) (fun _ i _ => 256 - (intOf i).toNat)
      case atStart => exact ⟨0, 257, [], by omega, rfl, by omega, HL0.out, HR, S, HO0, hnx⟩
      case round =>
        clear HR HN HL0 HO0
        obtain ⟨k, f0, L, hk, rfl, hf, hLl, HC1, S1, hown, hnr⟩ := hrel
        obtain ⟨f, rfl⟩ | rfl : (∃ f, f0 = f + 1) ∨ f0 = 0 := by
          cases f0 with
          | zero => exact .inr rfl
          | succ f => exact .inl ⟨f, rfl⟩
        · have hlr := S1.lt
          by_cases hlt : k < 256
          · have hw := wrap_byte hlt
            obtain ⟨t0, t1, t2, t3⟩ := S1.cells
            cases hp : p k
            · replace HC1 : Hid (St.prGo p f (k + 1) L ++ [93] = R) := by have := HC1.out; rwa [St.prGo_no hlt hp] at this
              go_wp2_with fail
              refine (has_any p k hlt _).mono ?_
              rw [hp]
              rintro x w5 ⟨rfl, hb⟩
              go_wp2_with fail
              refine ⟨⟨k + 1, f, L, by omega, by go_num, by omega, by omega, HC1, S1.under hb, own_below hown hb, Below.more hnr hb (by omega)⟩, ?_⟩
              simp [intOf]; omega
            · replace HC1 : Hid (St.prGo p f (St.toP p 256 k + 1) (L ++ St.runB k (St.toP p 256 k)) ++ [93] = R) := by have := HC1.out; rwa [St.prGo_yes hlt hp] at this
              have hrg := St.toP_range p 256 k hlt
              obtain ⟨T, hT⟩ : ∃ T, St.toP p 256 k = T := ⟨_, rfl⟩
              rw [hT] at HC1 hrg
              have HT : Hid (St.toP p 256 k = T) := hT
              clear hT
              go_wp2_with fail
              refine (has_any p k hlt _).mono ?_
              rw [hp]
              rintro x w5 ⟨rfl, hb⟩
              have S5 := S1.under hb
              have ho5 := own_below hown hb
              have hn5 := Below.more hnr hb (by omega)
              have hs5 := hb.size
              clear hb t0 t1 t2 t3 S1 hown hnr
              go_wp2_with fail
              go_loopw [6] (fun t wi => ∃ (m g : Nat), k ≤ m ∧ m < 256 ∧ t = .int .i64 m ∧ 256 ≤ m + g ∧ Hid (St.toP p g m = T) ∧ Below w5.heap.size w5 wi) (fun t _ => 256 - (intOf t).toNat)
              case atStart => exact ⟨k, 256, Nat.le_refl _, hlt, rfl, by omega, HT, Below.refl _ _⟩
              case round =>
                clear HT
                obtain ⟨m, g0, hkm, hm6, rfl, hg, HT1, hbi⟩ := hrel
                have S6 := S5.under hbi
                have ho6 := own_below ho5 hbi
                have hn6 := Below.more hn5 hbi hn5.size
                have hs6 := hbi.size
                by_cases hm : m + 1 < 256
                · obtain ⟨g, rfl⟩ : ∃ g, g0 = g + 1 := ⟨g0 - 1, by omega⟩
                  have n1 : IntKind.u8.wrap ((m : Int) + 1) = (m : Int) + 1 := by rw [IntKind.wrap_u8']; omega
                  have HH : Hid (∀ w1, Calls Try.prog 17 #[.agg #[.int .u64 (St.wd p 0 : Nat), .int .u64 (St.wd p 1 : Nat), .int .u64 (St.wd p 2 : Nat), .int .u64 (St.wd p 3 : Nat)], .int .u8 ((m : Int) + 1)] w1 fun e w' => e = .returned (.bool (p (m + 1))) ∧ Below w1.heap.size w1 w') := fun w1 => has_any p (m + 1) hm w1
                  obtain ⟨t0, t1, t2, t3⟩ := S6.cells
                  have hmI : (m : Int) + 1 < 256 := by omega
                  have hmD : decide ((m : Int) + 1 < 256) = true := by simpa using hmI
                  cases hq : p (m + 1)
                  · rw [hq] at HH
                    replace HT1 : Hid (m = T) := by have := HT1.out; rwa [St.toP_no (by rw [hq]; simp)] at this
                    have hmT := HT1.out
                    subst hmT
                    have hw2 := wrap_byte hm6
                    go_wp2_with fail
                    refine (HH.out _).mono ?_
                    rintro x w7 ⟨rfl, hb⟩
                    have S7 := S6.under hb
                    have ho7 := own_below ho6 hb
                    have hn7 := Below.more hn6 hb hn6.size
                    have hs7 := hb.size
                    have HA := run_app _ L k m (w.heap.size + 1) w7 hkm hm6 (by omega) ho7 (by omega)
                    have hrl := St.runB_len k m
                    clear hb t0 t1 t2 t3 n1
                    go_wp2_with fail
                    refine HA.mono ?_
                    rintro x w8 ⟨v8, rfl, ho8, hb8⟩
                    go_wp2_with fail
                    refine ⟨⟨m + 1, f, L ++ St.runB k m, by omega, by go_num, by omega, by rw [List.length_append]; omega, HC1, S7.below hb8 (by omega), ho8, hn7.trans (hb8.mono (by omega))⟩, ?_⟩
                    simp [intOf]; omega
                  · rw [hq] at HH
                    replace HT1 : Hid (St.toP p g (m + 1) = T) := by have := HT1.out; rwa [St.toP_yes hm hq] at this
                    go_wp2_with fail
                    refine (HH.out _).mono ?_
                    rintro x w7 ⟨rfl, hb⟩
                    go_wp2_with fail
                    refine ⟨⟨m + 1, g, by omega, hm, by go_num, by omega, HT1, Below.more hbi hb hs6⟩, ?_⟩
                    simp [intOf]; omega
                · replace HT1 : Hid (m = T) := by have := HT1.out; rwa [St.toP_no (by omega)] at this
                  have hmT := HT1.out
                  subst hmT
                  have hw2 := wrap_byte hm6
                  have hmI : ¬ (m : Int) + 1 < 256 := by omega
                  have hmD : decide ((m : Int) + 1 < 256) = false := by simpa using hmI
                  have HA := run_app _ L k m (w.heap.size + 1) wr hkm hm6 (by omega) ho6 (by omega)
                  have hrl := St.runB_len k m
                  go_wp2_with fail
                  refine HA.mono ?_
                  rintro x w8 ⟨v8, rfl, ho8, hb8⟩
                  go_wp2_with fail
                  refine ⟨⟨m + 1, f, L ++ St.runB k m, by omega, by go_num, by omega, by rw [List.length_append]; omega, HC1, S6.below hb8 (by omega), ho8, hn6.trans (hb8.mono (by omega))⟩, ?_⟩
                  simp [intOf]; omega
          · replace HC1 : Hid (L ++ [93] = R) := by have := HC1.out; rwa [St.prGo_end (by omega)] at this
            go_wp2_with (at_builtin; refine wpList_append_own _ rfl (.tmp 56) (.tmp 57) 22 rfl (w.heap.size + 1) 5 i0 (.int .u8 0) 1 1 Try.underlying22 hi hz0 hz1 hz2 rfl (by decide) _ _ _ rfl (hown.alloc _) ⟨wr.heap.size, 0, none⟩ 1 1 [.int .u8 93] rfl rfl (cell_one_new _ _ _) ?e2 ?e3 ?e4 ?e5 ?_)
            case e2 => first | exact one_ints (k := .u8) _ | rfl | (intro u hu; simp at hu; subst hu; rfl)
            case e3 => unfold maxLen; omega
            case e4 => omega
            case e5 => first | omega | (simp; omega)
            intro v6 w6 hown6 hgr6 _
            have hB6 : Below w.heap.size w w6 := (hnr.alloc (by omega) _).grown hgr6 (by simp; omega) (fun g hg => Nat.le_of_succ_le (hown.lt g hg).1)
            have ho6 : w6.ownsRow (w.heap.size + 1) 5 1 v6 (L ++ [93]).length (bcells (L ++ [93])) := by rw [bcells_append, List.length_append]; exact hown6
            clear hgr6 hown6
            have hJ0 : (L ++ [93]).length ≠ 0 := by rw [List.length_append]; simp
            generalize L ++ [93] = J at *
            have hre := HC1.out
            subst hre
            rcases ho6.2 with ⟨hv, hn0⟩ | ⟨g, cp, cur, hv, _⟩
            · exact absurd hn0 hJ0
            · subst hv
              have hcv := conv_own ho6
              clear hJ0
              go_wp2_with fail
              go_ret
              exact ⟨rfl, hB6⟩
        · omega
  · have HN : Hid (St.negP p = true) := by show _ = _; rw [HNE.out, hz]; rfl
    replace HR : Hid (St.prGo np 257 0 [94] ++ [93] = R) := by have := HR.out; rw [HN.out] at this; exact this
    rw [hz] at hzE
    clear HZ HY HNE hz hyE
    go_enter Try.func30, Try.ntmps30
    go_wp2_with fail
    refine (HN0.out _).mono ?_
    rintro x w1 ⟨rfl, hb⟩
    have S := (A0.under hb).alloc (.cells #[.int .u64 (St.wd al 0 : Nat), .int .u64 (St.wd al 1 : Nat), .int .u64 (St.wd al 2 : Nat), .int .u64 (St.wd al 3 : Nat)] 25)
    have hnx := (Below.more hnx0 hb hnx0.size).alloc (Nat.le_trans hnx0.size hb.size) (.cells #[.int .u64 (St.wd al 0 : Nat), .int .u64 (St.wd al 1 : Nat), .int .u64 (St.wd al 2 : Nat), .int .u64 (St.wd al 3 : Nat)] 25)
    obtain ⟨q0, q1, q2, q3⟩ := (A0.under hb).cells
    have hl1 := (A0.under hb).lt
    clear hb
    go_wp2_with (at_builtin; refine wpList_append_own _ rfl (.tmp 22) (.tmp 23) 22 rfl (w.heap.size + 1) 5 i0 (.int .u8 0) 1 1 Try.underlying22 hi hz0 hz1 hz2 rfl (by decide) _ _ _ rfl (World.ownsRow_nil _ _ _ _) ⟨w1.heap.size + 1, 0, none⟩ 1 1 [.int .u8 94] rfl rfl ?c1 ?c2 ?c3 ?c4 ?c5 ?_)
    case c1 =>
      intro j u hu
      rw [show (⟨w1.heap.size + 1, 0, none⟩ : Addr).add j = ⟨w1.heap.size + 1, j, none⟩ by unfold Addr.add; split <;> simp_all, cell_of_row _ _ j _ _ _ (heap_alloc2_new w1 _ _), ← hu]
      simp
    case c2 => first | exact one_ints (k := .u8) _ | rfl | (intro u hu; simp at hu; subst hu; rfl)
    case c3 => unfold maxLen; omega
    case c4 => omega
    case c5 => (have := hnx.size; simp at this ⊢; omega)
    intro v3 w3 hown3 hgr3 _
    have S3 : SetAt w3 w.heap.size p := (S.alloc _).grown hgr3 (fun e => by cases e)
    have hB3 : Below w.heap.size w w3 := (hnx.alloc hnx.size _).grown hgr3 (by have := hnx.size; simp at this ⊢; omega) (fun g hg => by cases hg)
    have HO3 : w3.ownsRow (w.heap.size + 1) 5 1 v3 [94].length (bcells [94]) := hown3
    clear hgr3 hown3 q0 q1 q2 q3
    obtain ⟨q0, q1, q2, q3⟩ := S3.cells
    go_wp2_with fail
    refine (HN1.out _).mono ?_
    rintro x w4 ⟨rfl, hb⟩
    have S4 := S3.under hb
    have hB4 := Below.more hB3 hb hB3.size
    have HO4 := own_below HO3 hb
    have hl4 := S4.lt
    clear hb q0 q1 q2 q3 S3 HO3
    obtain ⟨r0, r1, r2, r3⟩ := S4.cells
    have f0 := S4.frozen 0
    have f1 := S4.frozen 1
    have f2 := S4.frozen 2
    have f3 := S4.frozen 3
    have HL0 : Hid (([94] : List UInt8).length ≤ 1 + 11 * 0) := (by decide : ([94] : List UInt8).length ≤ 1 + 11 * 0)
    have SQ : SetAt (put4 w4 w.heap.size np) w.heap.size np := S4.put
    have HO0 : World.ownsRow (put4 w4 w.heap.size np) (w.heap.size + 1) 5 1 v3 [94].length (bcells [94]) := own_put HO4
    have HB0 : Below w.heap.size w (put4 w4 w.heap.size np) := put4_below hB4 (Nat.le_refl _)
    go_wp2_with fail
    go_loopw [3, 5] (fun v i wr => ∃ (k f : Nat) (L : List UInt8), k ≤ 256 ∧ i = .int .i64 k ∧ 256 < k + f ∧ L.length ≤ 1 + 11 * k ∧ Hid (St.prGo np f k L ++ [93] = R) ∧ SetAt wr w.heap.size np ∧ wr.ownsRow (w.heap.size + 1) 5 1 v L.length (bcells L) ∧ Below w.heap.size w wr) (fun _ i _ => 256 - (intOf i).toNat)
    case atStart => exact ⟨0, 257, [94], by omega, rfl, by omega, HL0.out, HR, SQ, HO0, HB0⟩
    case round =>
      clear HR HN HL0 HO0
      obtain ⟨k, f0, L, hk, rfl, hf, hLl, HC1, S1, hown, hnr⟩ := hrel
      obtain ⟨f, rfl⟩ | rfl : (∃ f, f0 = f + 1) ∨ f0 = 0 := by
        cases f0 with
        | zero => exact .inr rfl
        | succ f => exact .inl ⟨f, rfl⟩
      · have hlr := S1.lt
        by_cases hlt : k < 256
        · have hw := wrap_byte hlt
          obtain ⟨t0, t1, t2, t3⟩ := S1.cells
          cases hp : np k
          · replace HC1 : Hid (St.prGo np f (k + 1) L ++ [93] = R) := by have := HC1.out; rwa [St.prGo_no hlt hp] at this
            go_wp2_with fail
            refine (has_any np k hlt _).mono ?_
            rw [hp]
            rintro x w5 ⟨rfl, hb⟩
            go_wp2_with fail
            refine ⟨⟨k + 1, f, L, by omega, by go_num, by omega, by omega, HC1, S1.under hb, own_below hown hb, Below.more hnr hb (by omega)⟩, ?_⟩
            simp [intOf]; omega
          · replace HC1 : Hid (St.prGo np f (St.toP np 256 k + 1) (L ++ St.runB k (St.toP np 256 k)) ++ [93] = R) := by have := HC1.out; rwa [St.prGo_yes hlt hp] at this
            have hrg := St.toP_range np 256 k hlt
            obtain ⟨T, hT⟩ : ∃ T, St.toP np 256 k = T := ⟨_, rfl⟩
            rw [hT] at HC1 hrg
            have HT : Hid (St.toP np 256 k = T) := hT
            clear hT
            go_wp2_with fail
            refine (has_any np k hlt _).mono ?_
            rw [hp]
            rintro x w5 ⟨rfl, hb⟩
            have S5 := S1.under hb
            have ho5 := own_below hown hb
            have hn5 := Below.more hnr hb (by omega)
            have hs5 := hb.size
            clear hb t0 t1 t2 t3 S1 hown hnr
            go_wp2_with fail
            go_loopw [6] (fun t wi => ∃ (m g : Nat), k ≤ m ∧ m < 256 ∧ t = .int .i64 m ∧ 256 ≤ m + g ∧ Hid (St.toP np g m = T) ∧ Below w5.heap.size w5 wi) (fun t _ => 256 - (intOf t).toNat)
            case atStart => exact ⟨k, 256, Nat.le_refl _, hlt, rfl, by omega, HT, Below.refl _ _⟩
            case round =>
              clear HT
              obtain ⟨m, g0, hkm, hm6, rfl, hg, HT1, hbi⟩ := hrel
              have S6 := S5.under hbi
              have ho6 := own_below ho5 hbi
              have hn6 := Below.more hn5 hbi hn5.size
              have hs6 := hbi.size
              by_cases hm : m + 1 < 256
              · obtain ⟨g, rfl⟩ : ∃ g, g0 = g + 1 := ⟨g0 - 1, by omega⟩
                have n1 : IntKind.u8.wrap ((m : Int) + 1) = (m : Int) + 1 := by rw [IntKind.wrap_u8']; omega
                have HH : Hid (∀ w1, Calls Try.prog 17 #[.agg #[.int .u64 (St.wd np 0 : Nat), .int .u64 (St.wd np 1 : Nat), .int .u64 (St.wd np 2 : Nat), .int .u64 (St.wd np 3 : Nat)], .int .u8 ((m : Int) + 1)] w1 fun e w' => e = .returned (.bool (np (m + 1))) ∧ Below w1.heap.size w1 w') := fun w1 => has_any np (m + 1) hm w1
                obtain ⟨t0, t1, t2, t3⟩ := S6.cells
                have hmI : (m : Int) + 1 < 256 := by omega
                have hmD : decide ((m : Int) + 1 < 256) = true := by simpa using hmI
                cases hq : np (m + 1)
                · rw [hq] at HH
                  replace HT1 : Hid (m = T) := by have := HT1.out; rwa [St.toP_no (by rw [hq]; simp)] at this
                  have hmT := HT1.out
                  subst hmT
                  have hw2 := wrap_byte hm6
                  go_wp2_with fail
                  refine (HH.out _).mono ?_
                  rintro x w7 ⟨rfl, hb⟩
                  have S7 := S6.under hb
                  have ho7 := own_below ho6 hb
                  have hn7 := Below.more hn6 hb hn6.size
                  have hs7 := hb.size
                  have HA := run_app _ L k m (w.heap.size + 1) w7 hkm hm6 (by omega) ho7 (by omega)
                  have hrl := St.runB_len k m
                  clear hb t0 t1 t2 t3 n1
                  go_wp2_with fail
                  refine HA.mono ?_
                  rintro x w8 ⟨v8, rfl, ho8, hb8⟩
                  go_wp2_with fail
                  refine ⟨⟨m + 1, f, L ++ St.runB k m, by omega, by go_num, by omega, by rw [List.length_append]; omega, HC1, S7.below hb8 (by omega), ho8, hn7.trans (hb8.mono (by omega))⟩, ?_⟩
                  simp [intOf]; omega
                · rw [hq] at HH
                  replace HT1 : Hid (St.toP np g (m + 1) = T) := by have := HT1.out; rwa [St.toP_yes hm hq] at this
                  go_wp2_with fail
                  refine (HH.out _).mono ?_
                  rintro x w7 ⟨rfl, hb⟩
                  go_wp2_with fail
                  refine ⟨⟨m + 1, g, by omega, hm, by go_num, by omega, HT1, Below.more hbi hb hs6⟩, ?_⟩
                  simp [intOf]; omega
              · replace HT1 : Hid (m = T) := by have := HT1.out; rwa [St.toP_no (by omega)] at this
                have hmT := HT1.out
                subst hmT
                have hw2 := wrap_byte hm6
                have hmI : ¬ (m : Int) + 1 < 256 := by omega
                have hmD : decide ((m : Int) + 1 < 256) = false := by simpa using hmI
                have HA := run_app _ L k m (w.heap.size + 1) wr hkm hm6 (by omega) ho6 (by omega)
                have hrl := St.runB_len k m
                go_wp2_with fail
                refine HA.mono ?_
                rintro x w8 ⟨v8, rfl, ho8, hb8⟩
                go_wp2_with fail
                refine ⟨⟨m + 1, f, L ++ St.runB k m, by omega, by go_num, by omega, by rw [List.length_append]; omega, HC1, S6.below hb8 (by omega), ho8, hn6.trans (hb8.mono (by omega))⟩, ?_⟩
                simp [intOf]; omega
        · replace HC1 : Hid (L ++ [93] = R) := by have := HC1.out; rwa [St.prGo_end (by omega)] at this
          go_wp2_with (at_builtin; refine wpList_append_own _ rfl (.tmp 56) (.tmp 57) 22 rfl (w.heap.size + 1) 5 i0 (.int .u8 0) 1 1 Try.underlying22 hi hz0 hz1 hz2 rfl (by decide) _ _ _ rfl (hown.alloc _) ⟨wr.heap.size, 0, none⟩ 1 1 [.int .u8 93] rfl rfl (cell_one_new _ _ _) ?e2 ?e3 ?e4 ?e5 ?_)
          case e2 => first | exact one_ints (k := .u8) _ | rfl | (intro u hu; simp at hu; subst hu; rfl)
          case e3 => unfold maxLen; omega
          case e4 => omega
          case e5 => first | omega | (simp; omega)
          intro v6 w6 hown6 hgr6 _
          have hB6 : Below w.heap.size w w6 := (hnr.alloc (by omega) _).grown hgr6 (by simp; omega) (fun g hg => Nat.le_of_succ_le (hown.lt g hg).1)
          have ho6 : w6.ownsRow (w.heap.size + 1) 5 1 v6 (L ++ [93]).length (bcells (L ++ [93])) := by rw [bcells_append, List.length_append]; exact hown6
          clear hgr6 hown6
          have hJ0 : (L ++ [93]).length ≠ 0 := by rw [List.length_append]; simp
          generalize L ++ [93] = J at *
          have hre := HC1.out
          subst hre
          rcases ho6.2 with ⟨hv, hn0⟩ | ⟨g, cp, cur, hv, _⟩
          · exact absurd hn0 hJ0
          · subst hv
            have hcv := conv_own ho6
            clear hJ0
            go_wp2_with fail
            go_ret
            exact ⟨rfl, hB6⟩
      · omega
end Go.Proofs.Ytmlpfgfpmbnbeaa
