/- What the reference's told and Print answer. -/
import Derived.Test.YtmlpfgfpmbnbeaaSPr
import Derived.Deep.DeepCutAuto
import Derived.Deep.CutBlock
namespace Go.Proofs.Ytmlpfgfpmbnbeaa
open Go.RowKit

theorem conv_one (w : World) (c : Nat) (hc : c < 256) :
    (convert 22 9 (.slice (some ⟨w.heap.size, 0, none⟩) 1 1)).run Try.prog (w.alloc (.cells #[.int .u8 (c : Int)] 5)) = .ok (.string ⟨#[UInt8.ofNat c]⟩) (w.alloc (.cells #[.int .u8 (c : Int)] 5)) := by
  have ho := World.ownsRow_lit (base := w.heap.size) (e := 5) (size := 1) w (bcells [UInt8.ofNat c]).toArray 1 (Nat.le_refl _) (by unfold maxLen; omega) (by simp [bcells])
  have h := conv_own (l := [UInt8.ofNat c]) (by simpa using ho)
  have e : (bcells [UInt8.ofNat c]).toArray = #[.int .u8 (c : Int)] := by simp only [bcells, List.map, ofNat_cast hc]
  rw [e] at h
  exact h

namespace St
theorem elt_yes {c : Nat} (h : spec c = true) : eltB c = [91, 46, UInt8.ofNat c, 46, 93] := by unfold eltB; rw [h]; rfl
theorem elt_no {c : Nat} (h : spec c = false) : eltB c = [UInt8.ofNat c] := by unfold eltB; rw [h]; rfl
theorem elt_len (c : Nat) : (eltB c).length ≤ 5 := by unfold eltB; split <;> simp
theorem spec_off {c : Nat} (h : spec c = false) : c ≠ 91 ∧ c ≠ 93 ∧ c ≠ 94 ∧ c ≠ 45 ∧ c ≠ 92 ∧ c ≠ 10 := by
  refine ⟨?_, ?_, ?_, ?_, ?_, ?_⟩ <;> (intro e; subst e; exact absurd h (by decide))
theorem spec_on {c : Nat} (h : spec c = true) : c = 91 ∨ c = 93 ∨ c = 94 ∨ c = 45 ∨ c = 92 ∨ c = 10 := by
  unfold spec at h
  simp only [Bool.or_eq_true, beq_iff_eq] at h
  omega
theorem run_same (k : Nat) : runB k k = eltB k := by unfold runB; simp
theorem run_next (k : Nat) : runB k (k + 1) = eltB k ++ eltB (k + 1) := by
  unfold runB
  have h1 : (k == k + 1) = false := by simp
  have h2 : ¬ 1 < k + 1 - k := by omega
  rw [h1, if_neg h2]; simp
theorem run_more {k m : Nat} (h : k + 1 < m) : runB k m = eltB k ++ ([45] ++ eltB m) := by
  unfold runB
  have h1 : (k == m) = false := by simp; omega
  rw [h1, if_pos (show 1 < m - k by omega)]; rfl
theorem cnt_zero (p : Nat → Bool) : ∀ n, cnt p n = 0 → ∀ c, c < n → p c = false
  | 0, _, c, hc => by omega
  | n + 1, h, c, hc => by
    rw [cnt] at h
    have h0 : cnt p n = 0 := by omega
    have h1 : p n = false := by
      cases hp : p n
      · rfl
      · rw [hp] at h; simp at h
    by_cases e : c = n
    · rw [e]; exact h1
    · exact cnt_zero p n h0 c (by omega)
theorem cnt_none {p : Nat → Bool} : ∀ n, (∀ c, c < n → p c = false) → cnt p n = 0
  | 0, _ => rfl
  | n + 1, h => by rw [cnt, cnt_none n (fun c hc => h c (by omega)), h n (by omega)]; rfl
theorem cnt_full (p : Nat → Bool) : ∀ n, cnt p n = n → ∀ c, c < n → p c = true
  | 0, _, c, hc => by omega
  | n + 1, h, c, hc => by
    have hl := cnt_le p n
    rw [cnt] at h
    have h1 : p n = true := by
      cases hp : p n
      · rw [hp] at h; simp at h; omega
      · rfl
    have h0 : cnt p n = n := by rw [h1] at h; simp at h; omega
    by_cases e : c = n
    · rw [e]; exact h1
    · exact cnt_full p n h0 c (by omega)
theorem cnt_all {p : Nat → Bool} : ∀ n, (∀ c, c < n → p c = true) → cnt p n = n
  | 0, _ => rfl
  | n + 1, h => by rw [cnt, cnt_all n (fun c hc => h c (by omega)), h n (by omega)]; rfl
theorem same_none (p : Nat → Bool) : sameS p (inL []) = decide (cnt p 256 = 0) := by
  rw [Bool.eq_iff_iff, sameS_iff, decide_eq_true_iff]
  exact ⟨fun h => cnt_none 256 (fun c hc => h c hc), fun h c hc => cnt_zero p 256 h c hc⟩
theorem same_all (p : Nat → Bool) : sameS p (fun _ => true) = decide (cnt p 256 = 256) := by
  rw [Bool.eq_iff_iff, sameS_iff, decide_eq_true_iff]
  exact ⟨fun h => cnt_all 256 (fun c hc => h c hc), fun h c hc => cnt_full p 256 h c hc⟩
theorem neg_cnt (p : Nat → Bool) : negP p = (decide (cnt p 256 = 0) || (!decide (cnt p 256 = 256) && decide (128 < cnt p 256))) := by
  unfold negP; rw [same_none, same_all]
end St

set_option maxRecDepth 100000 in
set_option maxHeartbeats 1000000 in
theorem rtold_any (c : Nat) (hc : c < 256) (w : World) :
    Calls Try.prog 40 #[.int .u8 (c : Int)] w fun e w' => e = .returned (.string ⟨(St.eltB c).toArray⟩) ∧ Below w.heap.size w w' := by
  have hcv := conv_one w c hc
  cases h : St.spec c
  · rw [St.elt_no h]
    obtain ⟨n1, n2, n3, n4, n5, n6⟩ := St.spec_off h
    have e1 : ((c : Int) == 91) = false := by rw [beq_eq_false_iff_ne]; omega
    have e2 : ((c : Int) == 93) = false := by rw [beq_eq_false_iff_ne]; omega
    have e3 : ((c : Int) == 94) = false := by rw [beq_eq_false_iff_ne]; omega
    have e4 : ((c : Int) == 45) = false := by rw [beq_eq_false_iff_ne]; omega
    have e5 : ((c : Int) == 92) = false := by rw [beq_eq_false_iff_ne]; omega
    have e6 : ((c : Int) == 10) = false := by rw [beq_eq_false_iff_ne]; omega
    go_enter Try.func40, Try.ntmps40
    go_wp2_with fail
    go_ret
    exact ⟨rfl, (Below.refl _ _).alloc (Nat.le_refl _) _⟩
  · rw [St.elt_yes h]
    rcases St.spec_on h with rfl | rfl | rfl | rfl | rfl | rfl
    · have hcv' : (convert 22 9 (.slice (some ⟨w.heap.size, 0, none⟩) 1 1)).run Try.prog (w.alloc (.cells #[.int .u8 91] 5)) = .ok (.string ⟨#[91]⟩) (w.alloc (.cells #[.int .u8 91] 5)) := hcv
      clear hcv h hc
      show Calls _ _ #[.int .u8 91] _ _
      go_enter Try.func40, Try.ntmps40
      go_wp2_with fail
      go_ret
      exact ⟨rfl, (Below.refl _ _).alloc (Nat.le_refl _) _⟩
    · have hcv' : (convert 22 9 (.slice (some ⟨w.heap.size, 0, none⟩) 1 1)).run Try.prog (w.alloc (.cells #[.int .u8 93] 5)) = .ok (.string ⟨#[93]⟩) (w.alloc (.cells #[.int .u8 93] 5)) := hcv
      clear hcv h hc
      show Calls _ _ #[.int .u8 93] _ _
      go_enter Try.func40, Try.ntmps40
      go_wp2_with fail
      go_ret
      exact ⟨rfl, (Below.refl _ _).alloc (Nat.le_refl _) _⟩
    · have hcv' : (convert 22 9 (.slice (some ⟨w.heap.size, 0, none⟩) 1 1)).run Try.prog (w.alloc (.cells #[.int .u8 94] 5)) = .ok (.string ⟨#[94]⟩) (w.alloc (.cells #[.int .u8 94] 5)) := hcv
      clear hcv h hc
      show Calls _ _ #[.int .u8 94] _ _
      go_enter Try.func40, Try.ntmps40
      go_wp2_with fail
      go_ret
      exact ⟨rfl, (Below.refl _ _).alloc (Nat.le_refl _) _⟩
    · have hcv' : (convert 22 9 (.slice (some ⟨w.heap.size, 0, none⟩) 1 1)).run Try.prog (w.alloc (.cells #[.int .u8 45] 5)) = .ok (.string ⟨#[45]⟩) (w.alloc (.cells #[.int .u8 45] 5)) := hcv
      clear hcv h hc
      show Calls _ _ #[.int .u8 45] _ _
      go_enter Try.func40, Try.ntmps40
      go_wp2_with fail
      go_ret
      exact ⟨rfl, (Below.refl _ _).alloc (Nat.le_refl _) _⟩
    · have hcv' : (convert 22 9 (.slice (some ⟨w.heap.size, 0, none⟩) 1 1)).run Try.prog (w.alloc (.cells #[.int .u8 92] 5)) = .ok (.string ⟨#[92]⟩) (w.alloc (.cells #[.int .u8 92] 5)) := hcv
      clear hcv h hc
      show Calls _ _ #[.int .u8 92] _ _
      go_enter Try.func40, Try.ntmps40
      go_wp2_with fail
      go_ret
      exact ⟨rfl, (Below.refl _ _).alloc (Nat.le_refl _) _⟩
    · have hcv' : (convert 22 9 (.slice (some ⟨w.heap.size, 0, none⟩) 1 1)).run Try.prog (w.alloc (.cells #[.int .u8 10] 5)) = .ok (.string ⟨#[10]⟩) (w.alloc (.cells #[.int .u8 10] 5)) := hcv
      clear hcv h hc
      show Calls _ _ #[.int .u8 10] _ _
      go_enter Try.func40, Try.ntmps40
      go_wp2_with fail
      go_ret
      exact ⟨rfl, (Below.refl _ _).alloc (Nat.le_refl _) _⟩

set_option maxRecDepth 100000 in
set_option maxHeartbeats 4000000 in
theorem rprint_any (p : Nat → Bool) (w : World) :
    Calls Try.prog 31 #[St.setV p] w fun e w' => e = .returned (.string ⟨(St.printB p).toArray⟩) ∧ Below w.heap.size w w' := by
  obtain ⟨R, hR⟩ : ∃ R, St.printB p = R := ⟨_, rfl⟩
  rw [hR]
  have HR : Hid (St.prGo (if St.negP p then (fun x => !p x) else p) 257 0 (if St.negP p then [94] else []) ++ [93] = R) := hR
  clear hR
  have HNE : Hid (St.negP p = (decide (St.cnt p 256 = 0) || (!decide (St.cnt p 256 = 256) && decide (128 < St.cnt p 256)))) := St.neg_cnt p
  obtain ⟨np, hnp⟩ : ∃ np : Nat → Bool, np = fun x => !p x := ⟨_, rfl⟩
  have HN1 : Hid (∀ w1, Calls Try.prog 27 #[St.setV p] w1 fun e w' => e = .returned (St.setV np) ∧ Below w1.heap.size w1 w') := fun w1 => by rw [hnp]; exact rnot_any p w1
  rw [← hnp] at HR
  have HL : Hid ((St.lst p 256).length = St.cnt p 256) := St.lst_length p 256
  have hcl := St.cnt_le p 256
  have HB : Hid (∀ w1, Calls Try.prog 16 #[St.setV p] w1 fun e w' => ∃ v, e = .returned v ∧ w'.ownsRow w1.heap.size 5 1 v (St.cnt p 256) (bcells (St.lst p 256)) ∧ Below w1.heap.size w1 w') := rbytes_any p
  generalize St.lst p 256 = BL at *
  generalize St.cnt p 256 = n at *
  have A0 : SetAt (w.alloc (.cells #[.int .u64 (St.wd p 0 : Nat), .int .u64 (St.wd p 1 : Nat), .int .u64 (St.wd p 2 : Nat), .int .u64 (St.wd p 3 : Nat)] 25)) w.heap.size p := at_new w p
  have hnx0 : Below w.heap.size w (w.alloc (.cells #[.int .u64 (St.wd p 0 : Nat), .int .u64 (St.wd p 1 : Nat), .int .u64 (St.wd p 2 : Nat), .int .u64 (St.wd p 3 : Nat)] 25)) := (Below.refl _ _).alloc (Nat.le_refl _) _
  simp only [St.setV] at HB HN1 ⊢
  clear hnp
  obtain ⟨ng, hng⟩ : ∃ ng, St.negP p = ng := ⟨_, rfl⟩
  rw [hng] at HR HNE
  clear hng
  go_enter Try.func31, Try.ntmps31
  go_wp2_with fail
  refine (HB.out _).mono ?_
  rintro x w1 ⟨v1, rfl, hown, hb⟩
  obtain ⟨ba, bc, rfl, _, _⟩ := own_bys hown HL.out hcl
  have S := A0.under hb
  have hnx := Below.more hnx0 hb hnx0.size
  have hl1 := S.lt
  clear hb hown HB HL hnx0 A0
  go_upto_region 3 with fail
  go_cut [19] (fun b wx => b = .bool ng ∧ w1 = wx)
  case first =>
    obtain hn | hn | hn | hn : n = 0 ∨ (128 < n ∧ n < 256) ∨ n = 256 ∨ (0 < n ∧ n ≤ 128) := by omega
    · subst hn
      go_wp2_with fail
      go_meet
      case rel => exact ⟨congrArg Value.bool HNE.out.symm, rfl⟩
    · obtain ⟨hn1, hn2⟩ := hn
      have g1 : (n : Int) > 128 := by omega
      have g2 : (n : Int) < 256 := by omega
      have d1 : decide (128 < (n : Int)) = true := by simpa using g1
      have d2 : decide ((n : Int) < 256) = true := by simpa using g2
      go_wp2_with fail
      go_meet
      case rel => exact ⟨congrArg Value.bool (by rw [HNE.out, decide_eq_false (show ¬ n = 0 by omega), decide_eq_false (show ¬ n = 256 by omega), decide_eq_true hn1]; rfl), rfl⟩
    · subst hn
      go_wp2_with fail
      go_meet
      case rel => exact ⟨congrArg Value.bool HNE.out.symm, rfl⟩
    · obtain ⟨hn1, hn2⟩ := hn
      have g1 : ¬ (n : Int) > 128 := by omega
      have d1 : decide (128 < (n : Int)) = false := by simp; omega
      have g3 : ((n : Int) == 0) = false := by rw [beq_eq_false_iff_ne]; omega
      go_wp2_with fail
      go_meet
      case rel => exact ⟨congrArg Value.bool (by rw [HNE.out, decide_eq_false (show ¬ n = 0 by omega), decide_eq_false (show ¬ 128 < n by omega)]; simp), rfl⟩
  case rest =>
    obtain ⟨rfl, rfl⟩ := hcut
    go_upto_if 19 with fail
    go_cut [3] (fun s wx => ∃ (S0 : ByteArray) (q : Nat → Bool), s = .string S0 ∧ S0.size ≤ 1 ∧ Hid (St.prGo q 257 0 S0.data.toList ++ [93] = R) ∧ SetAt wx w.heap.size q ∧ Below w.heap.size w wx)
    case first =>
      cases ng
      · replace HR : Hid (St.prGo p 257 0 [] ++ [93] = R) := HR
        go_wp2_with fail
        go_meet
        case rel => exact ⟨⟨#[]⟩, p, rfl, by decide, HR, S, hnx⟩
      · replace HR : Hid (St.prGo np 257 0 [94] ++ [93] = R) := HR
        obtain ⟨q0, q1, q2, q3⟩ := S.cells
        go_wp2_with fail
        refine (HN1.out _).mono ?_
        rintro x w4 ⟨rfl, hb⟩
        have S4 := S.under hb
        have hB4 := Below.more hnx hb hnx.size
        have hl4 := S4.lt
        clear hb q0 q1 q2 q3 S hnx
        obtain ⟨r0, r1, r2, r3⟩ := S4.cells
        have f0 := S4.frozen 0
        have f1 := S4.frozen 1
        have f2 := S4.frozen 2
        have f3 := S4.frozen 3
        go_wp2_with fail
        go_meet
        case rel => exact ⟨⟨#[94]⟩, np, rfl, by decide, HR, S4.put, put4_below hB4 (Nat.le_refl _)⟩
    case rest =>
      clear HR HN1 HNE S hnx
      obtain ⟨S0, q, rfl, hS0, HR, SQ, HB0⟩ := hcut
      go_wp2_with fail
      go_loopw [3, 5] (fun v i wr => ∃ (k f : Nat) (S : ByteArray), k ≤ 256 ∧ i = .int .i64 k ∧ v = .string S ∧ 256 < k + f ∧ S.size ≤ 1 + 11 * k ∧ Hid (St.prGo q f k S.data.toList ++ [93] = R) ∧ SetAt wr w.heap.size q ∧ Below w.heap.size w wr) (fun _ i _ => 256 - (intOf i).toNat)
      case atStart => exact ⟨0, 257, S0, by omega, rfl, rfl, by omega, by omega, HR, SQ, HB0⟩
      case round =>
        clear HR SQ HB0
        obtain ⟨k, f0, S, hk, rfl, rfl, hf, hSl, HC1, S1, hnr⟩ := hrel
        obtain ⟨f, rfl⟩ | rfl : (∃ f, f0 = f + 1) ∨ f0 = 0 := by
          cases f0 with
          | zero => exact .inr rfl
          | succ f => exact .inl ⟨f, rfl⟩
        · have hlr := S1.lt
          by_cases hlt : k < 256
          · have hw := wrap_byte hlt
            obtain ⟨t0, t1, t2, t3⟩ := S1.cells
            cases hp : q k
            · replace HC1 : Hid (St.prGo q f (k + 1) S.data.toList ++ [93] = R) := by have := HC1.out; rwa [St.prGo_no hlt hp] at this
              go_wp2_with fail
              refine (rhas_any q k hlt _).mono ?_
              rw [hp]
              rintro x w5 ⟨rfl, hb⟩
              go_wp2_with fail
              refine ⟨⟨k + 1, f, S, by omega, by go_num, rfl, by omega, by omega, HC1, S1.under hb, Below.more hnr hb (by omega)⟩, ?_⟩
              simp [intOf]; omega
            · replace HC1 : Hid (St.prGo q f (St.toP q 256 k + 1) (S.data.toList ++ St.runB k (St.toP q 256 k)) ++ [93] = R) := by have := HC1.out; rwa [St.prGo_yes hlt hp] at this
              have hrg := St.toP_range q 256 k hlt
              obtain ⟨T, hT⟩ : ∃ T, St.toP q 256 k = T := ⟨_, rfl⟩
              rw [hT] at HC1 hrg
              have HT : Hid (St.toP q 256 k = T) := hT
              clear hT
              go_wp2_with fail
              refine (rhas_any q k hlt _).mono ?_
              rw [hp]
              rintro x w5 ⟨rfl, hb⟩
              have S5 := S1.under hb
              have hn5 := Below.more hnr hb (by omega)
              have hs5 := hb.size
              clear hb t0 t1 t2 t3 S1 hnr
              go_upto_block 2 with fail
              go_cut [5] (fun t wx => t = .int .i64 (T : Nat) ∧ Below w5.heap.size w5 wx)
              case first =>
                go_wp2_with fail
                go_loopw [5] (fun t wi => ∃ (m g : Nat), k ≤ m ∧ m < 256 ∧ t = .int .i64 m ∧ 256 ≤ m + g ∧ Hid (St.toP q g m = T) ∧ Below w5.heap.size w5 wi) (fun t _ => 256 - (intOf t).toNat)
                case atStart => exact ⟨k, 256, Nat.le_refl _, hlt, rfl, by omega, HT, Below.refl _ _⟩
                case round =>
                  clear HT
                  obtain ⟨m, g0, hkm, hm6, rfl, hg, HT1, hbi⟩ := hrel
                  have S6 := S5.under hbi
                  have hs6 := hbi.size
                  by_cases hm : m < 255
                  · obtain ⟨g, rfl⟩ : ∃ g, g0 = g + 1 := ⟨g0 - 1, by omega⟩
                    have n1 : IntKind.u8.wrap ((m : Int) + 1) = (m : Int) + 1 := by rw [IntKind.wrap_u8']; omega
                    have HH : Hid (∀ w1, Calls Try.prog 18 #[.agg #[.int .u64 (St.wd q 0 : Nat), .int .u64 (St.wd q 1 : Nat), .int .u64 (St.wd q 2 : Nat), .int .u64 (St.wd q 3 : Nat)], .int .u8 ((m : Int) + 1)] w1 fun e w' => e = .returned (.bool (q (m + 1))) ∧ Below w1.heap.size w1 w') := fun w1 => rhas_any q (m + 1) (by omega) w1
                    obtain ⟨t0, t1, t2, t3⟩ := S6.cells
                    have hmI : (m : Int) < 255 := by omega
                    have hmD : decide ((m : Int) < 255) = true := by simpa using hmI
                    cases hq : q (m + 1)
                    · rw [hq] at HH
                      replace HT1 : Hid (m = T) := by have := HT1.out; rwa [St.toP_no (by rw [hq]; simp)] at this
                      go_wp2_with fail
                      refine (HH.out _).mono ?_
                      rintro x w7 ⟨rfl, hb⟩
                      go_wp2_with fail
                      go_meet
                      case rel => exact ⟨by rw [HT1.out], Below.more hbi hb hs6⟩
                    · rw [hq] at HH
                      replace HT1 : Hid (St.toP q g (m + 1) = T) := by have := HT1.out; rwa [St.toP_yes (by omega) hq] at this
                      go_wp2_with fail
                      refine (HH.out _).mono ?_
                      rintro x w7 ⟨rfl, hb⟩
                      go_wp2_with fail
                      refine ⟨⟨m + 1, g, by omega, by omega, by go_num, by omega, HT1, Below.more hbi hb hs6⟩, ?_⟩
                      simp [intOf]; omega
                  · replace HT1 : Hid (m = T) := by have := HT1.out; rwa [St.toP_no (by omega)] at this
                    have hmI : ¬ (m : Int) < 255 := by omega
                    have hmD : decide ((m : Int) < 255) = false := by simpa using hmI
                    go_wp2_with fail
                    go_meet
                    case rel => exact ⟨by rw [HT1.out], hbi⟩
              case rest =>
                obtain ⟨rfl, hbi⟩ := hcut
                have S6 := S5.under hbi
                have hn6 := Below.more hn5 hbi hn5.size
                have hs6 := hbi.size
                clear HT S5 hn5 hbi
                obtain ⟨hkm, hm6⟩ := hrg
                have hw2 := wrap_byte hm6
                have hel := St.elt_len k
                have hem := St.elt_len T
                have HK : Hid (∀ w1, Calls Try.prog 40 #[.int .u8 (k : Int)] w1 fun e w' => e = .returned (.string ⟨(St.eltB k).toArray⟩) ∧ Below w1.heap.size w1 w') := fun w1 => rtold_any k hlt w1
                have HM : Hid (∀ w1, Calls Try.prog 40 #[.int .u8 (T : Int)] w1 fun e w' => e = .returned (.string ⟨(St.eltB T).toArray⟩) ∧ Below w1.heap.size w1 w') := fun w1 => rtold_any T hm6 w1
                obtain ⟨T1, hTA⟩ : ∃ T1 : ByteArray, T1 = ⟨(St.eltB k).toArray⟩ := ⟨_, rfl⟩
                obtain ⟨T2, hTB⟩ : ∃ T2 : ByteArray, T2 = ⟨(St.eltB T).toArray⟩ := ⟨_, rfl⟩
                have hz1 : T1.size ≤ 5 := by rw [hTA]; simpa [ByteArray.size] using hel
                have hz2 : T2.size ≤ 5 := by rw [hTB]; simpa [ByteArray.size] using hem
                have HTA : Hid (T1.data.toList = St.eltB k) := by show _ = _; rw [hTA]
                have HTB : Hid (T2.data.toList = St.eltB T) := by show _ = _; rw [hTB]
                rw [← hTA] at HK
                rw [← hTB] at HM
                clear hTA hTB hel hem
                obtain hc | hc | hc : T = k ∨ T = k + 1 ∨ k + 1 < T := by omega
                · have HRR : Hid (St.runB k T = St.eltB k) := by rw [hc]; exact St.run_same k
                  have g1 : ¬ (T : Int) > (k : Int) + 1 := by omega
                  have g2 : ¬ (T : Int) > (k : Int) := by omega
                  have d1 : decide ((k : Int) + 1 < (T : Int)) = false := by simp; omega
                  have d2 : decide ((k : Int) < (T : Int)) = false := by simp; omega
                  replace hc : Hid (T = k) := hc
                  go_wp2_with fail
                  refine (HK.out _).mono ?_
                  rintro x w8 ⟨rfl, hb8⟩
                  go_wp2_with fail
                  refine ⟨⟨T + 1, f, S ++ T1, by omega, by go_num, rfl, by omega, by simp only [ByteArray.size_append]; omega, ?_, S6.under hb8, Below.more hn6 hb8 (by omega)⟩, ?_⟩
                  · show _ = _
                    rw [← HC1.out, HRR.out, ← HTA.out]; simp
                  · simp [intOf]; omega
                · have HRR : Hid (St.runB k T = St.eltB k ++ St.eltB T) := by rw [hc]; exact St.run_next k
                  have g1 : ¬ (T : Int) > (k : Int) + 1 := by omega
                  have g2 : (T : Int) > (k : Int) := by omega
                  have d1 : decide ((k : Int) + 1 < (T : Int)) = false := by simp; omega
                  have d2 : decide ((k : Int) < (T : Int)) = true := by simp; omega
                  replace hc : Hid (T = k + 1) := hc
                  go_wp2_with fail
                  refine (HK.out _).mono ?_
                  rintro x w8 ⟨rfl, hb8⟩
                  go_wp2_with fail
                  refine (HM.out _).mono ?_
                  rintro x w9 ⟨rfl, hb9⟩
                  have hs8 := hb8.size
                  have hn8 := Below.more hn6 hb8 (by omega)
                  go_wp2_with fail
                  refine ⟨⟨T + 1, f, S ++ T1 ++ T2, by omega, by go_num, rfl, by omega, by simp only [ByteArray.size_append]; omega, ?_, (S6.under hb8).under hb9, Below.more hn8 hb9 hn8.size⟩, ?_⟩
                  · show _ = _
                    rw [← HC1.out, HRR.out, ← HTA.out, ← HTB.out]; simp
                  · simp [intOf]; omega
                · have HRR : Hid (St.runB k T = St.eltB k ++ ([45] ++ St.eltB T)) := St.run_more hc
                  have g1 : (T : Int) > (k : Int) + 1 := by omega
                  have g2 : (T : Int) > (k : Int) := by omega
                  have d1 : decide ((k : Int) + 1 < (T : Int)) = true := by simp; omega
                  have d2 : decide ((k : Int) < (T : Int)) = true := by simp; omega
                  have z45 : (⟨#[45]⟩ : ByteArray).size = 1 := rfl
                  go_wp2_with fail
                  refine (HK.out _).mono ?_
                  rintro x w8 ⟨rfl, hb8⟩
                  go_wp2_with fail
                  refine (HM.out _).mono ?_
                  rintro x w9 ⟨rfl, hb9⟩
                  have hs8 := hb8.size
                  have hn8 := Below.more hn6 hb8 (by omega)
                  go_wp2_with fail
                  refine ⟨⟨T + 1, f, S ++ T1 ++ ⟨#[45]⟩ ++ T2, by omega, by go_num, rfl, by omega, by simp only [ByteArray.size_append, z45]; omega, ?_, (S6.under hb8).under hb9, Below.more hn8 hb9 hn8.size⟩, ?_⟩
                  · show _ = _
                    rw [← HC1.out, HRR.out, ← HTA.out, ← HTB.out]; simp
                  · simp [intOf]; omega
          · replace HC1 : Hid (S.data.toList ++ [93] = R) := by have := HC1.out; rwa [St.prGo_end (by omega)] at this
            go_wp2_with fail
            go_ret
            refine ⟨?_, hnr⟩
            rw [← HC1.out]
            have e : S ++ (⟨#[93]⟩ : ByteArray) = ⟨(S.data.toList ++ [93]).toArray⟩ := ByteArray.ext (by rw [← Array.toList_inj]; simp)
            rw [← e]
            rfl
        · omega
end Go.Proofs.Ytmlpfgfpmbnbeaa
