/- What sets.classes answers. -/
import Derived.Test.YtmlpfgfpmbnbeaaSCls2
import Derived.Test.YtmlpfgfpmbnbeaaSProg
namespace Go.Proofs.Ytmlpfgfpmbnbeaa
open Go.RowKit

theorem wpOp_insert {ops : Array Oper} {Q : Exit → Act → World → Prop} {i : Nat} {a : Act} {w : World} {K : Act → World → Prop} {x k y : Operand} {t : TypeId} {pos : String} {af : Array Edge} {m n : Nat} {D : DataW Value} {s : ByteArray} {v : Value}
    (ho : ops[i]? = some ⟨none, .insert 47 x k y, t, pos, af, none⟩) (hx : a.eval x = .map (some m)) (hk : a.eval k = .string s) (hy : a.eval y = v) (hown : w.ownsMap Try.prog 9 hR m n D) (hn : n < maxLen) (hs : s.size ≤ maxLen)
    (hK : ∀ w', w'.ownsMap Try.prog 9 hR m (n + 1) (D.put (.string s.data.toList) (.held v)) → w.mapTurned w' m → K (a.put none undef) w') : wpOp Try.prog ops Q i K a w := by
  obtain ⟨w', hr, h1, h2⟩ := run_insert hx hk hy hown hn hs
  exact wpOp_skip (d := none) ho rfl rfl hr (hK w' h1 h2)
theorem run_move' {ev : Operand → Value} {w : World} {d : Option Tmp} {t : TypeId} {pos : String} {af : Array Edge} (x : Operand) : (execOp ev ⟨d, .move x, t, pos, af, none⟩).run Try.prog w = .ok (.value (ev x)) w := by simp [execOp]
theorem run_assign' {ev : Operand → Value} {w : World} {d : Option Tmp} {t : TypeId} {pos : String} {af : Array Edge} (x : Operand) : (execOp ev ⟨d, .assign x, t, pos, af, none⟩).run Try.prog w = .ok (.value (ev x)) w := by simp [execOp]
theorem calls_range (args : Array Value) (wx : World) : (callFunc 20 args).run Try.prog wx = .ok (.enter 20 args) wx := by go_simp
theorem calls_with (args : Array Value) (wx : World) : (callFunc 36 args).run Try.prog wx = .ok (.enter 36 args) wx := by go_simp
theorem calls_of (args : Array Value) (wx : World) : (callFunc 12 args).run Try.prog wx = .ok (.enter 12 args) wx := by go_simp

theorem clsE_lt : ∀ e ∈ St.clsE, e.1 < 39 := by decide
/-- A map of the classes. -/
def ClsMap (w : World) (m : Nat) : Prop := ∃ n D, w.ownsMap Try.prog 9 hR m n D ∧ clsD (fun _ => true) D

set_option maxRecDepth 100000 in
set_option maxHeartbeats 4000000 in
theorem classes_any (w : World) : Calls Try.prog 34 #[] w fun e w' => ∃ m, e = .returned (.map (some m)) ∧ ClsMap w' m ∧ Below w.heap.size w w' := by
  have HUp : Hid (∀ w, Calls Try.prog 20 #[.int .u8 65, .int .u8 90] w fun e w' => e = .returned (St.setV St.cUp) ∧ Below w.heap.size w w') := fun w => range_any 65 90 w (by decide) (by decide)
  have HLow : Hid (∀ w, Calls Try.prog 20 #[.int .u8 97, .int .u8 122] w fun e w' => e = .returned (St.setV St.cLow) ∧ Below w.heap.size w w') := fun w => range_any 97 122 w (by decide) (by decide)
  have HDig : Hid (∀ w, Calls Try.prog 20 #[.int .u8 48, .int .u8 57] w fun e w' => e = .returned (St.setV St.cDig) ∧ Below w.heap.size w w') := fun w => range_any 48 57 w (by decide) (by decide)
  have HGr : Hid (∀ w, Calls Try.prog 20 #[.int .u8 33, .int .u8 126] w fun e w' => e = .returned (St.setV St.cGraph) ∧ Below w.heap.size w w') := fun w => range_any 33 126 w (by decide) (by decide)
  have HXA : Hid (∀ w, Calls Try.prog 20 #[.int .u8 65, .int .u8 70] w fun e w' => e = .returned (St.setV St.cXA) ∧ Below w.heap.size w w') := fun w => range_any 65 70 w (by decide) (by decide)
  have HXB : Hid (∀ w, Calls Try.prog 20 #[.int .u8 97, .int .u8 102] w fun e w' => e = .returned (St.setV St.cXB) ∧ Below w.heap.size w w') := fun w => range_any 97 102 w (by decide) (by decide)
  have HSA : Hid (∀ w, Calls Try.prog 20 #[.int .u8 9, .int .u8 13] w fun e w' => e = .returned (St.setV St.cSA) ∧ Below w.heap.size w w') := fun w => range_any 9 13 w (by decide) (by decide)
  have HCA : Hid (∀ w, Calls Try.prog 20 #[.int .u8 0, .int .u8 31] w fun e w' => e = .returned (St.setV St.cCA) ∧ Below w.heap.size w w') := fun w => range_any 0 31 w (by decide) (by decide)
  have HAl : Hid (∀ w, Calls Try.prog 24 #[St.setV St.cUp, St.setV St.cLow] w fun e w' => e = .returned (St.setV St.cAlpha) ∧ Below w.heap.size w w') := fun w => or_any St.cUp St.cLow w
  have HAn : Hid (∀ w, Calls Try.prog 24 #[St.setV St.cAlpha, St.setV St.cDig] w fun e w' => e = .returned (St.setV St.cAlnum) ∧ Below w.heap.size w w') := fun w => or_any St.cAlpha St.cDig w
  have HXC : Hid (∀ w, Calls Try.prog 24 #[St.setV St.cXA, St.setV St.cXB] w fun e w' => e = .returned (St.setV St.cXC) ∧ Below w.heap.size w w') := fun w => or_any St.cXA St.cXB w
  have HX : Hid (∀ w, Calls Try.prog 24 #[St.setV St.cDig, St.setV St.cXC] w fun e w' => e = .returned (St.setV St.cX) ∧ Below w.heap.size w w') := fun w => or_any St.cDig St.cXC w
  have HS : Hid (∀ w, Calls Try.prog 36 #[St.setV St.cSA, .int .u8 32] w fun e w' => e = .returned (St.setV St.cSpace) ∧ Below w.heap.size w w') := fun w => with_any St.cSA 32 (by decide) w
  have HC : Hid (∀ w, Calls Try.prog 36 #[St.setV St.cCA, .int .u8 127] w fun e w' => e = .returned (St.setV St.cCntrl) ∧ Below w.heap.size w w') := fun w => with_any St.cCA 127 (by decide) w
  have HP : Hid (∀ w, Calls Try.prog 36 #[St.setV St.cGraph, .int .u8 32] w fun e w' => e = .returned (St.setV St.cPrint) ∧ Below w.heap.size w w') := fun w => with_any St.cGraph 32 (by decide) w
  have HNA : Hid (∀ w, Calls Try.prog 26 #[St.setV St.cAlnum] w fun e w' => e = .returned (St.setV St.cNA) ∧ Below w.heap.size w w') := fun w => not_any St.cAlnum w
  have HPU : Hid (∀ w, Calls Try.prog 22 #[St.setV St.cGraph, St.setV St.cNA] w fun e w' => e = .returned (St.setV St.cPunct) ∧ Below w.heap.size w w') := fun w => and_any St.cGraph St.cNA w
  have HOf : Hid (∀ w g fr, w.heap[g]? = some (.cells #[.int .u8 32, .int .u8 9] 5 fr) → Calls Try.prog 12 #[.slice (some ⟨g, 0, none⟩) 2 2] w fun e w' => e = .returned (St.setV St.cBlank) ∧ Below w.heap.size w w') := fun w g fr hg => by
    refine of_any (some ⟨g, 0, none⟩) 2 [32, 9] w ⟨by decide, fun i hi => ⟨g, 0, rfl, lt_of_block hg, ?_⟩⟩
    rw [cell_of_row _ _ _ _ _ _ hg]
    have hi2 : i < 2 := hi
    obtain rfl | rfl : i = 0 ∨ i = 1 := by omega
    all_goals rfl
  obtain ⟨cU, hcU⟩ : ∃ f, f = St.cUp := ⟨_, rfl⟩
  obtain ⟨cL, hcL⟩ : ∃ f, f = St.cLow := ⟨_, rfl⟩
  obtain ⟨cD, hcD⟩ : ∃ f, f = St.cDig := ⟨_, rfl⟩
  obtain ⟨cA, hcA⟩ : ∃ f, f = St.cAlpha := ⟨_, rfl⟩
  obtain ⟨cN, hcN⟩ : ∃ f, f = St.cAlnum := ⟨_, rfl⟩
  obtain ⟨cG, hcG⟩ : ∃ f, f = St.cGraph := ⟨_, rfl⟩
  have A1 := HUp
  have A2 := HLow
  have A3 := HDig
  have A4 := HAl
  have A5 := HAn
  have A6 := HGr
  rw [← hcU] at A1 A4
  rw [← hcL] at A2 A4
  rw [← hcD] at A3 A5
  rw [← hcA] at A4 A5
  rw [← hcN] at A5
  rw [← hcG] at A6
  simp only [St.setV] at A1 A2 A3 A4 A5 A6
  have HEq : Hid (cU = St.cUp ∧ cL = St.cLow ∧ cD = St.cDig ∧ cA = St.cAlpha ∧ cN = St.cAlnum ∧ cG = St.cGraph) := ⟨hcU, hcL, hcD, hcA, hcN, hcG⟩
  clear hcU hcL hcD hcA hcN hcG
  go_enter Try.func34, Try.ntmps34
  go_wp2_with fail
  refine (A1.out _).mono ?_
  rintro x w1 ⟨rfl, hb1⟩
  go_wp2_with fail
  refine (A2.out _).mono ?_
  rintro x w2 ⟨rfl, hb2⟩
  go_wp2_with fail
  refine (A3.out _).mono ?_
  rintro x w3 ⟨rfl, hb3⟩
  have hB3 := Below.more (Below.more hb1 hb2 hb1.size) hb3 (Nat.le_trans hb1.size hb2.size)
  have hs3 := hB3.size
  clear hb1 hb2 hb3
  have S1 := ((at_new w3 cU).alloc (.cells #[.int .u64 (St.wd cL 0 : Nat), .int .u64 (St.wd cL 1 : Nat), .int .u64 (St.wd cL 2 : Nat), .int .u64 (St.wd cL 3 : Nat)] 25)).alloc (.cells #[.int .u64 (St.wd cD 0 : Nat), .int .u64 (St.wd cD 1 : Nat), .int .u64 (St.wd cD 2 : Nat), .int .u64 (St.wd cD 3 : Nat)] 25)
  have S2 : SetAt _ (w3.heap.size + 1) cL := (at_new' (w := w3.alloc (.cells #[.int .u64 (St.wd cU 0 : Nat), .int .u64 (St.wd cU 1 : Nat), .int .u64 (St.wd cU 2 : Nat), .int .u64 (St.wd cU 3 : Nat)] 25)) cL (by simp)).alloc (.cells #[.int .u64 (St.wd cD 0 : Nat), .int .u64 (St.wd cD 1 : Nat), .int .u64 (St.wd cD 2 : Nat), .int .u64 (St.wd cD 3 : Nat)] 25)
  have S3 : SetAt _ (w3.heap.size + 1 + 1) cD := at_new' (w := (w3.alloc (.cells #[.int .u64 (St.wd cU 0 : Nat), .int .u64 (St.wd cU 1 : Nat), .int .u64 (St.wd cU 2 : Nat), .int .u64 (St.wd cU 3 : Nat)] 25)).alloc (.cells #[.int .u64 (St.wd cL 0 : Nat), .int .u64 (St.wd cL 1 : Nat), .int .u64 (St.wd cL 2 : Nat), .int .u64 (St.wd cL 3 : Nat)] 25)) cD (by simp)
  have hB4 := ((hB3.alloc hs3 (.cells #[.int .u64 (St.wd cU 0 : Nat), .int .u64 (St.wd cU 1 : Nat), .int .u64 (St.wd cU 2 : Nat), .int .u64 (St.wd cU 3 : Nat)] 25)).alloc (by simp; omega) (.cells #[.int .u64 (St.wd cL 0 : Nat), .int .u64 (St.wd cL 1 : Nat), .int .u64 (St.wd cL 2 : Nat), .int .u64 (St.wd cL 3 : Nat)] 25)).alloc (by simp; omega) (.cells #[.int .u64 (St.wd cD 0 : Nat), .int .u64 (St.wd cD 1 : Nat), .int .u64 (St.wd cD 2 : Nat), .int .u64 (St.wd cD 3 : Nat)] 25)
  go_wp2_with fail
  refine (A4.out _).mono ?_
  rintro x w4 ⟨rfl, hb4⟩
  replace S1 := (S1.under hb4).alloc (.cells #[.int .u64 (St.wd cA 0 : Nat), .int .u64 (St.wd cA 1 : Nat), .int .u64 (St.wd cA 2 : Nat), .int .u64 (St.wd cA 3 : Nat)] 25)
  replace S2 := (S2.under hb4).alloc (.cells #[.int .u64 (St.wd cA 0 : Nat), .int .u64 (St.wd cA 1 : Nat), .int .u64 (St.wd cA 2 : Nat), .int .u64 (St.wd cA 3 : Nat)] 25)
  have S3' := S3.under hb4
  replace S3 := (S3.under hb4).alloc (.cells #[.int .u64 (St.wd cA 0 : Nat), .int .u64 (St.wd cA 1 : Nat), .int .u64 (St.wd cA 2 : Nat), .int .u64 (St.wd cA 3 : Nat)] 25)
  have S4 := at_new w4 cA
  have hB5 := (Below.more hB4 hb4 hB4.size).alloc (Nat.le_trans hB4.size hb4.size) (.cells #[.int .u64 (St.wd cA 0 : Nat), .int .u64 (St.wd cA 1 : Nat), .int .u64 (St.wd cA 2 : Nat), .int .u64 (St.wd cA 3 : Nat)] 25)
  obtain ⟨q0, q1, q2, q3⟩ := S3'.cells
  have hl3 := S3'.lt
  clear hb4 hB4 hB3 S3'
  go_wp2_with fail
  refine (A5.out _).mono ?_
  rintro x w5 ⟨rfl, hb5⟩
  clear q0 q1 q2 q3
  replace S1 := (S1.under hb5).alloc (.cells #[.int .u64 (St.wd cN 0 : Nat), .int .u64 (St.wd cN 1 : Nat), .int .u64 (St.wd cN 2 : Nat), .int .u64 (St.wd cN 3 : Nat)] 25)
  replace S2 := (S2.under hb5).alloc (.cells #[.int .u64 (St.wd cN 0 : Nat), .int .u64 (St.wd cN 1 : Nat), .int .u64 (St.wd cN 2 : Nat), .int .u64 (St.wd cN 3 : Nat)] 25)
  replace S3 := (S3.under hb5).alloc (.cells #[.int .u64 (St.wd cN 0 : Nat), .int .u64 (St.wd cN 1 : Nat), .int .u64 (St.wd cN 2 : Nat), .int .u64 (St.wd cN 3 : Nat)] 25)
  replace S4 := (S4.under hb5).alloc (.cells #[.int .u64 (St.wd cN 0 : Nat), .int .u64 (St.wd cN 1 : Nat), .int .u64 (St.wd cN 2 : Nat), .int .u64 (St.wd cN 3 : Nat)] 25)
  have S5 := at_new w5 cN
  have hB6 := (Below.more hB5 hb5 hB5.size).alloc (Nat.le_trans hB5.size hb5.size) (.cells #[.int .u64 (St.wd cN 0 : Nat), .int .u64 (St.wd cN 1 : Nat), .int .u64 (St.wd cN 2 : Nat), .int .u64 (St.wd cN 3 : Nat)] 25)
  clear hb5 hB5
  go_upto_region 4 with fail
  go_cut [1, 2, 3, 4, 5, 6] (fun v1 v2 v3 v4 v5 v6 wx => ∃ g1 g2 g3 g4 g5 g6, v1 = pt g1 ∧ v2 = pt g2 ∧ v3 = pt g3 ∧ v4 = pt g4 ∧ v5 = pt g5 ∧ v6 = pt g6 ∧ SetAt wx g1 cU ∧ SetAt wx g2 cL ∧ SetAt wx g3 cD ∧ SetAt wx g4 cA ∧ SetAt wx g5 cN ∧ SetAt wx g6 cG ∧ Below w.heap.size w wx)
  case first =>
    go_wp2_with fail
    refine (A6.out _).mono ?_
    rintro x w6 ⟨rfl, hb6⟩
    go_wp2_with fail
    go_meet
    case rel => exact ⟨_, _, _, _, _, _, rfl, rfl, rfl, rfl, rfl, rfl, (S1.under hb6).alloc _, (S2.under hb6).alloc _, (S3.under hb6).alloc _, (S4.under hb6).alloc _, (S5.under hb6).alloc _, at_new w6 cG, (Below.more hB6 hb6 hB6.size).alloc (Nat.le_trans hB6.size hb6.size) _⟩
  case rest =>
    obtain ⟨g1, g2, g3, g4, g5, g6, rfl, rfl, rfl, rfl, rfl, rfl, T1, T2, T3, T4, T5, T6, hBc⟩ := hcut
    obtain ⟨rfl, rfl, rfl, rfl, rfl, rfl⟩ := HEq.out
    clear S1 S2 S3 S4 S5 hB6 A1 A2 A3 A4 A5 A6 HEq
    go_wp2_with fail
    refine wp_region_inv' (fun a0 listed a wx => CJ wc.heap.size wc g1 g2 g3 g4 g5 g6 a0 listed a wx ∧ leftOf listed ≤ 39) (by kernel_rfl) (by kernel_rfl) ?_ ?_ ?_
    · refine ⟨⟨Fr.refl _ _, rfl, rfl, rfl, rfl, rfl, rfl, rfl, ⟨rfl, rfl, rfl, Nat.le_refl _, fun _ _ => rfl⟩, Nat.le_refl _, Slots.new _ _ _, fun _ _ h => absurd h (up_new _ _), fun h => absurd h (up_new _ _), fun h => absurd h (up_new _ _), fun h => absurd h (up_new _ _), fun h => absurd h (up_new _ _), fun h => absurd h (up_new _ _)⟩, ?_⟩
      rw [leftOf_new]
      exact Nat.le_refl _
    · intro listed a wx i ⟨h, hlf⟩ hi
      have hlt : i < 39 := by
        obtain ⟨_, o, ho, _⟩ := mem_ready.1 hi
        have := (Array.getElem?_eq_some_iff.1 ho).1
        simpa using this
      have lf : listed.getD i true = false → leftOf (listed.setIfInBounds i true) ≤ 39 := fun hun => by
        have := leftOf_set hun
        omega
      have X1 := T1.under h.bel
      have X2 := T2.under h.bel
      have X3 := T3.under h.bel
      have X4 := T4.under h.bel
      have X5 := T5.under h.bel
      have X6 := T6.under h.bel
      obtain rfl | rfl | rfl | rfl | rfl | rfl | rfl | rfl | rfl | rfl | rfl | rfl | rfl | rfl | rfl | rfl | rfl | rfl | rfl | rfl | rfl | rfl | rfl | rfl | rfl | rfl | rfl | rfl | rfl | rfl | rfl | rfl | rfl | rfl | rfl | rfl | rfl | rfl | rfl : i = 0 ∨ i = 1 ∨ i = 2 ∨ i = 3 ∨ i = 4 ∨ i = 5 ∨ i = 6 ∨ i = 7 ∨ i = 8 ∨ i = 9 ∨ i = 10 ∨ i = 11 ∨ i = 12 ∨ i = 13 ∨ i = 14 ∨ i = 15 ∨ i = 16 ∨ i = 17 ∨ i = 18 ∨ i = 19 ∨ i = 20 ∨ i = 21 ∨ i = 22 ∨ i = 23 ∨ i = 24 ∨ i = 25 ∨ i = 26 ∨ i = 27 ∨ i = 28 ∨ i = 29 ∨ i = 30 ∨ i = 31 ∨ i = 32 ∨ i = 33 ∨ i = 34 ∨ i = 35 ∨ i = 36 ∨ i = 37 ∨ i = 38 := by omega
      · obtain ⟨hun, _⟩ := ready_up hi rfl
        exact wpOp_value (d := some 17) rfl rfl rfl run_makeMap' ⟨h.made hun hlf, lf hun⟩
      · obtain ⟨hun, _⟩ := ready_up hi rfl
        exact wpOp_value (d := some 18) rfl rfl rfl (run_load h.e1 X1) ⟨h.step hun (by decide) (by decide) (by decide) (by simp [clsT]) (Below.refl _ _), lf hun⟩
      · obtain ⟨hun, haf⟩ := ready_up hi rfl
        have L0 := haf ⟨0, .data⟩ (by simp) rfl
        have Ls := haf ⟨1, .data⟩ (by simp) rfl
        have ev : a.eval (.tmp 18) = St.setV St.cUp := h.sl (1, 18, St.setV St.cUp) (by simp [clsT]) Ls
        obtain ⟨m, n, D, h1, h2, h3, h4, h5⟩ := h.mp L0
        exact wpOp_insert (s := ⟨#[117, 112, 112, 101, 114]⟩) rfl h1 rfl ev h3 (by unfold maxLen; omega) (by decide) (fun w' ho ht => ⟨h.laid (e := (2, [117, 112, 112, 101, 114], St.cUp)) (by simp [St.clsE]) hun L0 h1 h2 h3 h4 h5 ho ht _ (by simp [clsT]) (by decide), lf hun⟩)
      · obtain ⟨hun, _⟩ := ready_up hi rfl
        exact wpOp_value (d := some 19) rfl rfl rfl (run_load h.e2 X2) ⟨h.step hun (by decide) (by decide) (by decide) (by simp [clsT]) (Below.refl _ _), lf hun⟩
      · obtain ⟨hun, haf⟩ := ready_up hi rfl
        have L0 := haf ⟨0, .data⟩ (by simp) rfl
        have Ls := haf ⟨3, .data⟩ (by simp) rfl
        have ev : a.eval (.tmp 19) = St.setV St.cLow := h.sl (3, 19, St.setV St.cLow) (by simp [clsT]) Ls
        obtain ⟨m, n, D, h1, h2, h3, h4, h5⟩ := h.mp L0
        exact wpOp_insert (s := ⟨#[108, 111, 119, 101, 114]⟩) rfl h1 rfl ev h3 (by unfold maxLen; omega) (by decide) (fun w' ho ht => ⟨h.laid (e := (4, [108, 111, 119, 101, 114], St.cLow)) (by simp [St.clsE]) hun L0 h1 h2 h3 h4 h5 ho ht _ (by simp [clsT]) (by decide), lf hun⟩)
      · obtain ⟨hun, _⟩ := ready_up hi rfl
        exact wpOp_value (d := some 20) rfl rfl rfl (run_load h.e4 X4) ⟨h.step hun (by decide) (by decide) (by decide) (by simp [clsT]) (Below.refl _ _), lf hun⟩
      · obtain ⟨hun, haf⟩ := ready_up hi rfl
        have L0 := haf ⟨0, .data⟩ (by simp) rfl
        have Ls := haf ⟨5, .data⟩ (by simp) rfl
        have ev : a.eval (.tmp 20) = St.setV St.cAlpha := h.sl (5, 20, St.setV St.cAlpha) (by simp [clsT]) Ls
        obtain ⟨m, n, D, h1, h2, h3, h4, h5⟩ := h.mp L0
        exact wpOp_insert (s := ⟨#[97, 108, 112, 104, 97]⟩) rfl h1 rfl ev h3 (by unfold maxLen; omega) (by decide) (fun w' ho ht => ⟨h.laid (e := (6, [97, 108, 112, 104, 97], St.cAlpha)) (by simp [St.clsE]) hun L0 h1 h2 h3 h4 h5 ho ht _ (by simp [clsT]) (by decide), lf hun⟩)
      · obtain ⟨hun, _⟩ := ready_up hi rfl
        exact wpOp_value (d := some 21) rfl rfl rfl (run_load h.e3 X3) ⟨h.step hun (by decide) (by decide) (by decide) (by simp [clsT]) (Below.refl _ _), lf hun⟩
      · obtain ⟨hun, haf⟩ := ready_up hi rfl
        have L0 := haf ⟨0, .data⟩ (by simp) rfl
        have Ls := haf ⟨7, .data⟩ (by simp) rfl
        have ev : a.eval (.tmp 21) = St.setV St.cDig := h.sl (7, 21, St.setV St.cDig) (by simp [clsT]) Ls
        obtain ⟨m, n, D, h1, h2, h3, h4, h5⟩ := h.mp L0
        exact wpOp_insert (s := ⟨#[100, 105, 103, 105, 116]⟩) rfl h1 rfl ev h3 (by unfold maxLen; omega) (by decide) (fun w' ho ht => ⟨h.laid (e := (8, [100, 105, 103, 105, 116], St.cDig)) (by simp [St.clsE]) hun L0 h1 h2 h3 h4 h5 ho ht _ (by simp [clsT]) (by decide), lf hun⟩)
      · obtain ⟨hun, _⟩ := ready_up hi rfl
        exact wpOp_value (d := some 22) rfl rfl rfl (run_load h.e5 X5) ⟨h.step hun (by decide) (by decide) (by decide) (by simp [clsT]) (Below.refl _ _), lf hun⟩
      · obtain ⟨hun, haf⟩ := ready_up hi rfl
        have L0 := haf ⟨0, .data⟩ (by simp) rfl
        have Ls := haf ⟨9, .data⟩ (by simp) rfl
        have ev : a.eval (.tmp 22) = St.setV St.cAlnum := h.sl (9, 22, St.setV St.cAlnum) (by simp [clsT]) Ls
        obtain ⟨m, n, D, h1, h2, h3, h4, h5⟩ := h.mp L0
        exact wpOp_insert (s := ⟨#[97, 108, 110, 117, 109]⟩) rfl h1 rfl ev h3 (by unfold maxLen; omega) (by decide) (fun w' ho ht => ⟨h.laid (e := (10, [97, 108, 110, 117, 109], St.cAlnum)) (by simp [St.clsE]) hun L0 h1 h2 h3 h4 h5 ho ht _ (by simp [clsT]) (by decide), lf hun⟩)
      · obtain ⟨hun, _⟩ := ready_up hi rfl
        exact wpOp_value (d := some 23) rfl rfl rfl (run_load h.e3 X3) ⟨h.step hun (by decide) (by decide) (by decide) (by simp [clsT]) (Below.refl _ _), lf hun⟩
      · obtain ⟨hun, _⟩ := ready_up hi rfl
        refine wpOp_call (d := some 24) rfl rfl rfl (run_call2 rfl calls_range) ?_
        refine (HXA.out _).mono ?_
        rintro x wy ⟨rfl, hby⟩
        exact ⟨_, rfl, h.step hun (by decide) (by decide) (by decide) (by simp [clsT]) hby, lf hun⟩
      · obtain ⟨hun, _⟩ := ready_up hi rfl
        refine wpOp_call (d := some 25) rfl rfl rfl (run_call2 rfl calls_range) ?_
        refine (HXB.out _).mono ?_
        rintro x wy ⟨rfl, hby⟩
        exact ⟨_, rfl, h.step hun (by decide) (by decide) (by decide) (by simp [clsT]) hby, lf hun⟩
      · obtain ⟨hun, haf⟩ := ready_up hi rfl
        have L12 := haf ⟨12, .data⟩ (by simp) rfl
        have ev24 : a.eval (.tmp 24) = St.setV St.cXA := h.sl (12, 24, St.setV St.cXA) (by simp [clsT]) L12
        have L13 := haf ⟨13, .data⟩ (by simp) rfl
        have ev25 : a.eval (.tmp 25) = St.setV St.cXB := h.sl (13, 25, St.setV St.cXB) (by simp [clsT]) L13
        refine wpOp_call (d := some 26) rfl rfl rfl (run_call2 rfl calls_or) ?_
        rw [ev24, ev25]
        refine (HXC.out _).mono ?_
        rintro x wy ⟨rfl, hby⟩
        exact ⟨_, rfl, h.step hun (by decide) (by decide) (by decide) (by simp [clsT]) hby, lf hun⟩
      · obtain ⟨hun, haf⟩ := ready_up hi rfl
        have L11 := haf ⟨11, .data⟩ (by simp) rfl
        have ev23 : a.eval (.tmp 23) = St.setV St.cDig := h.sl (11, 23, St.setV St.cDig) (by simp [clsT]) L11
        have L14 := haf ⟨14, .data⟩ (by simp) rfl
        have ev26 : a.eval (.tmp 26) = St.setV St.cXC := h.sl (14, 26, St.setV St.cXC) (by simp [clsT]) L14
        refine wpOp_call (d := some 27) rfl rfl rfl (run_call2 rfl calls_or) ?_
        rw [ev23, ev26]
        refine (HX.out _).mono ?_
        rintro x wy ⟨rfl, hby⟩
        exact ⟨_, rfl, h.step hun (by decide) (by decide) (by decide) (by simp [clsT]) hby, lf hun⟩
      · obtain ⟨hun, haf⟩ := ready_up hi rfl
        have L0 := haf ⟨0, .data⟩ (by simp) rfl
        have Ls := haf ⟨15, .data⟩ (by simp) rfl
        have ev : a.eval (.tmp 27) = St.setV St.cX := h.sl (15, 27, St.setV St.cX) (by simp [clsT]) Ls
        obtain ⟨m, n, D, h1, h2, h3, h4, h5⟩ := h.mp L0
        exact wpOp_insert (s := ⟨#[120, 100, 105, 103, 105, 116]⟩) rfl h1 rfl ev h3 (by unfold maxLen; omega) (by decide) (fun w' ho ht => ⟨h.laid (e := (16, [120, 100, 105, 103, 105, 116], St.cX)) (by simp [St.clsE]) hun L0 h1 h2 h3 h4 h5 ho ht _ (by simp [clsT]) (by decide), lf hun⟩)
      · obtain ⟨hun, _⟩ := ready_up hi rfl
        exact wpOp_value (d := some 28) rfl rfl rfl run_pair ⟨h.built hun, lf hun⟩
      · obtain ⟨hun, haf⟩ := ready_up hi rfl
        have L17 := haf ⟨17, .data⟩ (by simp) rfl
        obtain ⟨g, fr, r1, r2, r3, r4⟩ := h.row L17
        exact wpOp_value (d := some 29) rfl rfl rfl (run_mark r1 r3) ⟨h.marked hun L17 r1 r2 r3, lf hun⟩
      · obtain ⟨hun, haf⟩ := ready_up hi rfl
        have L18 := haf ⟨18, .data⟩ (by simp) rfl
        obtain ⟨g, fr, r1, r2, r3, r4⟩ := h.row (h.late2 L18)
        refine wpOp_call (d := some 30) rfl rfl rfl (run_call1 rfl calls_of) ?_
        rw [r4 L18]
        refine (HOf.out _ _ _ r3).mono ?_
        rintro x wy ⟨rfl, hby⟩
        exact ⟨_, rfl, h.step hun (by decide) (by decide) (by decide) (by simp [clsT]) hby, lf hun⟩
      · obtain ⟨hun, haf⟩ := ready_up hi rfl
        have L0 := haf ⟨0, .data⟩ (by simp) rfl
        have Ls := haf ⟨19, .data⟩ (by simp) rfl
        have ev : a.eval (.tmp 30) = St.setV St.cBlank := h.sl (19, 30, St.setV St.cBlank) (by simp [clsT]) Ls
        obtain ⟨m, n, D, h1, h2, h3, h4, h5⟩ := h.mp L0
        exact wpOp_insert (s := ⟨#[98, 108, 97, 110, 107]⟩) rfl h1 rfl ev h3 (by unfold maxLen; omega) (by decide) (fun w' ho ht => ⟨h.laid (e := (20, [98, 108, 97, 110, 107], St.cBlank)) (by simp [St.clsE]) hun L0 h1 h2 h3 h4 h5 ho ht _ (by simp [clsT]) (by decide), lf hun⟩)
      · obtain ⟨hun, _⟩ := ready_up hi rfl
        refine wpOp_call (d := some 31) rfl rfl rfl (run_call2 rfl calls_range) ?_
        refine (HSA.out _).mono ?_
        rintro x wy ⟨rfl, hby⟩
        exact ⟨_, rfl, h.step hun (by decide) (by decide) (by decide) (by simp [clsT]) hby, lf hun⟩
      · obtain ⟨hun, haf⟩ := ready_up hi rfl
        have L21 := haf ⟨21, .data⟩ (by simp) rfl
        have ev31 : a.eval (.tmp 31) = St.setV St.cSA := h.sl (21, 31, St.setV St.cSA) (by simp [clsT]) L21
        refine wpOp_call (d := some 32) rfl rfl rfl (run_call2 rfl calls_with) ?_
        rw [ev31]
        refine (HS.out _).mono ?_
        rintro x wy ⟨rfl, hby⟩
        exact ⟨_, rfl, h.step hun (by decide) (by decide) (by decide) (by simp [clsT]) hby, lf hun⟩
      · obtain ⟨hun, haf⟩ := ready_up hi rfl
        have L0 := haf ⟨0, .data⟩ (by simp) rfl
        have Ls := haf ⟨22, .data⟩ (by simp) rfl
        have ev : a.eval (.tmp 32) = St.setV St.cSpace := h.sl (22, 32, St.setV St.cSpace) (by simp [clsT]) Ls
        obtain ⟨m, n, D, h1, h2, h3, h4, h5⟩ := h.mp L0
        exact wpOp_insert (s := ⟨#[115, 112, 97, 99, 101]⟩) rfl h1 rfl ev h3 (by unfold maxLen; omega) (by decide) (fun w' ho ht => ⟨h.laid (e := (23, [115, 112, 97, 99, 101], St.cSpace)) (by simp [St.clsE]) hun L0 h1 h2 h3 h4 h5 ho ht _ (by simp [clsT]) (by decide), lf hun⟩)
      · obtain ⟨hun, _⟩ := ready_up hi rfl
        refine wpOp_call (d := some 33) rfl rfl rfl (run_call2 rfl calls_range) ?_
        refine (HCA.out _).mono ?_
        rintro x wy ⟨rfl, hby⟩
        exact ⟨_, rfl, h.step hun (by decide) (by decide) (by decide) (by simp [clsT]) hby, lf hun⟩
      · obtain ⟨hun, haf⟩ := ready_up hi rfl
        have L24 := haf ⟨24, .data⟩ (by simp) rfl
        have ev33 : a.eval (.tmp 33) = St.setV St.cCA := h.sl (24, 33, St.setV St.cCA) (by simp [clsT]) L24
        refine wpOp_call (d := some 34) rfl rfl rfl (run_call2 rfl calls_with) ?_
        rw [ev33]
        refine (HC.out _).mono ?_
        rintro x wy ⟨rfl, hby⟩
        exact ⟨_, rfl, h.step hun (by decide) (by decide) (by decide) (by simp [clsT]) hby, lf hun⟩
      · obtain ⟨hun, haf⟩ := ready_up hi rfl
        have L0 := haf ⟨0, .data⟩ (by simp) rfl
        have Ls := haf ⟨25, .data⟩ (by simp) rfl
        have ev : a.eval (.tmp 34) = St.setV St.cCntrl := h.sl (25, 34, St.setV St.cCntrl) (by simp [clsT]) Ls
        obtain ⟨m, n, D, h1, h2, h3, h4, h5⟩ := h.mp L0
        exact wpOp_insert (s := ⟨#[99, 110, 116, 114, 108]⟩) rfl h1 rfl ev h3 (by unfold maxLen; omega) (by decide) (fun w' ho ht => ⟨h.laid (e := (26, [99, 110, 116, 114, 108], St.cCntrl)) (by simp [St.clsE]) hun L0 h1 h2 h3 h4 h5 ho ht _ (by simp [clsT]) (by decide), lf hun⟩)
      · obtain ⟨hun, _⟩ := ready_up hi rfl
        exact wpOp_value (d := some 35) rfl rfl rfl (run_load h.e6 X6) ⟨h.step hun (by decide) (by decide) (by decide) (by simp [clsT]) (Below.refl _ _), lf hun⟩
      · obtain ⟨hun, haf⟩ := ready_up hi rfl
        have L27 := haf ⟨27, .data⟩ (by simp) rfl
        have ev35 : a.eval (.tmp 35) = St.setV St.cGraph := h.sl (27, 35, St.setV St.cGraph) (by simp [clsT]) L27
        refine wpOp_call (d := some 36) rfl rfl rfl (run_call2 rfl calls_with) ?_
        rw [ev35]
        refine (HP.out _).mono ?_
        rintro x wy ⟨rfl, hby⟩
        exact ⟨_, rfl, h.step hun (by decide) (by decide) (by decide) (by simp [clsT]) hby, lf hun⟩
      · obtain ⟨hun, haf⟩ := ready_up hi rfl
        have L0 := haf ⟨0, .data⟩ (by simp) rfl
        have Ls := haf ⟨28, .data⟩ (by simp) rfl
        have ev : a.eval (.tmp 36) = St.setV St.cPrint := h.sl (28, 36, St.setV St.cPrint) (by simp [clsT]) Ls
        obtain ⟨m, n, D, h1, h2, h3, h4, h5⟩ := h.mp L0
        exact wpOp_insert (s := ⟨#[112, 114, 105, 110, 116]⟩) rfl h1 rfl ev h3 (by unfold maxLen; omega) (by decide) (fun w' ho ht => ⟨h.laid (e := (29, [112, 114, 105, 110, 116], St.cPrint)) (by simp [St.clsE]) hun L0 h1 h2 h3 h4 h5 ho ht _ (by simp [clsT]) (by decide), lf hun⟩)
      · obtain ⟨hun, _⟩ := ready_up hi rfl
        exact wpOp_value (d := some 37) rfl rfl rfl (run_load h.e6 X6) ⟨h.step hun (by decide) (by decide) (by decide) (by simp [clsT]) (Below.refl _ _), lf hun⟩
      · obtain ⟨hun, haf⟩ := ready_up hi rfl
        have L0 := haf ⟨0, .data⟩ (by simp) rfl
        have Ls := haf ⟨30, .data⟩ (by simp) rfl
        have ev : a.eval (.tmp 37) = St.setV St.cGraph := h.sl (30, 37, St.setV St.cGraph) (by simp [clsT]) Ls
        obtain ⟨m, n, D, h1, h2, h3, h4, h5⟩ := h.mp L0
        exact wpOp_insert (s := ⟨#[103, 114, 97, 112, 104]⟩) rfl h1 rfl ev h3 (by unfold maxLen; omega) (by decide) (fun w' ho ht => ⟨h.laid (e := (31, [103, 114, 97, 112, 104], St.cGraph)) (by simp [St.clsE]) hun L0 h1 h2 h3 h4 h5 ho ht _ (by simp [clsT]) (by decide), lf hun⟩)
      · obtain ⟨hun, _⟩ := ready_up hi rfl
        exact wpOp_value (d := some 38) rfl rfl rfl (run_load h.e6 X6) ⟨h.step hun (by decide) (by decide) (by decide) (by simp [clsT]) (Below.refl _ _), lf hun⟩
      · obtain ⟨hun, _⟩ := ready_up hi rfl
        exact wpOp_value (d := some 39) rfl rfl rfl (run_load h.e5 X5) ⟨h.step hun (by decide) (by decide) (by decide) (by simp [clsT]) (Below.refl _ _), lf hun⟩
      · obtain ⟨hun, haf⟩ := ready_up hi rfl
        have L33 := haf ⟨33, .data⟩ (by simp) rfl
        have ev39 : a.eval (.tmp 39) = St.setV St.cAlnum := h.sl (33, 39, St.setV St.cAlnum) (by simp [clsT]) L33
        refine wpOp_call (d := some 40) rfl rfl rfl (run_call1 rfl calls_not) ?_
        rw [ev39]
        refine (HNA.out _).mono ?_
        rintro x wy ⟨rfl, hby⟩
        exact ⟨_, rfl, h.step hun (by decide) (by decide) (by decide) (by simp [clsT]) hby, lf hun⟩
      · obtain ⟨hun, haf⟩ := ready_up hi rfl
        have L32 := haf ⟨32, .data⟩ (by simp) rfl
        have ev38 : a.eval (.tmp 38) = St.setV St.cGraph := h.sl (32, 38, St.setV St.cGraph) (by simp [clsT]) L32
        have L34 := haf ⟨34, .data⟩ (by simp) rfl
        have ev40 : a.eval (.tmp 40) = St.setV St.cNA := h.sl (34, 40, St.setV St.cNA) (by simp [clsT]) L34
        refine wpOp_call (d := some 41) rfl rfl rfl (run_call2 rfl calls_and) ?_
        rw [ev38, ev40]
        refine (HPU.out _).mono ?_
        rintro x wy ⟨rfl, hby⟩
        exact ⟨_, rfl, h.step hun (by decide) (by decide) (by decide) (by simp [clsT]) hby, lf hun⟩
      · obtain ⟨hun, haf⟩ := ready_up hi rfl
        have L0 := haf ⟨0, .data⟩ (by simp) rfl
        have Ls := haf ⟨35, .data⟩ (by simp) rfl
        have ev : a.eval (.tmp 41) = St.setV St.cPunct := h.sl (35, 41, St.setV St.cPunct) (by simp [clsT]) Ls
        obtain ⟨m, n, D, h1, h2, h3, h4, h5⟩ := h.mp L0
        exact wpOp_insert (s := ⟨#[112, 117, 110, 99, 116]⟩) rfl h1 rfl ev h3 (by unfold maxLen; omega) (by decide) (fun w' ho ht => ⟨h.laid (e := (36, [112, 117, 110, 99, 116], St.cPunct)) (by simp [St.clsE]) hun L0 h1 h2 h3 h4 h5 ho ht _ (by simp [clsT]) (by decide), lf hun⟩)
      · obtain ⟨hun, haf⟩ := ready_up hi rfl
        have L0 := haf ⟨0, .data⟩ (by simp) rfl
        exact wpOp_value (d := some 42) rfl rfl rfl (run_move' _) ⟨h.moved hun L0, lf hun⟩
      · obtain ⟨hun, haf⟩ := ready_up hi rfl
        have L37 := haf ⟨37, .data⟩ (by simp) rfl
        exact wpOp_value (d := some 0) rfl rfl rfl (run_assign' _) ⟨h.ended hun L37, lf hun⟩
    · intro listed a wx ⟨h, _⟩ hup
      obtain ⟨u0, u1⟩ := h.out2 (hup 38 (by simp))
      obtain ⟨m, n, D, h1, h2, h3, h4, h5⟩ := h.mp u0
      have e0 : a.eval (.tmp 0) = .map (some m) := u1.trans h1
      have hae := h.fr.eq (fun d hd => clsS_lt d hd)
      have hcm : ClsMap wx m := ⟨n, D, h3, clsD_congr h5 (fun x hx => (hup x.1 (clsE_lt x hx)).symm)⟩
      have hbf := hBc.trans (h.bel.mono hBc.size)
      rw [hae]
      simp only [clsS, List.foldl_cons, List.foldl_nil, e0, Act.put, List.setIfInBounds_toArray, List.set_cons_zero, List.set_cons_succ]
      clear hae h hup u0 u1 h1 h3 h4 h5
      go_wp2_with fail
      go_ret
      exact ⟨m, rfl, hcm, hbf⟩
end Go.Proofs.Ytmlpfgfpmbnbeaa
