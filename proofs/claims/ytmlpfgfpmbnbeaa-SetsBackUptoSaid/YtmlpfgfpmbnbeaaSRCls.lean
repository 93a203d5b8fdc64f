/- What the reference's Class answers. -/
import Derived.Test.YtmlpfgfpmbnbeaaSClass
import Derived.Test.YtmlpfgfpmbnbeaaSRef
namespace Go.Proofs.Ytmlpfgfpmbnbeaa
open Go.RowKit

theorem calls_ror (args : Array Value) (wx : World) : (callFunc 25 args).run Try.prog wx = .ok (.enter 25 args) wx := by go_simp
theorem calls_rand (args : Array Value) (wx : World) : (callFunc 23 args).run Try.prog wx = .ok (.enter 23 args) wx := by go_simp
theorem calls_rnot (args : Array Value) (wx : World) : (callFunc 27 args).run Try.prog wx = .ok (.enter 27 args) wx := by go_simp
theorem calls_rrange (args : Array Value) (wx : World) : (callFunc 21 args).run Try.prog wx = .ok (.enter 21 args) wx := by go_simp

namespace St
theorem cls_none {n : List UInt8} (h : ∀ e ∈ clsE, e.2.1 ≠ n) : clsV n = inL [] ∧ clsB n = false := by
  have e : lookC (fun _ => true) n = none := by
    unfold lookC
    rw [List.find?_eq_none]
    intro x hx
    simp [h x hx]
  unfold clsV clsB clsP
  rw [e]
  exact ⟨rfl, rfl⟩
theorem cls_some {e : Nat × List UInt8 × (Nat → Bool)} (he : e ∈ clsE) : clsV e.2.1 = e.2.2 ∧ clsB e.2.1 = true := by
  unfold clsV clsB clsP
  rw [look_same he rfl]
  exact ⟨rfl, rfl⟩
end St

set_option maxRecDepth 100000 in
set_option maxHeartbeats 8000000 in
theorem rclass_any (s : ByteArray) (w : World) :
    Calls Try.prog 10 #[.string s] w fun e w' => e = .returned (.tuple #[St.setV (St.clsV s.data.toList), .bool (St.clsB s.data.toList)]) ∧ Below w.heap.size w w' := by
  obtain ⟨cUp, hccUp⟩ : ∃ f, f = St.cUp := ⟨_, rfl⟩
  obtain ⟨cLow, hccLow⟩ : ∃ f, f = St.cLow := ⟨_, rfl⟩
  obtain ⟨cDig, hccDig⟩ : ∃ f, f = St.cDig := ⟨_, rfl⟩
  obtain ⟨cAlpha, hccAlpha⟩ : ∃ f, f = St.cAlpha := ⟨_, rfl⟩
  obtain ⟨cAlnum, hccAlnum⟩ : ∃ f, f = St.cAlnum := ⟨_, rfl⟩
  obtain ⟨cGraph, hccGraph⟩ : ∃ f, f = St.cGraph := ⟨_, rfl⟩
  obtain ⟨cXA, hccXA⟩ : ∃ f, f = St.cXA := ⟨_, rfl⟩
  obtain ⟨cXB, hccXB⟩ : ∃ f, f = St.cXB := ⟨_, rfl⟩
  obtain ⟨cXC, hccXC⟩ : ∃ f, f = St.cXC := ⟨_, rfl⟩
  obtain ⟨cX, hccX⟩ : ∃ f, f = St.cX := ⟨_, rfl⟩
  obtain ⟨cBlank, hccBlank⟩ : ∃ f, f = St.cBlank := ⟨_, rfl⟩
  obtain ⟨cSA, hccSA⟩ : ∃ f, f = St.cSA := ⟨_, rfl⟩
  obtain ⟨cSpace, hccSpace⟩ : ∃ f, f = St.cSpace := ⟨_, rfl⟩
  obtain ⟨cCA, hccCA⟩ : ∃ f, f = St.cCA := ⟨_, rfl⟩
  obtain ⟨cCntrl, hccCntrl⟩ : ∃ f, f = St.cCntrl := ⟨_, rfl⟩
  obtain ⟨cPrint, hccPrint⟩ : ∃ f, f = St.cPrint := ⟨_, rfl⟩
  obtain ⟨cNA, hccNA⟩ : ∃ f, f = St.cNA := ⟨_, rfl⟩
  obtain ⟨cPunct, hccPunct⟩ : ∃ f, f = St.cPunct := ⟨_, rfl⟩
  have HUp : Hid (∀ w, Calls Try.prog 21 #[.int .u8 65, .int .u8 90] w fun e w' => e = .returned (St.setV cUp) ∧ Below w.heap.size w w') := fun w => by rw [hccUp]; exact rrange_any 65 90 w (by decide) (by decide)
  have HLow : Hid (∀ w, Calls Try.prog 21 #[.int .u8 97, .int .u8 122] w fun e w' => e = .returned (St.setV cLow) ∧ Below w.heap.size w w') := fun w => by rw [hccLow]; exact rrange_any 97 122 w (by decide) (by decide)
  have HDig : Hid (∀ w, Calls Try.prog 21 #[.int .u8 48, .int .u8 57] w fun e w' => e = .returned (St.setV cDig) ∧ Below w.heap.size w w') := fun w => by rw [hccDig]; exact rrange_any 48 57 w (by decide) (by decide)
  have HGr : Hid (∀ w, Calls Try.prog 21 #[.int .u8 33, .int .u8 126] w fun e w' => e = .returned (St.setV cGraph) ∧ Below w.heap.size w w') := fun w => by rw [hccGraph]; exact rrange_any 33 126 w (by decide) (by decide)
  have HXA : Hid (∀ w, Calls Try.prog 21 #[.int .u8 65, .int .u8 70] w fun e w' => e = .returned (St.setV cXA) ∧ Below w.heap.size w w') := fun w => by rw [hccXA]; exact rrange_any 65 70 w (by decide) (by decide)
  have HXB : Hid (∀ w, Calls Try.prog 21 #[.int .u8 97, .int .u8 102] w fun e w' => e = .returned (St.setV cXB) ∧ Below w.heap.size w w') := fun w => by rw [hccXB]; exact rrange_any 97 102 w (by decide) (by decide)
  have HSA : Hid (∀ w, Calls Try.prog 21 #[.int .u8 9, .int .u8 13] w fun e w' => e = .returned (St.setV cSA) ∧ Below w.heap.size w w') := fun w => by rw [hccSA]; exact rrange_any 9 13 w (by decide) (by decide)
  have HCA : Hid (∀ w, Calls Try.prog 21 #[.int .u8 0, .int .u8 31] w fun e w' => e = .returned (St.setV cCA) ∧ Below w.heap.size w w') := fun w => by rw [hccCA]; exact rrange_any 0 31 w (by decide) (by decide)
  have HAl : Hid (∀ w, Calls Try.prog 25 #[St.setV cUp, St.setV cLow] w fun e w' => e = .returned (St.setV cAlpha) ∧ Below w.heap.size w w') := fun w => by rw [hccUp, hccLow, hccAlpha]; exact ror_any St.cUp St.cLow w
  have HAn : Hid (∀ w, Calls Try.prog 25 #[St.setV cAlpha, St.setV cDig] w fun e w' => e = .returned (St.setV cAlnum) ∧ Below w.heap.size w w') := fun w => by rw [hccAlpha, hccDig, hccAlnum]; exact ror_any St.cAlpha St.cDig w
  have HXC : Hid (∀ w, Calls Try.prog 25 #[St.setV cXA, St.setV cXB] w fun e w' => e = .returned (St.setV cXC) ∧ Below w.heap.size w w') := fun w => by rw [hccXA, hccXB, hccXC]; exact ror_any St.cXA St.cXB w
  have HX : Hid (∀ w, Calls Try.prog 25 #[St.setV cDig, St.setV cXC] w fun e w' => e = .returned (St.setV cX) ∧ Below w.heap.size w w') := fun w => by rw [hccDig, hccXC, hccX]; exact ror_any St.cDig St.cXC w
  have HS : Hid (∀ w, Calls Try.prog 35 #[St.setV cSA, .int .u8 32] w fun e w' => e = .returned (St.setV cSpace) ∧ Below w.heap.size w w') := fun w => by rw [hccSA, hccSpace]; exact radd_any St.cSA 32 (by decide) w
  have HC : Hid (∀ w, Calls Try.prog 35 #[St.setV cCA, .int .u8 127] w fun e w' => e = .returned (St.setV cCntrl) ∧ Below w.heap.size w w') := fun w => by rw [hccCA, hccCntrl]; exact radd_any St.cCA 127 (by decide) w
  have HP : Hid (∀ w, Calls Try.prog 35 #[St.setV cGraph, .int .u8 32] w fun e w' => e = .returned (St.setV cPrint) ∧ Below w.heap.size w w') := fun w => by rw [hccGraph, hccPrint]; exact radd_any St.cGraph 32 (by decide) w
  have HNA : Hid (∀ w, Calls Try.prog 27 #[St.setV cAlnum] w fun e w' => e = .returned (St.setV cNA) ∧ Below w.heap.size w w') := fun w => by rw [hccAlnum, hccNA]; exact rnot_any St.cAlnum w
  have HPU : Hid (∀ w, Calls Try.prog 23 #[St.setV cGraph, St.setV cNA] w fun e w' => e = .returned (St.setV cPunct) ∧ Below w.heap.size w w') := fun w => by rw [hccGraph, hccNA, hccPunct]; exact rand_any St.cGraph St.cNA w
  have HOf : Hid (∀ w g fr, w.heap[g]? = some (.cells #[.int .u8 32, .int .u8 9] 5 fr) → Calls Try.prog 13 #[.slice (some ⟨g, 0, none⟩) 2 2] w fun e w' => e = .returned (St.setV cBlank) ∧ Below w.heap.size w w') := fun w g fr hg => by
    rw [hccBlank]
    refine rof_any (some ⟨g, 0, none⟩) 2 [32, 9] w ⟨by decide, fun i hi => ⟨g, 0, rfl, lt_of_block hg, ?_⟩⟩
    rw [cell_of_row _ _ _ _ _ _ hg]
    have hi2 : i < 2 := hi
    obtain rfl | rfl : i = 0 ∨ i = 1 := by omega
    all_goals rfl
  have HNo : Hid ((∀ e ∈ St.clsE, e.2.1 ≠ s.data.toList) → St.clsV s.data.toList = St.inL [] ∧ St.clsB s.data.toList = false) := St.cls_none
  have HY0 : Hid (s.data.toList = [117, 112, 112, 101, 114] → St.clsV s.data.toList = cUp ∧ St.clsB s.data.toList = true) := fun e => by rw [e, hccUp]; exact St.cls_some (e := (2, [117, 112, 112, 101, 114], St.cUp)) (by simp [St.clsE])
  have HY1 : Hid (s.data.toList = [108, 111, 119, 101, 114] → St.clsV s.data.toList = cLow ∧ St.clsB s.data.toList = true) := fun e => by rw [e, hccLow]; exact St.cls_some (e := (4, [108, 111, 119, 101, 114], St.cLow)) (by simp [St.clsE])
  have HY2 : Hid (s.data.toList = [97, 108, 112, 104, 97] → St.clsV s.data.toList = cAlpha ∧ St.clsB s.data.toList = true) := fun e => by rw [e, hccAlpha]; exact St.cls_some (e := (6, [97, 108, 112, 104, 97], St.cAlpha)) (by simp [St.clsE])
  have HY3 : Hid (s.data.toList = [100, 105, 103, 105, 116] → St.clsV s.data.toList = cDig ∧ St.clsB s.data.toList = true) := fun e => by rw [e, hccDig]; exact St.cls_some (e := (8, [100, 105, 103, 105, 116], St.cDig)) (by simp [St.clsE])
  have HY4 : Hid (s.data.toList = [97, 108, 110, 117, 109] → St.clsV s.data.toList = cAlnum ∧ St.clsB s.data.toList = true) := fun e => by rw [e, hccAlnum]; exact St.cls_some (e := (10, [97, 108, 110, 117, 109], St.cAlnum)) (by simp [St.clsE])
  have HY5 : Hid (s.data.toList = [120, 100, 105, 103, 105, 116] → St.clsV s.data.toList = cX ∧ St.clsB s.data.toList = true) := fun e => by rw [e, hccX]; exact St.cls_some (e := (16, [120, 100, 105, 103, 105, 116], St.cX)) (by simp [St.clsE])
  have HY6 : Hid (s.data.toList = [98, 108, 97, 110, 107] → St.clsV s.data.toList = cBlank ∧ St.clsB s.data.toList = true) := fun e => by rw [e, hccBlank]; exact St.cls_some (e := (20, [98, 108, 97, 110, 107], St.cBlank)) (by simp [St.clsE])
  have HY7 : Hid (s.data.toList = [115, 112, 97, 99, 101] → St.clsV s.data.toList = cSpace ∧ St.clsB s.data.toList = true) := fun e => by rw [e, hccSpace]; exact St.cls_some (e := (23, [115, 112, 97, 99, 101], St.cSpace)) (by simp [St.clsE])
  have HY8 : Hid (s.data.toList = [99, 110, 116, 114, 108] → St.clsV s.data.toList = cCntrl ∧ St.clsB s.data.toList = true) := fun e => by rw [e, hccCntrl]; exact St.cls_some (e := (26, [99, 110, 116, 114, 108], St.cCntrl)) (by simp [St.clsE])
  have HY9 : Hid (s.data.toList = [112, 114, 105, 110, 116] → St.clsV s.data.toList = cPrint ∧ St.clsB s.data.toList = true) := fun e => by rw [e, hccPrint]; exact St.cls_some (e := (29, [112, 114, 105, 110, 116], St.cPrint)) (by simp [St.clsE])
  have HY10 : Hid (s.data.toList = [103, 114, 97, 112, 104] → St.clsV s.data.toList = cGraph ∧ St.clsB s.data.toList = true) := fun e => by rw [e, hccGraph]; exact St.cls_some (e := (31, [103, 114, 97, 112, 104], St.cGraph)) (by simp [St.clsE])
  have HY11 : Hid (s.data.toList = [112, 117, 110, 99, 116] → St.clsV s.data.toList = cPunct ∧ St.clsB s.data.toList = true) := fun e => by rw [e, hccPunct]; exact St.cls_some (e := (36, [112, 117, 110, 99, 116], St.cPunct)) (by simp [St.clsE])
  obtain ⟨q, hq⟩ : ∃ q, q = St.clsV s.data.toList := ⟨_, rfl⟩
  obtain ⟨b, hb⟩ : ∃ b, b = St.clsB s.data.toList := ⟨_, rfl⟩
  rw [← hq, ← hb] at HNo HY0 HY1 HY2 HY3 HY4 HY5 HY6 HY7 HY8 HY9 HY10 HY11 ⊢
  clear hq hb
  clear hccUp hccLow hccDig hccAlpha hccAlnum hccGraph hccXA hccXB hccXC hccX hccBlank hccSA hccSpace hccCA hccCntrl hccPrint hccNA hccPunct
  have A1 := HUp
  have A2 := HLow
  have A3 := HDig
  have A6 := HGr
  simp only [St.setV] at A1 A2 A3 A6
  go_enter Try.func10, Try.ntmps10
  go_wp2_with fail
  refine (A1.out _).mono ?_
  rintro x w1 ⟨rfl, hb1⟩
  have Z1 : SetAt w1 w.heap.size (St.inL []) := SetAt.under (hb := hb1) (h := atS0 w)
  have hB1 : Below w.heap.size w w1 := ((Below.refl _ _).alloc (Nat.le_refl _) _).trans (hb1.mono (by simp))
  clear hb1
  go_wp2_with fail
  refine (A2.out _).mono ?_
  rintro x w2 ⟨rfl, hb2⟩
  replace Z1 := Z1.under hb2
  have hB2 := Below.more hB1 hb2 hB1.size
  clear hb2 hB1
  go_wp2_with fail
  refine (A3.out _).mono ?_
  rintro x w3 ⟨rfl, hb3⟩
  replace Z1 := Z1.under hb3
  have lt3 := Z1.lt
  have hB3 := Below.more hB2 hb3 hB2.size
  have hs3 := hB3.size
  clear hb3 hB2
  replace Z1 := ((Z1.alloc (.cells #[.int .u64 (St.wd cUp 0 : Nat), .int .u64 (St.wd cUp 1 : Nat), .int .u64 (St.wd cUp 2 : Nat), .int .u64 (St.wd cUp 3 : Nat)] 25)).alloc (.cells #[.int .u64 (St.wd cLow 0 : Nat), .int .u64 (St.wd cLow 1 : Nat), .int .u64 (St.wd cLow 2 : Nat), .int .u64 (St.wd cLow 3 : Nat)] 25)).alloc (.cells #[.int .u64 (St.wd cDig 0 : Nat), .int .u64 (St.wd cDig 1 : Nat), .int .u64 (St.wd cDig 2 : Nat), .int .u64 (St.wd cDig 3 : Nat)] 25)
  have S1 := ((at_new w3 cUp).alloc (.cells #[.int .u64 (St.wd cLow 0 : Nat), .int .u64 (St.wd cLow 1 : Nat), .int .u64 (St.wd cLow 2 : Nat), .int .u64 (St.wd cLow 3 : Nat)] 25)).alloc (.cells #[.int .u64 (St.wd cDig 0 : Nat), .int .u64 (St.wd cDig 1 : Nat), .int .u64 (St.wd cDig 2 : Nat), .int .u64 (St.wd cDig 3 : Nat)] 25)
  have S2 : SetAt _ (w3.heap.size + 1) cLow := (at_new' (w := w3.alloc (.cells #[.int .u64 (St.wd cUp 0 : Nat), .int .u64 (St.wd cUp 1 : Nat), .int .u64 (St.wd cUp 2 : Nat), .int .u64 (St.wd cUp 3 : Nat)] 25)) cLow (by simp)).alloc (.cells #[.int .u64 (St.wd cDig 0 : Nat), .int .u64 (St.wd cDig 1 : Nat), .int .u64 (St.wd cDig 2 : Nat), .int .u64 (St.wd cDig 3 : Nat)] 25)
  have S3 : SetAt _ (w3.heap.size + 1 + 1) cDig := at_new' (w := (w3.alloc (.cells #[.int .u64 (St.wd cUp 0 : Nat), .int .u64 (St.wd cUp 1 : Nat), .int .u64 (St.wd cUp 2 : Nat), .int .u64 (St.wd cUp 3 : Nat)] 25)).alloc (.cells #[.int .u64 (St.wd cLow 0 : Nat), .int .u64 (St.wd cLow 1 : Nat), .int .u64 (St.wd cLow 2 : Nat), .int .u64 (St.wd cLow 3 : Nat)] 25)) cDig (by simp)
  have hB4 := ((hB3.alloc hs3 (.cells #[.int .u64 (St.wd cUp 0 : Nat), .int .u64 (St.wd cUp 1 : Nat), .int .u64 (St.wd cUp 2 : Nat), .int .u64 (St.wd cUp 3 : Nat)] 25)).alloc (by simp; omega) (.cells #[.int .u64 (St.wd cLow 0 : Nat), .int .u64 (St.wd cLow 1 : Nat), .int .u64 (St.wd cLow 2 : Nat), .int .u64 (St.wd cLow 3 : Nat)] 25)).alloc (by simp; omega) (.cells #[.int .u64 (St.wd cDig 0 : Nat), .int .u64 (St.wd cDig 1 : Nat), .int .u64 (St.wd cDig 2 : Nat), .int .u64 (St.wd cDig 3 : Nat)] 25)
  go_upto_region 2 with fail
  obtain ⟨W, hW⟩ : ∃ W, W = ((w3.alloc (.cells #[.int .u64 (St.wd cUp 0 : Nat), .int .u64 (St.wd cUp 1 : Nat), .int .u64 (St.wd cUp 2 : Nat), .int .u64 (St.wd cUp 3 : Nat)] 25)).alloc (.cells #[.int .u64 (St.wd cLow 0 : Nat), .int .u64 (St.wd cLow 1 : Nat), .int .u64 (St.wd cLow 2 : Nat), .int .u64 (St.wd cLow 3 : Nat)] 25)).alloc (.cells #[.int .u64 (St.wd cDig 0 : Nat), .int .u64 (St.wd cDig 1 : Nat), .int .u64 (St.wd cDig 2 : Nat), .int .u64 (St.wd cDig 3 : Nat)] 25) := ⟨_, rfl⟩
  rw [← hW] at Z1 S1 S2 S3 hB4
  rw [← hW]
  clear hW
  obtain ⟨g4, hg4⟩ : ∃ g4, g4 = w3.heap.size := ⟨_, rfl⟩
  rw [← hg4] at S1 S2 S3
  rw [← hg4]
  have lt0 : w.heap.size < g4 := by rw [hg4]; exact lt3
  clear lt3
  clear hg4 hB3 hs3
  go_cut [7] (fun v7 wx => ∃ g7, v7 = pt g7 ∧ W.heap.size ≤ g7 ∧ SetAt wx g7 cAlnum ∧ Below W.heap.size W wx)
  case first =>
    refine wp_region_inv' (fun a0 listed a wx => Fr [7, 12, 13, 14, 15, 16] a0 a ∧ a.tmps.size = 69 ∧ a.eval (.tmp 4) = pt g4 ∧ a.eval (.tmp 5) = pt (g4 + 1) ∧ a.eval (.tmp 6) = pt (g4 + 1 + 1) ∧ Below W.heap.size W wx
      ∧ Slots [(0, 12, St.setV cUp), (1, 13, St.setV cLow), (2, 14, St.setV cAlpha), (3, 15, St.setV cDig), (4, 16, St.setV cAlnum)] listed a
      ∧ Al W.heap.size [⟨5, 7, 6, cAlnum⟩] listed a wx) (by kernel_rfl) (by kernel_rfl) ?_ ?_ ?_
    · exact ⟨Fr.refl _ _, rfl, rfl, rfl, rfl, ⟨rfl, rfl, rfl, Nat.le_refl _, fun _ _ => rfl⟩, Slots.new _ _ _, Al.new _ _ _ _ _⟩
    · intro listed a wx i ⟨hFr, hz, h4, h5, h6, hbx, hT, hA⟩ hi
      have hlt : i < 7 := by
        obtain ⟨_, o, ho, _⟩ := mem_ready.1 hi
        have := (Array.getElem?_eq_some_iff.1 ho).1
        simpa using this
      have X4 := S1.under hbx
      have X5 := S2.under hbx
      have X6 := S3.under hbx
      have hsx := hbx.size
      obtain rfl | rfl | rfl | rfl | rfl | rfl | rfl : i = 0 ∨ i = 1 ∨ i = 2 ∨ i = 3 ∨ i = 4 ∨ i = 5 ∨ i = 6 := by omega
      · obtain ⟨hun, _⟩ := ready_up hi rfl
        exact wpOp_value (d := some 12) rfl rfl rfl (run_load h4 X4) ⟨hFr.put (by simp) _, by simp [Act.put, hz], by rw [eval_other _ (by decide)]; exact h4, by rw [eval_other _ (by decide)]; exact h5, by rw [eval_other _ (by decide)]; exact h6, hbx, hT.some hun (by omega) (by simp), hA.keep hun (fun e he => by simp at he; subst he; exact ⟨by simp, by simp, eval_other _ (by simp)⟩) (fun _ _ h => h)⟩
      · obtain ⟨hun, _⟩ := ready_up hi rfl
        exact wpOp_value (d := some 13) rfl rfl rfl (run_load h5 X5) ⟨hFr.put (by simp) _, by simp [Act.put, hz], by rw [eval_other _ (by decide)]; exact h4, by rw [eval_other _ (by decide)]; exact h5, by rw [eval_other _ (by decide)]; exact h6, hbx, hT.some hun (by omega) (by simp), hA.keep hun (fun e he => by simp at he; subst he; exact ⟨by simp, by simp, eval_other _ (by simp)⟩) (fun _ _ h => h)⟩
      · obtain ⟨hun, haf⟩ := ready_up hi rfl
        have L0 := haf ⟨0, .data⟩ (by simp) rfl
        have e12 : a.eval (.tmp 12) = St.setV cUp := hT (0, 12, St.setV cUp) (by simp) L0
        have L1 := haf ⟨1, .data⟩ (by simp) rfl
        have e13 : a.eval (.tmp 13) = St.setV cLow := hT (1, 13, St.setV cLow) (by simp) L1
        refine wpOp_call (d := some 14) rfl rfl rfl (run_call2 rfl calls_ror) ?_
        rw [e12, e13]
        refine (HAl.out _).mono ?_
        rintro x wy ⟨rfl, hby⟩
        exact ⟨_, rfl, hFr.put (by simp) _, by simp [Act.put, hz], by rw [eval_other _ (by decide)]; exact h4, by rw [eval_other _ (by decide)]; exact h5, by rw [eval_other _ (by decide)]; exact h6, Below.more hbx hby hsx, hT.some hun (by omega) (by simp), hA.keep hun (fun e he => by simp at he; subst he; exact ⟨by simp, by simp, eval_other _ (by simp)⟩) (fun _ _ h => h.under hby)⟩
      · obtain ⟨hun, _⟩ := ready_up hi rfl
        exact wpOp_value (d := some 15) rfl rfl rfl (run_load h6 X6) ⟨hFr.put (by simp) _, by simp [Act.put, hz], by rw [eval_other _ (by decide)]; exact h4, by rw [eval_other _ (by decide)]; exact h5, by rw [eval_other _ (by decide)]; exact h6, hbx, hT.some hun (by omega) (by simp), hA.keep hun (fun e he => by simp at he; subst he; exact ⟨by simp, by simp, eval_other _ (by simp)⟩) (fun _ _ h => h)⟩
      · obtain ⟨hun, haf⟩ := ready_up hi rfl
        have L2 := haf ⟨2, .data⟩ (by simp) rfl
        have e14 : a.eval (.tmp 14) = St.setV cAlpha := hT (2, 14, St.setV cAlpha) (by simp) L2
        have L3 := haf ⟨3, .data⟩ (by simp) rfl
        have e15 : a.eval (.tmp 15) = St.setV cDig := hT (3, 15, St.setV cDig) (by simp) L3
        refine wpOp_call (d := some 16) rfl rfl rfl (run_call2 rfl calls_ror) ?_
        rw [e14, e15]
        refine (HAn.out _).mono ?_
        rintro x wy ⟨rfl, hby⟩
        exact ⟨_, rfl, hFr.put (by simp) _, by simp [Act.put, hz], by rw [eval_other _ (by decide)]; exact h4, by rw [eval_other _ (by decide)]; exact h5, by rw [eval_other _ (by decide)]; exact h6, Below.more hbx hby hsx, hT.some hun (by omega) (by simp), hA.keep hun (fun e he => by simp at he; subst he; exact ⟨by simp, by simp, eval_other _ (by simp)⟩) (fun _ _ h => h.under hby)⟩
      · obtain ⟨hun, _⟩ := ready_up hi rfl
        exact wpOp_value (d := some 7) rfl rfl rfl run_alloc ⟨hFr.put (by simp) _, by simp [Act.put, hz], by rw [eval_other _ (by decide)]; exact h4, by rw [eval_other _ (by decide)]; exact h5, by rw [eval_other _ (by decide)]; exact h6, hbx.alloc hsx _, hT.some hun (by omega) (by simp), hA.made (e0 := ⟨5, 7, 6, cAlnum⟩) hun (by show 7 < a.tmps.size; omega) hsx (by simp)⟩
      · obtain ⟨hun, haf⟩ := ready_up hi rfl
        have LA := haf ⟨5, .data⟩ (by simp) rfl
        have LB := haf ⟨4, .data⟩ (by simp) rfl
        have e1 : a.eval (.tmp 16) = St.setV cAlnum := hT (4, 16, St.setV cAlnum) (by simp) LB
        obtain ⟨g, hg, hNg, _, pz, hSz⟩ := hA.lies ⟨5, 7, 6, cAlnum⟩ (by simp) LA
        exact wpOp_skip (d := none) rfl rfl rfl (run_store hg e1 hSz) ⟨hFr, hz, h4, h5, h6, put4_below hbx hNg, hT.none hun (by simp), hA.stored (e0 := ⟨5, 7, 6, cAlnum⟩) (by simp) hun LA hg _ (by simp)⟩
    · intro listed a wx ⟨hFr, hz, h4, h5, h6, hbx, hT, hA⟩ hup
      obtain ⟨g7, e7, N7, Z7, _⟩ := hA.lies ⟨5, 7, 6, cAlnum⟩ (by simp) (hup 5 (by simp))
      have Y7 := Z7 (hup 6 (by simp))
      have hae := hFr.eq (by simp)
      rw [hae]
      simp only [List.foldl_cons, List.foldl_nil, e7, hT (0, 12, St.setV cUp) (by simp) (hup 0 (by simp)), hT (1, 13, St.setV cLow) (by simp) (hup 1 (by simp)), hT (2, 14, St.setV cAlpha) (by simp) (hup 2 (by simp)), hT (3, 15, St.setV cDig) (by simp) (hup 3 (by simp)), hT (4, 16, St.setV cAlnum) (by simp) (hup 4 (by simp)), Act.put, List.setIfInBounds_toArray, List.set_cons_zero, List.set_cons_succ]
      clear hae hFr hz h4 h5 h6 hT hA hup Z7 e7
      go_wp2_with fail
      go_meet
      case rel => exact ⟨g7, rfl, N7, Y7, hbx⟩
  case rest =>
    obtain ⟨g7, rfl, N7, Y7, hbx⟩ := hcut
    replace Z1 := Z1.under hbx
    replace S1 := S1.under hbx
    replace S2 := S2.under hbx
    have S3W := S3.lt
    replace S3 := S3.under hbx
    have hB5 := Below.more hB4 hbx hB4.size
    have lt7 : w.heap.size < g7 := Nat.lt_of_lt_of_le (by have := S3W; omega) N7
    clear hbx hB4
    generalize wc = w4 at *
    go_upto_region 3 with fail
    go_cut [8] (fun v8 wx => ∃ g8, v8 = pt g8 ∧ w4.heap.size ≤ g8 ∧ SetAt wx g8 cGraph ∧ Below w4.heap.size w4 wx)
    case first =>
      go_wp2_with fail
      refine (A6.out _).mono ?_
      rintro x w6 ⟨rfl, hb6⟩
      go_wp2_with fail
      go_meet
      case rel => exact ⟨_, rfl, hb6.size, at_new w6 cGraph, hb6.alloc hb6.size _⟩
    case rest =>
      obtain ⟨g8, rfl, N8, Y8, hbx⟩ := hcut
      have lt8 : w.heap.size < g8 := by have := Z1.lt; omega
      replace Z1 := Z1.under hbx
      replace S1 := S1.under hbx
      replace S2 := S2.under hbx
      replace S3 := S3.under hbx
      replace Y7 := Y7.under hbx
      have hB6 := Below.more hB5 hbx hB5.size
      clear hbx hB5 A1 A2 A3 A6
      generalize wc = w5 at *
      obtain ⟨z0, z1, z2, z3⟩ := Z1.cells
      have f0 := Z1.frozen 0
      have f1 := Z1.frozen 1
      have f2 := Z1.frozen 2
      have f3 := Z1.frozen 3
      go_upto_if 19 with fail
      by_cases y0 : s.data.toList = [117, 112, 112, 101, 114]
      · have c0 : (s.toList == [117, 112, 112, 101, 114]) = true := by rw [Ln.toL, y0]; rfl
        obtain ⟨rfl, rfl⟩ := HY0.out y0
        rw [c0]
        clear y0 c0
        obtain ⟨q0, q1, q2, q3⟩ := S1.cells
        go_wp2_with fail
        exact bodyPost_ret (results_set2 rfl _ _ w.heap.size q rfl (Z1.put (q := q))) rfl ⟨rfl, put4_below hB6 (Nat.le_refl _)⟩
      · have c0 : (s.toList == [117, 112, 112, 101, 114]) = false := by rw [Ln.toL, beq_eq_false_iff_ne]; exact y0
        replace y0 : Hid (¬ s.data.toList = [117, 112, 112, 101, 114]) := y0
        rw [c0]
        clear c0
        go_upto_if 22 with fail
        by_cases y1 : s.data.toList = [108, 111, 119, 101, 114]
        · have c1 : (s.toList == [108, 111, 119, 101, 114]) = true := by rw [Ln.toL, y1]; rfl
          obtain ⟨rfl, rfl⟩ := HY1.out y1
          rw [c1]
          clear y1 c1
          obtain ⟨q0, q1, q2, q3⟩ := S2.cells
          go_wp2_with fail
          exact bodyPost_ret (results_set2 rfl _ _ w.heap.size q rfl (Z1.put (q := q))) rfl ⟨rfl, put4_below hB6 (Nat.le_refl _)⟩
        · have c1 : (s.toList == [108, 111, 119, 101, 114]) = false := by rw [Ln.toL, beq_eq_false_iff_ne]; exact y1
          replace y1 : Hid (¬ s.data.toList = [108, 111, 119, 101, 114]) := y1
          rw [c1]
          clear c1
          go_upto_if 25 with fail
          by_cases y2 : s.data.toList = [97, 108, 112, 104, 97]
          · have c2 : (s.toList == [97, 108, 112, 104, 97]) = true := by rw [Ln.toL, y2]; rfl
            obtain ⟨rfl, rfl⟩ := HY2.out y2
            rw [c2]
            clear y2 c2
            obtain ⟨q0, q1, q2, q3⟩ := S1.cells
            obtain ⟨r0, r1, r2, r3⟩ := S2.cells
            simp only [St.setV] at HAl
            go_wp2_with fail
            refine (HAl.out _).mono ?_
            rintro x w6 ⟨rfl, hb6⟩
            have Z6 := Z1.under hb6
            have hB7 := Below.more hB6 hb6 hB6.size
            clear z0 z1 z2 z3 f0 f1 f2 f3
            obtain ⟨z0, z1, z2, z3⟩ := Z6.cells
            have f0 := Z6.frozen 0
            have f1 := Z6.frozen 1
            have f2 := Z6.frozen 2
            have f3 := Z6.frozen 3
            go_wp2_with fail
            exact bodyPost_ret (results_set2 rfl _ _ w.heap.size q rfl (Z6.put (q := q))) rfl ⟨rfl, put4_below hB7 (Nat.le_refl _)⟩
          · have c2 : (s.toList == [97, 108, 112, 104, 97]) = false := by rw [Ln.toL, beq_eq_false_iff_ne]; exact y2
            replace y2 : Hid (¬ s.data.toList = [97, 108, 112, 104, 97]) := y2
            rw [c2]
            clear c2
            go_upto_if 30 with fail
            by_cases y3 : s.data.toList = [100, 105, 103, 105, 116]
            · have c3 : (s.toList == [100, 105, 103, 105, 116]) = true := by rw [Ln.toL, y3]; rfl
              obtain ⟨rfl, rfl⟩ := HY3.out y3
              rw [c3]
              clear y3 c3
              obtain ⟨q0, q1, q2, q3⟩ := S3.cells
              go_wp2_with fail
              exact bodyPost_ret (results_set2 rfl _ _ w.heap.size q rfl (Z1.put (q := q))) rfl ⟨rfl, put4_below hB6 (Nat.le_refl _)⟩
            · have c3 : (s.toList == [100, 105, 103, 105, 116]) = false := by rw [Ln.toL, beq_eq_false_iff_ne]; exact y3
              replace y3 : Hid (¬ s.data.toList = [100, 105, 103, 105, 116]) := y3
              rw [c3]
              clear c3
              go_upto_if 33 with fail
              by_cases y4 : s.data.toList = [97, 108, 110, 117, 109]
              · have c4 : (s.toList == [97, 108, 110, 117, 109]) = true := by rw [Ln.toL, y4]; rfl
                obtain ⟨rfl, rfl⟩ := HY4.out y4
                rw [c4]
                clear y4 c4
                obtain ⟨q0, q1, q2, q3⟩ := Y7.cells
                go_wp2_with fail
                exact bodyPost_ret (results_set2 rfl _ _ w.heap.size q rfl (Z1.put (q := q))) rfl ⟨rfl, put4_below hB6 (Nat.le_refl _)⟩
              · have c4 : (s.toList == [97, 108, 110, 117, 109]) = false := by rw [Ln.toL, beq_eq_false_iff_ne]; exact y4
                replace y4 : Hid (¬ s.data.toList = [97, 108, 110, 117, 109]) := y4
                rw [c4]
                clear c4
                go_upto_if 36 with fail
                by_cases y5 : s.data.toList = [120, 100, 105, 103, 105, 116]
                · have c5 : (s.toList == [120, 100, 105, 103, 105, 116]) = true := by rw [Ln.toL, y5]; rfl
                  obtain ⟨rfl, rfl⟩ := HY5.out y5
                  rw [c5]
                  clear y5 c5
                  go_wp2_with fail
                  refine wp_region_inv' (fun a0 listed a wx => Fr [3, 38, 39, 40, 41, 42] a0 a ∧ a.tmps.size = 69 ∧ a.eval (.tmp 2) = pt w.heap.size ∧ a.eval (.tmp 6) = pt (g4 + 1 + 1) ∧ Below w.heap.size w wx ∧ (∃ pz, SetAt wx w.heap.size pz) ∧ (up listed 5 → SetAt wx w.heap.size q) ∧ SetAt wx (g4 + 1 + 1) cDig ∧ Slots [(0, 38, St.setV cDig), (1, 39, St.setV cXA), (2, 40, St.setV cXB), (3, 41, St.setV cXC), (4, 42, St.setV q), (6, 3, .bool true)] listed a) (by kernel_rfl) (by kernel_rfl) ?_ ?_ ?_
                  · exact ⟨Fr.refl _ _, rfl, rfl, rfl, hB6.drew, ⟨_, Z1⟩, fun h => absurd h (up_new _ _), S3, Slots.new _ _ _⟩
                  · intro listed a wx i ⟨hFr, hz, h2, h6, hbx, hZ, hZq, X6, hT⟩ hi
                    have hlt : i < 7 := by
                      obtain ⟨_, o, ho, _⟩ := mem_ready.1 hi
                      have := (Array.getElem?_eq_some_iff.1 ho).1
                      simpa using this
                    have hsx := hbx.size
                    obtain rfl | rfl | rfl | rfl | rfl | rfl | rfl : i = 0 ∨ i = 1 ∨ i = 2 ∨ i = 3 ∨ i = 4 ∨ i = 5 ∨ i = 6 := by omega
                    · obtain ⟨hun, _⟩ := ready_up hi rfl
                      exact wpOp_value (d := some 38) rfl rfl rfl (run_load h6 X6) ⟨hFr.put (by simp) _, by simp [Act.put, hz], by rw [eval_other _ (by decide)]; exact h2, by rw [eval_other _ (by decide)]; exact h6, hbx, hZ, fun x => hZq (old_up hun (by decide) x), X6, hT.some hun (by omega) (by simp)⟩
                    · obtain ⟨hun, _⟩ := ready_up hi rfl
                      refine wpOp_call (d := some 39) rfl rfl rfl (run_call2 rfl calls_rrange) ?_
                      refine (HXA.out _).mono ?_
                      rintro x wy ⟨rfl, hby⟩
                      obtain ⟨pz, hpz⟩ := hZ
                      exact ⟨_, rfl, hFr.put (by simp) _, by simp [Act.put, hz], by rw [eval_other _ (by decide)]; exact h2, by rw [eval_other _ (by decide)]; exact h6, Below.more hbx hby hsx, ⟨pz, hpz.under hby⟩, fun x => (hZq (old_up hun (by decide) x)).under hby, X6.under hby, hT.some hun (by omega) (by simp)⟩
                    · obtain ⟨hun, _⟩ := ready_up hi rfl
                      refine wpOp_call (d := some 40) rfl rfl rfl (run_call2 rfl calls_rrange) ?_
                      refine (HXB.out _).mono ?_
                      rintro x wy ⟨rfl, hby⟩
                      obtain ⟨pz, hpz⟩ := hZ
                      exact ⟨_, rfl, hFr.put (by simp) _, by simp [Act.put, hz], by rw [eval_other _ (by decide)]; exact h2, by rw [eval_other _ (by decide)]; exact h6, Below.more hbx hby hsx, ⟨pz, hpz.under hby⟩, fun x => (hZq (old_up hun (by decide) x)).under hby, X6.under hby, hT.some hun (by omega) (by simp)⟩
                    · obtain ⟨hun, haf⟩ := ready_up hi rfl
                      have L1 := haf ⟨1, .data⟩ (by simp) rfl
                      have e39 : a.eval (.tmp 39) = St.setV cXA := hT (1, 39, St.setV cXA) (by simp) L1
                      have L2 := haf ⟨2, .data⟩ (by simp) rfl
                      have e40 : a.eval (.tmp 40) = St.setV cXB := hT (2, 40, St.setV cXB) (by simp) L2
                      refine wpOp_call (d := some 41) rfl rfl rfl (run_call2 rfl calls_ror) ?_
                      rw [e39, e40]
                      refine (HXC.out _).mono ?_
                      rintro x wy ⟨rfl, hby⟩
                      obtain ⟨pz, hpz⟩ := hZ
                      exact ⟨_, rfl, hFr.put (by simp) _, by simp [Act.put, hz], by rw [eval_other _ (by decide)]; exact h2, by rw [eval_other _ (by decide)]; exact h6, Below.more hbx hby hsx, ⟨pz, hpz.under hby⟩, fun x => (hZq (old_up hun (by decide) x)).under hby, X6.under hby, hT.some hun (by omega) (by simp)⟩
                    · obtain ⟨hun, haf⟩ := ready_up hi rfl
                      have L0 := haf ⟨0, .data⟩ (by simp) rfl
                      have e38 : a.eval (.tmp 38) = St.setV cDig := hT (0, 38, St.setV cDig) (by simp) L0
                      have L3 := haf ⟨3, .data⟩ (by simp) rfl
                      have e41 : a.eval (.tmp 41) = St.setV cXC := hT (3, 41, St.setV cXC) (by simp) L3
                      refine wpOp_call (d := some 42) rfl rfl rfl (run_call2 rfl calls_ror) ?_
                      rw [e38, e41]
                      refine (HX.out _).mono ?_
                      rintro x wy ⟨rfl, hby⟩
                      obtain ⟨pz, hpz⟩ := hZ
                      exact ⟨_, rfl, hFr.put (by simp) _, by simp [Act.put, hz], by rw [eval_other _ (by decide)]; exact h2, by rw [eval_other _ (by decide)]; exact h6, Below.more hbx hby hsx, ⟨pz, hpz.under hby⟩, fun x => (hZq (old_up hun (by decide) x)).under hby, X6.under hby, hT.some hun (by omega) (by simp)⟩
                    · obtain ⟨hun, haf⟩ := ready_up hi rfl
                      have LB := haf ⟨4, .data⟩ (by simp) rfl
                      have e1 : a.eval (.tmp 42) = St.setV q := hT (4, 42, St.setV q) (by simp) LB
                      obtain ⟨pz, hpz⟩ := hZ
                      exact wpOp_skip (d := none) rfl rfl rfl (run_store h2 e1 hpz) ⟨hFr, hz, h2, h6, put4_below hbx (Nat.le_refl _), ⟨_, hpz.put⟩, fun _ => hpz.put, X6.other (by omega), hT.none hun (by simp)⟩
                    · obtain ⟨hun, _⟩ := ready_up hi rfl
                      exact wpOp_value (d := some 3) rfl rfl rfl (run_assign' _) ⟨hFr.put (by simp) _, by simp [Act.put, hz], by rw [eval_other _ (by decide)]; exact h2, by rw [eval_other _ (by decide)]; exact h6, hbx, hZ, fun x => hZq (old_up hun (by decide) x), X6, hT.some hun (by omega) (by simp [Act.eval])⟩
                  · intro listed a wx ⟨hFr, hz, h2, h6, hbx, hZ, hZq, X6, hT⟩ hup
                    have Y := hZq (hup 5 (by simp))
                    have hae := hFr.eq (by simp)
                    rw [hae]
                    simp only [List.foldl_cons, List.foldl_nil, hT (0, 38, St.setV cDig) (by simp) (hup 0 (by simp)), hT (1, 39, St.setV cXA) (by simp) (hup 1 (by simp)), hT (2, 40, St.setV cXB) (by simp) (hup 2 (by simp)), hT (3, 41, St.setV cXC) (by simp) (hup 3 (by simp)), hT (4, 42, St.setV q) (by simp) (hup 4 (by simp)), hT (6, 3, .bool true) (by simp) (hup 6 (by simp)), Act.put, List.setIfInBounds_toArray, List.set_cons_zero, List.set_cons_succ]
                    clear hae hFr hz h2 h6 hT hup hZ hZq
                    go_wp2_with fail
                    exact bodyPost_ret (results_set2 rfl _ _ w.heap.size q rfl Y) rfl ⟨rfl, hbx⟩
                · have c5 : (s.toList == [120, 100, 105, 103, 105, 116]) = false := by rw [Ln.toL, beq_eq_false_iff_ne]; exact y5
                  replace y5 : Hid (¬ s.data.toList = [120, 100, 105, 103, 105, 116]) := y5
                  rw [c5]
                  clear c5
                  go_upto_if 43 with fail
                  by_cases y6 : s.data.toList = [98, 108, 97, 110, 107]
                  · have c6 : (s.toList == [98, 108, 97, 110, 107]) = true := by rw [Ln.toL, y6]; rfl
                    obtain ⟨rfl, rfl⟩ := HY6.out y6
                    rw [c6]
                    clear y6 c6
                    simp only [St.setV] at HOf
                    go_wp2_with fail
                    refine (HOf.out _ _ _ (heap_alloc_new w5 _)).mono ?_
                    rintro x w6 ⟨rfl, hb6⟩
                    have Z6a := Z1.alloc (.cells #[.int .u8 32, .int .u8 9] 5)
                    have hB6a := hB6.alloc hB6.size (.cells #[.int .u8 32, .int .u8 9] 5)
                    have Z6 := Z6a.under hb6
                    have hB7 := Below.more hB6a hb6 hB6a.size
                    clear z0 z1 z2 z3 f0 f1 f2 f3
                    obtain ⟨z0, z1, z2, z3⟩ := Z6.cells
                    have f0 := Z6.frozen 0
                    have f1 := Z6.frozen 1
                    have f2 := Z6.frozen 2
                    have f3 := Z6.frozen 3
                    go_wp2_with fail
                    exact bodyPost_ret (results_set2 rfl _ _ w.heap.size q rfl (Z6.put (q := q))) rfl ⟨rfl, put4_below hB7 (Nat.le_refl _)⟩
                  · have c6 : (s.toList == [98, 108, 97, 110, 107]) = false := by rw [Ln.toL, beq_eq_false_iff_ne]; exact y6
                    replace y6 : Hid (¬ s.data.toList = [98, 108, 97, 110, 107]) := y6
                    rw [c6]
                    clear c6
                    go_upto_if 47 with fail
                    by_cases y7 : s.data.toList = [115, 112, 97, 99, 101]
                    · have c7 : (s.toList == [115, 112, 97, 99, 101]) = true := by rw [Ln.toL, y7]; rfl
                      obtain ⟨rfl, rfl⟩ := HY7.out y7
                      rw [c7]
                      clear y7 c7
                      simp only [St.setV] at HSA HS
                      go_wp2_with fail
                      refine (HSA.out _).mono ?_
                      rintro x w6a ⟨rfl, hb6a⟩
                      have Z6a := Z1.under hb6a
                      have hB6a := Below.more hB6 hb6a hB6.size
                      clear z0 z1 z2 z3 f0 f1 f2 f3
                      go_wp2_with fail
                      refine (HS.out _).mono ?_
                      rintro x w6 ⟨rfl, hb6⟩
                      have Z6 := Z6a.under hb6
                      have hB7 := Below.more hB6a hb6 hB6a.size
                      obtain ⟨z0, z1, z2, z3⟩ := Z6.cells
                      have f0 := Z6.frozen 0
                      have f1 := Z6.frozen 1
                      have f2 := Z6.frozen 2
                      have f3 := Z6.frozen 3
                      go_wp2_with fail
                      exact bodyPost_ret (results_set2 rfl _ _ w.heap.size q rfl (Z6.put (q := q))) rfl ⟨rfl, put4_below hB7 (Nat.le_refl _)⟩
                    · have c7 : (s.toList == [115, 112, 97, 99, 101]) = false := by rw [Ln.toL, beq_eq_false_iff_ne]; exact y7
                      replace y7 : Hid (¬ s.data.toList = [115, 112, 97, 99, 101]) := y7
                      rw [c7]
                      clear c7
                      go_upto_if 51 with fail
                      by_cases y8 : s.data.toList = [99, 110, 116, 114, 108]
                      · have c8 : (s.toList == [99, 110, 116, 114, 108]) = true := by rw [Ln.toL, y8]; rfl
                        obtain ⟨rfl, rfl⟩ := HY8.out y8
                        rw [c8]
                        clear y8 c8
                        simp only [St.setV] at HCA HC
                        go_wp2_with fail
                        refine (HCA.out _).mono ?_
                        rintro x w6a ⟨rfl, hb6a⟩
                        have Z6a := Z1.under hb6a
                        have hB6a := Below.more hB6 hb6a hB6.size
                        clear z0 z1 z2 z3 f0 f1 f2 f3
                        go_wp2_with fail
                        refine (HC.out _).mono ?_
                        rintro x w6 ⟨rfl, hb6⟩
                        have Z6 := Z6a.under hb6
                        have hB7 := Below.more hB6a hb6 hB6a.size
                        obtain ⟨z0, z1, z2, z3⟩ := Z6.cells
                        have f0 := Z6.frozen 0
                        have f1 := Z6.frozen 1
                        have f2 := Z6.frozen 2
                        have f3 := Z6.frozen 3
                        go_wp2_with fail
                        exact bodyPost_ret (results_set2 rfl _ _ w.heap.size q rfl (Z6.put (q := q))) rfl ⟨rfl, put4_below hB7 (Nat.le_refl _)⟩
                      · have c8 : (s.toList == [99, 110, 116, 114, 108]) = false := by rw [Ln.toL, beq_eq_false_iff_ne]; exact y8
                        replace y8 : Hid (¬ s.data.toList = [99, 110, 116, 114, 108]) := y8
                        rw [c8]
                        clear c8
                        go_upto_if 55 with fail
                        by_cases y9 : s.data.toList = [112, 114, 105, 110, 116]
                        · have c9 : (s.toList == [112, 114, 105, 110, 116]) = true := by rw [Ln.toL, y9]; rfl
                          obtain ⟨rfl, rfl⟩ := HY9.out y9
                          rw [c9]
                          clear y9 c9
                          obtain ⟨q0, q1, q2, q3⟩ := Y8.cells
                          simp only [St.setV] at HP
                          go_wp2_with fail
                          refine (HP.out _).mono ?_
                          rintro x w6 ⟨rfl, hb6⟩
                          have Z6 := Z1.under hb6
                          have hB7 := Below.more hB6 hb6 hB6.size
                          clear z0 z1 z2 z3 f0 f1 f2 f3
                          obtain ⟨z0, z1, z2, z3⟩ := Z6.cells
                          have f0 := Z6.frozen 0
                          have f1 := Z6.frozen 1
                          have f2 := Z6.frozen 2
                          have f3 := Z6.frozen 3
                          go_wp2_with fail
                          exact bodyPost_ret (results_set2 rfl _ _ w.heap.size q rfl (Z6.put (q := q))) rfl ⟨rfl, put4_below hB7 (Nat.le_refl _)⟩
                        · have c9 : (s.toList == [112, 114, 105, 110, 116]) = false := by rw [Ln.toL, beq_eq_false_iff_ne]; exact y9
                          replace y9 : Hid (¬ s.data.toList = [112, 114, 105, 110, 116]) := y9
                          rw [c9]
                          clear c9
                          go_upto_if 59 with fail
                          by_cases y10 : s.data.toList = [103, 114, 97, 112, 104]
                          · have c10 : (s.toList == [103, 114, 97, 112, 104]) = true := by rw [Ln.toL, y10]; rfl
                            obtain ⟨rfl, rfl⟩ := HY10.out y10
                            rw [c10]
                            clear y10 c10
                            obtain ⟨q0, q1, q2, q3⟩ := Y8.cells
                            go_wp2_with fail
                            exact bodyPost_ret (results_set2 rfl _ _ w.heap.size q rfl (Z1.put (q := q))) rfl ⟨rfl, put4_below hB6 (Nat.le_refl _)⟩
                          · have c10 : (s.toList == [103, 114, 97, 112, 104]) = false := by rw [Ln.toL, beq_eq_false_iff_ne]; exact y10
                            replace y10 : Hid (¬ s.data.toList = [103, 114, 97, 112, 104]) := y10
                            rw [c10]
                            clear c10
                            go_upto_if 62 with fail
                            by_cases y11 : s.data.toList = [112, 117, 110, 99, 116]
                            · have c11 : (s.toList == [112, 117, 110, 99, 116]) = true := by rw [Ln.toL, y11]; rfl
                              obtain ⟨rfl, rfl⟩ := HY11.out y11
                              rw [c11]
                              clear y11 c11
                              go_wp2_with fail
                              refine wp_region_inv' (fun a0 listed a wx => Fr [3, 64, 65, 66, 67] a0 a ∧ a.tmps.size = 69 ∧ a.eval (.tmp 2) = pt w.heap.size ∧ a.eval (.tmp 8) = pt (g8) ∧ a.eval (.tmp 7) = pt (g7) ∧ Below w.heap.size w wx ∧ (∃ pz, SetAt wx w.heap.size pz) ∧ (up listed 4 → SetAt wx w.heap.size q) ∧ SetAt wx (g8) cGraph ∧ SetAt wx (g7) cAlnum ∧ Slots [(0, 64, St.setV cGraph), (1, 65, St.setV cAlnum), (2, 66, St.setV cNA), (3, 67, St.setV q), (5, 3, .bool true)] listed a) (by kernel_rfl) (by kernel_rfl) ?_ ?_ ?_
                              · exact ⟨Fr.refl _ _, rfl, rfl, rfl, rfl, hB6.drew, ⟨_, Z1⟩, fun h => absurd h (up_new _ _), Y8, Y7, Slots.new _ _ _⟩
                              · intro listed a wx i ⟨hFr, hz, h2, h8, h7, hbx, hZ, hZq, X8, X7, hT⟩ hi
                                have hlt : i < 6 := by
                                  obtain ⟨_, o, ho, _⟩ := mem_ready.1 hi
                                  have := (Array.getElem?_eq_some_iff.1 ho).1
                                  simpa using this
                                have hsx := hbx.size
                                obtain rfl | rfl | rfl | rfl | rfl | rfl : i = 0 ∨ i = 1 ∨ i = 2 ∨ i = 3 ∨ i = 4 ∨ i = 5 := by omega
                                · obtain ⟨hun, _⟩ := ready_up hi rfl
                                  exact wpOp_value (d := some 64) rfl rfl rfl (run_load h8 X8) ⟨hFr.put (by simp) _, by simp [Act.put, hz], by rw [eval_other _ (by decide)]; exact h2, by rw [eval_other _ (by decide)]; exact h8, by rw [eval_other _ (by decide)]; exact h7, hbx, hZ, fun x => hZq (old_up hun (by decide) x), X8, X7, hT.some hun (by omega) (by simp)⟩
                                · obtain ⟨hun, _⟩ := ready_up hi rfl
                                  exact wpOp_value (d := some 65) rfl rfl rfl (run_load h7 X7) ⟨hFr.put (by simp) _, by simp [Act.put, hz], by rw [eval_other _ (by decide)]; exact h2, by rw [eval_other _ (by decide)]; exact h8, by rw [eval_other _ (by decide)]; exact h7, hbx, hZ, fun x => hZq (old_up hun (by decide) x), X8, X7, hT.some hun (by omega) (by simp)⟩
                                · obtain ⟨hun, haf⟩ := ready_up hi rfl
                                  have L1 := haf ⟨1, .data⟩ (by simp) rfl
                                  have e65 : a.eval (.tmp 65) = St.setV cAlnum := hT (1, 65, St.setV cAlnum) (by simp) L1
                                  refine wpOp_call (d := some 66) rfl rfl rfl (run_call1 rfl calls_rnot) ?_
                                  rw [e65]
                                  refine (HNA.out _).mono ?_
                                  rintro x wy ⟨rfl, hby⟩
                                  obtain ⟨pz, hpz⟩ := hZ
                                  exact ⟨_, rfl, hFr.put (by simp) _, by simp [Act.put, hz], by rw [eval_other _ (by decide)]; exact h2, by rw [eval_other _ (by decide)]; exact h8, by rw [eval_other _ (by decide)]; exact h7, Below.more hbx hby hsx, ⟨pz, hpz.under hby⟩, fun x => (hZq (old_up hun (by decide) x)).under hby, X8.under hby, X7.under hby, hT.some hun (by omega) (by simp)⟩
                                · obtain ⟨hun, haf⟩ := ready_up hi rfl
                                  have L0 := haf ⟨0, .data⟩ (by simp) rfl
                                  have e64 : a.eval (.tmp 64) = St.setV cGraph := hT (0, 64, St.setV cGraph) (by simp) L0
                                  have L2 := haf ⟨2, .data⟩ (by simp) rfl
                                  have e66 : a.eval (.tmp 66) = St.setV cNA := hT (2, 66, St.setV cNA) (by simp) L2
                                  refine wpOp_call (d := some 67) rfl rfl rfl (run_call2 rfl calls_rand) ?_
                                  rw [e64, e66]
                                  refine (HPU.out _).mono ?_
                                  rintro x wy ⟨rfl, hby⟩
                                  obtain ⟨pz, hpz⟩ := hZ
                                  exact ⟨_, rfl, hFr.put (by simp) _, by simp [Act.put, hz], by rw [eval_other _ (by decide)]; exact h2, by rw [eval_other _ (by decide)]; exact h8, by rw [eval_other _ (by decide)]; exact h7, Below.more hbx hby hsx, ⟨pz, hpz.under hby⟩, fun x => (hZq (old_up hun (by decide) x)).under hby, X8.under hby, X7.under hby, hT.some hun (by omega) (by simp)⟩
                                · obtain ⟨hun, haf⟩ := ready_up hi rfl
                                  have LB := haf ⟨3, .data⟩ (by simp) rfl
                                  have e1 : a.eval (.tmp 67) = St.setV q := hT (3, 67, St.setV q) (by simp) LB
                                  obtain ⟨pz, hpz⟩ := hZ
                                  exact wpOp_skip (d := none) rfl rfl rfl (run_store h2 e1 hpz) ⟨hFr, hz, h2, h8, h7, put4_below hbx (Nat.le_refl _), ⟨_, hpz.put⟩, fun _ => hpz.put, X8.other (by omega), X7.other (by omega), hT.none hun (by simp)⟩
                                · obtain ⟨hun, _⟩ := ready_up hi rfl
                                  exact wpOp_value (d := some 3) rfl rfl rfl (run_assign' _) ⟨hFr.put (by simp) _, by simp [Act.put, hz], by rw [eval_other _ (by decide)]; exact h2, by rw [eval_other _ (by decide)]; exact h8, by rw [eval_other _ (by decide)]; exact h7, hbx, hZ, fun x => hZq (old_up hun (by decide) x), X8, X7, hT.some hun (by omega) (by simp [Act.eval])⟩
                              · intro listed a wx ⟨hFr, hz, h2, h8, h7, hbx, hZ, hZq, X8, X7, hT⟩ hup
                                have Y := hZq (hup 4 (by simp))
                                have hae := hFr.eq (by simp)
                                rw [hae]
                                simp only [List.foldl_cons, List.foldl_nil, hT (0, 64, St.setV cGraph) (by simp) (hup 0 (by simp)), hT (1, 65, St.setV cAlnum) (by simp) (hup 1 (by simp)), hT (2, 66, St.setV cNA) (by simp) (hup 2 (by simp)), hT (3, 67, St.setV q) (by simp) (hup 3 (by simp)), hT (5, 3, .bool true) (by simp) (hup 5 (by simp)), Act.put, List.setIfInBounds_toArray, List.set_cons_zero, List.set_cons_succ]
                                clear hae hFr hz h2 h8 h7 hT hup hZ hZq
                                go_wp2_with fail
                                exact bodyPost_ret (results_set2 rfl _ _ w.heap.size q rfl Y) rfl ⟨rfl, hbx⟩
                            · have c11 : (s.toList == [112, 117, 110, 99, 116]) = false := by rw [Ln.toL, beq_eq_false_iff_ne]; exact y11
                              replace y11 : Hid (¬ s.data.toList = [112, 117, 110, 99, 116]) := y11
                              rw [c11]
                              clear c11
                              obtain ⟨rfl, rfl⟩ := HNo.out (by
                                simp only [St.clsE, List.mem_cons, List.not_mem_nil, or_false, forall_eq_or_imp, forall_eq]
                                exact ⟨fun e => y0.out e.symm, fun e => y1.out e.symm, fun e => y2.out e.symm, fun e => y3.out e.symm, fun e => y4.out e.symm, fun e => y5.out e.symm, fun e => y6.out e.symm, fun e => y7.out e.symm, fun e => y8.out e.symm, fun e => y9.out e.symm, fun e => y10.out e.symm, fun e => y11.out e.symm⟩)
                              go_wp2_with fail
                              exact bodyPost_ret (results_set2 rfl _ _ w.heap.size (St.inL []) rfl Z1.putZ) rfl ⟨rfl, putZ_below hB6 (Nat.le_refl _)⟩
end Go.Proofs.Ytmlpfgfpmbnbeaa
