/- What SetsMade answers. -/
import Derived.Test.YtmlpfgfpmbnbeaaSRCls
import Derived.Test.YtmlpfgfpmbnbeaaLawSTurned
import Derived.Test.YtmlpfgfpmbnbeaaSSame
import Derived.Deep.RegionHeld3
namespace Go.Proofs.Ytmlpfgfpmbnbeaa
open Go.RowKit

set_option maxRecDepth 100000 in
set_option maxHeartbeats 4000000 in
theorem made_law (a : Option Addr) (cap : Nat) (l : List UInt8) (p : Nat → Bool) (n m : Nat) (s : ByteArray) (w : World) (hB : Bys w a l) (hn : n < 256) (hm : m < 256) (hs : s.size ≤ maxLen) :
    Calls Try.prog 3 #[.slice a l.length cap, St.setV p, .int .u8 (n : Int), .int .u8 (m : Int), .string s] w fun e w' => e = .returned (.bool true) ∧ Below w.heap.size w w' := by
  have HLV : Hid (∀ w, Calls Try.prog 11 #[] w fun e w' => e = .returned (.bool true) ∧ Below w.heap.size w w') := lives_any
  have HC1 : Hid (∀ w, Calls Try.prog 9 #[.string s] w fun e w' => e = .returned (.tuple #[St.setV (St.clsV s.data.toList), .bool (St.clsB s.data.toList)]) ∧ Below w.heap.size w w') := fun w => class_any s w hs
  have HC2 : Hid (∀ w, Calls Try.prog 10 #[.string s] w fun e w' => e = .returned (.tuple #[St.setV (St.clsV s.data.toList), .bool (St.clsB s.data.toList)]) ∧ Below w.heap.size w w') := fun w => rclass_any s w
  generalize St.clsV s.data.toList = q at *
  generalize St.clsB s.data.toList = ok at *
  obtain ⟨il, hil⟩ : ∃ il : Nat → Bool, il = St.inL l := ⟨_, rfl⟩
  obtain ⟨rg, hrg⟩ : ∃ rg : Nat → Bool, rg = St.rng n m := ⟨_, rfl⟩
  obtain ⟨len, hlen⟩ : ∃ len, len = l.length := ⟨_, rfl⟩
  have HOf : Hid (∀ w, Bys w a l → Calls Try.prog 12 #[.slice a len cap] w fun e w' => e = .returned (St.setV il) ∧ Below w.heap.size w w') := fun w h => by rw [hil, hlen]; exact of_any a cap l w h
  have HOf2 : Hid (∀ w, Bys w a l → Calls Try.prog 13 #[.slice a len cap] w fun e w' => e = .returned (St.setV il) ∧ Below w.heap.size w w') := fun w h => by rw [hil, hlen]; exact rof_any a cap l w h
  have HR1 : Hid (∀ w, Calls Try.prog 20 #[.int .u8 (n : Int), .int .u8 (m : Int)] w fun e w' => e = .returned (St.setV rg) ∧ Below w.heap.size w w') := fun w => by rw [hrg]; exact range_any n m w hn hm
  have HR2 : Hid (∀ w, Calls Try.prog 21 #[.int .u8 (n : Int), .int .u8 (m : Int)] w fun e w' => e = .returned (St.setV rg) ∧ Below w.heap.size w w') := fun w => by rw [hrg]; exact rrange_any n m w hn hm
  have HH1 : Hid (∀ w, Calls Try.prog 17 #[St.setV p, .int .u8 (n : Int)] w fun e w' => e = .returned (.bool (p n)) ∧ Below w.heap.size w w') := fun w => has_any p n hn w
  have HH2 : Hid (∀ w, Calls Try.prog 18 #[St.setV p, .int .u8 (n : Int)] w fun e w' => e = .returned (.bool (p n)) ∧ Below w.heap.size w w') := fun w => rhas_any p n hn w
  generalize p n = bv at *
  have hcl := St.cnt_le p 256
  have HL : Hid ((St.lst p 256).length = St.cnt p 256) := St.lst_length p 256
  have HB1 : Hid (∀ w1, Calls Try.prog 15 #[St.setV p] w1 fun e w' => ∃ a cap, e = .returned (.slice a (St.cnt p 256) cap) ∧ Bys w' a (St.lst p 256) ∧ Below w1.heap.size w1 w') := fun w1 => by
    refine (bytes_any p w1).mono ?_
    rintro e w' ⟨v, he, hown, hb⟩
    obtain ⟨a, cap, rfl, hB, _⟩ := own_bys hown HL.out hcl
    exact ⟨a, cap, he, hB, hb⟩
  have HB2 : Hid (∀ w1, Calls Try.prog 16 #[St.setV p] w1 fun e w' => ∃ a cap, e = .returned (.slice a (St.cnt p 256) cap) ∧ Bys w' a (St.lst p 256) ∧ Below w1.heap.size w1 w') := fun w1 => by
    refine (rbytes_any p w1).mono ?_
    rintro e w' ⟨v, he, hown, hb⟩
    obtain ⟨a, cap, rfl, hB, _⟩ := own_bys hown HL.out hcl
    exact ⟨a, cap, he, hB, hb⟩
  have HSa : Hid (∀ w a1 c1 a2 c2, Bys w a1 (St.lst p 256) → Bys w a2 (St.lst p 256) → Calls Try.prog 14 #[.slice a1 (St.cnt p 256) c1, .slice a2 (St.cnt p 256) c2] w fun e w' => e = .returned (.bool true) ∧ Below w.heap.size w w') := fun w a1 c1 a2 c2 h1 h2 => by
    rw [← HL.out]
    refine (same_any a1 a2 c1 c2 _ w h1 h2).mono ?_
    rintro e w' ⟨he, k, rfl⟩
    exact ⟨he, Below.drewN (Below.refl _ _) k⟩
  have HCo : Hid (∀ w, Calls Try.prog 19 #[St.setV p] w fun e w' => e = .returned (.int .i64 (St.cnt p 256 : Nat)) ∧ Below w.heap.size w w') := fun w => count_any p w
  have hl := hB.len
  rw [← hlen] at hl ⊢
  clear hil hrg hlen HL
  generalize St.cnt p 256 = k at *
  generalize St.lst p 256 = LL at *
  have E1 := set_eqn il
  have E2 := set_eqn rg
  have E3 := set_eqn q
  simp only [St.setV] at HC1 HC2 HOf HOf2 HR1 HR2 HH1 HH2 HB1 HB2 HCo ⊢
  go_enter Try.func3, Try.ntmps3
  go_wp2_with fail
  refine (HC1.out _).mono ?_
  rintro x w1 ⟨rfl, hb1⟩
  have S1 : SetAt w1 w.heap.size p := SetAt.under (hb := hb1) (h := at_new w p)
  have hB1 : Below w.heap.size w w1 := ((Below.refl _ _).alloc (Nat.le_refl _) _).trans (hb1.mono (by simp))
  clear hb1
  replace S1 := S1.alloc (.cells #[.int .u64 (St.wd q 0 : Nat), .int .u64 (St.wd q 1 : Nat), .int .u64 (St.wd q 2 : Nat), .int .u64 (St.wd q 3 : Nat)] 25)
  have S11 := at_new w1 q
  have hB1' := hB1.alloc hB1.size (.cells #[.int .u64 (St.wd q 0 : Nat), .int .u64 (St.wd q 1 : Nat), .int .u64 (St.wd q 2 : Nat), .int .u64 (St.wd q 3 : Nat)] 25)
  go_wp2_with fail
  refine (HC2.out _).mono ?_
  rintro x w2 ⟨rfl, hb2⟩
  replace S1 := (S1.under hb2).alloc (.cells #[.int .u64 (St.wd q 0 : Nat), .int .u64 (St.wd q 1 : Nat), .int .u64 (St.wd q 2 : Nat), .int .u64 (St.wd q 3 : Nat)] 25)
  replace S11 := (S11.under hb2).alloc (.cells #[.int .u64 (St.wd q 0 : Nat), .int .u64 (St.wd q 1 : Nat), .int .u64 (St.wd q 2 : Nat), .int .u64 (St.wd q 3 : Nat)] 25)
  have S13 := at_new w2 q
  have hB2 := (Below.more hB1' hb2 hB1'.size).alloc (Nat.le_trans hB1'.size hb2.size) (.cells #[.int .u64 (St.wd q 0 : Nat), .int .u64 (St.wd q 1 : Nat), .int .u64 (St.wd q 2 : Nat), .int .u64 (St.wd q 3 : Nat)] 25)
  clear hb2 hB1 hB1'
  go_upto_region 3 with fail
  obtain ⟨g11, h11⟩ : ∃ g11, g11 = w1.heap.size := ⟨_, rfl⟩
  obtain ⟨g13, h13⟩ : ∃ g13, g13 = w2.heap.size := ⟨_, rfl⟩
  rw [← h11] at S11
  rw [← h13] at S13
  obtain ⟨W, hW⟩ : ∃ W, W = w2.alloc (.cells #[.int .u64 (St.wd q 0 : Nat), .int .u64 (St.wd q 1 : Nat), .int .u64 (St.wd q 2 : Nat), .int .u64 (St.wd q 3 : Nat)] 25) := ⟨_, rfl⟩
  rw [← hW] at S1 S11 S13 hB2
  rw [← h11, ← h13, ← hW]
  clear hW h11 h13
  have HBy : Hid (∀ wx, Below w.heap.size w wx → Bys wx a l) := fun wx hb => hB.below hb
  clear hB
  obtain ⟨SS, hSS⟩ : ∃ SS : World → Prop, SS = fun wx => SetAt wx w.heap.size p ∧ SetAt wx g11 q ∧ SetAt wx g13 q ∧ Below w.heap.size w wx := ⟨_, rfl⟩
  have HCell : Hid (∀ wx, SS wx → (fun wx => wx.cell? ⟨w.heap.size, 0, none⟩ = some (.int .u64 (St.wd p 0 : Nat)) ∧ wx.cell? ⟨w.heap.size, 1, none⟩ = some (.int .u64 (St.wd p 1 : Nat)) ∧ wx.cell? ⟨w.heap.size, 2, none⟩ = some (.int .u64 (St.wd p 2 : Nat)) ∧ wx.cell? ⟨w.heap.size, 3, none⟩ = some (.int .u64 (St.wd p 3 : Nat)) ∧ wx.cell? ⟨g11, 0, none⟩ = some (.int .u64 (St.wd q 0 : Nat)) ∧ wx.cell? ⟨g11, 1, none⟩ = some (.int .u64 (St.wd q 1 : Nat)) ∧ wx.cell? ⟨g11, 2, none⟩ = some (.int .u64 (St.wd q 2 : Nat)) ∧ wx.cell? ⟨g11, 3, none⟩ = some (.int .u64 (St.wd q 3 : Nat)) ∧ wx.cell? ⟨g13, 0, none⟩ = some (.int .u64 (St.wd q 0 : Nat)) ∧ wx.cell? ⟨g13, 1, none⟩ = some (.int .u64 (St.wd q 1 : Nat)) ∧ wx.cell? ⟨g13, 2, none⟩ = some (.int .u64 (St.wd q 2 : Nat)) ∧ wx.cell? ⟨g13, 3, none⟩ = some (.int .u64 (St.wd q 3 : Nat)) ∧ SS wx) wx) := by
    intro wx h
    have h0 := h
    rw [hSS] at h
    obtain ⟨h1, h2, h3, _⟩ := h
    obtain ⟨a0, a1, a2, a3⟩ := h1.cells
    obtain ⟨b0, b1, b2, b3⟩ := h2.cells
    obtain ⟨c0, c1, c2, c3⟩ := h3.cells
    exact ⟨a0, a1, a2, a3, b0, b1, b2, b3, c0, c1, c2, c3, h0⟩
  have hS00 : SS W.drew := by rw [hSS]; exact ⟨S1, S11, S13, hB2.drew⟩
  have hS0 : Hid ((fun wx => wx.cell? ⟨w.heap.size, 0, none⟩ = some (.int .u64 (St.wd p 0 : Nat)) ∧ wx.cell? ⟨w.heap.size, 1, none⟩ = some (.int .u64 (St.wd p 1 : Nat)) ∧ wx.cell? ⟨w.heap.size, 2, none⟩ = some (.int .u64 (St.wd p 2 : Nat)) ∧ wx.cell? ⟨w.heap.size, 3, none⟩ = some (.int .u64 (St.wd p 3 : Nat)) ∧ wx.cell? ⟨g11, 0, none⟩ = some (.int .u64 (St.wd q 0 : Nat)) ∧ wx.cell? ⟨g11, 1, none⟩ = some (.int .u64 (St.wd q 1 : Nat)) ∧ wx.cell? ⟨g11, 2, none⟩ = some (.int .u64 (St.wd q 2 : Nat)) ∧ wx.cell? ⟨g11, 3, none⟩ = some (.int .u64 (St.wd q 3 : Nat)) ∧ wx.cell? ⟨g13, 0, none⟩ = some (.int .u64 (St.wd q 0 : Nat)) ∧ wx.cell? ⟨g13, 1, none⟩ = some (.int .u64 (St.wd q 1 : Nat)) ∧ wx.cell? ⟨g13, 2, none⟩ = some (.int .u64 (St.wd q 2 : Nat)) ∧ wx.cell? ⟨g13, 3, none⟩ = some (.int .u64 (St.wd q 3 : Nat)) ∧ SS wx) W.drew) := HCell.out _ hS00
  have HKeep : Hid (∀ wa wn, Below wa.heap.size wa wn → (fun wx => wx.cell? ⟨w.heap.size, 0, none⟩ = some (.int .u64 (St.wd p 0 : Nat)) ∧ wx.cell? ⟨w.heap.size, 1, none⟩ = some (.int .u64 (St.wd p 1 : Nat)) ∧ wx.cell? ⟨w.heap.size, 2, none⟩ = some (.int .u64 (St.wd p 2 : Nat)) ∧ wx.cell? ⟨w.heap.size, 3, none⟩ = some (.int .u64 (St.wd p 3 : Nat)) ∧ wx.cell? ⟨g11, 0, none⟩ = some (.int .u64 (St.wd q 0 : Nat)) ∧ wx.cell? ⟨g11, 1, none⟩ = some (.int .u64 (St.wd q 1 : Nat)) ∧ wx.cell? ⟨g11, 2, none⟩ = some (.int .u64 (St.wd q 2 : Nat)) ∧ wx.cell? ⟨g11, 3, none⟩ = some (.int .u64 (St.wd q 3 : Nat)) ∧ wx.cell? ⟨g13, 0, none⟩ = some (.int .u64 (St.wd q 0 : Nat)) ∧ wx.cell? ⟨g13, 1, none⟩ = some (.int .u64 (St.wd q 1 : Nat)) ∧ wx.cell? ⟨g13, 2, none⟩ = some (.int .u64 (St.wd q 2 : Nat)) ∧ wx.cell? ⟨g13, 3, none⟩ = some (.int .u64 (St.wd q 3 : Nat)) ∧ SS wx) wa → (fun wx => wx.cell? ⟨w.heap.size, 0, none⟩ = some (.int .u64 (St.wd p 0 : Nat)) ∧ wx.cell? ⟨w.heap.size, 1, none⟩ = some (.int .u64 (St.wd p 1 : Nat)) ∧ wx.cell? ⟨w.heap.size, 2, none⟩ = some (.int .u64 (St.wd p 2 : Nat)) ∧ wx.cell? ⟨w.heap.size, 3, none⟩ = some (.int .u64 (St.wd p 3 : Nat)) ∧ wx.cell? ⟨g11, 0, none⟩ = some (.int .u64 (St.wd q 0 : Nat)) ∧ wx.cell? ⟨g11, 1, none⟩ = some (.int .u64 (St.wd q 1 : Nat)) ∧ wx.cell? ⟨g11, 2, none⟩ = some (.int .u64 (St.wd q 2 : Nat)) ∧ wx.cell? ⟨g11, 3, none⟩ = some (.int .u64 (St.wd q 3 : Nat)) ∧ wx.cell? ⟨g13, 0, none⟩ = some (.int .u64 (St.wd q 0 : Nat)) ∧ wx.cell? ⟨g13, 1, none⟩ = some (.int .u64 (St.wd q 1 : Nat)) ∧ wx.cell? ⟨g13, 2, none⟩ = some (.int .u64 (St.wd q 2 : Nat)) ∧ wx.cell? ⟨g13, 3, none⟩ = some (.int .u64 (St.wd q 3 : Nat)) ∧ SS wx) wn) := by
    intro wa wn hb hh
    have h : SS wa := hh.2.2.2.2.2.2.2.2.2.2.2.2
    clear hh
    refine HCell.out wn ?_
    rw [hSS] at h ⊢
    obtain ⟨h1, h2, h3, h7⟩ := h
    exact ⟨h1.under hb, h2.under hb, h3.under hb, Below.more h7 hb h7.size⟩
  have HKB : Hid (∀ wn, (fun wx => wx.cell? ⟨w.heap.size, 0, none⟩ = some (.int .u64 (St.wd p 0 : Nat)) ∧ wx.cell? ⟨w.heap.size, 1, none⟩ = some (.int .u64 (St.wd p 1 : Nat)) ∧ wx.cell? ⟨w.heap.size, 2, none⟩ = some (.int .u64 (St.wd p 2 : Nat)) ∧ wx.cell? ⟨w.heap.size, 3, none⟩ = some (.int .u64 (St.wd p 3 : Nat)) ∧ wx.cell? ⟨g11, 0, none⟩ = some (.int .u64 (St.wd q 0 : Nat)) ∧ wx.cell? ⟨g11, 1, none⟩ = some (.int .u64 (St.wd q 1 : Nat)) ∧ wx.cell? ⟨g11, 2, none⟩ = some (.int .u64 (St.wd q 2 : Nat)) ∧ wx.cell? ⟨g11, 3, none⟩ = some (.int .u64 (St.wd q 3 : Nat)) ∧ wx.cell? ⟨g13, 0, none⟩ = some (.int .u64 (St.wd q 0 : Nat)) ∧ wx.cell? ⟨g13, 1, none⟩ = some (.int .u64 (St.wd q 1 : Nat)) ∧ wx.cell? ⟨g13, 2, none⟩ = some (.int .u64 (St.wd q 2 : Nat)) ∧ wx.cell? ⟨g13, 3, none⟩ = some (.int .u64 (St.wd q 3 : Nat)) ∧ SS wx) wn → Below w.heap.size w wn) := by
    intro wn hh
    have h : SS wn := hh.2.2.2.2.2.2.2.2.2.2.2.2
    rw [hSS] at h
    exact h.2.2.2
  clear hSS S1 S11 S13 hB2 HCell hS00
  go_region_held3 (fun wx => wx.cell? ⟨w.heap.size, 0, none⟩ = some (.int .u64 (St.wd p 0 : Nat)) ∧ wx.cell? ⟨w.heap.size, 1, none⟩ = some (.int .u64 (St.wd p 1 : Nat)) ∧ wx.cell? ⟨w.heap.size, 2, none⟩ = some (.int .u64 (St.wd p 2 : Nat)) ∧ wx.cell? ⟨w.heap.size, 3, none⟩ = some (.int .u64 (St.wd p 3 : Nat)) ∧ wx.cell? ⟨g11, 0, none⟩ = some (.int .u64 (St.wd q 0 : Nat)) ∧ wx.cell? ⟨g11, 1, none⟩ = some (.int .u64 (St.wd q 1 : Nat)) ∧ wx.cell? ⟨g11, 2, none⟩ = some (.int .u64 (St.wd q 2 : Nat)) ∧ wx.cell? ⟨g11, 3, none⟩ = some (.int .u64 (St.wd q 3 : Nat)) ∧ wx.cell? ⟨g13, 0, none⟩ = some (.int .u64 (St.wd q 0 : Nat)) ∧ wx.cell? ⟨g13, 1, none⟩ = some (.int .u64 (St.wd q 1 : Nat)) ∧ wx.cell? ⟨g13, 2, none⟩ = some (.int .u64 (St.wd q 2 : Nat)) ∧ wx.cell? ⟨g13, 3, none⟩ = some (.int .u64 (St.wd q 3 : Nat)) ∧ SS wx) ((first | exact hS0.out | exact HKeep.out _ _ hb (by assumption))) (first
    | (go_at_call 11; refine (HLV.out _).mono ?_; rintro x wn ⟨rfl, hb⟩)
    | (go_at_call 12; refine (HOf.out _ (HBy.out _ (HKB.out _ (by assumption)))).mono ?_; rintro x wn ⟨rfl, hb⟩)
    | (go_at_call 13; refine (HOf2.out _ (HBy.out _ (HKB.out _ (by assumption)))).mono ?_; rintro x wn ⟨rfl, hb⟩)
    | (go_at_call 15; refine (HB1.out _).mono ?_; rintro x wn ⟨ba, bc, rfl, hBA, hb⟩)
    | (go_at_call 16; refine (HB2.out _).mono ?_; rintro x wn ⟨bb, bd, rfl, hBB, hb⟩; try have hBA' := hBA.below hb)
    | (go_at_call 14; refine (HSa.out _ _ _ _ _ hBA' hBB).mono ?_; rintro x wn ⟨rfl, hb⟩)
    | (go_at_call 17; refine (HH1.out _).mono ?_; rintro x wn ⟨rfl, hb⟩)
    | (go_at_call 18; refine (HH2.out _).mono ?_; rintro x wn ⟨rfl, hb⟩)
    | (go_at_call 19; refine (HCo.out _).mono ?_; rintro x wn ⟨rfl, hb⟩)
    | (go_at_call 20; refine (HR1.out _).mono ?_; rintro x wn ⟨rfl, hb⟩)
    | (go_at_call 21; refine (HR2.out _).mono ?_; rintro x wn ⟨rfl, hb⟩))
  all_goals
    go_wp2_with fail
    go_ret
    exact ⟨rfl, HKB.out _ (by assumption)⟩
end Go.Proofs.Ytmlpfgfpmbnbeaa
