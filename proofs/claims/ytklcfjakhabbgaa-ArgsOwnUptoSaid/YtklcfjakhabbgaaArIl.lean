/- slices.IndexFunc over the table of options, with the closure that looks for a letter. -/
import Derived.Test.YtklcfjakhabbgaaArIx
namespace Go.Proofs.Ytklcfjakhabbgaa
open Go.RowKit

set_option maxRecDepth 100000 in
set_option maxHeartbeats 2000000 in
theorem ixl_any (B lb : Nat) (c : UInt8) (w : World) (hl : w.cell? ⟨lb, 0, none⟩ = some (.string ⟨#[c]⟩)) (hlt : lb < w.heap.size) (hT : KT B w) :
    Calls Try.prog 59 #[.slice (some ⟨B + 11, 0, none⟩) 6 6, .func (.func 62) #[] #[.pointer (some ⟨lb, 0, none⟩)]] w fun e w' => e = .returned (.int .i64 (ixI (fun k => (Ar.letK k).data.toList.contains c))) ∧ Below w.heap.size w w' := by
  obtain ⟨p, hp⟩ : ∃ p : Nat → Bool, p = (fun k => (Ar.letK k).data.toList.contains c) := ⟨_, rfl⟩
  have HP : Hid (∀ k, p k = (fun k => (Ar.letK k).data.toList.contains c) k) := fun k => by rw [hp]
  rw [← hp]
  clear hp
  have HT : Hid _ := hT
  clear hT
  go_enter Try.func59, Try.ntmps59
  go_wp2_with fail
  go_loopw [8] (fun i wr => ∃ k : Nat, k ≤ 6 ∧ i = .int .i64 k ∧ Hid (∀ j, j < k → p j = false) ∧ Hid (Below w.heap.size w wr)) (fun i _ => 6 - (intOf i).toNat)
  case atStart => exact ⟨0, by omega, rfl, fun j hj => absurd hj (by omega), Below.refl _ _⟩
  case round =>
    obtain ⟨k, hk, rfl, HN, HB⟩ := hrel
    have hT1 := HT.out.below HB.out
    have hl1 : wr.cell? ⟨lb, 0, none⟩ = some (.string ⟨#[c]⟩) := (HB.out.cell (p := ⟨lb, 0, none⟩) hlt).trans hl
    have hsz := HB.out.size
    by_cases hlt6 : k < 6
    · match k, hlt6 with
      | 0, _ =>
        have c0 : wr.cell? ⟨B + 11, 0, none⟩ = some (.string (Ar.letK 0)) := hT1.cell 0 0 (by decide) (by decide)
        have c1 : wr.cell? ⟨B + 11, 1, none⟩ = some (.slice (some ⟨B + 2 * 0, 0, none⟩) (Ar.namK 0).length (Ar.namK 0).length) := hT1.cell 0 1 (by decide) (by decide)
        have c2 : wr.cell? ⟨B + 11, 2, none⟩ = some (.int .i64 (Ar.valK 0)) := hT1.cell 0 2 (by decide) (by decide)
        have c3 : wr.cell? ⟨B + 11, 3, none⟩ = some (doK B 0) := hT1.cell 0 3 (by decide) (by decide)
        have HC := lclo_any B lb 0 c wr (by decide) hl1 (by omega)
        have hpk := HP.out 0
        try simp only at hpk
        rw [← hpk] at HC
        have HC' : Hid _ := HC
        clear HC hT1 hl1 hpk
        cases hv : p 0
        · have HN2 : Hid (∀ j, j < 1 → p j = false) := fun j hj => by
            by_cases e : j < 0
            · exact HN.out j e
            · obtain rfl : j = 0 := by omega
              exact hv
          rw [hv] at HC'
          simp only [doK, fnB, Ar.letK, Ar.valK, Ar.namK, List.length_cons, List.length_nil, Nat.zero_add, Nat.reduceAdd, Nat.reduceMul, Nat.add_zero] at HC' c0 c1 c2 c3
          go_wp2_with (go_at_call 62; refine Calls.mono HC'.out ?_; rintro e w1 ⟨rfl, hb⟩; have HB1 : Hid (Below w.heap.size w w1) := below_up HB.out hb (Nat.le_refl _))
          go_roundw
          case rel => exact ⟨1, by decide, rfl, HN2, HB1⟩
          case measure => simp [intOf]
        · have HE : Hid (ixI p = 0) := ixI_yes (by decide) hv HN.out
          rw [hv] at HC'
          simp only [doK, fnB, Ar.letK, Ar.valK, Ar.namK, List.length_cons, List.length_nil, Nat.zero_add, Nat.reduceAdd, Nat.reduceMul, Nat.add_zero] at HC' c0 c1 c2 c3
          go_wp2_with (go_at_call 62; refine Calls.mono HC'.out ?_; rintro e w1 ⟨rfl, hb⟩; have HB1 : Hid (Below w.heap.size w w1) := below_up HB.out hb (Nat.le_refl _))
          go_ret
          exact ⟨ret_int HE.out.symm, HB1.out⟩
      | 1, _ =>
        have c0 : wr.cell? ⟨B + 11, 4, none⟩ = some (.string (Ar.letK 1)) := hT1.cell 1 0 (by decide) (by decide)
        have c1 : wr.cell? ⟨B + 11, 5, none⟩ = some (.slice (some ⟨B + 2 * 1, 0, none⟩) (Ar.namK 1).length (Ar.namK 1).length) := hT1.cell 1 1 (by decide) (by decide)
        have c2 : wr.cell? ⟨B + 11, 6, none⟩ = some (.int .i64 (Ar.valK 1)) := hT1.cell 1 2 (by decide) (by decide)
        have c3 : wr.cell? ⟨B + 11, 7, none⟩ = some (doK B 1) := hT1.cell 1 3 (by decide) (by decide)
        have HC := lclo_any B lb 1 c wr (by decide) hl1 (by omega)
        have hpk := HP.out 1
        try simp only at hpk
        rw [← hpk] at HC
        have HC' : Hid _ := HC
        clear HC hT1 hl1 hpk
        cases hv : p 1
        · have HN2 : Hid (∀ j, j < 2 → p j = false) := fun j hj => by
            by_cases e : j < 1
            · exact HN.out j e
            · obtain rfl : j = 1 := by omega
              exact hv
          rw [hv] at HC'
          simp only [doK, fnB, Ar.letK, Ar.valK, Ar.namK, List.length_cons, List.length_nil, Nat.zero_add, Nat.reduceMul] at HC' c0 c1 c2 c3
          go_wp2_with (go_at_call 62; refine Calls.mono HC'.out ?_; rintro e w1 ⟨rfl, hb⟩; have HB1 : Hid (Below w.heap.size w w1) := below_up HB.out hb (Nat.le_refl _))
          go_roundw
          case rel => exact ⟨2, by decide, rfl, HN2, HB1⟩
          case measure => simp [intOf]
        · have HE : Hid (ixI p = 1) := ixI_yes (by decide) hv HN.out
          rw [hv] at HC'
          simp only [doK, fnB, Ar.letK, Ar.valK, Ar.namK, List.length_cons, List.length_nil, Nat.zero_add, Nat.reduceMul] at HC' c0 c1 c2 c3
          go_wp2_with (go_at_call 62; refine Calls.mono HC'.out ?_; rintro e w1 ⟨rfl, hb⟩; have HB1 : Hid (Below w.heap.size w w1) := below_up HB.out hb (Nat.le_refl _))
          go_ret
          exact ⟨ret_int HE.out.symm, HB1.out⟩
      | 2, _ =>
        have c0 : wr.cell? ⟨B + 11, 8, none⟩ = some (.string (Ar.letK 2)) := hT1.cell 2 0 (by decide) (by decide)
        have c1 : wr.cell? ⟨B + 11, 9, none⟩ = some (.slice (some ⟨B + 2 * 2, 0, none⟩) (Ar.namK 2).length (Ar.namK 2).length) := hT1.cell 2 1 (by decide) (by decide)
        have c2 : wr.cell? ⟨B + 11, 10, none⟩ = some (.int .i64 (Ar.valK 2)) := hT1.cell 2 2 (by decide) (by decide)
        have c3 : wr.cell? ⟨B + 11, 11, none⟩ = some (doK B 2) := hT1.cell 2 3 (by decide) (by decide)
        have HC := lclo_any B lb 2 c wr (by decide) hl1 (by omega)
        have hpk := HP.out 2
        try simp only at hpk
        rw [← hpk] at HC
        have HC' : Hid _ := HC
        clear HC hT1 hl1 hpk
        cases hv : p 2
        · have HN2 : Hid (∀ j, j < 3 → p j = false) := fun j hj => by
            by_cases e : j < 2
            · exact HN.out j e
            · obtain rfl : j = 2 := by omega
              exact hv
          rw [hv] at HC'
          simp only [doK, fnB, Ar.letK, Ar.valK, Ar.namK, List.length_cons, List.length_nil, Nat.zero_add, Nat.reduceMul] at HC' c0 c1 c2 c3
          go_wp2_with (go_at_call 62; refine Calls.mono HC'.out ?_; rintro e w1 ⟨rfl, hb⟩; have HB1 : Hid (Below w.heap.size w w1) := below_up HB.out hb (Nat.le_refl _))
          go_roundw
          case rel => exact ⟨3, by decide, rfl, HN2, HB1⟩
          case measure => simp [intOf]
        · have HE : Hid (ixI p = 2) := ixI_yes (by decide) hv HN.out
          rw [hv] at HC'
          simp only [doK, fnB, Ar.letK, Ar.valK, Ar.namK, List.length_cons, List.length_nil, Nat.zero_add, Nat.reduceMul] at HC' c0 c1 c2 c3
          go_wp2_with (go_at_call 62; refine Calls.mono HC'.out ?_; rintro e w1 ⟨rfl, hb⟩; have HB1 : Hid (Below w.heap.size w w1) := below_up HB.out hb (Nat.le_refl _))
          go_ret
          exact ⟨ret_int HE.out.symm, HB1.out⟩
      | 3, _ =>
        have c0 : wr.cell? ⟨B + 11, 12, none⟩ = some (.string (Ar.letK 3)) := hT1.cell 3 0 (by decide) (by decide)
        have c1 : wr.cell? ⟨B + 11, 13, none⟩ = some (.slice (some ⟨B + 2 * 3, 0, none⟩) (Ar.namK 3).length (Ar.namK 3).length) := hT1.cell 3 1 (by decide) (by decide)
        have c2 : wr.cell? ⟨B + 11, 14, none⟩ = some (.int .i64 (Ar.valK 3)) := hT1.cell 3 2 (by decide) (by decide)
        have c3 : wr.cell? ⟨B + 11, 15, none⟩ = some (doK B 3) := hT1.cell 3 3 (by decide) (by decide)
        have HC := lclo_any B lb 3 c wr (by decide) hl1 (by omega)
        have hpk := HP.out 3
        try simp only at hpk
        rw [← hpk] at HC
        have HC' : Hid _ := HC
        clear HC hT1 hl1 hpk
        cases hv : p 3
        · have HN2 : Hid (∀ j, j < 4 → p j = false) := fun j hj => by
            by_cases e : j < 3
            · exact HN.out j e
            · obtain rfl : j = 3 := by omega
              exact hv
          rw [hv] at HC'
          simp only [doK, fnB, Ar.letK, Ar.valK, Ar.namK, List.length_cons, List.length_nil, Nat.zero_add, Nat.reduceMul] at HC' c0 c1 c2 c3
          go_wp2_with (go_at_call 62; refine Calls.mono HC'.out ?_; rintro e w1 ⟨rfl, hb⟩; have HB1 : Hid (Below w.heap.size w w1) := below_up HB.out hb (Nat.le_refl _))
          go_roundw
          case rel => exact ⟨4, by decide, rfl, HN2, HB1⟩
          case measure => simp [intOf]
        · have HE : Hid (ixI p = 3) := ixI_yes (by decide) hv HN.out
          rw [hv] at HC'
          simp only [doK, fnB, Ar.letK, Ar.valK, Ar.namK, List.length_cons, List.length_nil, Nat.zero_add, Nat.reduceMul] at HC' c0 c1 c2 c3
          go_wp2_with (go_at_call 62; refine Calls.mono HC'.out ?_; rintro e w1 ⟨rfl, hb⟩; have HB1 : Hid (Below w.heap.size w w1) := below_up HB.out hb (Nat.le_refl _))
          go_ret
          exact ⟨ret_int HE.out.symm, HB1.out⟩
      | 4, _ =>
        have c0 : wr.cell? ⟨B + 11, 16, none⟩ = some (.string (Ar.letK 4)) := hT1.cell 4 0 (by decide) (by decide)
        have c1 : wr.cell? ⟨B + 11, 17, none⟩ = some (.slice (some ⟨B + 2 * 4, 0, none⟩) (Ar.namK 4).length (Ar.namK 4).length) := hT1.cell 4 1 (by decide) (by decide)
        have c2 : wr.cell? ⟨B + 11, 18, none⟩ = some (.int .i64 (Ar.valK 4)) := hT1.cell 4 2 (by decide) (by decide)
        have c3 : wr.cell? ⟨B + 11, 19, none⟩ = some (doK B 4) := hT1.cell 4 3 (by decide) (by decide)
        have HC := lclo_any B lb 4 c wr (by decide) hl1 (by omega)
        have hpk := HP.out 4
        try simp only at hpk
        rw [← hpk] at HC
        have HC' : Hid _ := HC
        clear HC hT1 hl1 hpk
        cases hv : p 4
        · have HN2 : Hid (∀ j, j < 5 → p j = false) := fun j hj => by
            by_cases e : j < 4
            · exact HN.out j e
            · obtain rfl : j = 4 := by omega
              exact hv
          rw [hv] at HC'
          simp only [doK, fnB, Ar.letK, Ar.valK, Ar.namK, List.length_cons, List.length_nil, Nat.zero_add, Nat.reduceMul] at HC' c0 c1 c2 c3
          go_wp2_with (go_at_call 62; refine Calls.mono HC'.out ?_; rintro e w1 ⟨rfl, hb⟩; have HB1 : Hid (Below w.heap.size w w1) := below_up HB.out hb (Nat.le_refl _))
          go_roundw
          case rel => exact ⟨5, by decide, rfl, HN2, HB1⟩
          case measure => simp [intOf]
        · have HE : Hid (ixI p = 4) := ixI_yes (by decide) hv HN.out
          rw [hv] at HC'
          simp only [doK, fnB, Ar.letK, Ar.valK, Ar.namK, List.length_cons, List.length_nil, Nat.zero_add, Nat.reduceMul] at HC' c0 c1 c2 c3
          go_wp2_with (go_at_call 62; refine Calls.mono HC'.out ?_; rintro e w1 ⟨rfl, hb⟩; have HB1 : Hid (Below w.heap.size w w1) := below_up HB.out hb (Nat.le_refl _))
          go_ret
          exact ⟨ret_int HE.out.symm, HB1.out⟩
      | 5, _ =>
        have c0 : wr.cell? ⟨B + 11, 20, none⟩ = some (.string (Ar.letK 5)) := hT1.cell 5 0 (by decide) (by decide)
        have c1 : wr.cell? ⟨B + 11, 21, none⟩ = some (.slice (some ⟨B + 2 * 5, 0, none⟩) (Ar.namK 5).length (Ar.namK 5).length) := hT1.cell 5 1 (by decide) (by decide)
        have c2 : wr.cell? ⟨B + 11, 22, none⟩ = some (.int .i64 (Ar.valK 5)) := hT1.cell 5 2 (by decide) (by decide)
        have c3 : wr.cell? ⟨B + 11, 23, none⟩ = some (doK B 5) := hT1.cell 5 3 (by decide) (by decide)
        have HC := lclo_any B lb 5 c wr (by decide) hl1 (by omega)
        have hpk := HP.out 5
        try simp only at hpk
        rw [← hpk] at HC
        have HC' : Hid _ := HC
        clear HC hT1 hl1 hpk
        cases hv : p 5
        · have HN2 : Hid (∀ j, j < 6 → p j = false) := fun j hj => by
            by_cases e : j < 5
            · exact HN.out j e
            · obtain rfl : j = 5 := by omega
              exact hv
          rw [hv] at HC'
          simp only [doK, fnV, Ar.letK, Ar.valK, Ar.namK, List.length_cons, List.length_nil, Nat.zero_add, Nat.reduceMul] at HC' c0 c1 c2 c3
          go_wp2_with (go_at_call 62; refine Calls.mono HC'.out ?_; rintro e w1 ⟨rfl, hb⟩; have HB1 : Hid (Below w.heap.size w w1) := below_up HB.out hb (Nat.le_refl _))
          go_roundw
          case rel => exact ⟨6, by decide, rfl, HN2, HB1⟩
          case measure => simp [intOf]
        · have HE : Hid (ixI p = 5) := ixI_yes (by decide) hv HN.out
          rw [hv] at HC'
          simp only [doK, fnV, Ar.letK, Ar.valK, Ar.namK, List.length_cons, List.length_nil, Nat.zero_add, Nat.reduceMul] at HC' c0 c1 c2 c3
          go_wp2_with (go_at_call 62; refine Calls.mono HC'.out ?_; rintro e w1 ⟨rfl, hb⟩; have HB1 : Hid (Below w.heap.size w w1) := below_up HB.out hb (Nat.le_refl _))
          go_ret
          exact ⟨ret_int HE.out.symm, HB1.out⟩
    · have i1 : ¬ (k : Int) < 6 := by omega
      have HE : Hid (ixI p = -1) := ixI_no (fun j hj => HN.out j (by omega))
      clear hT1 hl1
      go_wp2_with fail
      go_ret
      exact ⟨ret_int HE.out.symm, HB.out⟩
end Go.Proofs.Ytklcfjakhabbgaa
