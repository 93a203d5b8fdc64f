/- What the law NfaLongest answers: true, of any program, text and place. -/
import Derived.Test.YtdiokclbdaojpaaDoorNfM14
import Derived.Test.YtdiokclbdaojpaaDoorNfM13
import Derived.Test.YtdiokclbdaojpaaDoorNfM15
import Derived.Test.YtdiokclbdaojpaaDoorNfM17
import Derived.Deep.RegionHeld3
namespace Go.Proofs.YtdiokclbdaojpaaDoor
open Go Go.RowKit Go.Shelf

namespace Nt
theorem right_one {gr sl : Int} {L : List Ins} (h : rightP gr sl L = true) : OneM L := by
  intro j hj hk
  have hg : L.getD j iEnd = L[j] := by rw [List.getD_eq_getElem?_getD, List.getElem?_eq_getElem hj]; rfl
  rw [hg] at hk
  exact (right_at h hj).1.1 hk
theorem mtR_bad {gr sl : Int} {L : List Ins} {s : ByteArray} {fr : Int} (h : (mtR gr sl L s fr).2 ≠ 0) : mtR gr sl L s fr = (((0, 0), false), (enR gr sl L s fr).2) := by
  unfold mtR at h
  unfold mtR enR
  split at h
  · rename_i hr
    split at h
    · exact absurd rfl h
    · rename_i hf
      rw [if_pos hr, if_neg hf, if_pos hr, if_neg hf]
  · rename_i hr
    rw [if_neg hr, if_neg hr]
theorem mtR_ok {gr sl : Int} {L : List Ins} {s : ByteArray} {fr : Int} (h : (mtR gr sl L s fr).2 = 0) : rbE gr sl L = 0 ∧ 0 ≤ fr ∧ fr ≤ (s.size : Int) := by
  unfold mtR at h
  split at h
  · rename_i hr
    split at h
    · rename_i hf
      exact ⟨hr, hf⟩
    · cases h
  · rename_i hr
    exact absurd h hr
end Nt

set_option maxRecDepth 100000 in
set_option maxHeartbeats 8000000 in
theorem law_longest (gr sl : Int) (a : Option Addr) (cap : Nat) (L : List Nt.Ins) (s : ByteArray) (fr : Int) (w : World) (hc : Nt.Cds w w.heap.size a cap L) (hT : Nt.Tabs w) (hk : ∀ x ∈ L, x.k ≤ 255) (hs : s.size ≤ 1048576) :
    Calls Tryd.prog 6 #[.agg #[.int .i64 gr, .int .i64 sl, .slice a L.length cap], .string s, .int .i64 fr] w fun e w' => e = .returned (.bool true) ∧ Below w.heap.size w w' := by
  obtain ⟨W0, hW0⟩ : ∃ W0, W0 = w.alloc (.cells #[.int .i64 gr, .int .i64 sl, .slice a L.length cap] 35) := ⟨_, rfl⟩
  have hB0 : Below w.heap.size w W0 := by rw [hW0]; exact (Below.refl w.heap.size w).alloc (Nat.le_refl _) _
  have sz0 : W0.heap.size = w.heap.size + 1 := by rw [hW0]; simp
  have p0 : W0.heap[w.heap.size]? = some (.cells #[.int .i64 gr, .int .i64 sl, .slice a L.length cap] 35 (0, 0)) := by rw [hW0]; exact World.alloc_heap_new _ _
  have hBg := begins_any W0 (hT.under hB0)
  have HP : Hid (∀ w', Below W0.heap.size W0 w' → w'.cell? ⟨w.heap.size, 0, none⟩ = some (.int .i64 gr) ∧ w'.cell? ⟨w.heap.size, 1, none⟩ = some (.int .i64 sl) ∧ w'.cell? ⟨w.heap.size, 2, none⟩ = some (.slice a L.length cap)) := fun w' hb => by
    have h := (hb.block w.heap.size (by omega)).trans p0
    exact ⟨cell_of_row w' _ 0 _ _ _ h, cell_of_row w' _ 1 _ _ _ h, cell_of_row w' _ 2 _ _ _ h⟩
  have HW : Hid (∀ w', Below W0.heap.size W0 w' → Below w.heap.size w w') := fun w' hb => hB0.trans (hb.mono (by omega))
  have HMt : Hid (∀ w', Below W0.heap.size W0 w' → Calls Tryd.prog 24 #[.agg #[.int .i64 gr, .int .i64 sl, .slice a L.length cap], .string s, .int .i64 fr] w' fun e w2 => e = .returned (.tuple #[.agg #[.int .i64 ((Nt.mtR gr sl L s fr).1.1.1 : Int), .int .i64 ((Nt.mtR gr sl L s fr).1.1.2 : Int)], .bool (Nt.mtR gr sl L s fr).1.2, .int .i64 (Nt.mtR gr sl L s fr).2]) ∧ Below w'.heap.size w' w2) := fun w' hb => match_any gr sl a cap L s fr w' (hc.under (HW.out w' hb) (HW.out w' hb).size) (hT.under (HW.out w' hb)) hk hs
  have HEn : Hid (∀ (i : Int) w', Below W0.heap.size W0 w' → Calls Tryd.prog 19 #[.agg #[.int .i64 gr, .int .i64 sl, .slice a L.length cap], .string s, .int .i64 i] w' fun e w2 => ∃ v, e = .returned (.tuple #[v, .int .i64 (Nt.enR gr sl L s i).2]) ∧ w2.ownsRow w'.heap.size 3 1 v (Nt.enR gr sl L s i).1.length (Nt.icellsN (Nt.enR gr sl L s i).1) ∧ Below w'.heap.size w' w2) := fun i w' hb => ends_fn gr sl a cap L s i w' (hc.under (HW.out w' hb) (HW.out w' hb).size) (hT.under (HW.out w' hb)) hk hs
  have HWh : Hid (∀ (i j : Int) w', Below W0.heap.size W0 w' → Calls Tryd.prog 22 #[.agg #[.int .i64 gr, .int .i64 sl, .slice a L.length cap], .string s, .agg #[.int .i64 i, .int .i64 j]] w' fun e w2 => e = .returned (.tuple #[.bool (Nt.whR gr sl L s i j).1, .int .i64 (Nt.whR gr sl L s i j).2]) ∧ Below w'.heap.size w' w2) := fun i j w' hb => whole_any gr sl a cap L s i j w' (hc.under (HW.out w' hb) (HW.out w' hb).size) (hT.under (HW.out w' hb)) hk hs
  clear hB0 p0 hc hT hk
  by_cases hE : (Nt.mtR gr sl L s fr).2 = 0
  · obtain ⟨hr, hf⟩ := Nt.mtR_ok hE
    have hri := Nt.rb_right hr
    obtain ⟨f, rfl⟩ : ∃ f : Nat, fr = (f : Int) := ⟨fr.toNat, by omega⟩
    have hM : Nt.mtR gr sl L s (f : Int) = (Nt.lastS (Nt.endsP L s f s.size s.size), 0) := by rw [Nt.mtR, if_pos hr, if_pos hf]; rfl
    rw [hM] at HMt
    have HEn2 : Hid (∀ (i : Nat) w', i ≤ s.size → Below W0.heap.size W0 w' → Calls Tryd.prog 19 #[.agg #[.int .i64 gr, .int .i64 sl, .slice a L.length cap], .string s, .int .i64 (i : Int)] w' fun e w2 => ∃ va ca, e = .returned (.tuple #[.slice va (Nt.endsA L s i).length ca, .int .i64 0]) ∧ w2.ownsRow w'.heap.size 3 1 (.slice va (Nt.endsA L s i).length ca) (Nt.endsA L s i).length (Nt.icellsN (Nt.endsA L s i)) ∧ (Nt.endsA L s i).length ≤ 17179885568 ∧ Below w'.heap.size w' w2) := fun i w' hi hb => by
      refine (HEn.out (i : Int) w' hb).mono ?_
      have hl := Nt.enR_len gr sl L s (i : Int) hs
      rintro e w2 ⟨v, rfl, ho, hb2⟩
      have e1 : Nt.enR gr sl L s (i : Int) = (Nt.endsA L s i, 0) := by rw [Nt.enR, if_pos hr, if_pos ⟨by omega, by omega⟩]; rfl
      rw [e1] at ho hl ⊢
      obtain ⟨va, ca, rfl⟩ := Nt.own_form ho
      exact ⟨va, ca, rfl, ho, hl, hb2⟩
    have HWh2 : Hid (∀ (i j : Nat) w', i ≤ s.size → j ∈ Nt.endsA L s i → Below W0.heap.size W0 w' → Calls Tryd.prog 22 #[.agg #[.int .i64 gr, .int .i64 sl, .slice a L.length cap], .string s, .agg #[.int .i64 (i : Int), .int .i64 (j : Int)]] w' fun e w2 => e = .returned (.tuple #[.bool true, .int .i64 0]) ∧ Below w'.heap.size w' w2) := fun i j w' hi hj hb => by
      have hA := (Nt.endsA_mem (Nt.right_leads hri) (Nt.right_one hri) (Nt.right_len hri).1 i hi j).1 hj
      have h1 := hA.le
      have h2 := hA.lt hi
      have e1 : Nt.whR gr sl L s (i : Int) (j : Int) = (true, 0) := by
        rw [Nt.whR, if_pos hr, if_pos ⟨by omega, by omega, by omega⟩]
        have := (Nt.wholeP_iff (s := s) (Nt.right_leads hri) (Nt.right_one hri) (Nt.right_len hri).1 i j).2 hA
        simp [this]
      have := HWh.out (i : Int) (j : Int) w' hb
      rw [e1] at this
      exact this
    have HRi : Hid (∀ i : Nat, (Nt.endsA L s i).Pairwise (fun x y => x < y)) := fun i => Nt.endsA_rise (Nt.right_leads hri) (Nt.right_one hri) (Nt.right_len hri).1 i
    have HLe : Hid (∀ i : Nat, i ≤ s.size → ∀ j ∈ Nt.endsA L s i, j ≤ s.size) := fun i hi j hj => ((Nt.endsA_mem (Nt.right_leads hri) (Nt.right_one hri) (Nt.right_len hri).1 i hi j).1 hj).lt hi
    clear HEn HWh hM
    cases hm : Nt.matchP L s f with
    | none =>
      have HN : Hid (∀ i : Nat, f ≤ i → i ≤ s.size → Nt.endsA L s i = []) := fun i h1 h2 => Nt.matchP_none (Nt.right_leads hri) (Nt.right_one hri) (Nt.right_len hri).1 f hm i h1 h2
      have e1 : Nt.lastS (Nt.endsP L s f s.size s.size) = ((0, 0), false) := by unfold Nt.lastS; unfold Nt.matchP at hm; rw [hm]
      rw [e1] at HMt
      clear hm e1 hri hr hE
      go_enter Tryd.func6, Tryd.ntmps6
      go_wp2_with fail
      rw [← hW0]
      clear hW0
      refine Calls.mono hBg ?_
      clear hBg
      rintro e w1 ⟨rfl, hb1⟩
      obtain ⟨d0, d1, d2⟩ := HP.out w1 hb1
      have HB1 : Hid _ := hb1
      clear hb1
      go_wp2_with fail
      refine Calls.mono (HMt.out w1 HB1.out) ?_
      clear HMt d0 d1 d2
      rintro e w2 ⟨rfl, hb2⟩
      have HB2 : Hid _ := HB1.out.trans (hb2.mono HB1.out.size)
      clear hb2 HB1
      obtain ⟨W3, hW3⟩ : ∃ W3, W3 = w2.alloc (.cells #[.int .i64 (0), .int .i64 (0)] 42) := ⟨_, rfl⟩
      have hS3 : Nt.SpA W3 w2.heap.size (0) (0) := by rw [hW3]; exact World.alloc_heap_new w2 _
      have hb3 : Below w2.heap.size w2 W3 := by rw [hW3]; exact (Below.refl _ _).alloc (Nat.le_refl _) _
      have HB3 : Hid _ := HB2.out.trans (hb3.mono HB2.out.size)
      have hsz3 : W3.heap.size = w2.heap.size + 1 := by rw [hW3]; simp
      obtain ⟨d0, d1, d2⟩ := HP.out W3 HB3.out
      have x0 : W3.cell? ⟨w2.heap.size, 0, none⟩ = some (.int .i64 (0)) := cell_of_row W3 _ 0 _ _ _ hS3
      have x1 : W3.cell? ⟨w2.heap.size, 1, none⟩ = some (.int .i64 (0)) := cell_of_row W3 _ 1 _ _ _ hS3
      rw [hW3] at d0 d1 d2 x0 x1
      have HS3 : Hid _ := hS3
      clear hb3 HB2 hS3
      go_wp2_with fail
      rw [← hW3]
      clear hW3 d0 d1 d2 x0 x1
      go_loopw [13] (fun iv wr => ∃ i : Nat, f ≤ i ∧ i ≤ s.size + 1 ∧ iv = .int .i64 (i : Int) ∧ Below W3.heap.size W3 wr) (fun iv _ => s.size + 1 - (intOf iv).toNat)
      case atStart => exact ⟨f, by omega, by omega, rfl, Below.refl _ _⟩
      case round =>
        obtain ⟨i, hi0, hi, rfl, hB⟩ := hrel
        rename World => K
        by_cases hlt : i ≤ s.size
        · have HBK : Hid _ := HB3.out.trans (hB.mono HB3.out.size)
          obtain ⟨d0, d1, d2⟩ := HP.out K HBK.out
          have hEn := HEn2.out i K hlt HBK.out
          rw [HN.out i hi0 hlt] at hEn
          have HBk : Hid _ := hB
          clear hB
          go_wp2_with (go_at_call 19; refine Calls.mono hEn ?_; clear hEn; rintro e w4 ⟨va, ca, rfl, _, _, hb4⟩; have HB4 : Hid _ := HBk.out.trans (hb4.mono HBk.out.size); clear hb4)
          go_loopw [16] (fun kv wr => kv = .int .i64 0 ∧ Below w4.heap.size w4 wr) (fun _ _ => 0)
          case atStart => exact ⟨rfl, Below.refl _ _⟩
          case round =>
            obtain ⟨rfl, hB⟩ := hrel
            have HB5 : Hid _ := HB4.out.trans (hB.mono HB4.out.size)
            clear hB
            go_wp2_with fail
            go_roundw
            case rel => exact ⟨i + 1, by omega, by omega, (by simp : Value.int .i64 ((i : Int) + 1) = Value.int .i64 ((i + 1 : Nat) : Int)), HB5.out⟩
            case measure => simp [intOf]; omega
        · have HB5 : Hid _ := HB3.out.trans (hB.mono HB3.out.size)
          clear hB
          go_wp2_with fail
          go_ret
          exact ⟨rfl, HW.out _ HB5.out⟩
    | some q =>
      obtain ⟨b, e⟩ := q
      obtain ⟨g1, g2, g3, g4, g5⟩ := Nt.matchP_some (Nt.right_leads hri) (Nt.right_one hri) (Nt.right_len hri).1 f hm
      have HN : Hid (∀ i : Nat, f ≤ i → i < b → Nt.endsA L s i = []) := g4
      have HLs : Hid ((Nt.endsA L s b).getLast? = some e) := g5
      have e1 : Nt.lastS (Nt.endsP L s f s.size s.size) = ((b, e), true) := by unfold Nt.lastS; unfold Nt.matchP at hm; rw [hm]
      rw [e1] at HMt
      clear hm e1 hri hr hE g4 g5
      have n1 : ¬ ((b : Int) < (f : Int)) := by omega
      have n2 : ¬ ((e : Int) < (b : Int)) := by omega
      have n3 : ¬ ((s.size : Int) < (e : Int)) := by omega
      go_enter Tryd.func6, Tryd.ntmps6
      go_wp2_with fail
      rw [← hW0]
      clear hW0
      refine Calls.mono hBg ?_
      clear hBg
      rintro e w1 ⟨rfl, hb1⟩
      obtain ⟨d0, d1, d2⟩ := HP.out w1 hb1
      have HB1 : Hid _ := hb1
      clear hb1
      go_wp2_with fail
      refine Calls.mono (HMt.out w1 HB1.out) ?_
      clear HMt d0 d1 d2
      rintro e w2 ⟨rfl, hb2⟩
      have HB2 : Hid _ := HB1.out.trans (hb2.mono HB1.out.size)
      clear hb2 HB1
      obtain ⟨W3, hW3⟩ : ∃ W3, W3 = w2.alloc (.cells #[.int .i64 ((b : Int)), .int .i64 ((e : Int))] 42) := ⟨_, rfl⟩
      have hS3 : Nt.SpA W3 w2.heap.size ((b : Int)) ((e : Int)) := by rw [hW3]; exact World.alloc_heap_new w2 _
      have hb3 : Below w2.heap.size w2 W3 := by rw [hW3]; exact (Below.refl _ _).alloc (Nat.le_refl _) _
      have HB3 : Hid _ := HB2.out.trans (hb3.mono HB2.out.size)
      have hsz3 : W3.heap.size = w2.heap.size + 1 := by rw [hW3]; simp
      obtain ⟨d0, d1, d2⟩ := HP.out W3 HB3.out
      have x0 : W3.cell? ⟨w2.heap.size, 0, none⟩ = some (.int .i64 ((b : Int))) := cell_of_row W3 _ 0 _ _ _ hS3
      have x1 : W3.cell? ⟨w2.heap.size, 1, none⟩ = some (.int .i64 ((e : Int))) := cell_of_row W3 _ 1 _ _ _ hS3
      rw [hW3] at d0 d1 d2 x0 x1
      have HS3 : Hid _ := hS3
      clear hb3 HB2 hS3
      go_wp2_with fail
      rw [← hW3]
      clear hW3 d0 d1 d2 x0 x1
      simp only [show decide (b < f) = false by simp; omega, show decide (e < b) = false by simp; omega, show decide (s.size < e) = false by simp; omega, Bool.or_self]
      go_loopw [13] (fun iv wr => ∃ i : Nat, f ≤ i ∧ i ≤ b + 1 ∧ iv = .int .i64 (i : Int) ∧ Below W3.heap.size W3 wr) (fun iv _ => b + 1 - (intOf iv).toNat)
      case atStart => exact ⟨f, by omega, by omega, rfl, Below.refl _ _⟩
      case round =>
        obtain ⟨i, hi0, hi, rfl, hB⟩ := hrel
        rename World => K
        have HBK : Hid _ := HB3.out.trans (hB.mono HB3.out.size)
        by_cases hlt : i < b
        · obtain ⟨d0, d1, d2⟩ := HP.out K HBK.out
          have hEn := HEn2.out i K (by omega) HBK.out
          rw [HN.out i hi0 hlt] at hEn
          have hib : ¬ ((i : Int) = (b : Int)) := by omega
          have HBk : Hid _ := hB
          clear hB
          go_wp2_with (go_at_call 19; refine Calls.mono hEn ?_; clear hEn; rintro e w4 ⟨va, ca, rfl, _, _, hb4⟩; have HB4 : Hid _ := HBk.out.trans (hb4.mono HBk.out.size); clear hb4)
          go_loopw [16] (fun kv wr => kv = .int .i64 0 ∧ Below w4.heap.size w4 wr) (fun _ _ => 0)
          case atStart => exact ⟨rfl, Below.refl _ _⟩
          case round =>
            obtain ⟨rfl, hB⟩ := hrel
            have HB5 : Hid _ := HB4.out.trans (hB.mono HB4.out.size)
            clear hB
            go_wp2_with fail
            go_roundw
            case rel => exact ⟨i + 1, by omega, by omega, (by simp : Value.int .i64 ((i : Int) + 1) = Value.int .i64 ((i + 1 : Nat) : Int)), HB5.out⟩
            case measure => simp [intOf]; omega
        · by_cases hlt2 : i ≤ b
          · obtain rfl : i = b := by omega
            obtain ⟨d0, d1, d2⟩ := HP.out K HBK.out
            have hEn := HEn2.out i K (by omega) HBK.out
            have HMe : Hid (∀ j w', j ∈ Nt.endsA L s i → Below W0.heap.size W0 w' → _) := fun j w' hj hb => HWh2.out i j w' (by omega) hj hb
            have HRm : Hid _ := HRi.out i
            have HLm : Hid _ := HLe.out i (by omega)
            obtain ⟨M, hM⟩ : ∃ M, M = Nt.endsA L s i := ⟨_, rfl⟩
            rw [← hM] at hEn HRm HMe HLs HLm
            clear hM HN HEn2 HWh2 HRi HLe
            have hM1 : 1 ≤ M.length := by
              have := HLs.out
              cases M with
              | nil => cases this
              | cons x M => simp
            obtain ⟨m, hm⟩ : ∃ m, M.length = m + 1 := ⟨M.length - 1, by omega⟩
            have hme : M[m]'(by omega) = e := by
              have := HLs.out
              rw [List.getLast?_eq_getElem?, hm, Nat.add_sub_cancel, List.getElem?_eq_getElem (by omega)] at this
              exact Option.some.inj this
            have HBk : Hid _ := hB
            have x1 : K.cell? ⟨w2.heap.size, 1, none⟩ = some (.int .i64 (e : Int)) := cell_of_row K _ 1 _ _ _ ((hB.block _ (by omega)).trans HS3.out)
            have hEn3 : Calls Tryd.prog 19 #[.agg #[.int .i64 gr, .int .i64 sl, .slice a L.length cap], .string s, .int .i64 (i : Int)] K fun e' w2' => ∃ g ca, e' = .returned (.tuple #[.slice (some ⟨g, 0, none⟩) (m + 1) ca, .int .i64 0]) ∧ (∀ k (h : k < M.length), w2'.cell? ⟨g, k, none⟩ = some (.int .i64 (M[k] : Int))) ∧ g < w2'.heap.size ∧ w2'.cell? ⟨w2.heap.size, 1, none⟩ = some (.int .i64 (e : Int)) ∧ m + 1 ≤ 17179885568 ∧ Below K.heap.size K w2' := by
              refine Calls.mono hEn ?_
              rintro e' w4 ⟨va, ca, rfl, hrow, hml, hb4⟩
              obtain ⟨g, rfl, hg, _⟩ := Nt.ints_at hrow (i := 0) (by omega)
              refine ⟨g, ca, by rw [hm], fun k h => ?_, hg, (hb4.cell (p := ⟨w2.heap.size, 1, none⟩) (show w2.heap.size < K.heap.size by have := hB.size; omega)).trans x1, by omega, hb4⟩
              obtain ⟨g', e1, _, h1⟩ := Nt.ints_at hrow h
              injection e1 with e1
              injection e1 with e1
              subst e1
              exact h1
            clear hEn hB x1
            go_wp2_with (go_at_call 19; refine Calls.mono hEn3 ?_; clear hEn3; rintro e' w4 ⟨g, ca, rfl, hrow, hg, x4, hml, hb4⟩; have HB4 : Hid _ := HBk.out.trans (hb4.mono HBk.out.size); have HRow : Hid _ := hrow; clear hb4 hrow)
            have c4 : w4.cell? ⟨g, m, none⟩ = some (.int .i64 (e : Int)) := by rw [HRow.out m (by omega), hme]
            have n4 : IntKind.i64.wrap ((m : Int) + 1 - 1) = (m : Int) := by rw [IntKind.wrap_i64]; omega
            have n10 : IntKind.i64.wrap (m : Int) = (m : Int) := by rw [IntKind.wrap_i64]; omega
            have n11 : IntKind.i64.wrap (((m + 1 : Nat) : Int) - 1) = (m : Int) := by rw [IntKind.wrap_i64]; omega
            have n5 : (0 : Int) ≤ (m : Int) := by omega
            have n6 : ((m : Int) + 1 - 1).toNat = m := by omega
            have n7 : (m : Int) + 1 - 1 < (m : Int) + 1 := by omega
            have n8 : (0 : Int) ≤ (m : Int) + 1 - 1 := by omega
            refine wp_region_noPanic ?_
            go_region_held (fun w' => w'.cell? ⟨w2.heap.size, 1, none⟩ = some (.int .i64 (e : Int)) ∧ w'.cell? ⟨g, m, none⟩ = some (.int .i64 (e : Int))) (first | exact ⟨x4, c4⟩) (first | fail)
            clear n4 n10 n11 n5 n6 n7 n8 c4 x4 d0 d1 d2
            refine NoPanic.normal ?_
            go_wp2_with fail
            go_loopw [16] (fun kv wr => ∃ k : Nat, k ≤ m + 1 ∧ kv = .int .i64 (k : Int) ∧ Below w4.heap.size w4 wr) (fun kv _ => m + 1 - (intOf kv).toNat)
            case atStart => exact ⟨0, by omega, rfl, (Below.refl _ _).drew⟩
            case round =>
              obtain ⟨k, hk, rfl, hB⟩ := hrel
              by_cases hkm : k < m + 1
              · have hkM : k < M.length := by omega
                have HBw : Hid (Below W0.heap.size W0 wr) := HB3.out.trans ((HB4.out.trans (hB.mono HB4.out.size)).mono HB3.out.size)
                obtain ⟨d0, d1, d2⟩ := HP.out wr HBw.out
                have HWx : Hid (∀ w', Below W0.heap.size W0 w' → Calls Tryd.prog 22 #[.agg #[.int .i64 gr, .int .i64 sl, .slice a L.length cap], .string s, .agg #[.int .i64 (i : Int), .int .i64 (M[k] : Int)]] w' fun e w2 => e = .returned (.tuple #[.bool true, .int .i64 0]) ∧ Below w'.heap.size w' w2) := fun w' hb => HMe.out (M[k]) w' (List.getElem_mem hkM) hb
                have c0 : wr.cell? ⟨g, k, none⟩ = some (.int .i64 (M[k] : Int)) := (hB.cell (p := ⟨g, k, none⟩) hg).trans (HRow.out k hkM)
                have hxle := HLm.out (M[k]) (List.getElem_mem hkM)
                have HBk2 : Hid _ := hB
                have HC1 : Hid (∀ kq, k = kq + 1 → ∃ y : Nat, wr.cell? ⟨g, kq, none⟩ = some (.int .i64 (y : Int)) ∧ y < M[k]) := fun kq e => by
                  subst e
                  exact ⟨M[kq]'(by omega), (hB.cell (p := ⟨g, kq, none⟩) hg).trans (HRow.out kq (by omega)), List.pairwise_iff_getElem.1 HRm.out kq (kq + 1) (by omega) hkM (by omega)⟩
                obtain ⟨x, hx⟩ : ∃ x, x = M[k] := ⟨_, rfl⟩
                rw [← hx] at HWx c0 hxle HC1
                have HX : Hid _ := hx
                have HM1 : Hid _ := hm
                have hgw : g < wr.heap.size := by have := HBk2.out.size; omega
                clear hB hx hm hme hM1 HRow HRm HLm HMe HLs hlt hlt2 hf n1 n2 n3 g1 g2 g3
                go_wp2_with fail
                refine wp_region_noPanic ?_
                go_region_held (fun w' => w'.cell? ⟨w.heap.size, 0, none⟩ = some (.int .i64 gr) ∧ w'.cell? ⟨w.heap.size, 1, none⟩ = some (.int .i64 sl) ∧ w'.cell? ⟨w.heap.size, 2, none⟩ = some (.slice a L.length cap) ∧ w'.cell? ⟨g, k, none⟩ = some (.int .i64 (x : Int))) (first | exact ⟨d0, d1, d2, c0⟩ | exact ⟨v1, v2, v3, v4⟩) (first | (go_at_call 22; refine Calls.mono (HWx.out _ HBw.out.drew) ?_; rintro e' w5 ⟨rfl, hb5⟩; (have hb6 : Below wr.heap.size wr w5 := ⟨hb5.os, hb5.tape, hb5.output, hb5.size, hb5.block⟩); (obtain ⟨v1, v2, v3⟩ := HP.out w5 (HBw.out.trans (hb6.mono HBw.out.size))); (have v4 : w5.cell? ⟨g, k, none⟩ = some (.int .i64 (x : Int)) := (hb6.cell (p := ⟨g, k, none⟩) hgw).trans c0)))
                refine NoPanic.normal ?_
                have HB5 : Hid (Below w4.heap.size w4 w5) := HBk2.out.trans (hb6.mono HBk2.out.size)
                have HC5 : Hid (∀ kq, k = kq + 1 → ∃ y : Nat, w5.cell? ⟨g, kq, none⟩ = some (.int .i64 (y : Int)) ∧ y < x) := fun kq e => by
                  obtain ⟨y, h1, h2⟩ := HC1.out kq e
                  exact ⟨y, (hb6.cell (p := ⟨g, kq, none⟩) hgw).trans h1, h2⟩
                clear hb5 hb6 v1 v2 v3 d0 d1 d2 c0 HC1 HBk2 HBw HWx
                rename World.cell? _ _ = _ ∧ _ => hHeld
                clear hHeld
                go_wp2_with fail
                by_cases hk0 : k = 0
                · subst hk0
                  clear HC5 v4
                  go_region
                  go_wp2_with fail
                  go_roundw
                  case rel => exact ⟨1, by omega, by go_num, HB5.out.drew⟩
                  case measure => simp [intOf]
                · obtain ⟨kq, rfl⟩ : ∃ kq, k = kq + 1 := ⟨k - 1, by omega⟩
                  obtain ⟨y, v5, hyx⟩ := HC5.out kq rfl
                  have n1 : IntKind.i64.wrap ((kq : Int) + 1 - 1) = (kq : Int) := by rw [IntKind.wrap_i64]; omega
                  have n2 : IntKind.i64.wrap (kq : Int) = (kq : Int) := by rw [IntKind.wrap_i64]; omega
                  have n3 : IntKind.i64.wrap (((kq + 1 : Nat) : Int) - 1) = (kq : Int) := by rw [IntKind.wrap_i64]; omega
                  have n4 : ¬ ((x : Int) ≤ (y : Int)) := by omega
                  have n5 : (0 : Int) < (kq : Int) + 1 := by omega
                  have n6 : kq < m + 1 := by omega
                  have n7 : (kq : Int) < (m : Int) := by omega
                  have n8 : (kq : Int) < (m : Int) + 1 := by omega
                  have n9 : (0 : Int) ≤ (kq : Int) := by omega
                  have n10 : (0 : Int) ≤ (kq : Int) + 1 := by omega
                  clear HC5 hk0
                  refine wp_region_noPanic ?_
                  go_region_held (fun w' => w'.cell? ⟨g, kq + 1, none⟩ = some (.int .i64 (x : Int)) ∧ w'.cell? ⟨g, kq, none⟩ = some (.int .i64 (y : Int))) (first | exact ⟨v4, v5⟩) (first | fail)
                  all_goals
                    refine NoPanic.normal ?_
                    rename World.cell? _ _ = _ ∧ _ => hHeld
                    clear hHeld n1 n2 n3 n4 n5 n6 n7 n8 n9 n10 v4 v5
                    go_wp2_with fail
                    go_roundw
                    case rel => exact ⟨kq + 1 + 1, by omega, by go_num, HB5.out.drew⟩
                    case measure => simp [intOf]; omega
              · obtain rfl : k = m + 1 := by omega
                have HB5 : Hid _ := HB4.out.trans (hB.mono HB4.out.size)
                clear hB hm hme hM1 HRow HRm HLm HMe HLs
                go_wp2_with fail
                go_roundw
                case rel => exact ⟨i + 1, by omega, by omega, by go_num, HB5.out⟩
                case measure => simp [intOf]
          · have HB5 : Hid _ := HB3.out.trans (hB.mono HB3.out.size)
            clear hB
            go_wp2_with fail
            go_ret
            exact ⟨rfl, HW.out _ HB5.out⟩
  · have hM := Nt.mtR_bad hE
    rw [hM] at HMt hE
    obtain ⟨E, hE2⟩ : ∃ E, E = (Nt.enR gr sl L s fr).2 := ⟨_, rfl⟩
    have HE1 : Hid (∀ w', Below W0.heap.size W0 w' → Calls Tryd.prog 19 #[.agg #[.int .i64 gr, .int .i64 sl, .slice a L.length cap], .string s, .int .i64 fr] w' fun e w2 => (∃ v, e = .returned (.tuple #[v, .int .i64 E])) ∧ Below w'.heap.size w' w2) := fun w' hb => by
      refine (HEn.out fr w' hb).mono ?_
      rintro e w2 ⟨v, rfl, ho, hb2⟩
      exact ⟨⟨v, by rw [hE2]⟩, hb2⟩
    rw [← hE2] at HMt hE
    clear HEn HWh hM hE2
    have hE3 : (E == 0) = false := by simpa using hE
    go_enter Tryd.func6, Tryd.ntmps6
    go_wp2_with fail
    rw [← hW0]
    clear hW0
    refine Calls.mono hBg ?_
    clear hBg
    rintro e w1 ⟨rfl, hb1⟩
    obtain ⟨d0, d1, d2⟩ := HP.out w1 hb1
    have HB1 : Hid _ := hb1
    clear hb1
    go_wp2_with fail
    refine Calls.mono (HMt.out w1 HB1.out) ?_
    clear HMt d0 d1 d2
    rintro e w2 ⟨rfl, hb2⟩
    have HB2 : Hid _ := HB1.out.trans (hb2.mono HB1.out.size)
    clear hb2 HB1
    obtain ⟨W3, hW3⟩ : ∃ W3, W3 = w2.alloc (.cells #[.int .i64 (0), .int .i64 (0)] 42) := ⟨_, rfl⟩
    have hS3 : Nt.SpA W3 w2.heap.size (0) (0) := by rw [hW3]; exact World.alloc_heap_new w2 _
    have hb3 : Below w2.heap.size w2 W3 := by rw [hW3]; exact (Below.refl _ _).alloc (Nat.le_refl _) _
    have HB3 : Hid _ := HB2.out.trans (hb3.mono HB2.out.size)
    have hsz3 : W3.heap.size = w2.heap.size + 1 := by rw [hW3]; simp
    obtain ⟨d0, d1, d2⟩ := HP.out W3 HB3.out
    have x0 : W3.cell? ⟨w2.heap.size, 0, none⟩ = some (.int .i64 (0)) := cell_of_row W3 _ 0 _ _ _ hS3
    have x1 : W3.cell? ⟨w2.heap.size, 1, none⟩ = some (.int .i64 (0)) := cell_of_row W3 _ 1 _ _ _ hS3
    rw [hW3] at d0 d1 d2 x0 x1
    have HS3 : Hid _ := hS3
    clear hb3 HB2 hS3
    go_wp2_with fail
    rw [← hW3]
    clear hW3 d0 d1 d2 x0 x1
    refine Calls.mono (HE1.out W3 HB3.out) ?_
    rintro e w4 ⟨⟨v, rfl⟩, hb4⟩
    have HB4 : Hid _ := HB3.out.trans (hb4.mono HB3.out.size)
    clear hb4
    go_wp2_with fail
    go_ret
    exact ⟨rfl, HW.out _ HB4.out⟩
end Go.Proofs.YtdiokclbdaojpaaDoor
