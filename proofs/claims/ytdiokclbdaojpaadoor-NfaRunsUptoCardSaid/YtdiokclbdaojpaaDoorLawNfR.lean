/- What the law NfaRuns answers: true, of any program, text and span. -/
import Derived.Test.YtdiokclbdaojpaaDoorNfM14
import Derived.Test.YtdiokclbdaojpaaDoorNfM15
import Derived.Test.YtdiokclbdaojpaaDoorNfM18
import Derived.Test.YtdiokclbdaojpaaDoorNfM6
import Derived.Deep.RegionHeld3
namespace Go.Proofs.YtdiokclbdaojpaaDoor
open Go Go.RowKit Go.Shelf

theorem span_flds : ((Tryd.prog.fieldsOf 42).toList.all fun f => f.type == 3 && (f.offset == 0 || f.offset == 1)) = true := by kernel_rfl
set_option maxRecDepth 100000 in
theorem span_eql (a b : Int) (w : World) : (binOp .eql 42 (.agg #[.int .i64 a, .int .i64 b]) (.agg #[.int .i64 a, .int .i64 b])).run Tryd.prog w = .ok (.bool true) w := by
  rw [run_eql_struct]
  have h : (Op.equalIn 10000 42 (.agg #[.int .i64 a, .int .i64 b]) (.agg #[.int .i64 a, .int .i64 b])).run Tryd.prog w = .ok true w := by
    show (Op.equalIn (9999 + 1) 42 _ _).run Tryd.prog w = _
    rw [run_equalIn_struct w 9999 42 _ _ Tryd.underlying42 (by kernel_rfl)]
    refine fields_self 9999 _ _ w (fun f hf => ?_)
    have hb := List.all_eq_true.1 span_flds f hf
    simp only [Bool.or_eq_true, Bool.and_eq_true, beq_iff_eq] at hb
    rcases hb with ⟨h1, h2 | h2⟩
    · exact ⟨.int .i64 a, fun w => ⟨by rw [h1, h2]; kernel_rfl, by rw [h1]; exact (run_equalIn_int w 9998 3 .i64 .i64 a a Tryd.underlying3).trans (by simp)⟩⟩
    · exact ⟨.int .i64 b, fun w => ⟨by rw [h1, h2]; kernel_rfl, by rw [h1]; exact (run_equalIn_int w 9998 3 .i64 .i64 b b Tryd.underlying3).trans (by simp)⟩⟩
  rw [h]; rfl

set_option maxRecDepth 100000 in
set_option maxHeartbeats 8000000 in
theorem law_runs (gr sl : Int) (a : Option Addr) (cap : Nat) (L : List Nt.Ins) (s : ByteArray) (f t : Int) (w : World) (hc : Nt.Cds w w.heap.size a cap L) (hT : Nt.Tabs w) (hk : ∀ x ∈ L, x.k ≤ 255) (hs : s.size ≤ 1048576) :
    Calls Tryd.prog 4 #[.agg #[.int .i64 gr, .int .i64 sl, .slice a L.length cap], .string s, .agg #[.int .i64 f, .int .i64 t]] w fun e w' => e = .returned (.bool true) ∧ Below w.heap.size w w' := by
  obtain ⟨W0, hW0⟩ : ∃ W0, W0 = (w.alloc (.cells #[.int .i64 gr, .int .i64 sl, .slice a L.length cap] 35)).alloc (.cells #[.int .i64 f, .int .i64 t] 42) := ⟨_, rfl⟩
  have hB0 : Below w.heap.size w W0 := by rw [hW0]; exact ((Below.refl w.heap.size w).alloc (Nat.le_refl _) _).alloc (by simp) _
  have P0 : W0.heap[w.heap.size]? = some (.cells #[.int .i64 gr, .int .i64 sl, .slice a L.length cap] 35 (0, 0)) := by rw [hW0, heap_alloc_old _ _ (by simp)]; exact heap_alloc_new w _
  have Q0 : W0.heap[w.heap.size + 1]? = some (.cells #[.int .i64 f, .int .i64 t] 42 (0, 0)) := by rw [hW0]; exact heap_alloc2_new w _ _
  have hs0 : W0.heap.size = w.heap.size + 2 := by rw [hW0]; simp
  have hcl := hc.len
  have HCp : Hid _ := rpcopy_wide gr sl a cap L W0 (hc.under hB0 hB0.size) hcl
  simp only [Nt.prgV] at HCp
  have HC : Hid _ := hc
  have HT : Hid _ := hT
  have HK : Hid _ := hk
  have HB0 : Hid _ := hB0
  have HP0 : Hid _ := P0
  have HQ0 : Hid _ := Q0
  clear hc hT hk hB0 P0 Q0
  go_enter Tryd.func4, Tryd.ntmps4
  go_wp2_with fail
  rw [← hW0]
  clear hW0
  refine Calls.mono HCp.out ?_
  rintro e w1 ⟨v, rfl, ho, hb1⟩
  obtain ⟨va, ca, rfl⟩ := Nt.own_form ho
  have hsz1 := hb1.size
  obtain ⟨W2, hW2⟩ : ∃ W2, W2 = w1.alloc (.cells #[.int .i64 gr, .int .i64 sl, .slice va L.length ca] 35) := ⟨_, rfl⟩
  have hb2 : Below w1.heap.size w1 W2 := by rw [hW2]; exact (Below.refl _ _).alloc (Nat.le_refl _) _
  have hs2 : W2.heap.size = w1.heap.size + 1 := by rw [hW2]; simp
  have P2 : W2.heap[w.heap.size]? = some (.cells #[.int .i64 gr, .int .i64 sl, .slice a L.length cap] 35 (0, 0)) := (hb2.block _ (by omega)).trans ((hb1.block _ (by omega)).trans HP0.out)
  have Q2 : W2.heap[w.heap.size + 1]? = some (.cells #[.int .i64 f, .int .i64 t] 42 (0, 0)) := (hb2.block _ (by omega)).trans ((hb1.block _ (by omega)).trans HQ0.out)
  have G2 : W2.heap[w1.heap.size]? = some (.cells #[.int .i64 gr, .int .i64 sl, .slice va L.length ca] 35 (0, 0)) := by rw [hW2]; exact World.alloc_heap_new _ _
  have o2 := own_below ho hb2
  have HW : Hid (∀ w', Below W2.heap.size W2 w' → Below w.heap.size w w') := fun w' hb => HB0.out.trans ((hb1.trans ((hb2.trans (hb.mono hb2.size)).mono hb1.size)).mono HB0.out.size)
  have HS : Hid (∀ w', Below W2.heap.size W2 w' → (fun w' => w'.cell? ⟨w.heap.size, 0, none⟩ = some (.int .i64 gr) ∧ w'.cell? ⟨w.heap.size, 1, none⟩ = some (.int .i64 sl) ∧ w'.cell? ⟨w.heap.size, 2, none⟩ = some (.slice a L.length cap) ∧ w'.cell? ⟨w.heap.size + 1, 0, none⟩ = some (.int .i64 f) ∧ w'.cell? ⟨w.heap.size + 1, 1, none⟩ = some (.int .i64 t) ∧ w'.cell? ⟨w1.heap.size, 0, none⟩ = some (.int .i64 gr) ∧ w'.cell? ⟨w1.heap.size, 1, none⟩ = some (.int .i64 sl) ∧ w'.cell? ⟨w1.heap.size, 2, none⟩ = some (.slice va L.length ca)) w') := fun w' hb => by
    have p := (hb.block _ (by omega)).trans P2
    have q := (hb.block _ (by omega)).trans Q2
    have g := (hb.block _ (by omega)).trans G2
    exact ⟨cell_of_row _ _ _ _ _ _ p, cell_of_row _ _ _ _ _ _ p, cell_of_row _ _ _ _ _ _ p, cell_of_row _ _ _ _ _ _ q, cell_of_row _ _ _ _ _ _ q, cell_of_row _ _ _ _ _ _ g, cell_of_row _ _ _ _ _ _ g, cell_of_row _ _ _ _ _ _ g⟩
  have HCg : Hid (∀ w', Below W2.heap.size W2 w' → Nt.Cds w' w'.heap.size va ca L) := fun w' hb => Nt.cds_own (own_below o2 hb) hcl
  have HCa : Hid (∀ w', Below W2.heap.size W2 w' → Nt.Cds w' w'.heap.size a cap L) := fun w' hb => HC.out.under (HW.out w' hb) (HW.out w' hb).size
  have HTb : Hid (∀ w', Below W2.heap.size W2 w' → Nt.Tabs w') := fun w' hb => HT.out.under (HW.out w' hb)
  have r1 : Hid (∀ w', Below W2.heap.size W2 w' → _) := fun w' hb => iright_any gr sl va ca L w' (HCg.out w' hb) (HTb.out w' hb) HK.out
  have r2 : Hid (∀ w', Below W2.heap.size W2 w' → _) := fun w' hb => rright_any gr sl a cap L w' (HCa.out w' hb)
  have r3 : Hid (∀ w', Below W2.heap.size W2 w' → _) := fun w' hb => ends_fn gr sl va ca L s f w' (HCg.out w' hb) (HTb.out w' hb) HK.out hs
  have r4 : Hid (∀ w', Below W2.heap.size W2 w' → _) := fun w' hb => rEnds_any gr sl a cap L s f w' (HCa.out w' hb) hs
  have r5 : Hid (∀ w', Below W2.heap.size W2 w' → _) := fun w' hb => whole_any gr sl va ca L s f t w' (HCg.out w' hb) (HTb.out w' hb) HK.out hs
  have r6 : Hid (∀ w', Below W2.heap.size W2 w' → _) := fun w' hb => rWhole_any gr sl a cap L s f t w' (HCa.out w' hb) hs
  have r7 : Hid (∀ w', Below W2.heap.size W2 w' → _) := fun w' hb => match_any gr sl va ca L s f w' (HCg.out w' hb) (HTb.out w' hb) HK.out hs
  have r8 : Hid (∀ w', Below W2.heap.size W2 w' → _) := fun w' hb => rMatch_any gr sl a cap L s f w' (HCa.out w' hb) hs
  have r9 : Hid (∀ w', Below W2.heap.size W2 w' → _) := fun w' hb => rsame_cds gr sl L va a ca cap w' (HCg.out w' hb) (HCa.out w' hb)
  have r10 : Hid (∀ w', Below W2.heap.size W2 w' → _) := fun w' hb => begins_any w' (HTb.out w' hb)
  have hMl := Nt.enR_len gr sl L s f hs
  simp only [Nt.prgV] at r9
  obtain ⟨E, hE⟩ : ∃ E, E = (Nt.enR gr sl L s f).2 := ⟨_, rfl⟩
  obtain ⟨M, hM⟩ : ∃ M, M = (Nt.enR gr sl L s f).1 := ⟨_, rfl⟩
  obtain ⟨R, hR⟩ : ∃ R, R = Nt.rightP gr sl L := ⟨_, rfl⟩
  obtain ⟨A1, hA1⟩ : ∃ A1, A1 = (Nt.whR gr sl L s f t).1 := ⟨_, rfl⟩
  obtain ⟨A2, hA2⟩ : ∃ A2, A2 = (Nt.whR gr sl L s f t).2 := ⟨_, rfl⟩
  obtain ⟨X1, hX1⟩ : ∃ X1, X1 = (Nt.mtR gr sl L s f).1.1.1 := ⟨_, rfl⟩
  obtain ⟨X2, hX2⟩ : ∃ X2, X2 = (Nt.mtR gr sl L s f).1.1.2 := ⟨_, rfl⟩
  obtain ⟨X3, hX3⟩ : ∃ X3, X3 = (Nt.mtR gr sl L s f).1.2 := ⟨_, rfl⟩
  obtain ⟨X4, hX4⟩ : ∃ X4, X4 = (Nt.mtR gr sl L s f).2 := ⟨_, rfl⟩
  rw [← hE, ← hM] at r3 r4
  rw [← hM] at hMl
  rw [← hR] at r1 r2
  rw [← hA1, ← hA2] at r5 r6
  rw [← hX1, ← hX2, ← hX3, ← hX4] at r7 r8
  clear hE hM hR hA1 hA2 hX1 hX2 hX3 hX4
  clear HCp HC HT HK HB0 HP0 HQ0 ho hb1 hb2 P2 Q2 G2 o2 HCg HCa HTb
  go_wp2_with fail
  rw [← hW2]
  clear hW2
  have HU : Hid (∀ w' w2, Below W2.heap.size W2 w' → Below w'.heap.size w' w2 → Below W2.heap.size W2 w2) := fun w' w2 h1 h2 => h1.trans (h2.mono h1.size)
  refine wp_region_noPanic ?_
  go_region_held (fun w' => w'.cell? ⟨w.heap.size, 0, none⟩ = some (.int .i64 gr) ∧ w'.cell? ⟨w.heap.size, 1, none⟩ = some (.int .i64 sl) ∧ w'.cell? ⟨w.heap.size, 2, none⟩ = some (.slice a L.length cap) ∧ w'.cell? ⟨w.heap.size + 1, 0, none⟩ = some (.int .i64 f) ∧ w'.cell? ⟨w.heap.size + 1, 1, none⟩ = some (.int .i64 t) ∧ w'.cell? ⟨w1.heap.size, 0, none⟩ = some (.int .i64 gr) ∧ w'.cell? ⟨w1.heap.size, 1, none⟩ = some (.int .i64 sl) ∧ w'.cell? ⟨w1.heap.size, 2, none⟩ = some (.slice va L.length ca)) (first | exact HS.out _ (Below.refl _ _).drew | exact HS.out _ HBa.out | exact HS.out _ HBb.out) (first | (go_at_call 17; refine Calls.mono (r1.out _ (Below.refl _ _).drew) ?_; rintro e w3 ⟨rfl, hb3⟩; have HBa : Hid _ := HU.out _ _ (Below.refl _ _).drew hb3; clear hb3) | (go_at_call 18; refine Calls.mono (r2.out _ HBa.out) ?_; rintro e w4 ⟨rfl, hb4⟩; have HBb : Hid _ := HU.out _ _ HBa.out hb4; clear hb4))
  refine NoPanic.normal ?_
  rename World.cell? _ _ = _ ∧ _ => hHeld
  clear hHeld r1 r2 HBa
  have hSb := HS.out w4 HBb.out
  obtain ⟨d0, d1, d2, d3, d4, d5, d6, d7⟩ := hSb
  go_wp2_with fail
  refine Calls.mono (r3.out w4 HBb.out) ?_
  rintro e w5 ⟨v5, rfl, ho5, hb5⟩
  obtain ⟨a5, c5, rfl⟩ := Nt.own_form ho5
  have HBc : Hid _ := HU.out _ _ HBb.out hb5
  have HO5 : Hid _ := ho5
  clear r3 HBb hb5 ho5 d0 d1 d2 d3 d4 d5 d6 d7
  obtain ⟨d0, d1, d2, d3, d4, d5, d6, d7⟩ := HS.out w5 HBc.out
  go_wp2_with fail
  refine Calls.mono (r4.out w5 HBc.out) ?_
  rintro e w6 ⟨v6, rfl, ho6, hb6⟩
  obtain ⟨a6, c6, rfl⟩ := Nt.own_form ho6
  have HBd : Hid _ := HU.out _ _ HBc.out hb6
  have HI6 : Hid _ := ints_any M M _ _ _ _ w6 (own_below HO5.out hb6) ho6 (by omega)
  rw [beq_self_eq_true] at HI6
  clear r4 HBc hb6 ho6 HO5 d0 d1 d2 d3 d4 d5 d6 d7
  go_wp2_with (go_at_call 21; refine Calls.mono HI6.out ?_; rintro e w7 ⟨rfl, hb7⟩; have HBe : Hid _ := HU.out _ _ HBd.out hb7; clear HI6 HBd hb7; obtain ⟨d0, d1, d2, d3, d4, d5, d6, d7⟩ := HS.out w7 HBe.out)
  refine Calls.mono (r5.out w7 HBe.out) ?_
  rintro e w8 ⟨rfl, hb8⟩
  have HBf : Hid _ := HU.out _ _ HBe.out hb8
  clear r5 HBe hb8 d0 d1 d2 d3 d4 d5 d6 d7
  obtain ⟨d0, d1, d2, d3, d4, d5, d6, d7⟩ := HS.out w8 HBf.out
  go_wp2_with fail
  refine Calls.mono (r6.out w8 HBf.out) ?_
  rintro e w9 ⟨rfl, hb9⟩
  have HBg : Hid _ := HU.out _ _ HBf.out hb9
  clear r6 HBf hb9 d0 d1 d2 d3 d4 d5 d6 d7
  obtain ⟨d0, d1, d2, d3, d4, d5, d6, d7⟩ := HS.out w9 HBg.out
  go_wp2_with fail
  refine Calls.mono (r7.out w9 HBg.out) ?_
  rintro e w10 ⟨rfl, hb10⟩
  have HBh : Hid _ := HU.out _ _ HBg.out hb10
  clear r7 HBg hb10 d0 d1 d2 d3 d4 d5 d6 d7
  obtain ⟨W11, hW11⟩ : ∃ W11, W11 = w10.alloc (.cells #[.int .i64 (X1 : Int), .int .i64 (X2 : Int)] 42) := ⟨_, rfl⟩
  have hb11 : Below w10.heap.size w10 W11 := by rw [hW11]; exact (Below.refl _ _).alloc (Nat.le_refl _) _
  have hs11 : W11.heap.size = w10.heap.size + 1 := by rw [hW11]; simp
  have X11 : W11.heap[w10.heap.size]? = some (.cells #[.int .i64 (X1 : Int), .int .i64 (X2 : Int)] 42 (0, 0)) := by rw [hW11]; exact World.alloc_heap_new _ _
  have HBi : Hid _ := HU.out _ _ HBh.out hb11
  obtain ⟨d0, d1, d2, d3, d4, d5, d6, d7⟩ := HS.out W11 HBi.out
  rw [hW11] at d0 d1 d2 d3 d4 d5 d6 d7
  have HX11 : Hid _ := X11
  clear HBh hb11 X11
  go_wp2_with fail
  rw [← hW11]
  clear hW11 d0 d1 d2 d3 d4 d5 d6 d7
  refine Calls.mono (r8.out W11 HBi.out) ?_
  rintro e w12 ⟨rfl, hb12⟩
  have HBj : Hid _ := HU.out _ _ HBi.out hb12
  have hs12 := hb12.size
  have HX12 : Hid (w12.heap[w10.heap.size]? = _) := (hb12.block _ (by omega)).trans HX11.out
  clear r8 HBi hb12 HX11
  obtain ⟨W13, hW13⟩ : ∃ W13, W13 = w12.alloc (.cells #[.int .i64 (X1 : Int), .int .i64 (X2 : Int)] 42) := ⟨_, rfl⟩
  have hb13 : Below w12.heap.size w12 W13 := by rw [hW13]; exact (Below.refl _ _).alloc (Nat.le_refl _) _
  have hs13 : W13.heap.size = w12.heap.size + 1 := by rw [hW13]; simp
  have y13 : W13.heap[w12.heap.size]? = some (.cells #[.int .i64 (X1 : Int), .int .i64 (X2 : Int)] 42 (0, 0)) := by rw [hW13]; exact World.alloc_heap_new _ _
  have x13 : W13.heap[w10.heap.size]? = _ := (hb13.block _ (by omega)).trans HX12.out
  have HBk : Hid _ := HU.out _ _ HBj.out hb13
  obtain ⟨d0, d1, d2, d3, d4, d5, d6, d7⟩ := HS.out W13 HBk.out
  have e0 : W13.cell? ⟨w10.heap.size, 0, none⟩ = some (.int .i64 (X1 : Int)) := cell_of_row _ _ _ _ _ _ x13
  have e1 : W13.cell? ⟨w10.heap.size, 1, none⟩ = some (.int .i64 (X2 : Int)) := cell_of_row _ _ _ _ _ _ x13
  have e2 : W13.cell? ⟨w12.heap.size, 0, none⟩ = some (.int .i64 (X1 : Int)) := cell_of_row _ _ _ _ _ _ y13
  have e3 : W13.cell? ⟨w12.heap.size, 1, none⟩ = some (.int .i64 (X2 : Int)) := cell_of_row _ _ _ _ _ _ y13
  rw [hW13] at d0 d1 d2 d3 d4 d5 d6 d7 e0 e1 e2 e3
  have Ess : ∀ w : World, (binOp .eql 42 (.agg #[.int .i64 (X1 : Int), .int .i64 (X2 : Int)]) (.agg #[.int .i64 (X1 : Int), .int .i64 (X2 : Int)])).run Tryd.prog w = .ok (.bool true) w := span_eql _ _
  clear HBj hb13 x13 y13
  go_wp2_with fail
  rw [← hW13]
  clear hW13 d0 d1 d2 d3 d4 d5 d6 d7 e0 e1 e2 e3
  refine Calls.mono (r9.out W13 HBk.out) ?_
  rintro e w14 ⟨rfl, hb14⟩
  have HBl : Hid _ := HU.out _ _ HBk.out hb14
  clear r9 HBk hb14
  go_wp2_with fail
  refine Calls.mono (r10.out w14 HBl.out) ?_
  rintro e w15 ⟨rfl, hb15⟩
  have HBm : Hid _ := HU.out _ _ HBl.out hb15
  clear r10 HBl hb15
  go_wp2_with fail
  go_ret
  exact ⟨rfl, HW.out _ HBm.out⟩
end Go.Proofs.YtdiokclbdaojpaaDoor
