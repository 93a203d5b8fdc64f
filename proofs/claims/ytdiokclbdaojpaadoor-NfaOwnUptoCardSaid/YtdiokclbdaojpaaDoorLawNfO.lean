/- What the law NfaOwn answers: true, of any tree and text. -/
import Derived.Test.YtdiokclbdaojpaaDoorNfM14
import Derived.Test.YtdiokclbdaojpaaDoorNfM15
namespace Go.Proofs.YtdiokclbdaojpaaDoor
open Go Go.RowKit Go.Shelf

set_option maxRecDepth 100000 in
set_option maxHeartbeats 8000000 in
theorem law_own (T : Nt.NT) (a : Option Addr) (cap : Nat) (s : ByteArray) (w : World) (hN : Nt.Nd w (· < w.heap.size) T a cap) (hTb : Nt.Tabs w) (hs : s.size ≤ 1048576) :
    Calls Tryd.prog 8 #[Nt.ndV T a cap, .string s] w fun e w' => e = .returned (.bool true) ∧ Below w.heap.size w w' := by
  have N0 := Nt.node_new w T a cap
  have hB0 : Below w.heap.size w (w.alloc (.cells (Nt.ndA T a cap) 28)) := (Below.refl w.heap.size w).alloc (Nat.le_refl _) _
  obtain ⟨W, hW⟩ : ∃ W, W = w.alloc (.cells (Nt.ndA T a cap) 28) := ⟨_, rfl⟩
  rw [← hW] at N0 hB0
  have sz0 : W.heap.size = w.heap.size + 1 := by rw [hW]; simp
  have HTb : Hid (∀ w', Below w.heap.size w w' → Nt.Tabs w') := fun w' hb => hTb.under hb
  have HCC : Hid (∀ w', Below w.heap.size w w' → Calls Tryd.prog 12 #[Nt.ndV T a cap] w' fun e w2 => ∃ va ca, e = .returned (.tuple #[.agg #[.int .i64 (Nt.pgr T), .int .i64 (Nt.psl T), .slice va (Nt.pL T).length ca], .int .i64 (Nt.cmpE T)]) ∧ w2.ownsRow w'.heap.size 64 9 (.slice va (Nt.pL T).length ca) (Nt.pL T).length (Nt.insC (Nt.pL T)) ∧ Below w'.heap.size w' w2) := fun w' hb => compile_one T a cap w' ((hN.under hb).mono (fun b (h : b < _) => Nat.lt_of_lt_of_le h hb.size)) (hTb.under hb)
  have HK : Hid _ := Nt.pL_k T
  have hLl := Nt.pL_len T
  obtain ⟨gr, hgr⟩ : ∃ gr, gr = Nt.pgr T := ⟨_, rfl⟩
  obtain ⟨sl, hsl⟩ : ∃ sl, sl = Nt.psl T := ⟨_, rfl⟩
  obtain ⟨L, hL⟩ : ∃ L, L = Nt.pL T := ⟨_, rfl⟩
  obtain ⟨E, hE⟩ : ∃ E, E = Nt.cmpE T := ⟨_, rfl⟩
  rw [← hL] at hLl HK HCC
  rw [← hgr, ← hsl, ← hE] at HCC
  clear hgr hsl hL hE
  have hBg := begins_any W (hTb.under hB0)
  have HN0 : Hid _ := N0
  have HB0 : Hid _ := hB0
  simp only [Nt.ndV, Nt.ndA] at hW HCC ⊢
  clear N0 hB0 hN hTb
  go_enter Tryd.func8, Tryd.ntmps8
  go_wp2_with fail
  rw [← hW]
  clear hW
  refine Calls.mono hBg ?_
  rintro e w1 ⟨rfl, hb1⟩
  have hB1 := HB0.out.trans (hb1.mono HB0.out.size)
  have hs1 := hb1.size
  have NA1 := Nt.NodeAt.under HN0.out hb1
  obtain ⟨q0, q1, q2, q3, q4, q5, q6, q7, q8⟩ := NA1.nine
  have HC1 : Hid _ := HCC.out w1 hB1
  have HNA1 : Hid _ := NA1
  have HB1 : Hid _ := hB1
  clear hBg HN0 HB0 hb1 NA1 hB1
  go_wp2_with fail
  refine Calls.mono HC1.out ?_
  rintro e w2 ⟨va, ca, rfl, ra, hb2⟩
  have HLa : Hid (∀ k, (Value.slice va L.length ca).ownBlock = some k → w1.heap.size ≤ k ∧ k < w2.heap.size) := fun k e => World.ownsRow.lt ra k e
  have hs2 := hb2.size
  obtain ⟨W2, hW2⟩ : ∃ W2, W2 = w2.alloc (.cells #[.int .i64 gr, .int .i64 sl, .slice va L.length ca] 35) := ⟨_, rfl⟩
  have sz2 : W2.heap.size = w2.heap.size + 1 := by rw [hW2]; simp
  have hc2 : Below w2.heap.size w2 W2 := by rw [hW2]; exact (Below.refl _ _).alloc (Nat.le_refl _) _
  have hb2' : Below w1.heap.size w1 W2 := hb2.trans (hc2.mono hb2.size)
  have hB2 := HB1.out.trans (hb2'.mono HB1.out.size)
  have NA2 := Nt.NodeAt.under HNA1.out hb2'
  have HP2 : Hid (W2.heap[w2.heap.size]? = some (.cells #[.int .i64 gr, .int .i64 sl, .slice va L.length ca] 35 (0, 0))) := by show _ = _; rw [hW2]; exact World.alloc_heap_new _ _
  have HRa : Hid _ := own_below ra hc2
  have HB2 : Hid _ := hB2
  have HC2 : Hid _ := HCC.out W2 hB2
  clear q0 q1 q2 q3 q4 q5 q6 q7 q8
  obtain ⟨q0, q1, q2, q3, q4, q5, q6, q7, q8⟩ := NA2.nine
  rw [hW2] at q0 q1 q2 q3 q4 q5 q6 q7 q8
  clear HCC HC1 HNA1 HB1 hb2 hb2' hc2 NA2 hB2 ra
  go_wp2_with fail
  rw [← hW2]
  clear hW2 q0 q1 q2 q3 q4 q5 q6 q7 q8
  refine Calls.mono HC2.out ?_
  rintro e w3 ⟨vb, cb, rfl, rb, hb3⟩
  have HLb : Hid (∀ k, (Value.slice vb L.length cb).ownBlock = some k → W2.heap.size ≤ k ∧ k < w3.heap.size) := fun k e => World.ownsRow.lt rb k e
  clear HC2
  have hs3 := hb3.size
  obtain ⟨W3, hW3⟩ : ∃ W3, W3 = w3.alloc (.cells #[.int .i64 gr, .int .i64 sl, .slice vb L.length cb] 35) := ⟨_, rfl⟩
  have sz3 : W3.heap.size = w3.heap.size + 1 := by rw [hW3]; simp
  have hc3 : Below w3.heap.size w3 W3 := by rw [hW3]; exact (Below.refl _ _).alloc (Nat.le_refl _) _
  have hb3' : Below W2.heap.size W2 W3 := hb3.trans (hc3.mono hb3.size)
  have hB3 := HB2.out.trans (hb3'.mono HB2.out.size)
  have HP3 : Hid (W3.heap[w2.heap.size]? = _) := (hb3'.block _ (by omega)).trans HP2.out
  have q3 : W3.heap[w3.heap.size]? = some (.cells #[.int .i64 gr, .int .i64 sl, .slice vb L.length cb] 35 (0, 0)) := by rw [hW3]; exact World.alloc_heap_new _ _
  have rb3 := own_below rb hc3
  have HRa3 : Hid _ := own_below HRa.out hb3'
  have HCp : Hid _ := rpcopy_any gr sl vb cb L W3 (Nt.cds_own rb3 (by omega)) hLl
  have HRb3 : Hid _ := rb3
  have HB3 : Hid _ := hB3
  have HQ3 : Hid _ := q3
  have d0 : W3.cell? ⟨w3.heap.size, 0, none⟩ = some (.int .i64 gr) := cell_of_row _ _ _ _ _ _ q3
  have d1 : W3.cell? ⟨w3.heap.size, 1, none⟩ = some (.int .i64 sl) := cell_of_row _ _ _ _ _ _ q3
  have d2 : W3.cell? ⟨w3.heap.size, 2, none⟩ = some (.slice vb L.length cb) := cell_of_row _ _ _ _ _ _ q3
  simp only [Nt.prgV] at HCp
  rw [hW3] at d0 d1 d2
  clear HP2 HRa HB2 rb hb3 hc3 hb3' hB3 q3 rb3
  go_wp2_with fail
  rw [← hW3]
  clear hW3 d0 d1 d2
  refine Calls.mono HCp.out ?_
  rintro e w4 ⟨vw, rfl, rw4, hb4⟩
  clear HCp
  obtain ⟨vw, cw, rfl⟩ := Nt.own_form rw4
  have HLw : Hid (∀ k, (Value.slice vw L.length cw).ownBlock = some k → W3.heap.size ≤ k ∧ k < w4.heap.size) := fun k e => World.ownsRow.lt rw4 k e
  have hs4 := hb4.size
  obtain ⟨W4, hW4⟩ : ∃ W4, W4 = w4.alloc (.cells #[.int .i64 gr, .int .i64 sl, .slice vw L.length cw] 35) := ⟨_, rfl⟩
  have sz4 : W4.heap.size = w4.heap.size + 1 := by rw [hW4]; simp
  have hc4 : Below w4.heap.size w4 W4 := by rw [hW4]; exact (Below.refl _ _).alloc (Nat.le_refl _) _
  have hb4' : Below W3.heap.size W3 W4 := hb4.trans (hc4.mono hb4.size)
  have hB4 := HB3.out.trans (hb4'.mono HB3.out.size)
  have HP4 : Hid (W4.heap[w2.heap.size]? = _) := (hb4'.block _ (by omega)).trans HP3.out
  have q4 : W4.heap[w3.heap.size]? = _ := (hb4'.block _ (by omega)).trans HQ3.out
  have HX4 : Hid (W4.heap[w4.heap.size]? = some (.cells #[.int .i64 gr, .int .i64 sl, .slice vw L.length cw] 35 (0, 0))) := by show _ = _; rw [hW4]; exact World.alloc_heap_new _ _
  have HRa4 : Hid _ := own_below HRa3.out hb4'
  have HRb4 : Hid _ := own_below HRb3.out hb4'
  have HRw4 : Hid _ := own_below rw4 hc4
  have HEn : Hid (∀ w', Below W4.heap.size W4 w' → Calls Tryd.prog 19 #[.agg #[.int .i64 gr, .int .i64 sl, .slice vb L.length cb], .string s, .int .i64 0] w' fun e w2 => ∃ v, e = .returned (.tuple #[v, .int .i64 (Nt.enR gr sl L s 0).2]) ∧ w2.ownsRow w'.heap.size 3 1 v (Nt.enR gr sl L s 0).1.length (Nt.icellsN (Nt.enR gr sl L s 0).1) ∧ Below w'.heap.size w' w2) := fun w' hb => ends_fn gr sl vb cb L s 0 w' (Nt.cds_own (own_below HRb4.out hb) (by omega)) (HTb.out w' (hB4.trans (hb.mono hB4.size))) HK.out hs
  have hMl := Nt.enR_len gr sl L s 0 hs
  obtain ⟨M, hM⟩ : ∃ M, M = (Nt.enR gr sl L s 0).1 := ⟨_, rfl⟩
  obtain ⟨E2, hE2⟩ : ∃ E2, E2 = (Nt.enR gr sl L s 0).2 := ⟨_, rfl⟩
  rw [← hM] at hMl HEn
  rw [← hE2] at HEn
  clear hM hE2
  have HE1 : Hid _ := HEn.out W4 (Below.refl _ _)
  have HB4 : Hid _ := hB4
  have HQ4 : Hid _ := q4
  have d0 : W4.cell? ⟨w3.heap.size, 0, none⟩ = some (.int .i64 gr) := cell_of_row _ _ _ _ _ _ q4
  have d1 : W4.cell? ⟨w3.heap.size, 1, none⟩ = some (.int .i64 sl) := cell_of_row _ _ _ _ _ _ q4
  have d2 : W4.cell? ⟨w3.heap.size, 2, none⟩ = some (.slice vb L.length cb) := cell_of_row _ _ _ _ _ _ q4
  rw [hW4] at d0 d1 d2
  clear HTb HK HP3 HQ3 HRa3 HRb3 HB3 rw4 hb4 hc4 hb4' hB4 q4
  go_wp2_with fail
  rw [← hW4]
  clear hW4 d0 d1 d2
  refine Calls.mono HE1.out ?_
  rintro e w5 ⟨vl, rfl, rl5, hb5⟩
  clear HE1
  obtain ⟨vl, cl, rfl⟩ := Nt.own_form rl5
  have HLl : Hid (∀ k, (Value.slice vl M.length cl).ownBlock = some k → W4.heap.size ≤ k ∧ k < w5.heap.size) := fun k e => World.ownsRow.lt rl5 k e
  have hs5 := hb5.size
  have HE2 : Hid _ := HEn.out w5 hb5
  have HB5 : Hid _ := HB4.out.trans (hb5.mono HB4.out.size)
  have HP5 : Hid (w5.heap[w2.heap.size]? = _) := (hb5.block _ (by omega)).trans HP4.out
  have q5 : w5.heap[w3.heap.size]? = _ := (hb5.block _ (by omega)).trans HQ4.out
  have HX5 : Hid (w5.heap[w4.heap.size]? = _) := (hb5.block _ (by omega)).trans HX4.out
  have HRa5 : Hid _ := own_below HRa4.out hb5
  have HRb5 : Hid _ := own_below HRb4.out hb5
  have HRw5 : Hid _ := own_below HRw4.out hb5
  have HQ5 : Hid _ := q5
  have HRl5 : Hid _ := rl5
  have d0 : w5.cell? ⟨w3.heap.size, 0, none⟩ = some (.int .i64 gr) := cell_of_row _ _ _ _ _ _ q5
  have d1 : w5.cell? ⟨w3.heap.size, 1, none⟩ = some (.int .i64 sl) := cell_of_row _ _ _ _ _ _ q5
  have d2 : w5.cell? ⟨w3.heap.size, 2, none⟩ = some (.slice vb L.length cb) := cell_of_row _ _ _ _ _ _ q5
  clear HEn HP4 HQ4 HX4 HRa4 HRb4 HRw4 HB4 q5 rl5 hb5
  go_wp2_with fail
  refine Calls.mono HE2.out ?_
  rintro e w6 ⟨vm, rfl, rm6, hb6⟩
  clear HE2 d0 d1 d2
  obtain ⟨vm, cm, rfl⟩ := Nt.own_form rm6
  have HLm : Hid (∀ k, (Value.slice vm M.length cm).ownBlock = some k → w5.heap.size ≤ k ∧ k < w6.heap.size) := fun k e => World.ownsRow.lt rm6 k e
  have hs6 := hb6.size
  have HB6 : Hid _ := HB5.out.trans (hb6.mono HB5.out.size)
  have HP6 : Hid (w6.heap[w2.heap.size]? = _) := (hb6.block _ (by omega)).trans HP5.out
  have HQ6 : Hid (w6.heap[w3.heap.size]? = _) := (hb6.block _ (by omega)).trans HQ5.out
  have HX6 : Hid (w6.heap[w4.heap.size]? = _) := (hb6.block _ (by omega)).trans HX5.out
  have HRa6 : Hid _ := own_below HRa5.out hb6
  have HRb6 : Hid _ := own_below HRb5.out hb6
  have HRw6 : Hid _ := own_below HRw5.out hb6
  have HRl6 : Hid _ := own_below HRl5.out hb6
  have HRm6 : Hid _ := rm6
  clear HP5 HQ5 HX5 HRa5 HRb5 HRw5 HRl5 HB5 rm6 hb6
  go_wp2_with fail
  obtain ⟨i1, hi1, hy0, hy1, hy2⟩ := info_parts Tryd.infoInt
  go_loopw [12, 13] (fun kv iv wr => ∃ i : Nat, i ≤ M.length ∧ iv = .int .i64 (i : Int) ∧ Below w6.heap.size w6 wr ∧ wr.ownsRow w6.heap.size 3 1 kv i (Nt.icellsN (M.take i))) (fun _ iv _ => M.length - (intOf iv).toNat)
  case atStart => exact ⟨0, by omega, rfl, Below.refl _ _, World.ownsRow_nil _ _ _ _⟩
  case round =>
    obtain ⟨i, hi, rfl, hB, hO⟩ := hrel
    by_cases hlt : i < M.length
    · obtain ⟨g, rfl, hg, cA⟩ := Nt.ints_at HRm6.out hlt
      have x0 : wr.cell? ⟨g, i, none⟩ = some (.int .i64 (M[i] : Int)) := (hB.cell (p := ⟨g, i, none⟩) hg).trans cA
      have HT : Hid (Nt.icellsN (M.take (i + 1)) = Nt.icellsN (M.take i) ++ [.int .i64 (M[i] : Int)]) := by show _ = _; rw [Nt.icellsN, List.take_succ_eq_append_getElem hlt, List.map_append]; rfl
      obtain ⟨x, hx⟩ : ∃ x, M[i] = x := ⟨_, rfl⟩
      rw [hx] at x0 HT
      obtain ⟨ka, kc, rfl⟩ := Nt.own_form hO
      have HB : Hid _ := hB
      have HO : Hid _ := hO
      have hsz := hB.size
      clear hx cA hB hO
      go_wp2_with (at_builtin; refine Nt.wpList_append_far _ rfl _ _ 45 rfl w6.heap.size 3 i1 (.int .i64 0) 1 8 Tryd.underlying45 hi1 hy0 hy1 hy2 rfl (by decide) (.slice ka i kc) i (Nt.icellsN (M.take i)) rfl (World.ownsRow.alloc HO.out _) ⟨wr.heap.size, 0, none⟩ 1 1 [.int .i64 (x : Int)] rfl rfl (Nt.one_new _ _ _) (fun u hu => by simp only [List.mem_singleton] at hu; subst hu; rfl) (by unfold maxLen; omega) (by omega) (by simp; omega) ?_)
      intro v3 w8 ho hg3 _ _
      obtain ⟨a3, c3, rfl⟩ := Nt.own_form ho
      have HB8 : Hid (Below w6.heap.size w6 w8) := HB.out.trans (((Below.refl _ _).alloc hsz _).grown hg3 (by simp; omega) (fun g hg => (World.ownsRow.lt HO.out g hg).1))
      rw [← HT.out] at ho
      have HO8 : Hid _ := ho
      clear ho hg3 HB HO
      go_wp2_with fail
      go_roundw
      case rel => exact ⟨i + 1, by omega, by go_num, HB8.out, HO8.out⟩
      case measure => simp [intOf]; omega
    · obtain rfl : i = M.length := by omega
      rw [List.take_of_length_le (Nat.le_refl _)] at hO
      obtain ⟨ka, kc, rfl⟩ := Nt.own_form hO
      rename World => K
      have HLk : Hid (∀ k, (Value.slice ka M.length kc).ownBlock = some k → w6.heap.size ≤ k ∧ k < K.heap.size) := fun k e => World.ownsRow.lt hO k e
      have hsw := hB.size
      have HB7 : Hid _ := HB6.out.trans (hB.mono HB6.out.size)
      have HP7 : Hid (K.heap[w2.heap.size]? = _) := (hB.block _ (by omega)).trans HP6.out
      have HQ7 : Hid (K.heap[w3.heap.size]? = _) := (hB.block _ (by omega)).trans HQ6.out
      have HX7 : Hid (K.heap[w4.heap.size]? = _) := (hB.block _ (by omega)).trans HX6.out
      have HRa7 : Hid _ := own_below HRa6.out hB
      have HRb7 : Hid _ := own_below HRb6.out hB
      have HRw7 : Hid _ := own_below HRw6.out hB
      have HRl7 : Hid _ := own_below HRl6.out hB
      have HRm7 : Hid _ := own_below HRm6.out hB
      have HRk7 : Hid _ := hO
      clear HB6 HP6 HQ6 HX6 HRa6 HRb6 HRw6 HRl6 HRm6 hB hO
      go_wp2_with fail
      go_loopw [14] (fun iv wr => ∃ i : Nat, i ≤ L.length ∧ iv = .int .i64 (i : Int) ∧ K.grownBy wr (Value.slice va L.length ca).ownBlock ∧ Nt.RowN wr w1.heap.size 64 9 (.slice va L.length ca) L.length) (fun iv _ => L.length - (intOf iv).toNat)
      case atStart => exact ⟨0, by omega, rfl, ⟨rfl, rfl, rfl, Nat.le_refl _, fun _ _ _ => rfl⟩, _, HRa7.out⟩
      case round =>
        obtain ⟨i, hi, rfl, hG, hR⟩ := hrel
        have p7 : wr.heap[w2.heap.size]? = _ := (hG.block _ (by omega) (fun e => by have := HLa.out _ e.symm; omega)).trans HP7.out
        have d2 : wr.cell? ⟨w2.heap.size, 2, none⟩ = some (.slice va L.length ca) := cell_of_row _ _ _ _ _ _ p7
        by_cases hlt : i < L.length
        · obtain ⟨xs, hxs⟩ := hR
          obtain ⟨g, c, hv, _⟩ := hxs.form (by omega)
          injection hv with e1 _ e3
          subst e1 e3
          have hR : Nt.RowN wr w1.heap.size 64 9 (.slice (some ⟨g, 0, none⟩) L.length ca) L.length := ⟨xs, hxs⟩
          obtain ⟨⟨y0, c0⟩, f0⟩ := hR.at (off := i * 9) (by omega)
          obtain ⟨⟨y1, c1⟩, f1⟩ := hR.at (off := i * 9 + 1) (by omega)
          obtain ⟨⟨y2, c2⟩, f2⟩ := hR.at (off := i * 9 + 2) (by omega)
          obtain ⟨⟨y3, c3⟩, f3⟩ := hR.at (off := i * 9 + 3) (by omega)
          obtain ⟨⟨y4, c4⟩, f4⟩ := hR.at (off := i * 9 + 4) (by omega)
          obtain ⟨⟨y5, c5⟩, f5⟩ := hR.at (off := i * 9 + 5) (by omega)
          obtain ⟨⟨y6, c6⟩, f6⟩ := hR.at (off := i * 9 + 6) (by omega)
          obtain ⟨⟨y7, c7⟩, f7⟩ := hR.at (off := i * 9 + 7) (by omega)
          obtain ⟨⟨y8, c8⟩, f8⟩ := hR.at (off := i * 9 + 8) (by omega)
          have HR : Hid _ := hR
          have HG : Hid _ := hG
          clear hR hxs hG p7
          go_wp2_with fail
          go_roundw
          case rel => exact ⟨i + 1, by omega, by go_num, Nt.grown_set (Nt.grown_set (Nt.grown_set (Nt.grown_set (Nt.grown_set (Nt.grown_set (Nt.grown_set (Nt.grown_set (Nt.grown_set HG.out rfl _ _) rfl _ _) rfl _ _) rfl _ _) rfl _ _) rfl _ _) rfl _ _) rfl _ _) rfl _ _, Nt.RowN.set (Nt.RowN.set (Nt.RowN.set (Nt.RowN.set (Nt.RowN.set (Nt.RowN.set (Nt.RowN.set (Nt.RowN.set (Nt.RowN.set HR.out _ _) _ _) _ _) _ _) _ _) _ _) _ _) _ _) _ _⟩
          case measure => simp [intOf]; omega
        · clear HRa7
          rename World => K2
          have HG : Hid _ := hG
          have HR : Hid _ := hR
          have hs72 := hG.size
          have HRl8 : Hid (Nt.RowN K2 W4.heap.size 3 1 (.slice vl M.length cl) M.length) := Nt.RowN.blk ⟨_, HRl7.out⟩ (fun k e => hG.block k (by have := HLl.out k e; omega) (fun e2 => by have := HLl.out k e; have := HLa.out k e2.symm; omega))
          have HP8 : Hid _ := p7
          clear hG hR p7 HRl7 HP7
          go_wp2_with fail
          go_loopw [15] (fun iv wr => ∃ i : Nat, i ≤ M.length ∧ iv = .int .i64 (i : Int) ∧ K2.grownBy wr (Value.slice vl M.length cl).ownBlock ∧ Nt.RowN wr W4.heap.size 3 1 (.slice vl M.length cl) M.length) (fun iv _ => M.length - (intOf iv).toNat)
          case atStart => exact ⟨0, by omega, rfl, ⟨rfl, rfl, rfl, Nat.le_refl _, fun _ _ _ => rfl⟩, HRl8.out⟩
          case round =>
            clear d2
            obtain ⟨j, hj, rfl, hG, hR⟩ := hrel
            by_cases hlt : j < M.length
            · obtain ⟨xs, hxs⟩ := hR
              obtain ⟨g, c, hv, _⟩ := hxs.form (by omega)
              injection hv with e1 _ e3
              subst e1 e3
              have hR : Nt.RowN wr W4.heap.size 3 1 (.slice (some ⟨g, 0, none⟩) M.length cl) M.length := ⟨xs, hxs⟩
              obtain ⟨⟨y0, c0⟩, f0⟩ := hR.at (off := j) (by omega)
              have HR : Hid _ := hR
              have HG : Hid _ := hG
              clear hR hxs hG
              go_wp2_with fail
              go_roundw
              case rel => exact ⟨j + 1, by omega, by go_num, Nt.grown_set HG.out rfl _ _, Nt.RowN.set HR.out _ _⟩
              case measure => simp [intOf]; omega
            · rename World => K3
              have p9 : K3.heap[w2.heap.size]? = _ := (hG.block _ (by omega) (fun e => by have := HLl.out _ e.symm; omega)).trans HP8.out
              have d2 : K3.cell? ⟨w2.heap.size, 2, none⟩ = some (.slice va L.length ca) := cell_of_row _ _ _ _ _ _ p9
              have hs23 := hG.size
              have HRa9 : Hid (Nt.RowN K3 w1.heap.size 64 9 (.slice va L.length ca) L.length) := Nt.RowN.blk HR.out (fun k e => hG.block k (by have := HLa.out k e; omega) (fun e2 => by have := HLa.out k e; have := HLl.out k e2.symm; omega))
              have HS9 : Hid (∀ k, k < K.heap.size → some k ≠ (Value.slice va L.length ca).ownBlock → some k ≠ (Value.slice vl M.length cl).ownBlock → K3.heap[k]? = K.heap[k]?) := fun k hk h1 h2 => (hG.block k (by omega) h2).trans (HG.out.block k hk h1)
              have HR9 : Hid _ := hR
              have HP9 : Hid _ := p9
              have HO9 : Hid (K3.os = K.os ∧ K3.tape = K.tape ∧ K3.output = K.output) := ⟨hG.os.trans HG.out.os, hG.tape.trans HG.out.tape, hG.output.trans HG.out.output⟩
              obtain ⟨i0, hi0, hz0, hz1, hz2⟩ := info_parts Tryd.infoInst
              obtain ⟨xa, hxa⟩ := HRa9.out
              have HXa : Hid _ := hxa
              clear p9 hG hR HR HG HP8 HRl8 hxa HRa9
              go_wp2_with (at_builtin; refine Nt.wpList_append_far _ rfl _ _ 33 rfl w1.heap.size 64 i0 _ 9 72 Tryd.underlying33 hi0 hz0 hz1 hz2 rfl (by decide) (.slice va L.length ca) L.length xa rfl (World.ownsRow.alloc HXa.out _) ⟨K3.heap.size, 0, none⟩ 2 2 Nt.zz.toList rfl rfl (Nt.list_new _ Nt.zz _) Nt.zz_one (by unfold maxLen; omega) (by omega) (by simp; omega) ?_)
              intro v8 w8 ho8 hg8 _ _
              obtain ⟨g8, c8, rfl, _, _⟩ := ho8.form (by omega)
              have hs8 := hg8.size
              rw [World.size_alloc] at hs8
              have HS8 : Hid (∀ k, k < K3.heap.size → some k ≠ (Value.slice va L.length ca).ownBlock → w8.heap[k]? = K3.heap[k]?) := fun k hk h1 => (hg8.block k (by simp; omega) h1).trans (heap_alloc_old K3 _ hk)
              have p8 : w8.heap[w2.heap.size]? = _ := (HS8.out _ (by omega) (fun e => by have := HLa.out _ e.symm; omega)).trans HP9.out
              have b2 : w8.cell? ⟨w2.heap.size, 2, none⟩ = some (.slice va L.length ca) := cell_of_row _ _ _ _ _ _ p8
              have f2 : w8.frozen? ⟨w2.heap.size, 2, none⟩ = false := frozen_of_row w8 _ 2 _ _ p8
              obtain ⟨W9, hW9⟩ : ∃ W9, W9 = w8.setCell ⟨w2.heap.size, 2, none⟩ (.slice (some ⟨g8, 0, none⟩) (L.length + 2) c8) := ⟨_, rfl⟩
              have hB89 := (Below.refl 0 w8).setCell (p := ⟨w2.heap.size, 2, none⟩) (Nat.zero_le _) (.slice (some ⟨g8, 0, none⟩) (L.length + 2) c8)
              rw [← hW9] at hB89
              have hs9 : W9.heap.size = w8.heap.size := by rw [hW9]; simp
              have H2n : Hid (∀ j x, [Value.int .i64 (-2), Value.int .i64 (-2)][j]? = some x → (W9.alloc (.cells #[.int .i64 (-2), .int .i64 (-2)] 3)).cell? ((⟨w8.heap.size, 0, none⟩ : Addr).add j) = some x) := by rw [← hs9]; exact Nt.two_new _ _ _ _
              have HS9' : Hid (∀ k, k < K3.heap.size → some k ≠ (Value.slice va L.length ca).ownBlock → k ≠ w2.heap.size → W9.heap[k]? = K3.heap[k]?) := fun k hk h1 h2 => by
                rw [hW9, heap_setCell_other w8 ⟨w2.heap.size, 2, none⟩ k _ h2]
                exact HS8.out k hk h1
              obtain ⟨xl, hxl⟩ : Nt.RowN W9 W4.heap.size 3 1 (.slice vl M.length cl) M.length := Nt.RowN.blk HR9.out (fun k e => HS9'.out k (by have := HLl.out k e; omega) (fun e2 => by have := HLl.out k e; have := HLa.out k e2.symm; omega) (by have := HLl.out k e; omega))
              have HXl : Hid _ := hxl
              have HO10 : Hid (W9.os = K.os ∧ W9.tape = K.tape ∧ W9.output = K.output) := ⟨hB89.os.trans (hg8.os.trans HO9.out.1), hB89.tape.trans (hg8.tape.trans HO9.out.2.1), hB89.output.trans (hg8.output.trans HO9.out.2.2)⟩
              clear ho8 hg8 p8 hxl HS8 hB89 HXa HR9 HP9 HO9 d2
              go_wp2_with (at_builtin; rw [← hW9]; refine Nt.wpList_append_far _ rfl _ _ 45 rfl W4.heap.size 3 i1 (.int .i64 0) 1 8 Tryd.underlying45 hi1 hy0 hy1 hy2 rfl (by decide) (.slice vl M.length cl) M.length xl rfl (World.ownsRow.alloc HXl.out _) ⟨w8.heap.size, 0, none⟩ 2 2 [.int .i64 (-2), .int .i64 (-2)] rfl rfl H2n.out (fun u hu => by simp only [List.mem_cons, List.not_mem_nil, or_false, or_self] at hu; subst hu; rfl) (by unfold maxLen; omega) (by omega) (by simp; omega) ?_)
              intro v10 w10 ho10 hg10 _ _
              rw [← hW9] at hg10
              clear hW9 b2 f2
              obtain ⟨g10, c10, rfl, _, _⟩ := ho10.form (by omega)
              have hs10 := hg10.size
              rw [World.size_alloc] at hs10
              have HS10 : Hid (∀ k, k < K.heap.size → some k ≠ (Value.slice va L.length ca).ownBlock → some k ≠ (Value.slice vl M.length cl).ownBlock → k ≠ w2.heap.size → w10.heap[k]? = K.heap[k]?) := fun k hk h1 h2 h3 => ((hg10.block k (by simp; omega) h2).trans (heap_alloc_old W9 _ (by omega))).trans ((HS9'.out k (by omega) h1 h3).trans (HS9.out k hk h1 h2))
              have HB10 : Hid (Below w.heap.size w w10) := ⟨hg10.os.trans (HO10.out.1.trans HB7.out.os), hg10.tape.trans (HO10.out.2.1.trans HB7.out.tape), hg10.output.trans (HO10.out.2.2.trans HB7.out.output), by have := HB7.out.size; omega, fun k hk => (HS10.out k (by have := HB7.out.size; omega) (fun e => by have := HLa.out k e.symm; omega) (fun e => by have := HLl.out k e.symm; omega) (by omega)).trans (HB7.out.block k hk)⟩
              have q10 : w10.heap[w3.heap.size]? = _ := (HS10.out _ (by omega) (fun e => by have := HLa.out _ e.symm; omega) (fun e => by have := HLl.out _ e.symm; omega) (by omega)).trans HQ7.out
              have x10 : w10.heap[w4.heap.size]? = _ := (HS10.out _ (by omega) (fun e => by have := HLa.out _ e.symm; omega) (fun e => by have := HLl.out _ e.symm; omega) (by omega)).trans HX7.out
              have rb10 := Nt.own_blk HRb7.out (fun k e => HS10.out k (by have := HLb.out k e; omega) (fun e2 => by have := HLb.out k e; have := HLa.out k e2.symm; omega) (fun e2 => by have := HLb.out k e; have := HLl.out k e2.symm; omega) (by have := HLb.out k e; omega))
              have rw10 := Nt.own_blk HRw7.out (fun k e => HS10.out k (by have := HLw.out k e; omega) (fun e2 => by have := HLw.out k e; have := HLa.out k e2.symm; omega) (fun e2 => by have := HLw.out k e; have := HLl.out k e2.symm; omega) (by have := HLw.out k e; omega))
              have rm10 := Nt.own_blk HRm7.out (fun k e => HS10.out k (by have := HLm.out k e; omega) (fun e2 => by have := HLm.out k e; have := HLa.out k e2.symm; omega) (fun e2 => by have := HLm.out k e; have := HLl.out k e2.symm; omega) (by have := HLm.out k e; omega))
              have rk10 := Nt.own_blk HRk7.out (fun k e => HS10.out k (HLk.out k e).2 (fun e2 => by have := HLk.out k e; have := HLa.out k e2.symm; omega) (fun e2 => by have := HLk.out k e; have := HLl.out k e2.symm; omega) (by have := HLk.out k e; omega))
              have hSm := rsame_yes gr sl L (.slice vb L.length cb) (.slice vw L.length cw) _ _ w10 rb10 rw10 hLl
              have HIn : Hid (∀ w', Below w10.heap.size w10 w' → Calls Tryd.prog 21 #[.slice vm M.length cm, .slice ka M.length kc] w' fun e w2 => e = .returned (.bool true) ∧ Below w'.heap.size w' w2) := fun w' hb => by
                have := ints_any M M _ _ _ _ w' (own_below rm10 hb) (own_below rk10 hb) (by omega)
                rwa [beq_self_eq_true] at this
              have hlast : w10.cell? ⟨g10, M.length + 1, none⟩ = some (.int .i64 (-2)) := by
                rw [ho10.cellAt (M.length + 1) (by omega)]
                have : xl.length = M.length := by have := HXl.out.1; omega
                rw [List.getElem?_append_right (by omega), this]
                simp
              have HLst : Hid _ := hlast
              have d0 : w10.cell? ⟨w3.heap.size, 0, none⟩ = some (.int .i64 gr) := cell_of_row _ _ _ _ _ _ q10
              have d1 : w10.cell? ⟨w3.heap.size, 1, none⟩ = some (.int .i64 sl) := cell_of_row _ _ _ _ _ _ q10
              have d2 : w10.cell? ⟨w3.heap.size, 2, none⟩ = some (.slice vb L.length cb) := cell_of_row _ _ _ _ _ _ q10
              have e0 : w10.cell? ⟨w4.heap.size, 0, none⟩ = some (.int .i64 gr) := cell_of_row _ _ _ _ _ _ x10
              have e1 : w10.cell? ⟨w4.heap.size, 1, none⟩ = some (.int .i64 sl) := cell_of_row _ _ _ _ _ _ x10
              have e2 : w10.cell? ⟨w4.heap.size, 2, none⟩ = some (.slice vw L.length cw) := cell_of_row _ _ _ _ _ _ x10
              simp only [Nt.prgV] at hSm
              clear HS10 HS9 HS9' HO10 HB7 HQ7 HX7 HRb7 HRw7 HRm7 HRk7 q10 x10 rb10 rw10 rm10 rk10 ho10 hg10 hlast HXl H2n HLa HLb HLw HLl HLm HLk
              go_wp2_with (first
                | (go_at_call 14; refine hSm.mono ?_; clear hSm; rintro e w11 ⟨rfl, hb11⟩; have hIn := HIn.out w11 hb11; have HB11 : Hid _ := hb11; clear hb11 d0 d1 d2 e0 e1 e2)
                | (go_at_call 21; (refine hIn.mono ?_; clear hIn; rintro e w12 ⟨rfl, hb12⟩; have hl12 : w12.cell? ⟨g10, M.length + 1, none⟩ = some (.int .i64 (-2)) := (hb12.cell (p := ⟨g10, M.length + 1, none⟩) (show g10 < w11.heap.size by have := HB11.out.size; omega)).trans ((HB11.out.cell (p := ⟨g10, M.length + 1, none⟩) (show g10 < w10.heap.size by omega)).trans HLst.out); have HB12 : Hid (Below w.heap.size w w12) := HB10.out.trans ((HB11.out.trans (hb12.mono HB11.out.size)).mono HB10.out.size); clear hb12)))
              go_ret
              exact ⟨rfl, HB12.out⟩
end Go.Proofs.YtdiokclbdaojpaaDoor
