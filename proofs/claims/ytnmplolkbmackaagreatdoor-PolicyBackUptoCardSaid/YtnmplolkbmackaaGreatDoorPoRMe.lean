/- What the reference's Meet answers. -/
import Derived.Test.YtnmplolkbmackaaGreatDoorPoRWt
import Derived.Deep.RegionHeld3
namespace Go.Proofs.YtnmplolkbmackaaGreatDoor
open Go.RowKit

theorem rmeet_at (a ao : Option Addr) (cap co : Nat) (l m : List (List ByteArray)) (w0 W : World) (h : Pts w0 a cap l) (ho : Pts w0 ao co m) (hm : l.length + m.length ≤ 1000000) (hb : Below w0.heap.size w0 W) :
    Calls Tryz.prog 41 #[.slice a l.length cap, .slice ao m.length co] W fun e w' => ∃ (c : List (List ByteArray)) (av : Option Addr) (n : Nat), e = .returned (.slice av c.length n) ∧ Hid (Mvd w0 w' l m c (.slice av c.length n) w0.heap.size ∧ Below W.heap.size W w') ∧ c.length ≤ 1000000 := by
  refine (rmet_any a ao cap co l m W (h.below hb) (ho.below hb) hm).mono ?_
  rintro e w' ⟨c, v, rfl, h1, h2, h3, h4⟩
  obtain ⟨av, n, rfl, _⟩ := h3.pts (by omega)
  exact ⟨c, av, n, rfl, ⟨⟨h1, h3.base hb.size, hb.trans (h4.mono hb.size)⟩, h4⟩, by omega⟩
theorem PRow.keep3 {w w' : World} {b g : Nat} {v x0 x1 : Value} {f m o e : Int} {l : List (List ByteArray)} (h : PRow w b v l) (hg : w.heap[g]? = some (polO x0 x1 f m o e)) (h0 : ∀ s, x0 ≠ .string s ∧ x1 ≠ .string s) (ht : Tu (fun k => k = g) w w') : PRow w' b v l := by
  refine (h.both.far ht (fun k hk e => ?_) (fun x c p hs hp ad hx => ?_)).row
  · obtain ⟨xs, k1, _⟩ := h
    subst e
    exact Lib.ownBlock_ne k1 hg (by decide) hk
  · refine strs_far hg (fun j s q => ?_) hs hp ad hx
    rcases (show j = 0 ∨ j = 1 ∨ j = 2 ∨ j = 3 ∨ j = 4 ∨ j = 5 ∨ 6 ≤ j by omega) with rfl | rfl | rfl | rfl | rfl | rfl | hj
    · exact (h0 s).1 (Option.some.inj q)
    · exact (h0 s).2 (Option.some.inj q)
    · cases Option.some.inj q
    · cases Option.some.inj q
    · cases Option.some.inj q
    · cases Option.some.inj q
    · rw [Array.getElem?_eq_none (by simpa using hj)] at q; cases q

set_option maxRecDepth 100000 in
set_option maxHeartbeats 4000000 in
theorem rpmeet_yes (ar1 aw1 : Option Addr) (cr1 cw1 : Nat) (R1 W1 : List (List ByteArray)) (f1 m1 o1 e1 : Int) (ar2 aw2 : Option Addr) (cr2 cw2 : Nat) (R2 W2 : List (List ByteArray)) (f2 m2 o2 e2 : Int) (w : World) (hr1 : Pts w ar1 cr1 R1) (hw1 : Pts w aw1 cw1 W1) (hr2 : Pts w ar2 cr2 R2) (hw2 : Pts w aw2 cw2 W2) (hc : Pl.chk2 R1 W1 f1 m1 o1 e1 R2 W2 f2 m2 o2 e2 = 0) (hR : R1.length + R2.length ≤ 1000000) (hW : W1.length + W2.length ≤ 1000000) :
    Calls Tryz.prog 20 #[.agg #[.slice ar1 R1.length cr1, .slice aw1 W1.length cw1, .int .i64 f1, .int .i64 m1, .int .i64 o1, .int .i64 e1], .agg #[.slice ar2 R2.length cr2, .slice aw2 W2.length cw2, .int .i64 f2, .int .i64 m2, .int .i64 o2, .int .i64 e2]] w (MeetE w R1 W1 f1 m1 o1 e1 R2 W2 f2 m2 o2 e2) := by
  obtain ⟨wa, hwa⟩ : ∃ wa, wa = ((w.alloc (.cells #[.slice ar1 R1.length cr1, .slice aw1 W1.length cw1, .int .i64 f1, .int .i64 m1, .int .i64 o1, .int .i64 e1] 24)).alloc (.cells #[.slice ar2 R2.length cr2, .slice aw2 W2.length cw2, .int .i64 f2, .int .i64 m2, .int .i64 o2, .int .i64 e2] 24)).alloc zPol := ⟨_, rfl⟩
  have hB2 : Below w.heap.size w ((w.alloc (.cells #[.slice ar1 R1.length cr1, .slice aw1 W1.length cw1, .int .i64 f1, .int .i64 m1, .int .i64 o1, .int .i64 e1] 24)).alloc (.cells #[.slice ar2 R2.length cr2, .slice aw2 W2.length cw2, .int .i64 f2, .int .i64 m2, .int .i64 o2, .int .i64 e2] 24)) := ((Below.refl _ _).alloc (Nat.le_refl _) _).alloc (by simp) _
  have hB : Below w.heap.size w wa := by rw [hwa]; exact hB2.alloc hB2.size _
  have hT : Two wa w.heap.size (w.heap.size + 1) ar1 aw1 cr1 cw1 R1 W1 f1 m1 o1 e1 ar2 aw2 cr2 cw2 R2 W2 f2 m2 o2 e2 := by rw [hwa]; exact (two_new w ar1 aw1 cr1 cw1 R1 W1 f1 m1 o1 e1 ar2 aw2 cr2 cw2 R2 W2 f2 m2 o2 e2 hr1 hw1 hr2 hw2).below ((Below.refl _ _).alloc (Nat.le_refl _) _)
  have hz : wa.heap[w.heap.size + 2]? = some zPol := by rw [hwa, show w.heap.size + 2 = ((w.alloc (.cells #[.slice ar1 R1.length cr1, .slice aw1 W1.length cw1, .int .i64 f1, .int .i64 m1, .int .i64 o1, .int .i64 e1] 24)).alloc (.cells #[.slice ar2 R2.length cr2, .slice aw2 W2.length cw2, .int .i64 f2, .int .i64 m2, .int .i64 o2, .int .i64 e2] 24)).heap.size from by simp]; exact heap_alloc_new _ _
  have HW : Hid (wa = ((w.alloc (.cells #[.slice ar1 R1.length cr1, .slice aw1 W1.length cw1, .int .i64 f1, .int .i64 m1, .int .i64 o1, .int .i64 e1] 24)).alloc (.cells #[.slice ar2 R2.length cr2, .slice aw2 W2.length cw2, .int .i64 f2, .int .i64 m2, .int .i64 o2, .int .i64 e2] 24)).alloc zPol) := hwa
  have hk : Pl.polC R1 W1 f1 m1 o1 e1 = 0 ∧ Pl.polC R2 W2 f2 m2 o2 e2 = 0 := by
    unfold Pl.chk2 at hc
    rcases Pl.polC_two R1 W1 f1 m1 o1 e1 with k | k
    · rw [if_pos k] at hc; exact ⟨k, hc⟩
    · rw [if_neg (by rw [k]; decide)] at hc; cases hc
  have H0 := rRight_any ar1 aw1 cr1 cw1 R1 W1 f1 m1 o1 e1 wa hT.r1 hT.w1
  rw [hk.1] at H0
  have H1 : Hid (∀ V, Below wa.heap.size wa V → Calls Tryz.prog 29 #[.agg #[.slice ar2 R2.length cr2, .slice aw2 W2.length cw2, .int .i64 f2, .int .i64 m2, .int .i64 o2, .int .i64 e2]] V fun x w' => x = .returned (.bool true) ∧ Below V.heap.size V w') := fun V hV => (rRight_any ar2 aw2 cr2 cw2 R2 W2 f2 m2 o2 e2 V (hT.r2.below hV) (hT.w2.below hV)).mono fun x w' h => ⟨by rw [h.1, hk.2]; rfl, h.2⟩
  have hlr1 := hr1.len
  have hlw1 := hw1.len
  have hlr2 := hr2.len
  have hlw2 := hw2.len
  have HZ : Hid (Below w.heap.size w wa ∧ Two wa w.heap.size (w.heap.size + 1) ar1 aw1 cr1 cw1 R1 W1 f1 m1 o1 e1 ar2 aw2 cr2 cw2 R2 W2 f2 m2 o2 e2 ∧ wa.heap[w.heap.size + 2]? = some zPol) := ⟨hB, hT, hz⟩
  clear hwa hB hT hz hB2 hr1 hw1 hr2 hw2 hc hk
  simp only [zPol] at HW
  go_enter Tryz.func20, Tryz.ntmps20
  go_wp2_with fail
  rw [← HW.out]
  refine H0.mono ?_
  rintro x w0 ⟨rfl, hb00⟩
  have D1 := H1.out w0 hb00
  have t0 := HZ.out.2.1.below hb00
  have y0 := t0.h0
  have y1 := t0.h1
  have y2 := t0.h2
  have y3 := t0.h3
  have y4 := t0.h4
  have y5 := t0.h5
  clear t0
  go_wp2_with fail
  refine D1.mono ?_
  rintro x w1 ⟨rfl, hb01⟩
  have hb1 := hb00.trans (hb01.mono hb00.size)
  clear hb00 hb01 D1 y0 y1 y2 y3 y4 y5
  have HZ1 : Hid (Below w.heap.size w w1 ∧ Two w1 w.heap.size (w.heap.size + 1) ar1 aw1 cr1 cw1 R1 W1 f1 m1 o1 e1 ar2 aw2 cr2 cw2 R2 W2 f2 m2 o2 e2 ∧ w1.heap[w.heap.size + 2]? = some zPol) := ⟨HZ.out.1.trans (hb1.mono HZ.out.1.size), HZ.out.2.1.below hb1, (hb1.block _ (lt_of_block HZ.out.2.2)).trans HZ.out.2.2⟩
  have hsz : w.heap.size + 2 < w1.heap.size := lt_of_block HZ1.out.2.2
  clear hb1 HZ H0 H1 HW
  have HR : Hid (Pts w1 ar1 cr1 R1 ∧ Pts w1 aw1 cw1 W1 ∧ Pts w1 ar2 cr2 R2 ∧ Pts w1 aw2 cw2 W2) := ⟨HZ1.out.2.1.r1, HZ1.out.2.1.w1, HZ1.out.2.1.r2, HZ1.out.2.1.w2⟩
  have HC1 : Hid (∀ V, Below w1.heap.size w1 V → Calls Tryz.prog 41 #[.slice ar1 R1.length cr1, .slice ar2 R2.length cr2] V fun e w' => ∃ (c : List (List ByteArray)) (av : Option Addr) (n : Nat), e = .returned (.slice av c.length n) ∧ Hid (Mvd w1 w' R1 R2 c (.slice av c.length n) w1.heap.size ∧ Below V.heap.size V w') ∧ c.length ≤ 1000000) := fun V hV => rmeet_at _ _ _ _ R1 R2 w1 V HR.out.1 HR.out.2.2.1 hR hV
  have HC2 : Hid (∀ V, Below w1.heap.size w1 V → Calls Tryz.prog 41 #[.slice aw1 W1.length cw1, .slice aw2 W2.length cw2] V fun e w' => ∃ (c : List (List ByteArray)) (av : Option Addr) (n : Nat), e = .returned (.slice av c.length n) ∧ Hid (Mvd w1 w' W1 W2 c (.slice av c.length n) w1.heap.size ∧ Below V.heap.size V w') ∧ c.length ≤ 1000000) := fun V hV => rmeet_at _ _ _ _ W1 W2 w1 V HR.out.2.1 HR.out.2.2.2 hW hV
  have HS : Hid (∀ V, Below w1.heap.size w1 V → Below w1.heap.size w1 V ∧ (V.cell? ⟨w.heap.size, 0, none⟩ = some (.slice ar1 R1.length cr1) ∧ V.cell? ⟨w.heap.size, 1, none⟩ = some (.slice aw1 W1.length cw1) ∧ V.cell? ⟨w.heap.size, 2, none⟩ = some (.int .i64 f1) ∧ V.cell? ⟨w.heap.size, 3, none⟩ = some (.int .i64 m1) ∧ V.cell? ⟨w.heap.size, 4, none⟩ = some (.int .i64 o1) ∧ V.cell? ⟨w.heap.size, 5, none⟩ = some (.int .i64 e1) ∧ V.cell? ⟨w.heap.size + 1, 0, none⟩ = some (.slice ar2 R2.length cr2) ∧ V.cell? ⟨w.heap.size + 1, 1, none⟩ = some (.slice aw2 W2.length cw2) ∧ V.cell? ⟨w.heap.size + 1, 2, none⟩ = some (.int .i64 f2) ∧ V.cell? ⟨w.heap.size + 1, 3, none⟩ = some (.int .i64 m2) ∧ V.cell? ⟨w.heap.size + 1, 4, none⟩ = some (.int .i64 o2) ∧ V.cell? ⟨w.heap.size + 1, 5, none⟩ = some (.int .i64 e2))) := fun V hV => by
    have t := HZ1.out.2.1.below hV
    exact ⟨hV, t.g0, t.g1, t.g2, t.g3, t.g4, t.g5, t.h0, t.h1, t.h2, t.h3, t.h4, t.h5⟩
  have hb0 : Below w1.heap.size w1 w1.drew := (Below.refl _ w1).drew
  obtain ⟨F, hF⟩ : ∃ F, (if f2 < f1 then f2 else f1) = F := ⟨_, rfl⟩
  obtain ⟨M, hM⟩ : ∃ M, (if m2 < m1 then m2 else m1) = M := ⟨_, rfl⟩
  obtain ⟨O, hO⟩ : ∃ O, (if o2 < o1 then o2 else o1) = O := ⟨_, rfl⟩
  obtain ⟨E, hE⟩ : ∃ E, (if e2 < e1 then e2 else e1) = E := ⟨_, rfl⟩
  have HN : Hid (F = min f1 f2 ∧ M = min m1 m2 ∧ O = min o1 o2 ∧ E = min e1 e2) := by
    refine ⟨?_, ?_, ?_, ?_⟩
    · rw [← hF]; split <;> omega
    · rw [← hM]; split <;> omega
    · rw [← hO]; split <;> omega
    · rw [← hE]; split <;> omega
  clear hR hW HR
  generalize hgg : w.heap.size = g at *
  have HG : Hid (w.heap.size = g) := hgg
  clear hgg
  generalize hhh : g + 1 = h at *
  have HH : Hid (g + 1 = h) := hhh
  clear hhh
  go_upto_region 3 with fail
  go_cut [6] (fun v7 wx => ∃ (cR cW : List (List ByteArray)) (avR avW : Option Addr) (nR nW q : Nat), v7 = .pointer (some ⟨q, 0, none⟩) ∧ cR.length ≤ 1000000 ∧ cW.length ≤ 1000000 ∧ MeetF w1 wx R1 W1 R2 W2 cR cW avR avW nR nW q 0 0 0 0)
  case first =>
    refine wp_region_noPanic ?_
    refine wp_region_held_drew (S := fun w' => Below w1.heap.size w1 w' ∧ (w'.cell? ⟨g, 0, none⟩ = some (.slice ar1 R1.length cr1) ∧ w'.cell? ⟨g, 1, none⟩ = some (.slice aw1 W1.length cw1) ∧ w'.cell? ⟨g, 2, none⟩ = some (.int .i64 f1) ∧ w'.cell? ⟨g, 3, none⟩ = some (.int .i64 m1) ∧ w'.cell? ⟨g, 4, none⟩ = some (.int .i64 o1) ∧ w'.cell? ⟨g, 5, none⟩ = some (.int .i64 e1) ∧ w'.cell? ⟨h, 0, none⟩ = some (.slice ar2 R2.length cr2) ∧ w'.cell? ⟨h, 1, none⟩ = some (.slice aw2 W2.length cw2) ∧ w'.cell? ⟨h, 2, none⟩ = some (.int .i64 f2) ∧ w'.cell? ⟨h, 3, none⟩ = some (.int .i64 m2) ∧ w'.cell? ⟨h, 4, none⟩ = some (.int .i64 o2) ∧ w'.cell? ⟨h, 5, none⟩ = some (.int .i64 e2))) (by kernel_rfl) (HS.out _ hb0) (fun hHeld => ?_)
    refine wpAnyH_take (i := 0) (oi := { dst := some 16, op := Op.fieldAddr 24 (Operand.tmp 2) 0, type := 0, pos := "ref.go:96", after := #[], guard := none }) (v := .pointer (some ⟨g, 0, none⟩)) rfl (by kernel_rfl) (by kernel_rfl) (by kernel_rfl) (fun _ _ _ h => h) (Or.inl ⟨by rfl, ?_⟩) (by assumption) ?_
    · intro wq hSw
      go_simp
    simp only [Act.put, List.setIfInBounds_toArray, List.set_cons_zero, List.set_cons_succ]
    refine wpAnyH_take (i := 1) (oi := { dst := some 17, op := Op.load 22 (Operand.tmp 16), type := 22, pos := "ref.go:96", after := #[{ on := 0, ground := Ground.data }], guard := none }) (v := .slice ar1 R1.length cr1) rfl (by kernel_rfl) (by kernel_rfl) (by kernel_rfl) (fun _ _ _ h => h) (Or.inl ⟨by rfl, ?_⟩) (by assumption) ?_
    · intro wq hSw
      go_simp
    simp only [Act.put, List.setIfInBounds_toArray, List.set_cons_zero, List.set_cons_succ]
    refine wpAnyH_take (i := 2) (oi := { dst := some 18, op := Op.fieldAddr 24 (Operand.tmp 3) 0, type := 0, pos := "ref.go:96", after := #[], guard := none }) (v := .pointer (some ⟨h, 0, none⟩)) rfl (by kernel_rfl) (by kernel_rfl) (by kernel_rfl) (fun _ _ _ h => h) (Or.inl ⟨by rfl, ?_⟩) (by assumption) ?_
    · intro wq hSw
      go_simp
    simp only [Act.put, List.setIfInBounds_toArray, List.set_cons_zero, List.set_cons_succ]
    refine wpAnyH_take (i := 3) (oi := { dst := some 19, op := Op.load 22 (Operand.tmp 18), type := 22, pos := "ref.go:96", after := #[{ on := 2, ground := Ground.data }], guard := none }) (v := .slice ar2 R2.length cr2) rfl (by kernel_rfl) (by kernel_rfl) (by kernel_rfl) (fun _ _ _ h => h) (Or.inl ⟨by rfl, ?_⟩) (by assumption) ?_
    · intro wq hSw
      go_simp
    simp only [Act.put, List.setIfInBounds_toArray, List.set_cons_zero, List.set_cons_succ]
    refine wpAnyH_take (i := 5) (oi := { dst := some 21, op := Op.fieldAddr 24 (Operand.tmp 2) 1, type := 0, pos := "ref.go:96", after := #[], guard := none }) (v := .pointer (some ⟨g, 1, none⟩)) rfl (by kernel_rfl) (by kernel_rfl) (by kernel_rfl) (fun _ _ _ h => h) (Or.inl ⟨by rfl, ?_⟩) (by assumption) ?_
    · intro wq hSw
      go_simp
    simp only [Act.put, List.setIfInBounds_toArray, List.set_cons_zero, List.set_cons_succ]
    refine wpAnyH_take (i := 6) (oi := { dst := some 22, op := Op.load 22 (Operand.tmp 21), type := 22, pos := "ref.go:96", after := #[{ on := 5, ground := Ground.data }], guard := none }) (v := .slice aw1 W1.length cw1) rfl (by kernel_rfl) (by kernel_rfl) (by kernel_rfl) (fun _ _ _ h => h) (Or.inl ⟨by rfl, ?_⟩) (by assumption) ?_
    · intro wq hSw
      go_simp
    simp only [Act.put, List.setIfInBounds_toArray, List.set_cons_zero, List.set_cons_succ]
    refine wpAnyH_take (i := 7) (oi := { dst := some 23, op := Op.fieldAddr 24 (Operand.tmp 3) 1, type := 0, pos := "ref.go:96", after := #[], guard := none }) (v := .pointer (some ⟨h, 1, none⟩)) rfl (by kernel_rfl) (by kernel_rfl) (by kernel_rfl) (fun _ _ _ h => h) (Or.inl ⟨by rfl, ?_⟩) (by assumption) ?_
    · intro wq hSw
      go_simp
    simp only [Act.put, List.setIfInBounds_toArray, List.set_cons_zero, List.set_cons_succ]
    refine wpAnyH_take (i := 8) (oi := { dst := some 24, op := Op.load 22 (Operand.tmp 23), type := 22, pos := "ref.go:96", after := #[{ on := 7, ground := Ground.data }], guard := none }) (v := .slice aw2 W2.length cw2) rfl (by kernel_rfl) (by kernel_rfl) (by kernel_rfl) (fun _ _ _ h => h) (Or.inl ⟨by rfl, ?_⟩) (by assumption) ?_
    · intro wq hSw
      go_simp
    simp only [Act.put, List.setIfInBounds_toArray, List.set_cons_zero, List.set_cons_succ]
    refine wpAnyH_ready (rs := [4, 11]) (by kernel_rfl) (by simp) ?_
    refine AllReadyH.cons (o := { dst := some 20, op := Op.call { callee := Callee.value (Operand.func 41), args := #[Operand.tmp 17, Operand.tmp 19], argTypes := #[22, 22] }, type := 22, pos := "ref.go:96", after := #[{ on := 1, ground := Ground.data }, { on := 3, ground := Ground.data }], guard := none }) rfl (fun K hK => ?_) ?_
    · skip
      go_simp
      refine (HC1.out _ hb0).mono ?_
      rintro ex w2 ⟨cR, avR, nR, rfl, K1, hcr⟩
      go_wp2_with fail
      refine hK.out _ _ (HS.out _ K1.out.1.bel) (fun hHeld => ?_)
      clear hK K
      try simp only [Act.put, List.setIfInBounds_toArray, List.set_cons_zero, List.set_cons_succ]
      refine wpAnyH_ready (rs := [9, 11]) (by kernel_rfl) (by simp) ?_
      refine AllReadyH.cons (o := { dst := some 25, op := Op.call { callee := Callee.value (Operand.func 41), args := #[Operand.tmp 22, Operand.tmp 24], argTypes := #[22, 22] }, type := 22, pos := "ref.go:96", after := #[{ on := 6, ground := Ground.data }, { on := 8, ground := Ground.data }, { on := 4, ground := Ground.chain }], guard := none }) rfl (fun K hK => ?_) ?_
      · skip
        go_simp
        refine (HC2.out _ K1.out.1.bel).mono ?_
        rintro ex w3 ⟨cW, avW, nW, rfl, K2, hcw⟩
        go_wp2_with fail
        refine hK.out _ _ (HS.out _ K2.out.1.bel) (fun hHeld => ?_)
        clear hK K
        try simp only [Act.put, List.setIfInBounds_toArray, List.set_cons_zero, List.set_cons_succ]
        refine wpAnyH_take (i := 10) (oi := { dst := some 26, op := Op.build 24 #[(0, Operand.tmp 20), (1, Operand.tmp 25)], type := 24, pos := "ref.go:96", after := #[{ on := 4, ground := Ground.data }, { on := 9, ground := Ground.data }], guard := none }) (v := .agg #[.slice avR cR.length nR, .slice avW cW.length nW, .int .i64 0, .int .i64 0, .int .i64 0, .int .i64 0]) rfl (by kernel_rfl) (by kernel_rfl) (by kernel_rfl) (fun _ _ _ h => h) (Or.inl ⟨by rfl, ?_⟩) (by assumption) ?_
        · intro wq hSw
          go_simp
        simp only [Act.put, List.setIfInBounds_toArray, List.set_cons_zero, List.set_cons_succ]
        refine wpAnyH_ready (rs := [11]) (by kernel_rfl) (by simp) ?_
        refine AllReadyH.cons (o := { dst := some 6, op := Op.alloc 24, type := 0, pos := "ref.go:96", after := #[], guard := none }) rfl (fun K hK => ?_) ?_
        · skip
          go_simp
          refine hK.out _ _ (HS.out _ (K2.out.1.bel.alloc K2.out.1.bel.size _)) (fun hHeld => ?_)
          clear hK K
          try simp only [Act.put, List.setIfInBounds_toArray, List.set_cons_zero, List.set_cons_succ]
          refine wpAnyH_ready (rs := [12]) (by kernel_rfl) (by simp) ?_
          refine AllReadyH.cons rfl (fun K hK => ?_) ?_
          · go_simp
            refine hK.out _ _ (HS.out _ (K2.out.1.bel.alloc K2.out.1.bel.size _)) (fun hHeld => ?_)
            clear hK K
            try simp only [Act.put, List.setIfInBounds_toArray, List.set_cons_zero, List.set_cons_succ]
            refine wpAnyH_done (by kernel_rfl) ?_ _
            refine NoPanic.normal ?_
            have HFn := meet_end1 K1 K2 0 0 0 0
            clear K1 K2
            go_wp2_with fail
            go_meet
            case rel => exact ⟨cR, cW, avR, avW, nR, nW, _, rfl, hcr, hcw, HFn⟩
          · exact AllReadyH.nil
        · exact AllReadyH.nil
      · skip
        refine AllReadyH.cons (o := { dst := some 6, op := Op.alloc 24, type := 0, pos := "ref.go:96", after := #[], guard := none }) rfl (fun K hK => ?_) ?_
        · skip
          go_simp
          refine hK.out _ _ (HS.out _ (K1.out.1.bel.alloc K1.out.1.bel.size _)) (fun hHeld => ?_)
          clear hK K
          try simp only [Act.put, List.setIfInBounds_toArray, List.set_cons_zero, List.set_cons_succ]
          refine wpAnyH_ready (rs := [9]) (by kernel_rfl) (by simp) ?_
          refine AllReadyH.cons (o := { dst := some 25, op := Op.call { callee := Callee.value (Operand.func 41), args := #[Operand.tmp 22, Operand.tmp 24], argTypes := #[22, 22] }, type := 22, pos := "ref.go:96", after := #[{ on := 6, ground := Ground.data }, { on := 8, ground := Ground.data }, { on := 4, ground := Ground.chain }], guard := none }) rfl (fun K hK => ?_) ?_
          · skip
            go_simp
            refine (HC2.out _ (K1.out.1.bel.alloc K1.out.1.bel.size _)).mono ?_
            rintro ex w3 ⟨cW, avW, nW, rfl, K2, hcw⟩
            go_wp2_with fail
            refine hK.out _ _ (HS.out _ K2.out.1.bel) (fun hHeld => ?_)
            clear hK K
            try simp only [Act.put, List.setIfInBounds_toArray, List.set_cons_zero, List.set_cons_succ]
            have z2 : w3.heap[w2.heap.size]? = some zPol := (K2.out.2.block _ (by simp)).trans (heap_alloc_new w2 _)
            obtain ⟨⟨q0, q1, q2, q3, q4, q5⟩, q6⟩ := zcells z2
            refine wpAnyH_take (i := 10) (oi := { dst := some 26, op := Op.build 24 #[(0, Operand.tmp 20), (1, Operand.tmp 25)], type := 24, pos := "ref.go:96", after := #[{ on := 4, ground := Ground.data }, { on := 9, ground := Ground.data }], guard := none }) (v := .agg #[.slice avR cR.length nR, .slice avW cW.length nW, .int .i64 0, .int .i64 0, .int .i64 0, .int .i64 0]) rfl (by kernel_rfl) (by kernel_rfl) (by kernel_rfl) (fun _ _ _ h => h) (Or.inl ⟨by rfl, ?_⟩) (by assumption) ?_
            · intro wq hSw
              go_simp
            simp only [Act.put, List.setIfInBounds_toArray, List.set_cons_zero, List.set_cons_succ]
            refine wpAnyH_ready (rs := [12]) (by kernel_rfl) (by simp) ?_
            refine AllReadyH.cons rfl (fun K hK => ?_) ?_
            · go_simp
              refine hK.out _ _ (HS.out _ (put_bel K2.out.1.bel K1.out.1.bel.size z2 _ _ _ _ _ _)) (fun hHeld => ?_)
              clear hK K
              try simp only [Act.put, List.setIfInBounds_toArray, List.set_cons_zero, List.set_cons_succ]
              refine wpAnyH_done (by kernel_rfl) ?_ _
              refine NoPanic.normal ?_
              have HFn := meet_end2 K1.out.1.cov (mvd_on K1 K2.out.2 (.inr ⟨_, rfl⟩)) K2.out.1 K1.out.1.bel.size z2 0 0 0 0
              clear K1 K2
              go_wp2_with fail
              go_meet
              case rel => exact ⟨cR, cW, avR, avW, nR, nW, _, rfl, hcr, hcw, HFn⟩
            · exact AllReadyH.nil
          · exact AllReadyH.nil
        · exact AllReadyH.nil
    · skip
      refine AllReadyH.cons (o := { dst := some 6, op := Op.alloc 24, type := 0, pos := "ref.go:96", after := #[], guard := none }) rfl (fun K hK => ?_) ?_
      · skip
        go_simp
        refine hK.out _ _ (HS.out _ (hb0.alloc hb0.size _)) (fun hHeld => ?_)
        clear hK K
        try simp only [Act.put, List.setIfInBounds_toArray, List.set_cons_zero, List.set_cons_succ]
        refine wpAnyH_ready (rs := [4]) (by kernel_rfl) (by simp) ?_
        refine AllReadyH.cons (o := { dst := some 20, op := Op.call { callee := Callee.value (Operand.func 41), args := #[Operand.tmp 17, Operand.tmp 19], argTypes := #[22, 22] }, type := 22, pos := "ref.go:96", after := #[{ on := 1, ground := Ground.data }, { on := 3, ground := Ground.data }], guard := none }) rfl (fun K hK => ?_) ?_
        · skip
          go_simp
          refine (HC1.out _ (hb0.alloc hb0.size _)).mono ?_
          rintro ex w2 ⟨cR, avR, nR, rfl, K1, hcr⟩
          go_wp2_with fail
          refine hK.out _ _ (HS.out _ K1.out.1.bel) (fun hHeld => ?_)
          clear hK K
          try simp only [Act.put, List.setIfInBounds_toArray, List.set_cons_zero, List.set_cons_succ]
          have z1 : w2.heap[w1.heap.size]? = some zPol := (K1.out.2.block _ (by simp)).trans (heap_alloc_new w1.drew _)
          refine wpAnyH_ready (rs := [9]) (by kernel_rfl) (by simp) ?_
          refine AllReadyH.cons (o := { dst := some 25, op := Op.call { callee := Callee.value (Operand.func 41), args := #[Operand.tmp 22, Operand.tmp 24], argTypes := #[22, 22] }, type := 22, pos := "ref.go:96", after := #[{ on := 6, ground := Ground.data }, { on := 8, ground := Ground.data }, { on := 4, ground := Ground.chain }], guard := none }) rfl (fun K hK => ?_) ?_
          · skip
            go_simp
            refine (HC2.out _ K1.out.1.bel).mono ?_
            rintro ex w3 ⟨cW, avW, nW, rfl, K2, hcw⟩
            go_wp2_with fail
            refine hK.out _ _ (HS.out _ K2.out.1.bel) (fun hHeld => ?_)
            clear hK K
            try simp only [Act.put, List.setIfInBounds_toArray, List.set_cons_zero, List.set_cons_succ]
            have z2 : w3.heap[w1.heap.size]? = some zPol := (K2.out.2.block _ (lt_of_block z1)).trans z1
            obtain ⟨⟨q0, q1, q2, q3, q4, q5⟩, q6⟩ := zcells z2
            refine wpAnyH_take (i := 10) (oi := { dst := some 26, op := Op.build 24 #[(0, Operand.tmp 20), (1, Operand.tmp 25)], type := 24, pos := "ref.go:96", after := #[{ on := 4, ground := Ground.data }, { on := 9, ground := Ground.data }], guard := none }) (v := .agg #[.slice avR cR.length nR, .slice avW cW.length nW, .int .i64 0, .int .i64 0, .int .i64 0, .int .i64 0]) rfl (by kernel_rfl) (by kernel_rfl) (by kernel_rfl) (fun _ _ _ h => h) (Or.inl ⟨by rfl, ?_⟩) (by assumption) ?_
            · intro wq hSw
              go_simp
            simp only [Act.put, List.setIfInBounds_toArray, List.set_cons_zero, List.set_cons_succ]
            refine wpAnyH_ready (rs := [12]) (by kernel_rfl) (by simp) ?_
            refine AllReadyH.cons rfl (fun K hK => ?_) ?_
            · go_simp
              refine hK.out _ _ (HS.out _ (put_bel K2.out.1.bel (Nat.le_refl _) z2 _ _ _ _ _ _)) (fun hHeld => ?_)
              clear hK K
              try simp only [Act.put, List.setIfInBounds_toArray, List.set_cons_zero, List.set_cons_succ]
              refine wpAnyH_done (by kernel_rfl) ?_ _
              refine NoPanic.normal ?_
              have HFn := meet_end2 K1.out.1.cov (mvd_on K1 K2.out.2 (.inl rfl)) K2.out.1 (Nat.le_refl _) z2 0 0 0 0
              clear K1 K2
              go_wp2_with fail
              go_meet
              case rel => exact ⟨cR, cW, avR, avW, nR, nW, _, rfl, hcr, hcw, HFn⟩
            · exact AllReadyH.nil
          · exact AllReadyH.nil
        · exact AllReadyH.nil
      · exact AllReadyH.nil
  case rest =>
    obtain ⟨cR, cW, avR, avW, nR, nW, q, rfl, hcr, hcw, HFn⟩ := hcut
    have hz0 : wc.heap[h + 1]? = some zPol := by
      have e := HH.out
      rw [show h + 1 = g + 2 by omega]
      exact (HFn.out.2.2.2.2.1.block _ (by omega)).trans HZ1.out.2.2
    obtain ⟨⟨x0, x1, x2, x3, x4, x5⟩, xf⟩ := cells_po HFn.out.2.2.2.2.2.1
    obtain ⟨_, _, _, s1, s2, s3, s4, _, _, s5, s6, s7, s8⟩ := HS.out wc HFn.out.2.2.2.2.1
    have n1f : min f1 f2 = F := HN.out.1.symm
    have n2f : min m1 m2 = M := HN.out.2.1.symm
    have n3f : min o1 o2 = O := HN.out.2.2.1.symm
    have n4f : min e1 e2 = E := HN.out.2.2.2.symm
    obtain ⟨⟨p0, p1, p2, p3, p4, p5⟩, pf⟩ := zcells hz0
    have HBl : Hid (Below w.heap.size w wc) := by
      have k := HZ1.out.1
      rw [← HG.out] at k
      exact k.trans (HFn.out.2.2.2.2.1.mono k.size)
    have HZ : Hid (wc.heap[h + 1]? = some zPol) := hz0
    have hgh : w.heap.size < h + 1 := by have e1 := HG.out; have e2 := HH.out; omega
    have hw1 : w.heap.size ≤ w1.heap.size := HZ1.out.1.size
    have hhw : h + 1 < w1.heap.size := by have e2 := HH.out; omega
    clear hz0 HZ1 HC1 HC2 HS hb0 hF hM hO hE
    by_cases hA : 1024 < cR.length
    · have hA1 : (1024 : Int) < (cR.length : Int) := by omega
      have hA2 : decide ((1024 : Int) < (cR.length : Int)) = true := by simpa using hA1
      go_wp2_with fail
      obtain ⟨y0, y1⟩ := put6_at HZ.out (.slice none 0 0) (.slice none 0 0) (.int .i64 0) (.int .i64 0) (.int .i64 0) (.int .i64 0)
      refine bodyPost_ret (results_pol2 rfl _ _ (h + 1) _ _ _ _ _ _ rfl y0) rfl ?_
      exact ⟨HBl.out.trans (y1.below HBl.out.size (fun k e => by omega)), cR, cW, HFn.out.1, HFn.out.2.1, .inl ⟨.inl hA, rfl⟩⟩
    have hA1 : ¬ (1024 : Int) < (cR.length : Int) := by omega
    have hA2 : decide ((1024 : Int) < (cR.length : Int)) = false := by simpa using hA1
    by_cases hC : 1024 < cW.length
    · have hC1 : (1024 : Int) < (cW.length : Int) := by omega
      have hC2 : decide ((1024 : Int) < (cW.length : Int)) = true := by simpa using hC1
      go_wp2_with fail
      obtain ⟨y0, y1⟩ := put6_at HZ.out (.slice none 0 0) (.slice none 0 0) (.int .i64 0) (.int .i64 0) (.int .i64 0) (.int .i64 0)
      refine bodyPost_ret (results_pol2 rfl _ _ (h + 1) _ _ _ _ _ _ rfl y0) rfl ?_
      exact ⟨HBl.out.trans (y1.below HBl.out.size (fun k e => by omega)), cR, cW, HFn.out.1, HFn.out.2.1, .inl ⟨.inr hC, rfl⟩⟩
    · have hC1 : ¬ (1024 : Int) < (cW.length : Int) := by omega
      have hC2 : decide ((1024 : Int) < (cW.length : Int)) = false := by simpa using hC1
      obtain ⟨w6, hw6⟩ : ∃ w6, w6 = (((wc.setCell ⟨q, 2, none⟩ (.int .i64 F)).setCell ⟨q, 3, none⟩ (.int .i64 M)).setCell ⟨q, 4, none⟩ (.int .i64 O)).setCell ⟨q, 5, none⟩ (.int .i64 E) := ⟨_, rfl⟩
      have t6 : Tu (fun k => k = q) wc w6 := by rw [hw6]; exact ((((Tu.refl (fun k => k = q) wc).setCell (p := ⟨q, 2, none⟩) (fun _ => rfl) _).setCell (p := ⟨q, 3, none⟩) (fun _ => rfl) _).setCell (p := ⟨q, 4, none⟩) (fun _ => rfl) _).setCell (p := ⟨q, 5, none⟩) (fun _ => rfl) _
      have hx6 : w6.heap[q]? = some (polO (.slice avR cR.length nR) (.slice avW cW.length nW) F M O E) := by
        rw [hw6]
        have k1 := heap_setCell_same _ q 2 _ _ (.int .i64 F) HFn.out.2.2.2.2.2.1
        have k2 := heap_setCell_same _ q 3 _ _ (.int .i64 M) k1
        have k3 := heap_setCell_same _ q 4 _ _ (.int .i64 O) k2
        have k4 := heap_setCell_same _ q 5 _ _ (.int .i64 E) k3
        rw [k4]; simp [polO]
      have hz6 : w6.heap[h + 1]? = some zPol := (t6.block _ (lt_of_block HZ.out) (by have := HFn.out.2.2.2.2.2.2; omega)).trans HZ.out
      have hb6 : Below w.heap.size w w6 := HBl.out.trans (t6.below HBl.out.size (fun k e => by have := HFn.out.2.2.2.2.2.2; omega))
      have pR6 : PRow w6 w1.heap.size (.slice avR cR.length nR) cR := HFn.out.2.2.1.keep3 HFn.out.2.2.2.2.2.1 (fun s => ⟨by simp, by simp⟩) t6
      have pW6 : PRow w6 w1.heap.size (.slice avW cW.length nW) cW := HFn.out.2.2.2.1.keep3 HFn.out.2.2.2.2.2.1 (fun s => ⟨by simp, by simp⟩) t6
      have HW6 : Hid (w6 = (((wc.setCell ⟨q, 2, none⟩ (.int .i64 F)).setCell ⟨q, 3, none⟩ (.int .i64 M)).setCell ⟨q, 4, none⟩ (.int .i64 O)).setCell ⟨q, 5, none⟩ (.int .i64 E)) := hw6
      have H6 : Hid (w6.heap[q]? = some (polO (.slice avR cR.length nR) (.slice avW cW.length nW) F M O E) ∧ w6.heap[h + 1]? = some zPol ∧ Below w.heap.size w w6 ∧ PRow w6 w1.heap.size (.slice avR cR.length nR) cR ∧ PRow w6 w1.heap.size (.slice avW cW.length nW) cW) := ⟨hx6, hz6, hb6, pR6, pW6⟩
      have hqg : q ≠ g := by have := HFn.out.2.2.2.2.2.2; have := HH.out; omega
      have hqh : q ≠ h := by have := HFn.out.2.2.2.2.2.2; omega
      have hqg' : g ≠ q := fun e => hqg e.symm
      have hqh' : h ≠ q := fun e => hqh e.symm
      clear hw6 t6 hx6 hz6 hb6 pR6 pW6 p0 p1 p2 p3 p4 p5 pf
      go_upto_region 10 with fail
      rw [← HW6.out]
      clear HW6 x0 x1 x2 x3 x4 x5 s1 s2 s3 s4 s5 s6 s7 s8 xf n1f n2f n3f n4f
      obtain ⟨⟨x0, x1, x2, x3, x4, x5⟩, _⟩ := cells_po H6.out.1
      obtain ⟨⟨p0, p1, p2, p3, p4, p5⟩, pf⟩ := zcells H6.out.2.1
      go_wp2_with fail
      obtain ⟨y0, y1⟩ := put6_at H6.out.2.1 (.slice avR cR.length nR) (.slice avW cW.length nW) (.int .i64 F) (.int .i64 M) (.int .i64 O) (.int .i64 E)
      refine bodyPost_ret (results_pol2 rfl _ _ (h + 1) _ _ _ _ _ _ rfl y0) rfl ?_
      obtain ⟨n1, n2, n3, n4⟩ := HN.out
      refine ⟨H6.out.2.2.1.trans (y1.below H6.out.2.2.1.size (fun k e => by omega)), cR, cW, HFn.out.1, HFn.out.2.1, .inr ⟨⟨by omega, by omega⟩, avR, avW, nR, nW, ?_, (H6.out.2.2.2.1.keep2 H6.out.2.1 y1).base hw1, (H6.out.2.2.2.2.keep2 H6.out.2.1 y1).base hw1⟩⟩
      rw [← n1, ← n2, ← n3, ← n4]
      rfl
end Go.Proofs.YtnmplolkbmackaaGreatDoor
