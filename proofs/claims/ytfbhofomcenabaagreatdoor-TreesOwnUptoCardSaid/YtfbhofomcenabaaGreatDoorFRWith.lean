/- What the reference's with answers. -/
import Derived.Test.YtfbhofomcenabaaGreatDoorUD
import Derived.Test.YtfbhofomcenabaaGreatDoorTX
import Derived.Deep.RegionHeld3
import Derived.BigQuiet
import Derived.Deep.DeepCutAuto
namespace Go.Proofs.YtfbhofomcenabaaGreatDoor
open Go Go.RowKit

set_option maxRecDepth 100000 in
set_option maxHeartbeats 8000000 in
theorem rwith_any (p : List ByteArray) : ∀ (T f : Ft.FT) (a ap fa : Option Addr) (cap cp fc : Nat) (gone : Bool) (Pf : Nat → Prop) (w : World), p ≠ [] → (∀ b, Pf b → b < w.heap.size) → Ft.Fd w (· < w.heap.size) T a cap → Strs w ap cp p → Ft.Fd w Pf f fa fc → Ft.cntT T < 1048576 →
    Calls Tryz.prog 51 #[Ft.fdV T a cap, .slice ap p.length cp, Ft.fdV f fa fc, .bool gone] w fun e w' => ∃ a' c', e = .returned (Ft.fdV (Ft.withG T p (if gone = true then none else some f)) a' c') ∧ Hid (Ft.Fd w' (fun b => Pf b ∨ (w.heap.size ≤ b ∧ b < w'.heap.size)) (Ft.withG T p (if gone = true then none else some f)) a' c' ∧ Below w.heap.size w w') := by
  induction p with
  | nil => intro _ _ _ _ _ _ _ _ _ _ _ h; exact absurd rfl h
  | cons x r ih =>
  intro T f a ap fa cap cp fc gone Pf w _ hPf hT hP hf hc
  obtain ⟨i0, hi0, hz0, hz1, hz2⟩ := info_parts Tryz.infoFile
  obtain ⟨O, hO⟩ : ∃ O, O = (if gone = true then none else some f) := ⟨_, rfl⟩
  have HO : Hid (O = (if gone = true then none else some f)) := hO
  rw [← hO]
  clear hO
  obtain ⟨pb, po, rfl⟩ : ∃ pb po, ap = some ⟨pb, po, none⟩ := by obtain ⟨pb, po, e, _⟩ := hP.cells 0 (by simp); exact ⟨pb, po, e⟩
  have hpc : w.cell? ⟨pb, po, none⟩ = some (.string x) ∧ pb < w.heap.size := by
    obtain ⟨pb2, po2, e, hlt, hcl⟩ := hP.cells 0 (by simp)
    cases e
    exact ⟨by simpa using hcl, hlt⟩
  obtain ⟨W, hW⟩ : ∃ W, W = (((w.alloc (.cells (Ft.fdA T a cap) 25)).alloc (.cells (Ft.fdA f fa fc) 25)).alloc (.cells #[.string ⟨#[]⟩, .int .u8 0, .string ⟨#[]⟩, .slice none 0 0] 25)).alloc (.cells #[.string T.nm, .int .u8 (T.k : Int), .string T.d, .slice none 0 0] 25) := ⟨_, rfl⟩
  have hB : Below w.heap.size w W := by rw [hW]; exact ((((Below.refl _ _).alloc (Nat.le_refl _) _).alloc (by simp) _).alloc (by simp; omega) _).alloc (by simp; omega) _
  have hG : Ft.GW Pf w T a cap f fa fc [] (.slice none 0 0) W := by
    refine ⟨?_, ?_, ?_, ?_, hT.under hB, hf.underP hPf hB, Ft.FRowP.empty _ _ _, hB, by rw [hW]; simp⟩
    · rw [hW]; exact (((Ft.file_new w T a cap).alloc _).alloc _).alloc _
    · rw [hW]
      have := ((Ft.file_new (w.alloc (.cells (Ft.fdA T a cap) 25)) f fa fc).alloc (.cells #[.string ⟨#[]⟩, .int .u8 0, .string ⟨#[]⟩, .slice none 0 0] 25)).alloc (.cells #[.string T.nm, .int .u8 (T.k : Int), .string T.d, .slice none 0 0] 25)
      simpa using this
    · rw [hW]
      have := (Ft.file_zero ((w.alloc (.cells (Ft.fdA T a cap) 25)).alloc (.cells (Ft.fdA f fa fc) 25))).alloc (.cells #[.string T.nm, .int .u8 (T.k : Int), .string T.d, .slice none 0 0] 25)
      simpa using this
    · rw [hW]
      have := heap_alloc_new (((w.alloc (.cells (Ft.fdA T a cap) 25)).alloc (.cells (Ft.fdA f fa fc) 25)).alloc (.cells #[.string ⟨#[]⟩, .int .u8 0, .string ⟨#[]⟩, .slice none 0 0] 25)) (.cells #[.string T.nm, .int .u8 (T.k : Int), .string T.d, .slice none 0 0] 25)
      simpa using this
  have HW : Hid (W = (((w.alloc (.cells #[.string T.nm, .int .u8 (T.k : Int), .string T.d, .slice a T.kids.length cap] 25)).alloc (.cells #[.string f.nm, .int .u8 (f.k : Int), .string f.d, .slice fa f.kids.length fc] 25)).alloc (.cells #[.string ⟨#[]⟩, .int .u8 0, .string ⟨#[]⟩, .slice none 0 0] 25)).alloc (.cells #[.string T.nm, .int .u8 (T.k : Int), .string T.d, .slice none 0 0] 25)) := hW
  have HG : Hid (Ft.GW Pf w T a cap f fa fc [] (.slice none 0 0) W) := hG
  have HH : Hid ((∀ b, Pf b → b < w.heap.size) ∧ Strs w (some ⟨pb, po, none⟩) cp (x :: r) ∧ w.cell? ⟨pb, po, none⟩ = some (.string x) ∧ pb < w.heap.size ∧ Ft.cntT T < 1048576) := ⟨hPf, hP, hpc.1, hpc.2, hc⟩
  have HIH : Hid _ := ih
  have hpl := hP.len
  have hpr := hP.room
  have hTl := hT.room.1
  have hfl := hf.room.1
  have hTk : T.kids.length < 1048576 := Nat.lt_of_le_of_lt (Ft.cnt_kids T) hc
  clear hW hB hG hPf hT hP hf hc ih hpc
  simp only [Ft.fdV, Ft.fdA, List.length_cons] at hpl hpr ⊢
  go_enter Tryz.func51, Tryz.ntmps51
  go_upto_region 2 with fail
  rw [← HW.out]
  clear HW
  obtain ⟨t0, t1, t2, t3⟩ := HG.out.t.cellsG
  go_wp2_with fail
  clear t0 t1 t2 t3
  go_loopw [10, 23] (fun bv iv wr => ∃ (i : Nat) (b : Bool) (v : Value) (K : List (Ft.FT × Option Addr × Nat)), i ≤ T.kids.length ∧ iv = .int .i64 (i : Int) ∧ bv = .bool b ∧ Hid (Ft.GW Pf w T a cap f fa fc K v wr ∧ K.map (·.1) ++ Ft.restG (x :: r) O b (T.kids.drop i) = Ft.restG (x :: r) O false T.kids)) (fun _ iv _ => T.kids.length - (intOf iv).toNat)
  case atStart => exact ⟨0, false, _, [], by omega, rfl, rfl, HG.out, by simp⟩
  case round =>
    obtain ⟨i, b, v, K, hi, rfl, rfl, HR⟩ := hrel
    have hsz := HR.out.1.hs
    by_cases hlt : i < T.kids.length
    · obtain ⟨kb, ko, a', c', rfl, hkb, h4, hk⟩ := HR.out.1.ft.kid hlt
      have hi1 : (i : Int) < (T.kids.length : Int) := by omega
      have hdr : T.kids.drop i = T.kids[i] :: T.kids.drop (i + 1) := List.drop_eq_getElem_cons hlt
      have hKn : K.length ≤ 1048576 := by
        have h9 := congrArg List.length HR.out.2
        have h8 := Ft.rest_len (x :: r) O false T.kids
        rw [List.length_append, List.length_map] at h9
        omega
      have HTk2 : Hid (Ft.cntT (T.kids[i]) < 1048576) := Nat.lt_trans (Ft.cnt_kid hlt) HH.out.2.2.2.2
      have hRp := HR.out.2
      rw [hdr] at hRp
      have hyl := hk.room.1
      obtain ⟨y, hy⟩ : ∃ y, y = T.kids[i] := ⟨_, rfl⟩
      rw [← hy] at h4 hk hRp HTk2 hyl
      clear hy
      obtain ⟨e0, e1, e2, e3⟩ := h4
      obtain ⟨W1, hW1⟩ : ∃ W1, W1 = wr.alloc (.cells (Ft.fdA y a' c') 25) := ⟨_, rfl⟩
      have HW1 : Hid (W1 = wr.alloc (.cells #[.string y.nm, .int .u8 (y.k : Int), .string y.d, .slice a' y.kids.length c'] 25)) := hW1
      have hA : Below wr.heap.size wr W1 := by rw [hW1]; exact (Below.refl _ _).alloc (Nat.le_refl _) _
      have HG1 : Hid (Ft.GW Pf w T (some ⟨kb, ko, none⟩) cap f fa fc K v W1 ∧ Ft.FileAt W1 wr.heap.size y a' c' ∧ Ft.Fd W1 (· < w.heap.size) y a' c') := ⟨HR.out.1.under HH.out.1 hA, by rw [hW1]; exact Ft.file_new wr y a' c', hk.under (hA.mono HR.out.1.bel.size)⟩
      have HRp : Hid _ := hRp
      have hkw : kb < wr.heap.size := Nat.lt_of_lt_of_le hkb HR.out.1.bel.size
      have HOn : Hid (∀ k, v.ownBlock = some k → k < wr.heap.size) := fun k hk => (HR.out.1.row.1.lt k hk).2
      clear hRp hW1 hA hk HR hdr
      go_upto_region 6 with fail
      rw [← HW1.out]
      clear HW1 e0 e1 e2 e3
      generalize wr.heap.size = n at *
      have hsn : w.heap.size + 4 ≤ n := hsz
      have hx1 : W1.cell? ⟨pb, po, none⟩ = some (.string x) := (HG1.out.1.bel.cell (p := ⟨pb, po, none⟩) HH.out.2.2.2.1).trans HH.out.2.2.1
      obtain ⟨y0, y1, y2, y3⟩ := HG1.out.2.1.cellsG
      obtain ⟨C6, hC6⟩ : ∃ C : Bool, C = (r.isEmpty && !b && !gone && !Ft.ltN y x) := ⟨_, rfl⟩
      have HC6 : Hid (C6 = (r.isEmpty && !b && !gone && !Ft.ltN y x)) := hC6
      clear hC6
      go_cut [45] (fun v45 wx => v45 = .bool C6 ∧ ∃ k : Nat, wx = W1.drewN k)
      case first =>
        have s0 : W1.drew.cell? ⟨n, 0, none⟩ = some (.string y.nm) ∧ W1.drew.cell? ⟨pb, po, none⟩ = some (.string x) := ⟨y0, hx1⟩
        by_cases hr : r = []
        · subst hr
          cases b
          · cases gone
            · cases hlt2 : Ft.ltN y x
              · have hl2 : Op.bytesLess y.nm.toList x.toList = false := hlt2
                have hc : C6 = true := by rw [HC6.out, hlt2]; rfl
                go_quiet (fail)
                clear s0
                go_wp2
                go_meet
                exact ⟨by rw [hc], nq, rfl⟩
              · have hl2 : Op.bytesLess y.nm.toList x.toList = true := hlt2
                have hc : C6 = false := by rw [HC6.out, hlt2]; rfl
                go_quiet (fail)
                clear s0
                go_wp2
                go_meet
                exact ⟨by rw [hc], nq, rfl⟩
            · skip
              have hc : C6 = false := by rw [HC6.out]; rfl
              go_quiet (fail)
              clear s0
              go_wp2
              go_meet
              exact ⟨by rw [hc], nq, rfl⟩
          · skip
            have hc : C6 = false := by rw [HC6.out]; rfl
            go_quiet (fail)
            clear s0
            go_wp2
            go_meet
            exact ⟨by rw [hc], nq, rfl⟩
        · have hr2 : r.isEmpty = false := by cases r with
            | nil => exact absurd rfl hr
            | cons _ _ => rfl
          have hr1 : ¬ ((r.length : Int) + 1 = 1) := by
            have : r.length ≠ 0 := fun e => hr (List.eq_nil_of_length_eq_zero e)
            omega
          have hr3 : ((r.length : Int) + 1 == 1) = false := by simpa using hr1
          have hc : C6 = false := by rw [HC6.out, hr2]; rfl
          go_quiet (fail)
          clear s0
          go_wp2
          go_meet
          exact ⟨by rw [hc], nq, rfl⟩
      case rest =>
        obtain ⟨rfl, k6, hwc⟩ := hcut
        have hX0 : Below W1.heap.size W1 wc := by rw [hwc]; exact Ft.bel_dq _ _
        clear y0 y1 y2 y3 hx1 hwc
        cases hC : C6
        · have HX : Hid (Ft.GW Pf w T (some ⟨kb, ko, none⟩) cap f fa fc K v wc ∧ Ft.FileAt wc n y a' c' ∧ Ft.Fd wc (· < w.heap.size) y a' c' ∧ (∀ k, (v : Value).ownBlock = some k → k ≠ n) ∧ K.length ≤ 1048577 ∧ K.map (·.1) ++ ((if (y.nm.toList == x.toList) = true then (if r = [] then [] else [Ft.withG y r O]) else [y]) ++ Ft.restG (x :: r) O b (T.kids.drop (i + 1))) = Ft.restG (x :: r) O false T.kids) := ⟨HG1.out.1.under HH.out.1 hX0, HG1.out.2.1.under hX0, HG1.out.2.2.under (hX0.mono HG1.out.1.bel.size), fun k hk => by have := HOn.out k hk; omega, by omega, by have h := HRp.out; rw [Ft.rest_no HO.out (by rw [← HC6.out]; exact hC)] at h; exact h⟩
          clear HG1 HRp HC6 hC hX0
          go_upto_region 9 with fail
          obtain ⟨y0, y1, y2, y3⟩ := HX.out.2.1.cellsG
          have hx1 : wc.cell? ⟨pb, po, none⟩ = some (.string x) := (HX.out.1.bel.cell (p := ⟨pb, po, none⟩) HH.out.2.2.2.1).trans HH.out.2.2.1
          cases he : (y.nm.toList == x.toList)
          · have hne : (y.nm.toList != x.toList) = true := by simp [bne, he]
            go_quiet (fail)
            clear y0 y1 y2 y3 hx1
            go_upto_region 10 with fail
            obtain ⟨Y, hY⟩ : ∃ Y, Y = (wc.drewN nq).drew := ⟨_, rfl⟩
            have hYb : Below wc.heap.size wc Y := by rw [hY]; exact (Ft.bel_dq _ _).drew
            have HY : Hid (Ft.GW Pf w T (some ⟨kb, ko, none⟩) cap f fa fc K v Y ∧ Ft.FileAt Y n y a' c' ∧ Ft.Fd Y (· < w.heap.size) y a' c') := ⟨HX.out.1.under HH.out.1 hYb, HX.out.2.1.under hYb, HX.out.2.2.1.under (hYb.mono HX.out.1.bel.size)⟩
            have HVN : Hid (∀ k, (v : Value).ownBlock = some k → k ≠ n ∧ w.heap.size + 4 ≤ k ∧ k < Y.heap.size) := fun k hk => ⟨HX.out.2.2.2.1 k hk, HY.out.1.row.1.lt k hk⟩
            have HKn : Hid (K.length ≤ 1048577) := HX.out.2.2.2.2.1
            have hys : w.heap.size + 4 ≤ Y.heap.size := HY.out.1.hs
            have hny : n < Y.heap.size := HY.out.2.1.lt
            have HSb : Hid (∀ V : World, V.heap[n]? = Y.heap[n]? → V.cell? ⟨n, 0, none⟩ = some (.string y.nm) ∧ V.cell? ⟨n, 1, none⟩ = some (.int .u8 (y.k : Int)) ∧ V.cell? ⟨n, 2, none⟩ = some (.string y.d) ∧ V.cell? ⟨n, 3, none⟩ = some (.slice a' y.kids.length c')) := fun V hV => by
              obtain ⟨u0, u1, u2, u3⟩ := Ft.FileAt.cellsG (hV.trans HY.out.2.1)
              skip
              exact ⟨u0, u1, u2, u3⟩
            have HSY : Hid (∀ V : World, Below Y.heap.size Y V → V.cell? ⟨n, 0, none⟩ = some (.string y.nm) ∧ V.cell? ⟨n, 1, none⟩ = some (.int .u8 (y.k : Int)) ∧ V.cell? ⟨n, 2, none⟩ = some (.string y.d) ∧ V.cell? ⟨n, 3, none⟩ = some (.slice a' y.kids.length c')) := fun V hV => HSb.out V (hV.block n hny)
            have HV3 : Hid (∀ V : World, Below Y.heap.size Y V → V.cell? ⟨w.heap.size + 3, 3, none⟩ = some v) := fun V hV => by rw [cell_of_row V _ _ _ _ _ (HY.out.1.under HH.out.1 hV).o]; rfl
            have CC := rcopy_any y a' c' Y (HY.out.2.2.mono (fun k (hk : k < w.heap.size) => by show k < Y.heap.size; omega))
            simp only [Ft.fdV, Ft.fdA] at CC
            have HCC : Hid (Calls Tryz.prog 14 #[.agg #[.string y.nm, .int .u8 (y.k : Int), .string y.d, .slice a' y.kids.length c']] Y fun e w2 => ∃ a2 c2, e = .returned (.agg #[.string y.nm, .int .u8 (y.k : Int), .string y.d, .slice a2 y.kids.length c2]) ∧ Hid (Ft.Fd w2 (fun k => Pf k ∨ (Y.heap.size ≤ k ∧ k < w2.heap.size)) y a2 c2) ∧ Below Y.heap.size Y w2) := CC.mono fun e w2 ⟨a2, c2, h1, h2, h3⟩ => ⟨a2, c2, h1, h2.mono (fun k hk => .inr hk), h3⟩
            clear CC
            refine wp_region_held (S := fun w' => w'.cell? ⟨n, 0, none⟩ = some (.string y.nm) ∧ w'.cell? ⟨n, 1, none⟩ = some (.int .u8 (y.k : Int)) ∧ w'.cell? ⟨n, 2, none⟩ = some (.string y.d) ∧ w'.cell? ⟨n, 3, none⟩ = some (.slice a' y.kids.length c')) (by kernel_rfl) ?_
            have HS0 := HSY.out Y (Below.refl _ _)
            change wpAnyH Tryz.prog .any _ _ _ _ _ _ (wc.drewN nq).drew
            rw [← hY]
            clear hY hYb
            refine wpAnyH_take (i := 0) (oi := { dst := some 59, op := .fieldAddr 25 (.tmp 9) 3, type := 0, pos := "ref.go:183", after := #[], guard := none }) (v := .pointer (some ⟨w.heap.size + 1 + 1 + 1, 3, none⟩)) rfl (by kernel_rfl) (by kernel_rfl) (by kernel_rfl) (fun _ _ _ h => h) (Or.inl ⟨by rfl, ?_⟩) HS0 ?_
            · intro w9 hw9; obtain ⟨l0, l1, l2, l3⟩ := hw9; go_simp
            try simp only [Act.put, List.setIfInBounds_toArray, List.set_cons_zero, List.set_cons_succ]
            refine wpAnyH_take (i := 2) (oi := { dst := some 61, op := .load 25 (.tmp 12), type := 25, pos := "ref.go:183", after := #[], guard := none }) (v := .agg #[.string y.nm, .int .u8 (y.k : Int), .string y.d, .slice a' y.kids.length c']) rfl (by kernel_rfl) (by kernel_rfl) (by kernel_rfl) (fun _ _ _ h => h) (Or.inl ⟨by rfl, ?_⟩) HS0 ?_
            · intro w9 hw9; obtain ⟨l0, l1, l2, l3⟩ := hw9; go_simp
            try simp only [Act.put, List.setIfInBounds_toArray, List.set_cons_zero, List.set_cons_succ]
            refine wpAnyH_ready (rs := [1, 3]) (by kernel_rfl) (by simp) ?_
            refine AllReadyH.cons (o := { dst := some 60, op := .load 23 (.tmp 59), type := 23, pos := "ref.go:183", after := #[{ on := 0, ground := .data }], guard := none }) rfl (fun Kq hKq => ?_) ?_
            · have v3 := HV3.out Y (Below.refl _ _)
              go_simp
              refine hKq.out _ _ HS0 (fun _ => ?_)
              clear hKq Kq v3
              try simp only [Act.put, List.setIfInBounds_toArray, List.set_cons_zero, List.set_cons_succ]
              refine wpAnyH_ready (rs := [3]) (by kernel_rfl) (by simp) ?_
              refine AllReadyH.cons (o := { dst := some 62, op := .call { callee := .value (.func 14), args := #[.tmp 61], argTypes := #[25] }, type := 25, pos := "ref.go:183", after := #[{ on := 2, ground := .data }], guard := none }) rfl (fun Kq hKq => ?_) ?_
              · go_simp
                refine Calls.mono HCC.out ?_
                rintro e w2 ⟨a2, c2, rfl, hU2, hb2⟩
                have HS2 := HSY.out w2 hb2
                refine hKq.out _ _ HS2 (fun _ => ?_)
                clear hKq Kq
                try simp only [Act.put, List.setIfInBounds_toArray, List.set_cons_zero, List.set_cons_succ]
                refine wpAnyH_ready (rs := [4]) (by kernel_rfl) (by simp) ?_
                refine AllReadyH.cons (o := { dst := some 63, op := .buildSlice 23 1 #[(0, .tmp 62)], type := 23, pos := "ref.go:183", after := #[{ on := 3, ground := .data }], guard := none }) rfl (fun Kq hKq => ?_) ?_
                · go_simp
                  have hb3 : Below Y.heap.size Y (w2.alloc (.cells #[.string y.nm, .int .u8 (y.k : Int), .string y.d, .slice a2 y.kids.length c2] 25)) := hb2.alloc hb2.size _
                  have HS3 := HSY.out _ hb3
                  refine hKq.out _ _ HS3 (fun _ => ?_)
                  clear hKq Kq
                  try simp only [Act.put, List.setIfInBounds_toArray, List.set_cons_zero, List.set_cons_succ]
                  refine wpAnyH_ready (rs := [5]) (by kernel_rfl) (by simp) ?_
                  refine AllReadyH.cons (o := { dst := some 64, op := .call { callee := .builtin .append, args := #[.tmp 60, .tmp 63], argTypes := #[23, 23] }, type := 23, pos := "ref.go:183", after := #[{ on := 1, ground := .data }, { on := 4, ground := .data }, { on := 3, ground := .chain }], guard := none }) rfl (fun Kq hKq => ?_) ?_
                  · have HG2 := HY.out.1.under HH.out.1 hb2
                    have hs2 := hb2.size
                    have hUo : Ft.Fd w2 (fun k => (Pf k ∨ (w.heap.size + 4 ≤ k ∧ k < w2.heap.size)) ∧ some k ≠ (v : Value).ownBlock) y a2 c2 := hU2.out.mono (fun k hk => ⟨hk.imp id (fun q => ⟨by omega, q.2⟩), fun e => by
                      have h9 := HVN.out k e.symm
                      rcases hk with q | q
                      · have := HH.out.1 k q; omega
                      · omega⟩)
                    refine step_append_lies _ rfl (.tmp 60) (.tmp 63) 23 rfl (w.heap.size + 4) 25 i0 _ 4 64 Tryz.underlying23 hi0 hz0 hz1 hz2 rfl (by decide) v K.length (Ft.fcells K) (by simp [Act.eval]) (World.ownsRow.alloc HG2.row.1 _) ⟨w2.heap.size, 0, none⟩ 1 1 (Ft.fourL (y, a2, c2)) (by simp [Act.eval]) rfl (Ft.four_new w2 y a2 c2) (Ft.four_one _) (by decide) (by have := HKn.out; unfold maxLen; omega) (by have := HKn.out; omega) (by simp; omega) _ rfl ?_
                    intro g c w3 ho hg hat hlt3
                    obtain ⟨o3, hb4, G3⟩ := HG2.push HH.out.1 hUo ho hg (m := w2.heap.size + 1) (by simpa using hat) (by omega)
                    have HG3 : Hid (Ft.GW Pf w T (some ⟨kb, ko, none⟩) cap f fa fc (K ++ [(y, a2, c2)]) (.slice (some ⟨g, 0, none⟩) (K.length + 1) c) (w3.setCell ⟨w.heap.size + 3, 3, none⟩ (.slice (some ⟨g, 0, none⟩) (K.length + 1) c))) := G3
                    have v3 : w3.cell? ⟨w.heap.size + 3, 3, none⟩ = some v := by rw [cell_of_row w3 _ _ _ _ _ o3]; rfl
                    have f3 : w3.frozen? ⟨w.heap.size + 3, 3, none⟩ = false := frozen_of_row w3 _ 3 _ _ o3
                    have hlow : ∀ k, k < Y.heap.size → some k ≠ (v : Value).ownBlock → w3.heap[k]? = Y.heap[k]? := fun k hk hne => by rw [hg.block k (by simp; omega) hne, heap_alloc_old w2 _ (by omega)]; exact hb2.block k hk
                    have hnv : some n ≠ (v : Value).ownBlock := fun e => (HVN.out n e.symm).1 rfl
                    skip
                    have HS4 := HSb.out w3 (hlow n hny hnv)
                    have HS5 := HSb.out (w3.setCell ⟨w.heap.size + 3, 3, none⟩ (.slice (some ⟨g, 0, none⟩) (K.length + 1) c)) ((heap_setCell_other w3 ⟨w.heap.size + 3, 3, none⟩ n _ (show n ≠ w.heap.size + 3 by omega)).trans (hlow n hny hnv))
                    refine hKq.out _ _ HS4 (fun _ => ?_)
                    clear hKq Kq ho hg hat hlow G3 o3 hUo HG2 hlt3
                    try simp only [Act.put, List.setIfInBounds_toArray, List.set_cons_zero, List.set_cons_succ]
                    refine wpAnyH_take (i := 6) (oi := { dst := some 65, op := .fieldAddr 25 (.tmp 9) 3, type := 0, pos := "ref.go:183", after := #[{ on := 0, ground := .phase }, { on := 1, ground := .phase }, { on := 2, ground := .phase }, { on := 3, ground := .phase }, { on := 4, ground := .phase }, { on := 5, ground := .phase }], guard := none }) (v := .pointer (some ⟨w.heap.size + 1 + 1 + 1, 3, none⟩)) rfl (by kernel_rfl) (by kernel_rfl) (by kernel_rfl) (fun _ _ _ h => h) (Or.inl ⟨by rfl, ?_⟩) HS4 ?_
                    · intro w9 hw9; obtain ⟨l0, l1, l2, l3⟩ := hw9; go_simp
                    try simp only [Act.put, List.setIfInBounds_toArray, List.set_cons_zero, List.set_cons_succ]
                    refine wpAnyH_ready (rs := [7]) (by kernel_rfl) (by simp) ?_
                    refine AllReadyH.cons (o := { dst := none, op := .store 23 (.tmp 65) (.tmp 64), type := 0, pos := "ref.go:183", after := #[{ on := 6, ground := .data }, { on := 5, ground := .data }, { on := 5, ground := .chain }, { on := 0, ground := .phase }, { on := 1, ground := .phase }, { on := 2, ground := .phase }, { on := 3, ground := .phase }, { on := 4, ground := .phase }, { on := 5, ground := .phase }], guard := none }) rfl (fun Kq hKq => ?_) ?_
                    · go_simp
                      refine hKq.out _ _ HS5 (fun _ => ?_)
                      refine wpAnyH_done (by kernel_rfl) ?_ _
                      clear hKq Kq v3 f3 HS4 HS5 HSb HSY HV3 HCC
                      have HPl : Hid ((K ++ [(y, a2, c2)]).map (·.1) ++ Ft.restG (x :: r) O b (T.kids.drop (i + 1)) = Ft.restG (x :: r) O false T.kids) := by
                        have h := HX.out.2.2.2.2.2
                        rw [he, if_neg (by simp)] at h
                        show _ = _
                        rw [List.map_append, List.append_assoc]
                        exact h
                      clear HX HY HVN HKn hys hny
                      go_wp2_with fail
                      go_roundw
                      case rel => first | exact ⟨i + 1, b, _, _, by omega, by go_num, rfl, HG3.out, HPl.out⟩ | ((repeat apply Exists.intro); exact ⟨⟨i + 1, b, _, _, by omega, by go_num, rfl, HG3.out, HPl.out⟩, rfl⟩)
                      case measure => simp [intOf]; omega
                    exact AllReadyH.nil
                  exact AllReadyH.nil
                exact AllReadyH.nil
              exact AllReadyH.nil
            refine AllReadyH.cons (o := { dst := some 62, op := .call { callee := .value (.func 14), args := #[.tmp 61], argTypes := #[25] }, type := 25, pos := "ref.go:183", after := #[{ on := 2, ground := .data }], guard := none }) rfl (fun Kq hKq => ?_) ?_
            · go_simp
              refine Calls.mono HCC.out ?_
              rintro e w2 ⟨a2, c2, rfl, hU2, hb2⟩
              have HS2 := HSY.out w2 hb2
              refine hKq.out _ _ HS2 (fun _ => ?_)
              clear hKq Kq
              try simp only [Act.put, List.setIfInBounds_toArray, List.set_cons_zero, List.set_cons_succ]
              refine wpAnyH_ready (rs := [1, 4]) (by kernel_rfl) (by simp) ?_
              refine AllReadyH.cons (o := { dst := some 60, op := .load 23 (.tmp 59), type := 23, pos := "ref.go:183", after := #[{ on := 0, ground := .data }], guard := none }) rfl (fun Kq hKq => ?_) ?_
              · have v3 := HV3.out w2 hb2
                go_simp
                refine hKq.out _ _ HS2 (fun _ => ?_)
                clear hKq Kq v3
                try simp only [Act.put, List.setIfInBounds_toArray, List.set_cons_zero, List.set_cons_succ]
                refine wpAnyH_ready (rs := [4]) (by kernel_rfl) (by simp) ?_
                refine AllReadyH.cons (o := { dst := some 63, op := .buildSlice 23 1 #[(0, .tmp 62)], type := 23, pos := "ref.go:183", after := #[{ on := 3, ground := .data }], guard := none }) rfl (fun Kq hKq => ?_) ?_
                · go_simp
                  have hb3 : Below Y.heap.size Y (w2.alloc (.cells #[.string y.nm, .int .u8 (y.k : Int), .string y.d, .slice a2 y.kids.length c2] 25)) := hb2.alloc hb2.size _
                  have HS3 := HSY.out _ hb3
                  refine hKq.out _ _ HS3 (fun _ => ?_)
                  clear hKq Kq
                  try simp only [Act.put, List.setIfInBounds_toArray, List.set_cons_zero, List.set_cons_succ]
                  refine wpAnyH_ready (rs := [5]) (by kernel_rfl) (by simp) ?_
                  refine AllReadyH.cons (o := { dst := some 64, op := .call { callee := .builtin .append, args := #[.tmp 60, .tmp 63], argTypes := #[23, 23] }, type := 23, pos := "ref.go:183", after := #[{ on := 1, ground := .data }, { on := 4, ground := .data }, { on := 3, ground := .chain }], guard := none }) rfl (fun Kq hKq => ?_) ?_
                  · have HG2 := HY.out.1.under HH.out.1 hb2
                    have hs2 := hb2.size
                    have hUo : Ft.Fd w2 (fun k => (Pf k ∨ (w.heap.size + 4 ≤ k ∧ k < w2.heap.size)) ∧ some k ≠ (v : Value).ownBlock) y a2 c2 := hU2.out.mono (fun k hk => ⟨hk.imp id (fun q => ⟨by omega, q.2⟩), fun e => by
                      have h9 := HVN.out k e.symm
                      rcases hk with q | q
                      · have := HH.out.1 k q; omega
                      · omega⟩)
                    refine step_append_lies _ rfl (.tmp 60) (.tmp 63) 23 rfl (w.heap.size + 4) 25 i0 _ 4 64 Tryz.underlying23 hi0 hz0 hz1 hz2 rfl (by decide) v K.length (Ft.fcells K) (by simp [Act.eval]) (World.ownsRow.alloc HG2.row.1 _) ⟨w2.heap.size, 0, none⟩ 1 1 (Ft.fourL (y, a2, c2)) (by simp [Act.eval]) rfl (Ft.four_new w2 y a2 c2) (Ft.four_one _) (by decide) (by have := HKn.out; unfold maxLen; omega) (by have := HKn.out; omega) (by simp; omega) _ rfl ?_
                    intro g c w3 ho hg hat hlt3
                    obtain ⟨o3, hb4, G3⟩ := HG2.push HH.out.1 hUo ho hg (m := w2.heap.size + 1) (by simpa using hat) (by omega)
                    have HG3 : Hid (Ft.GW Pf w T (some ⟨kb, ko, none⟩) cap f fa fc (K ++ [(y, a2, c2)]) (.slice (some ⟨g, 0, none⟩) (K.length + 1) c) (w3.setCell ⟨w.heap.size + 3, 3, none⟩ (.slice (some ⟨g, 0, none⟩) (K.length + 1) c))) := G3
                    have v3 : w3.cell? ⟨w.heap.size + 3, 3, none⟩ = some v := by rw [cell_of_row w3 _ _ _ _ _ o3]; rfl
                    have f3 : w3.frozen? ⟨w.heap.size + 3, 3, none⟩ = false := frozen_of_row w3 _ 3 _ _ o3
                    have hlow : ∀ k, k < Y.heap.size → some k ≠ (v : Value).ownBlock → w3.heap[k]? = Y.heap[k]? := fun k hk hne => by rw [hg.block k (by simp; omega) hne, heap_alloc_old w2 _ (by omega)]; exact hb2.block k hk
                    have hnv : some n ≠ (v : Value).ownBlock := fun e => (HVN.out n e.symm).1 rfl
                    skip
                    have HS4 := HSb.out w3 (hlow n hny hnv)
                    have HS5 := HSb.out (w3.setCell ⟨w.heap.size + 3, 3, none⟩ (.slice (some ⟨g, 0, none⟩) (K.length + 1) c)) ((heap_setCell_other w3 ⟨w.heap.size + 3, 3, none⟩ n _ (show n ≠ w.heap.size + 3 by omega)).trans (hlow n hny hnv))
                    refine hKq.out _ _ HS4 (fun _ => ?_)
                    clear hKq Kq ho hg hat hlow G3 o3 hUo HG2 hlt3
                    try simp only [Act.put, List.setIfInBounds_toArray, List.set_cons_zero, List.set_cons_succ]
                    refine wpAnyH_take (i := 6) (oi := { dst := some 65, op := .fieldAddr 25 (.tmp 9) 3, type := 0, pos := "ref.go:183", after := #[{ on := 0, ground := .phase }, { on := 1, ground := .phase }, { on := 2, ground := .phase }, { on := 3, ground := .phase }, { on := 4, ground := .phase }, { on := 5, ground := .phase }], guard := none }) (v := .pointer (some ⟨w.heap.size + 1 + 1 + 1, 3, none⟩)) rfl (by kernel_rfl) (by kernel_rfl) (by kernel_rfl) (fun _ _ _ h => h) (Or.inl ⟨by rfl, ?_⟩) HS4 ?_
                    · intro w9 hw9; obtain ⟨l0, l1, l2, l3⟩ := hw9; go_simp
                    try simp only [Act.put, List.setIfInBounds_toArray, List.set_cons_zero, List.set_cons_succ]
                    refine wpAnyH_ready (rs := [7]) (by kernel_rfl) (by simp) ?_
                    refine AllReadyH.cons (o := { dst := none, op := .store 23 (.tmp 65) (.tmp 64), type := 0, pos := "ref.go:183", after := #[{ on := 6, ground := .data }, { on := 5, ground := .data }, { on := 5, ground := .chain }, { on := 0, ground := .phase }, { on := 1, ground := .phase }, { on := 2, ground := .phase }, { on := 3, ground := .phase }, { on := 4, ground := .phase }, { on := 5, ground := .phase }], guard := none }) rfl (fun Kq hKq => ?_) ?_
                    · go_simp
                      refine hKq.out _ _ HS5 (fun _ => ?_)
                      refine wpAnyH_done (by kernel_rfl) ?_ _
                      clear hKq Kq v3 f3 HS4 HS5 HSb HSY HV3 HCC
                      have HPl : Hid ((K ++ [(y, a2, c2)]).map (·.1) ++ Ft.restG (x :: r) O b (T.kids.drop (i + 1)) = Ft.restG (x :: r) O false T.kids) := by
                        have h := HX.out.2.2.2.2.2
                        rw [he, if_neg (by simp)] at h
                        show _ = _
                        rw [List.map_append, List.append_assoc]
                        exact h
                      clear HX HY HVN HKn hys hny
                      go_wp2_with fail
                      go_roundw
                      case rel => first | exact ⟨i + 1, b, _, _, by omega, by go_num, rfl, HG3.out, HPl.out⟩ | ((repeat apply Exists.intro); exact ⟨⟨i + 1, b, _, _, by omega, by go_num, rfl, HG3.out, HPl.out⟩, rfl⟩)
                      case measure => simp [intOf]; omega
                    exact AllReadyH.nil
                  exact AllReadyH.nil
                exact AllReadyH.nil
              refine AllReadyH.cons (o := { dst := some 63, op := .buildSlice 23 1 #[(0, .tmp 62)], type := 23, pos := "ref.go:183", after := #[{ on := 3, ground := .data }], guard := none }) rfl (fun Kq hKq => ?_) ?_
              · go_simp
                have hb3 : Below Y.heap.size Y (w2.alloc (.cells #[.string y.nm, .int .u8 (y.k : Int), .string y.d, .slice a2 y.kids.length c2] 25)) := hb2.alloc hb2.size _
                have HS3 := HSY.out _ hb3
                refine hKq.out _ _ HS3 (fun _ => ?_)
                clear hKq Kq
                try simp only [Act.put, List.setIfInBounds_toArray, List.set_cons_zero, List.set_cons_succ]
                refine wpAnyH_ready (rs := [1]) (by kernel_rfl) (by simp) ?_
                refine AllReadyH.cons (o := { dst := some 60, op := .load 23 (.tmp 59), type := 23, pos := "ref.go:183", after := #[{ on := 0, ground := .data }], guard := none }) rfl (fun Kq hKq => ?_) ?_
                · have v3 := HV3.out (w2.alloc (.cells #[.string y.nm, .int .u8 (y.k : Int), .string y.d, .slice a2 y.kids.length c2] 25)) hb3
                  go_simp
                  refine hKq.out _ _ HS3 (fun _ => ?_)
                  clear hKq Kq v3
                  try simp only [Act.put, List.setIfInBounds_toArray, List.set_cons_zero, List.set_cons_succ]
                  refine wpAnyH_ready (rs := [5]) (by kernel_rfl) (by simp) ?_
                  refine AllReadyH.cons (o := { dst := some 64, op := .call { callee := .builtin .append, args := #[.tmp 60, .tmp 63], argTypes := #[23, 23] }, type := 23, pos := "ref.go:183", after := #[{ on := 1, ground := .data }, { on := 4, ground := .data }, { on := 3, ground := .chain }], guard := none }) rfl (fun Kq hKq => ?_) ?_
                  · have HG2 := HY.out.1.under HH.out.1 hb2
                    have hs2 := hb2.size
                    have hUo : Ft.Fd w2 (fun k => (Pf k ∨ (w.heap.size + 4 ≤ k ∧ k < w2.heap.size)) ∧ some k ≠ (v : Value).ownBlock) y a2 c2 := hU2.out.mono (fun k hk => ⟨hk.imp id (fun q => ⟨by omega, q.2⟩), fun e => by
                      have h9 := HVN.out k e.symm
                      rcases hk with q | q
                      · have := HH.out.1 k q; omega
                      · omega⟩)
                    refine step_append_lies _ rfl (.tmp 60) (.tmp 63) 23 rfl (w.heap.size + 4) 25 i0 _ 4 64 Tryz.underlying23 hi0 hz0 hz1 hz2 rfl (by decide) v K.length (Ft.fcells K) (by simp [Act.eval]) (World.ownsRow.alloc HG2.row.1 _) ⟨w2.heap.size, 0, none⟩ 1 1 (Ft.fourL (y, a2, c2)) (by simp [Act.eval]) rfl (Ft.four_new w2 y a2 c2) (Ft.four_one _) (by decide) (by have := HKn.out; unfold maxLen; omega) (by have := HKn.out; omega) (by simp; omega) _ rfl ?_
                    intro g c w3 ho hg hat hlt3
                    obtain ⟨o3, hb4, G3⟩ := HG2.push HH.out.1 hUo ho hg (m := w2.heap.size + 1) (by simpa using hat) (by omega)
                    have HG3 : Hid (Ft.GW Pf w T (some ⟨kb, ko, none⟩) cap f fa fc (K ++ [(y, a2, c2)]) (.slice (some ⟨g, 0, none⟩) (K.length + 1) c) (w3.setCell ⟨w.heap.size + 3, 3, none⟩ (.slice (some ⟨g, 0, none⟩) (K.length + 1) c))) := G3
                    have v3 : w3.cell? ⟨w.heap.size + 3, 3, none⟩ = some v := by rw [cell_of_row w3 _ _ _ _ _ o3]; rfl
                    have f3 : w3.frozen? ⟨w.heap.size + 3, 3, none⟩ = false := frozen_of_row w3 _ 3 _ _ o3
                    have hlow : ∀ k, k < Y.heap.size → some k ≠ (v : Value).ownBlock → w3.heap[k]? = Y.heap[k]? := fun k hk hne => by rw [hg.block k (by simp; omega) hne, heap_alloc_old w2 _ (by omega)]; exact hb2.block k hk
                    have hnv : some n ≠ (v : Value).ownBlock := fun e => (HVN.out n e.symm).1 rfl
                    skip
                    have HS4 := HSb.out w3 (hlow n hny hnv)
                    have HS5 := HSb.out (w3.setCell ⟨w.heap.size + 3, 3, none⟩ (.slice (some ⟨g, 0, none⟩) (K.length + 1) c)) ((heap_setCell_other w3 ⟨w.heap.size + 3, 3, none⟩ n _ (show n ≠ w.heap.size + 3 by omega)).trans (hlow n hny hnv))
                    refine hKq.out _ _ HS4 (fun _ => ?_)
                    clear hKq Kq ho hg hat hlow G3 o3 hUo HG2 hlt3
                    try simp only [Act.put, List.setIfInBounds_toArray, List.set_cons_zero, List.set_cons_succ]
                    refine wpAnyH_take (i := 6) (oi := { dst := some 65, op := .fieldAddr 25 (.tmp 9) 3, type := 0, pos := "ref.go:183", after := #[{ on := 0, ground := .phase }, { on := 1, ground := .phase }, { on := 2, ground := .phase }, { on := 3, ground := .phase }, { on := 4, ground := .phase }, { on := 5, ground := .phase }], guard := none }) (v := .pointer (some ⟨w.heap.size + 1 + 1 + 1, 3, none⟩)) rfl (by kernel_rfl) (by kernel_rfl) (by kernel_rfl) (fun _ _ _ h => h) (Or.inl ⟨by rfl, ?_⟩) HS4 ?_
                    · intro w9 hw9; obtain ⟨l0, l1, l2, l3⟩ := hw9; go_simp
                    try simp only [Act.put, List.setIfInBounds_toArray, List.set_cons_zero, List.set_cons_succ]
                    refine wpAnyH_ready (rs := [7]) (by kernel_rfl) (by simp) ?_
                    refine AllReadyH.cons (o := { dst := none, op := .store 23 (.tmp 65) (.tmp 64), type := 0, pos := "ref.go:183", after := #[{ on := 6, ground := .data }, { on := 5, ground := .data }, { on := 5, ground := .chain }, { on := 0, ground := .phase }, { on := 1, ground := .phase }, { on := 2, ground := .phase }, { on := 3, ground := .phase }, { on := 4, ground := .phase }, { on := 5, ground := .phase }], guard := none }) rfl (fun Kq hKq => ?_) ?_
                    · go_simp
                      refine hKq.out _ _ HS5 (fun _ => ?_)
                      refine wpAnyH_done (by kernel_rfl) ?_ _
                      clear hKq Kq v3 f3 HS4 HS5 HSb HSY HV3 HCC
                      have HPl : Hid ((K ++ [(y, a2, c2)]).map (·.1) ++ Ft.restG (x :: r) O b (T.kids.drop (i + 1)) = Ft.restG (x :: r) O false T.kids) := by
                        have h := HX.out.2.2.2.2.2
                        rw [he, if_neg (by simp)] at h
                        show _ = _
                        rw [List.map_append, List.append_assoc]
                        exact h
                      clear HX HY HVN HKn hys hny
                      go_wp2_with fail
                      go_roundw
                      case rel => first | exact ⟨i + 1, b, _, _, by omega, by go_num, rfl, HG3.out, HPl.out⟩ | ((repeat apply Exists.intro); exact ⟨⟨i + 1, b, _, _, by omega, by go_num, rfl, HG3.out, HPl.out⟩, rfl⟩)
                      case measure => simp [intOf]; omega
                    exact AllReadyH.nil
                  exact AllReadyH.nil
                exact AllReadyH.nil
              exact AllReadyH.nil
            exact AllReadyH.nil
          · have hne : (y.nm.toList != x.toList) = false := by simp [bne, he]
            go_quiet (fail)
            clear y0 y1 y2 y3 hx1
            by_cases hr : r = []
            · subst hr
              have HPl : Hid (K.map (·.1) ++ Ft.restG (x :: []) O b (T.kids.drop (i + 1)) = Ft.restG (x :: []) O false T.kids) := by
                have h := HX.out.2.2.2.2.2
                rw [he, if_pos rfl, if_pos rfl, List.nil_append] at h
                exact h
              have HG3 : Hid (Ft.GW Pf w T (some ⟨kb, ko, none⟩) cap f fa fc K v (wc.drewN nq)) := HX.out.1.under HH.out.1 (Ft.bel_dq _ _)
              clear HX
              go_wp2_with fail
              go_roundw
              case rel => first | exact ⟨i + 1, b, _, _, by omega, by go_num, rfl, HG3.out, HPl.out⟩ | ((repeat apply Exists.intro); exact ⟨⟨i + 1, b, _, _, by omega, by go_num, rfl, HG3.out, HPl.out⟩, rfl⟩)
              case measure => simp [intOf]; omega
            · have hr0 : r.length ≠ 0 := fun e => hr (List.eq_nil_of_length_eq_zero e)
              have hr1 : ¬ ((r.length : Int) + 1 ≤ 1) := by omega
              have hr2 : (1 : Int) < (r.length : Int) + 1 := by omega
              go_upto_region 12 with fail
              obtain ⟨Y, hY⟩ : ∃ Y, Y = (wc.drewN nq).drew := ⟨_, rfl⟩
              have hYb : Below wc.heap.size wc Y := by rw [hY]; exact (Ft.bel_dq _ _).drew
              have HY : Hid (Ft.GW Pf w T (some ⟨kb, ko, none⟩) cap f fa fc K v Y ∧ Ft.FileAt Y n y a' c' ∧ Ft.Fd Y (· < w.heap.size) y a' c') := ⟨HX.out.1.under HH.out.1 hYb, HX.out.2.1.under hYb, HX.out.2.2.1.under (hYb.mono HX.out.1.bel.size)⟩
              have HVN : Hid (∀ k, (v : Value).ownBlock = some k → k ≠ n ∧ w.heap.size + 4 ≤ k ∧ k < Y.heap.size) := fun k hk => ⟨HX.out.2.2.2.1 k hk, HY.out.1.row.1.lt k hk⟩
              have HKn : Hid (K.length ≤ 1048577) := HX.out.2.2.2.2.1
              have hys : w.heap.size + 4 ≤ Y.heap.size := HY.out.1.hs
              have hny : n < Y.heap.size := HY.out.2.1.lt
              have HSb : Hid (∀ V : World, V.heap[n]? = Y.heap[n]? → V.heap[w.heap.size + 1]? = Y.heap[w.heap.size + 1]? → V.cell? ⟨n, 0, none⟩ = some (.string y.nm) ∧ V.cell? ⟨n, 1, none⟩ = some (.int .u8 (y.k : Int)) ∧ V.cell? ⟨n, 2, none⟩ = some (.string y.d) ∧ V.cell? ⟨n, 3, none⟩ = some (.slice a' y.kids.length c') ∧ V.cell? ⟨w.heap.size + 1, 0, none⟩ = some (.string f.nm) ∧ V.cell? ⟨w.heap.size + 1, 1, none⟩ = some (.int .u8 (f.k : Int)) ∧ V.cell? ⟨w.heap.size + 1, 2, none⟩ = some (.string f.d) ∧ V.cell? ⟨w.heap.size + 1, 3, none⟩ = some (.slice fa f.kids.length fc)) := fun V hV hV2 => by
                obtain ⟨u0, u1, u2, u3⟩ := Ft.FileAt.cellsG (hV.trans HY.out.2.1)
                obtain ⟨x0, x1, x2, x3⟩ := Ft.FileAt.cellsG (hV2.trans HY.out.1.g)
                exact ⟨u0, u1, u2, u3, x0, x1, x2, x3⟩
              have HSY : Hid (∀ V : World, Below Y.heap.size Y V → V.cell? ⟨n, 0, none⟩ = some (.string y.nm) ∧ V.cell? ⟨n, 1, none⟩ = some (.int .u8 (y.k : Int)) ∧ V.cell? ⟨n, 2, none⟩ = some (.string y.d) ∧ V.cell? ⟨n, 3, none⟩ = some (.slice a' y.kids.length c') ∧ V.cell? ⟨w.heap.size + 1, 0, none⟩ = some (.string f.nm) ∧ V.cell? ⟨w.heap.size + 1, 1, none⟩ = some (.int .u8 (f.k : Int)) ∧ V.cell? ⟨w.heap.size + 1, 2, none⟩ = some (.string f.d) ∧ V.cell? ⟨w.heap.size + 1, 3, none⟩ = some (.slice fa f.kids.length fc)) := fun V hV => HSb.out V (hV.block n hny) (hV.block (w.heap.size + 1) (by omega))
              have HV3 : Hid (∀ V : World, Below Y.heap.size Y V → V.cell? ⟨w.heap.size + 3, 3, none⟩ = some v) := fun V hV => by rw [cell_of_row V _ _ _ _ _ (HY.out.1.under HH.out.1 hV).o]; rfl
              have hcp1 : cp ≠ 1 := by
                have : r.length ≠ 0 := fun e => hr (List.eq_nil_of_length_eq_zero e)
                omega
              have hSr : Strs Y (some ⟨pb, po + 1, none⟩) (cp - 1) r := strs_rest (HH.out.2.1.below HY.out.1.bel) ⟨pb, po + 1, none⟩ (fun _ => rfl)
              have CC := HIH.out y f a' (some ⟨pb, po + 1, none⟩) fa c' (cp - 1) fc gone Pf Y hr (fun k hk => by have := HH.out.1 k hk; omega) (HY.out.2.2.mono (fun k (hk : k < w.heap.size) => by show k < Y.heap.size; omega)) hSr HY.out.1.ff HTk2.out
              rw [← HO.out] at CC
              simp only [Ft.fdV, Ft.fdA] at CC
              have HCC : Hid (Calls Tryz.prog 51 #[.agg #[.string y.nm, .int .u8 (y.k : Int), .string y.d, .slice a' y.kids.length c'], .slice (some ⟨pb, po + 1, none⟩) r.length (cp - 1), .agg #[.string f.nm, .int .u8 (f.k : Int), .string f.d, .slice fa f.kids.length fc], .bool gone] Y fun e w2 => ∃ a2 c2, e = .returned (.agg #[.string (Ft.withG y r O).nm, .int .u8 ((Ft.withG y r O).k : Int), .string (Ft.withG y r O).d, .slice a2 (Ft.withG y r O).kids.length c2]) ∧ Hid (Ft.Fd w2 (fun k => Pf k ∨ (Y.heap.size ≤ k ∧ k < w2.heap.size)) (Ft.withG y r O) a2 c2) ∧ Below Y.heap.size Y w2) := CC.mono fun e w2 ⟨a2, c2, h1, h23⟩ => ⟨a2, c2, h1, h23.out.1, h23.out.2⟩
              clear hSr
              have n1 : (1 : Int) ≤ (r.length : Int) + 1 := by omega
              clear CC
              refine wp_region_held (S := fun w' => w'.cell? ⟨n, 0, none⟩ = some (.string y.nm) ∧ w'.cell? ⟨n, 1, none⟩ = some (.int .u8 (y.k : Int)) ∧ w'.cell? ⟨n, 2, none⟩ = some (.string y.d) ∧ w'.cell? ⟨n, 3, none⟩ = some (.slice a' y.kids.length c') ∧ w'.cell? ⟨w.heap.size + 1, 0, none⟩ = some (.string f.nm) ∧ w'.cell? ⟨w.heap.size + 1, 1, none⟩ = some (.int .u8 (f.k : Int)) ∧ w'.cell? ⟨w.heap.size + 1, 2, none⟩ = some (.string f.d) ∧ w'.cell? ⟨w.heap.size + 1, 3, none⟩ = some (.slice fa f.kids.length fc)) (by kernel_rfl) ?_
              have HS0 := HSY.out Y (Below.refl _ _)
              change wpAnyH Tryz.prog .any _ _ _ _ _ _ (wc.drewN nq).drew
              rw [← hY]
              clear hY hYb
              refine wpAnyH_take (i := 0) (oi := { dst := some 70, op := .fieldAddr 25 (.tmp 9) 3, type := 0, pos := "ref.go:185", after := #[], guard := none }) (v := .pointer (some ⟨w.heap.size + 1 + 1 + 1, 3, none⟩)) rfl (by kernel_rfl) (by kernel_rfl) (by kernel_rfl) (fun _ _ _ h => h) (Or.inl ⟨by rfl, ?_⟩) HS0 ?_
              · intro w9 hw9; obtain ⟨l0, l1, l2, l3, l4, l5, l6, l7⟩ := hw9; go_simp
              try simp only [Act.put, List.setIfInBounds_toArray, List.set_cons_zero, List.set_cons_succ]
              refine wpAnyH_take (i := 2) (oi := { dst := some 72, op := .load 25 (.tmp 12), type := 25, pos := "ref.go:185", after := #[], guard := none }) (v := .agg #[.string y.nm, .int .u8 (y.k : Int), .string y.d, .slice a' y.kids.length c']) rfl (by kernel_rfl) (by kernel_rfl) (by kernel_rfl) (fun _ _ _ h => h) (Or.inl ⟨by rfl, ?_⟩) HS0 ?_
              · intro w9 hw9; obtain ⟨l0, l1, l2, l3, l4, l5, l6, l7⟩ := hw9; go_simp
              try simp only [Act.put, List.setIfInBounds_toArray, List.set_cons_zero, List.set_cons_succ]
              refine wpAnyH_take (i := 3) (oi := { dst := some 73, op := .move (.tmp 1), type := 37, pos := "ref.go:185", after := #[], guard := none }) (v := .slice (some ⟨pb, po, none⟩) (r.length + 1) cp) rfl (by kernel_rfl) (by kernel_rfl) (by kernel_rfl) (fun _ _ _ h => h) (Or.inl ⟨by rfl, ?_⟩) HS0 ?_
              · intro w9 hw9; obtain ⟨l0, l1, l2, l3, l4, l5, l6, l7⟩ := hw9; go_simp
              try simp only [Act.put, List.setIfInBounds_toArray, List.set_cons_zero, List.set_cons_succ]
              refine wpAnyH_take (i := 4) (oi := { dst := some 74, op := .slice 37 (.tmp 73) (some (.const (.int .i64 1))) none none, type := 37, pos := "ref.go:185", after := #[{ on := 3, ground := .data }], guard := none }) (v := .slice (some ⟨pb, po + 1, none⟩) r.length (cp - 1)) rfl (by kernel_rfl) (by kernel_rfl) (by kernel_rfl) (fun _ _ _ h => h) (Or.inl ⟨by rfl, ?_⟩) HS0 ?_
              · intro w9 hw9; obtain ⟨l0, l1, l2, l3, l4, l5, l6, l7⟩ := hw9; go_simp
              try simp only [Act.put, List.setIfInBounds_toArray, List.set_cons_zero, List.set_cons_succ]
              refine wpAnyH_take (i := 5) (oi := { dst := some 75, op := .load 25 (.tmp 6), type := 25, pos := "ref.go:185", after := #[], guard := none }) (v := .agg #[.string f.nm, .int .u8 (f.k : Int), .string f.d, .slice fa f.kids.length fc]) rfl (by kernel_rfl) (by kernel_rfl) (by kernel_rfl) (fun _ _ _ h => h) (Or.inl ⟨by rfl, ?_⟩) HS0 ?_
              · intro w9 hw9; obtain ⟨l0, l1, l2, l3, l4, l5, l6, l7⟩ := hw9; go_simp
              try simp only [Act.put, List.setIfInBounds_toArray, List.set_cons_zero, List.set_cons_succ]
              refine wpAnyH_take (i := 6) (oi := { dst := some 76, op := .move (.tmp 3), type := 4, pos := "ref.go:185", after := #[], guard := none }) (v := .bool gone) rfl (by kernel_rfl) (by kernel_rfl) (by kernel_rfl) (fun _ _ _ h => h) (Or.inl ⟨by rfl, ?_⟩) HS0 ?_
              · intro w9 hw9; obtain ⟨l0, l1, l2, l3, l4, l5, l6, l7⟩ := hw9; go_simp
              try simp only [Act.put, List.setIfInBounds_toArray, List.set_cons_zero, List.set_cons_succ]
              refine wpAnyH_ready (rs := [1, 7]) (by kernel_rfl) (by simp) ?_
              refine AllReadyH.cons (o := { dst := some 71, op := .load 23 (.tmp 70), type := 23, pos := "ref.go:185", after := #[{ on := 0, ground := .data }], guard := none }) rfl (fun Kq hKq => ?_) ?_
              · have v3 := HV3.out Y (Below.refl _ _)
                go_simp
                refine hKq.out _ _ HS0 (fun _ => ?_)
                clear hKq Kq v3
                try simp only [Act.put, List.setIfInBounds_toArray, List.set_cons_zero, List.set_cons_succ]
                refine wpAnyH_ready (rs := [7]) (by kernel_rfl) (by simp) ?_
                refine AllReadyH.cons (o := { dst := some 77, op := .call { callee := .value (.func 51), args := #[.tmp 72, .tmp 74, .tmp 75, .tmp 76], argTypes := #[25, 37, 25, 4] }, type := 25, pos := "ref.go:185", after := #[{ on := 2, ground := .data }, { on := 4, ground := .data }, { on := 5, ground := .data }, { on := 6, ground := .data }], guard := none }) rfl (fun Kq hKq => ?_) ?_
                · go_simp
                  refine Calls.mono HCC.out ?_
                  rintro e w2 ⟨a2, c2, rfl, hU2, hb2⟩
                  have HS2 := HSY.out w2 hb2
                  refine hKq.out _ _ HS2 (fun _ => ?_)
                  clear hKq Kq
                  try simp only [Act.put, List.setIfInBounds_toArray, List.set_cons_zero, List.set_cons_succ]
                  refine wpAnyH_ready (rs := [8]) (by kernel_rfl) (by simp) ?_
                  refine AllReadyH.cons (o := { dst := some 78, op := .buildSlice 23 1 #[(0, .tmp 77)], type := 23, pos := "ref.go:185", after := #[{ on := 7, ground := .data }], guard := none }) rfl (fun Kq hKq => ?_) ?_
                  · go_simp
                    have hb3 : Below Y.heap.size Y (w2.alloc (.cells #[.string (Ft.withG y r O).nm, .int .u8 ((Ft.withG y r O).k : Int), .string (Ft.withG y r O).d, .slice a2 (Ft.withG y r O).kids.length c2] 25)) := hb2.alloc hb2.size _
                    have HS3 := HSY.out _ hb3
                    refine hKq.out _ _ HS3 (fun _ => ?_)
                    clear hKq Kq
                    try simp only [Act.put, List.setIfInBounds_toArray, List.set_cons_zero, List.set_cons_succ]
                    refine wpAnyH_ready (rs := [9]) (by kernel_rfl) (by simp) ?_
                    refine AllReadyH.cons (o := { dst := some 79, op := .call { callee := .builtin .append, args := #[.tmp 71, .tmp 78], argTypes := #[23, 23] }, type := 23, pos := "ref.go:185", after := #[{ on := 1, ground := .data }, { on := 8, ground := .data }, { on := 7, ground := .chain }], guard := none }) rfl (fun Kq hKq => ?_) ?_
                    · have HG2 := HY.out.1.under HH.out.1 hb2
                      have hs2 := hb2.size
                      have hUo : Ft.Fd w2 (fun k => (Pf k ∨ (w.heap.size + 4 ≤ k ∧ k < w2.heap.size)) ∧ some k ≠ (v : Value).ownBlock) (Ft.withG y r O) a2 c2 := hU2.out.mono (fun k hk => ⟨hk.imp id (fun q => ⟨by omega, q.2⟩), fun e => by
                        have h9 := HVN.out k e.symm
                        rcases hk with q | q
                        · have := HH.out.1 k q; omega
                        · omega⟩)
                      refine step_append_lies _ rfl (.tmp 71) (.tmp 78) 23 rfl (w.heap.size + 4) 25 i0 _ 4 64 Tryz.underlying23 hi0 hz0 hz1 hz2 rfl (by decide) v K.length (Ft.fcells K) (by simp [Act.eval]) (World.ownsRow.alloc HG2.row.1 _) ⟨w2.heap.size, 0, none⟩ 1 1 (Ft.fourL ((Ft.withG y r O), a2, c2)) (by simp [Act.eval]) rfl (Ft.four_new w2 (Ft.withG y r O) a2 c2) (Ft.four_one _) (by decide) (by have := HKn.out; unfold maxLen; omega) (by have := HKn.out; omega) (by simp; omega) _ rfl ?_
                      intro g c w3 ho hg hat hlt3
                      obtain ⟨o3, hb4, G3⟩ := HG2.push HH.out.1 hUo ho hg (m := w2.heap.size + 1) (by simpa using hat) (by omega)
                      have HG3 : Hid (Ft.GW Pf w T (some ⟨kb, ko, none⟩) cap f fa fc (K ++ [((Ft.withG y r O), a2, c2)]) (.slice (some ⟨g, 0, none⟩) (K.length + 1) c) (w3.setCell ⟨w.heap.size + 3, 3, none⟩ (.slice (some ⟨g, 0, none⟩) (K.length + 1) c))) := G3
                      have v3 : w3.cell? ⟨w.heap.size + 3, 3, none⟩ = some v := by rw [cell_of_row w3 _ _ _ _ _ o3]; rfl
                      have f3 : w3.frozen? ⟨w.heap.size + 3, 3, none⟩ = false := frozen_of_row w3 _ 3 _ _ o3
                      have hlow : ∀ k, k < Y.heap.size → some k ≠ (v : Value).ownBlock → w3.heap[k]? = Y.heap[k]? := fun k hk hne => by rw [hg.block k (by simp; omega) hne, heap_alloc_old w2 _ (by omega)]; exact hb2.block k hk
                      have hnv : some n ≠ (v : Value).ownBlock := fun e => (HVN.out n e.symm).1 rfl
                      have hfv : some (w.heap.size + 1) ≠ (v : Value).ownBlock := fun e => by have := (HVN.out _ e.symm).2.1; omega
                      have HS4 := HSb.out w3 (hlow n hny hnv) (hlow (w.heap.size + 1) (by omega) hfv)
                      have HS5 := HSb.out (w3.setCell ⟨w.heap.size + 3, 3, none⟩ (.slice (some ⟨g, 0, none⟩) (K.length + 1) c)) ((heap_setCell_other w3 ⟨w.heap.size + 3, 3, none⟩ n _ (show n ≠ w.heap.size + 3 by omega)).trans (hlow n hny hnv)) ((heap_setCell_other w3 ⟨w.heap.size + 3, 3, none⟩ (w.heap.size + 1) _ (show w.heap.size + 1 ≠ w.heap.size + 3 by omega)).trans (hlow (w.heap.size + 1) (by omega) hfv))
                      refine hKq.out _ _ HS4 (fun _ => ?_)
                      clear hKq Kq ho hg hat hlow G3 o3 hUo HG2 hlt3
                      try simp only [Act.put, List.setIfInBounds_toArray, List.set_cons_zero, List.set_cons_succ]
                      refine wpAnyH_take (i := 10) (oi := { dst := some 80, op := .fieldAddr 25 (.tmp 9) 3, type := 0, pos := "ref.go:185", after := #[{ on := 0, ground := .phase }, { on := 1, ground := .phase }, { on := 2, ground := .phase }, { on := 3, ground := .phase }, { on := 4, ground := .phase }, { on := 5, ground := .phase }, { on := 6, ground := .phase }, { on := 7, ground := .phase }, { on := 8, ground := .phase }, { on := 9, ground := .phase }], guard := none }) (v := .pointer (some ⟨w.heap.size + 1 + 1 + 1, 3, none⟩)) rfl (by kernel_rfl) (by kernel_rfl) (by kernel_rfl) (fun _ _ _ h => h) (Or.inl ⟨by rfl, ?_⟩) HS4 ?_
                      · intro w9 hw9; obtain ⟨l0, l1, l2, l3, l4, l5, l6, l7⟩ := hw9; go_simp
                      try simp only [Act.put, List.setIfInBounds_toArray, List.set_cons_zero, List.set_cons_succ]
                      refine wpAnyH_ready (rs := [11]) (by kernel_rfl) (by simp) ?_
                      refine AllReadyH.cons (o := { dst := none, op := .store 23 (.tmp 80) (.tmp 79), type := 0, pos := "ref.go:185", after := #[{ on := 10, ground := .data }, { on := 9, ground := .data }, { on := 9, ground := .chain }, { on := 0, ground := .phase }, { on := 1, ground := .phase }, { on := 2, ground := .phase }, { on := 3, ground := .phase }, { on := 4, ground := .phase }, { on := 5, ground := .phase }, { on := 6, ground := .phase }, { on := 7, ground := .phase }, { on := 8, ground := .phase }, { on := 9, ground := .phase }], guard := none }) rfl (fun Kq hKq => ?_) ?_
                      · go_simp
                        refine hKq.out _ _ HS5 (fun _ => ?_)
                        refine wpAnyH_done (by kernel_rfl) ?_ _
                        clear hKq Kq v3 f3 HS4 HS5 HSb HSY HV3 HCC
                        have HPl : Hid ((K ++ [((Ft.withG y r O), a2, c2)]).map (·.1) ++ Ft.restG (x :: r) O b (T.kids.drop (i + 1)) = Ft.restG (x :: r) O false T.kids) := by
                          have h := HX.out.2.2.2.2.2
                          rw [he, if_pos rfl, if_neg hr] at h
                          show _ = _
                          rw [List.map_append, List.append_assoc]
                          exact h
                        clear HX HY HVN HKn hys hny
                        go_wp2_with fail
                        go_roundw
                        case rel => first | exact ⟨i + 1, b, _, _, by omega, by go_num, rfl, HG3.out, HPl.out⟩ | ((repeat apply Exists.intro); exact ⟨⟨i + 1, b, _, _, by omega, by go_num, rfl, HG3.out, HPl.out⟩, rfl⟩)
                        case measure => simp [intOf]; omega
                      exact AllReadyH.nil
                    exact AllReadyH.nil
                  exact AllReadyH.nil
                exact AllReadyH.nil
              refine AllReadyH.cons (o := { dst := some 77, op := .call { callee := .value (.func 51), args := #[.tmp 72, .tmp 74, .tmp 75, .tmp 76], argTypes := #[25, 37, 25, 4] }, type := 25, pos := "ref.go:185", after := #[{ on := 2, ground := .data }, { on := 4, ground := .data }, { on := 5, ground := .data }, { on := 6, ground := .data }], guard := none }) rfl (fun Kq hKq => ?_) ?_
              · go_simp
                refine Calls.mono HCC.out ?_
                rintro e w2 ⟨a2, c2, rfl, hU2, hb2⟩
                have HS2 := HSY.out w2 hb2
                refine hKq.out _ _ HS2 (fun _ => ?_)
                clear hKq Kq
                try simp only [Act.put, List.setIfInBounds_toArray, List.set_cons_zero, List.set_cons_succ]
                refine wpAnyH_ready (rs := [1, 8]) (by kernel_rfl) (by simp) ?_
                refine AllReadyH.cons (o := { dst := some 71, op := .load 23 (.tmp 70), type := 23, pos := "ref.go:185", after := #[{ on := 0, ground := .data }], guard := none }) rfl (fun Kq hKq => ?_) ?_
                · have v3 := HV3.out w2 hb2
                  go_simp
                  refine hKq.out _ _ HS2 (fun _ => ?_)
                  clear hKq Kq v3
                  try simp only [Act.put, List.setIfInBounds_toArray, List.set_cons_zero, List.set_cons_succ]
                  refine wpAnyH_ready (rs := [8]) (by kernel_rfl) (by simp) ?_
                  refine AllReadyH.cons (o := { dst := some 78, op := .buildSlice 23 1 #[(0, .tmp 77)], type := 23, pos := "ref.go:185", after := #[{ on := 7, ground := .data }], guard := none }) rfl (fun Kq hKq => ?_) ?_
                  · go_simp
                    have hb3 : Below Y.heap.size Y (w2.alloc (.cells #[.string (Ft.withG y r O).nm, .int .u8 ((Ft.withG y r O).k : Int), .string (Ft.withG y r O).d, .slice a2 (Ft.withG y r O).kids.length c2] 25)) := hb2.alloc hb2.size _
                    have HS3 := HSY.out _ hb3
                    refine hKq.out _ _ HS3 (fun _ => ?_)
                    clear hKq Kq
                    try simp only [Act.put, List.setIfInBounds_toArray, List.set_cons_zero, List.set_cons_succ]
                    refine wpAnyH_ready (rs := [9]) (by kernel_rfl) (by simp) ?_
                    refine AllReadyH.cons (o := { dst := some 79, op := .call { callee := .builtin .append, args := #[.tmp 71, .tmp 78], argTypes := #[23, 23] }, type := 23, pos := "ref.go:185", after := #[{ on := 1, ground := .data }, { on := 8, ground := .data }, { on := 7, ground := .chain }], guard := none }) rfl (fun Kq hKq => ?_) ?_
                    · have HG2 := HY.out.1.under HH.out.1 hb2
                      have hs2 := hb2.size
                      have hUo : Ft.Fd w2 (fun k => (Pf k ∨ (w.heap.size + 4 ≤ k ∧ k < w2.heap.size)) ∧ some k ≠ (v : Value).ownBlock) (Ft.withG y r O) a2 c2 := hU2.out.mono (fun k hk => ⟨hk.imp id (fun q => ⟨by omega, q.2⟩), fun e => by
                        have h9 := HVN.out k e.symm
                        rcases hk with q | q
                        · have := HH.out.1 k q; omega
                        · omega⟩)
                      refine step_append_lies _ rfl (.tmp 71) (.tmp 78) 23 rfl (w.heap.size + 4) 25 i0 _ 4 64 Tryz.underlying23 hi0 hz0 hz1 hz2 rfl (by decide) v K.length (Ft.fcells K) (by simp [Act.eval]) (World.ownsRow.alloc HG2.row.1 _) ⟨w2.heap.size, 0, none⟩ 1 1 (Ft.fourL ((Ft.withG y r O), a2, c2)) (by simp [Act.eval]) rfl (Ft.four_new w2 (Ft.withG y r O) a2 c2) (Ft.four_one _) (by decide) (by have := HKn.out; unfold maxLen; omega) (by have := HKn.out; omega) (by simp; omega) _ rfl ?_
                      intro g c w3 ho hg hat hlt3
                      obtain ⟨o3, hb4, G3⟩ := HG2.push HH.out.1 hUo ho hg (m := w2.heap.size + 1) (by simpa using hat) (by omega)
                      have HG3 : Hid (Ft.GW Pf w T (some ⟨kb, ko, none⟩) cap f fa fc (K ++ [((Ft.withG y r O), a2, c2)]) (.slice (some ⟨g, 0, none⟩) (K.length + 1) c) (w3.setCell ⟨w.heap.size + 3, 3, none⟩ (.slice (some ⟨g, 0, none⟩) (K.length + 1) c))) := G3
                      have v3 : w3.cell? ⟨w.heap.size + 3, 3, none⟩ = some v := by rw [cell_of_row w3 _ _ _ _ _ o3]; rfl
                      have f3 : w3.frozen? ⟨w.heap.size + 3, 3, none⟩ = false := frozen_of_row w3 _ 3 _ _ o3
                      have hlow : ∀ k, k < Y.heap.size → some k ≠ (v : Value).ownBlock → w3.heap[k]? = Y.heap[k]? := fun k hk hne => by rw [hg.block k (by simp; omega) hne, heap_alloc_old w2 _ (by omega)]; exact hb2.block k hk
                      have hnv : some n ≠ (v : Value).ownBlock := fun e => (HVN.out n e.symm).1 rfl
                      have hfv : some (w.heap.size + 1) ≠ (v : Value).ownBlock := fun e => by have := (HVN.out _ e.symm).2.1; omega
                      have HS4 := HSb.out w3 (hlow n hny hnv) (hlow (w.heap.size + 1) (by omega) hfv)
                      have HS5 := HSb.out (w3.setCell ⟨w.heap.size + 3, 3, none⟩ (.slice (some ⟨g, 0, none⟩) (K.length + 1) c)) ((heap_setCell_other w3 ⟨w.heap.size + 3, 3, none⟩ n _ (show n ≠ w.heap.size + 3 by omega)).trans (hlow n hny hnv)) ((heap_setCell_other w3 ⟨w.heap.size + 3, 3, none⟩ (w.heap.size + 1) _ (show w.heap.size + 1 ≠ w.heap.size + 3 by omega)).trans (hlow (w.heap.size + 1) (by omega) hfv))
                      refine hKq.out _ _ HS4 (fun _ => ?_)
                      clear hKq Kq ho hg hat hlow G3 o3 hUo HG2 hlt3
                      try simp only [Act.put, List.setIfInBounds_toArray, List.set_cons_zero, List.set_cons_succ]
                      refine wpAnyH_take (i := 10) (oi := { dst := some 80, op := .fieldAddr 25 (.tmp 9) 3, type := 0, pos := "ref.go:185", after := #[{ on := 0, ground := .phase }, { on := 1, ground := .phase }, { on := 2, ground := .phase }, { on := 3, ground := .phase }, { on := 4, ground := .phase }, { on := 5, ground := .phase }, { on := 6, ground := .phase }, { on := 7, ground := .phase }, { on := 8, ground := .phase }, { on := 9, ground := .phase }], guard := none }) (v := .pointer (some ⟨w.heap.size + 1 + 1 + 1, 3, none⟩)) rfl (by kernel_rfl) (by kernel_rfl) (by kernel_rfl) (fun _ _ _ h => h) (Or.inl ⟨by rfl, ?_⟩) HS4 ?_
                      · intro w9 hw9; obtain ⟨l0, l1, l2, l3, l4, l5, l6, l7⟩ := hw9; go_simp
                      try simp only [Act.put, List.setIfInBounds_toArray, List.set_cons_zero, List.set_cons_succ]
                      refine wpAnyH_ready (rs := [11]) (by kernel_rfl) (by simp) ?_
                      refine AllReadyH.cons (o := { dst := none, op := .store 23 (.tmp 80) (.tmp 79), type := 0, pos := "ref.go:185", after := #[{ on := 10, ground := .data }, { on := 9, ground := .data }, { on := 9, ground := .chain }, { on := 0, ground := .phase }, { on := 1, ground := .phase }, { on := 2, ground := .phase }, { on := 3, ground := .phase }, { on := 4, ground := .phase }, { on := 5, ground := .phase }, { on := 6, ground := .phase }, { on := 7, ground := .phase }, { on := 8, ground := .phase }, { on := 9, ground := .phase }], guard := none }) rfl (fun Kq hKq => ?_) ?_
                      · go_simp
                        refine hKq.out _ _ HS5 (fun _ => ?_)
                        refine wpAnyH_done (by kernel_rfl) ?_ _
                        clear hKq Kq v3 f3 HS4 HS5 HSb HSY HV3 HCC
                        have HPl : Hid ((K ++ [((Ft.withG y r O), a2, c2)]).map (·.1) ++ Ft.restG (x :: r) O b (T.kids.drop (i + 1)) = Ft.restG (x :: r) O false T.kids) := by
                          have h := HX.out.2.2.2.2.2
                          rw [he, if_pos rfl, if_neg hr] at h
                          show _ = _
                          rw [List.map_append, List.append_assoc]
                          exact h
                        clear HX HY HVN HKn hys hny
                        go_wp2_with fail
                        go_roundw
                        case rel => first | exact ⟨i + 1, b, _, _, by omega, by go_num, rfl, HG3.out, HPl.out⟩ | ((repeat apply Exists.intro); exact ⟨⟨i + 1, b, _, _, by omega, by go_num, rfl, HG3.out, HPl.out⟩, rfl⟩)
                        case measure => simp [intOf]; omega
                      exact AllReadyH.nil
                    exact AllReadyH.nil
                  exact AllReadyH.nil
                refine AllReadyH.cons (o := { dst := some 78, op := .buildSlice 23 1 #[(0, .tmp 77)], type := 23, pos := "ref.go:185", after := #[{ on := 7, ground := .data }], guard := none }) rfl (fun Kq hKq => ?_) ?_
                · go_simp
                  have hb3 : Below Y.heap.size Y (w2.alloc (.cells #[.string (Ft.withG y r O).nm, .int .u8 ((Ft.withG y r O).k : Int), .string (Ft.withG y r O).d, .slice a2 (Ft.withG y r O).kids.length c2] 25)) := hb2.alloc hb2.size _
                  have HS3 := HSY.out _ hb3
                  refine hKq.out _ _ HS3 (fun _ => ?_)
                  clear hKq Kq
                  try simp only [Act.put, List.setIfInBounds_toArray, List.set_cons_zero, List.set_cons_succ]
                  refine wpAnyH_ready (rs := [1]) (by kernel_rfl) (by simp) ?_
                  refine AllReadyH.cons (o := { dst := some 71, op := .load 23 (.tmp 70), type := 23, pos := "ref.go:185", after := #[{ on := 0, ground := .data }], guard := none }) rfl (fun Kq hKq => ?_) ?_
                  · have v3 := HV3.out (w2.alloc (.cells #[.string (Ft.withG y r O).nm, .int .u8 ((Ft.withG y r O).k : Int), .string (Ft.withG y r O).d, .slice a2 (Ft.withG y r O).kids.length c2] 25)) hb3
                    go_simp
                    refine hKq.out _ _ HS3 (fun _ => ?_)
                    clear hKq Kq v3
                    try simp only [Act.put, List.setIfInBounds_toArray, List.set_cons_zero, List.set_cons_succ]
                    refine wpAnyH_ready (rs := [9]) (by kernel_rfl) (by simp) ?_
                    refine AllReadyH.cons (o := { dst := some 79, op := .call { callee := .builtin .append, args := #[.tmp 71, .tmp 78], argTypes := #[23, 23] }, type := 23, pos := "ref.go:185", after := #[{ on := 1, ground := .data }, { on := 8, ground := .data }, { on := 7, ground := .chain }], guard := none }) rfl (fun Kq hKq => ?_) ?_
                    · have HG2 := HY.out.1.under HH.out.1 hb2
                      have hs2 := hb2.size
                      have hUo : Ft.Fd w2 (fun k => (Pf k ∨ (w.heap.size + 4 ≤ k ∧ k < w2.heap.size)) ∧ some k ≠ (v : Value).ownBlock) (Ft.withG y r O) a2 c2 := hU2.out.mono (fun k hk => ⟨hk.imp id (fun q => ⟨by omega, q.2⟩), fun e => by
                        have h9 := HVN.out k e.symm
                        rcases hk with q | q
                        · have := HH.out.1 k q; omega
                        · omega⟩)
                      refine step_append_lies _ rfl (.tmp 71) (.tmp 78) 23 rfl (w.heap.size + 4) 25 i0 _ 4 64 Tryz.underlying23 hi0 hz0 hz1 hz2 rfl (by decide) v K.length (Ft.fcells K) (by simp [Act.eval]) (World.ownsRow.alloc HG2.row.1 _) ⟨w2.heap.size, 0, none⟩ 1 1 (Ft.fourL ((Ft.withG y r O), a2, c2)) (by simp [Act.eval]) rfl (Ft.four_new w2 (Ft.withG y r O) a2 c2) (Ft.four_one _) (by decide) (by have := HKn.out; unfold maxLen; omega) (by have := HKn.out; omega) (by simp; omega) _ rfl ?_
                      intro g c w3 ho hg hat hlt3
                      obtain ⟨o3, hb4, G3⟩ := HG2.push HH.out.1 hUo ho hg (m := w2.heap.size + 1) (by simpa using hat) (by omega)
                      have HG3 : Hid (Ft.GW Pf w T (some ⟨kb, ko, none⟩) cap f fa fc (K ++ [((Ft.withG y r O), a2, c2)]) (.slice (some ⟨g, 0, none⟩) (K.length + 1) c) (w3.setCell ⟨w.heap.size + 3, 3, none⟩ (.slice (some ⟨g, 0, none⟩) (K.length + 1) c))) := G3
                      have v3 : w3.cell? ⟨w.heap.size + 3, 3, none⟩ = some v := by rw [cell_of_row w3 _ _ _ _ _ o3]; rfl
                      have f3 : w3.frozen? ⟨w.heap.size + 3, 3, none⟩ = false := frozen_of_row w3 _ 3 _ _ o3
                      have hlow : ∀ k, k < Y.heap.size → some k ≠ (v : Value).ownBlock → w3.heap[k]? = Y.heap[k]? := fun k hk hne => by rw [hg.block k (by simp; omega) hne, heap_alloc_old w2 _ (by omega)]; exact hb2.block k hk
                      have hnv : some n ≠ (v : Value).ownBlock := fun e => (HVN.out n e.symm).1 rfl
                      have hfv : some (w.heap.size + 1) ≠ (v : Value).ownBlock := fun e => by have := (HVN.out _ e.symm).2.1; omega
                      have HS4 := HSb.out w3 (hlow n hny hnv) (hlow (w.heap.size + 1) (by omega) hfv)
                      have HS5 := HSb.out (w3.setCell ⟨w.heap.size + 3, 3, none⟩ (.slice (some ⟨g, 0, none⟩) (K.length + 1) c)) ((heap_setCell_other w3 ⟨w.heap.size + 3, 3, none⟩ n _ (show n ≠ w.heap.size + 3 by omega)).trans (hlow n hny hnv)) ((heap_setCell_other w3 ⟨w.heap.size + 3, 3, none⟩ (w.heap.size + 1) _ (show w.heap.size + 1 ≠ w.heap.size + 3 by omega)).trans (hlow (w.heap.size + 1) (by omega) hfv))
                      refine hKq.out _ _ HS4 (fun _ => ?_)
                      clear hKq Kq ho hg hat hlow G3 o3 hUo HG2 hlt3
                      try simp only [Act.put, List.setIfInBounds_toArray, List.set_cons_zero, List.set_cons_succ]
                      refine wpAnyH_take (i := 10) (oi := { dst := some 80, op := .fieldAddr 25 (.tmp 9) 3, type := 0, pos := "ref.go:185", after := #[{ on := 0, ground := .phase }, { on := 1, ground := .phase }, { on := 2, ground := .phase }, { on := 3, ground := .phase }, { on := 4, ground := .phase }, { on := 5, ground := .phase }, { on := 6, ground := .phase }, { on := 7, ground := .phase }, { on := 8, ground := .phase }, { on := 9, ground := .phase }], guard := none }) (v := .pointer (some ⟨w.heap.size + 1 + 1 + 1, 3, none⟩)) rfl (by kernel_rfl) (by kernel_rfl) (by kernel_rfl) (fun _ _ _ h => h) (Or.inl ⟨by rfl, ?_⟩) HS4 ?_
                      · intro w9 hw9; obtain ⟨l0, l1, l2, l3, l4, l5, l6, l7⟩ := hw9; go_simp
                      try simp only [Act.put, List.setIfInBounds_toArray, List.set_cons_zero, List.set_cons_succ]
                      refine wpAnyH_ready (rs := [11]) (by kernel_rfl) (by simp) ?_
                      refine AllReadyH.cons (o := { dst := none, op := .store 23 (.tmp 80) (.tmp 79), type := 0, pos := "ref.go:185", after := #[{ on := 10, ground := .data }, { on := 9, ground := .data }, { on := 9, ground := .chain }, { on := 0, ground := .phase }, { on := 1, ground := .phase }, { on := 2, ground := .phase }, { on := 3, ground := .phase }, { on := 4, ground := .phase }, { on := 5, ground := .phase }, { on := 6, ground := .phase }, { on := 7, ground := .phase }, { on := 8, ground := .phase }, { on := 9, ground := .phase }], guard := none }) rfl (fun Kq hKq => ?_) ?_
                      · go_simp
                        refine hKq.out _ _ HS5 (fun _ => ?_)
                        refine wpAnyH_done (by kernel_rfl) ?_ _
                        clear hKq Kq v3 f3 HS4 HS5 HSb HSY HV3 HCC
                        have HPl : Hid ((K ++ [((Ft.withG y r O), a2, c2)]).map (·.1) ++ Ft.restG (x :: r) O b (T.kids.drop (i + 1)) = Ft.restG (x :: r) O false T.kids) := by
                          have h := HX.out.2.2.2.2.2
                          rw [he, if_pos rfl, if_neg hr] at h
                          show _ = _
                          rw [List.map_append, List.append_assoc]
                          exact h
                        clear HX HY HVN HKn hys hny
                        go_wp2_with fail
                        go_roundw
                        case rel => first | exact ⟨i + 1, b, _, _, by omega, by go_num, rfl, HG3.out, HPl.out⟩ | ((repeat apply Exists.intro); exact ⟨⟨i + 1, b, _, _, by omega, by go_num, rfl, HG3.out, HPl.out⟩, rfl⟩)
                        case measure => simp [intOf]; omega
                      exact AllReadyH.nil
                    exact AllReadyH.nil
                  exact AllReadyH.nil
                exact AllReadyH.nil
              exact AllReadyH.nil
        · have hC6 := HC6.out.symm.trans hC
          simp only [Bool.and_eq_true, Bool.not_eq_true', List.isEmpty_iff] at hC6
          obtain ⟨⟨⟨hrn, hbn⟩, hgn⟩, _⟩ := hC6
          subst hrn
          subst hbn
          subst hgn
          have HRq : Hid (K.map (·.1) ++ ([f] ++ ((if (y.nm.toList == x.toList) = true then (if ([] : List ByteArray) = [] then [] else [Ft.withG y [] O]) else [y]) ++ Ft.restG (x :: []) O true (T.kids.drop (i + 1)))) = Ft.restG (x :: []) O false T.kids) := by
            have h := HRp.out
            rw [Ft.rest_yes HO.out (by rw [← HC6.out]; exact hC)] at h
            exact h
          have HGw := HG1.out.1.under HH.out.1 hX0
          have HG2 : Hid (Ft.GW Pf w T (some ⟨kb, ko, none⟩) cap f fa fc K v wc ∧ Ft.FileAt wc n y a' c' ∧ Ft.Fd wc (· < w.heap.size) y a' c') := ⟨HGw, HG1.out.2.1.under hX0, HG1.out.2.2.under (hX0.mono HG1.out.1.bel.size)⟩
          clear HG1 HRp HC6 hC hX0 HGw
          obtain ⟨f0, f1, f2, f3⟩ := HG2.out.1.g.cellsG
          have v3 : wc.cell? ⟨w.heap.size + 3, 3, none⟩ = some v := by rw [cell_of_row wc _ _ _ _ _ HG2.out.1.o]; rfl
          have HOW : Hid (∀ o, (wc.alloc o).ownsRow (w.heap.size + 4) 25 4 v K.length (Ft.fcells K)) := fun o => World.ownsRow.alloc HG2.out.1.row.1 o
          have hwcs : w.heap.size + 4 ≤ wc.heap.size := HG2.out.1.hs
          go_wp2_with (at_builtin; refine Ft.wpList_append_far _ rfl _ _ 23 rfl (w.heap.size + 4) 25 i0 (.agg #[.string ⟨#[]⟩, .int .u8 0, .string ⟨#[]⟩, .slice none 0 0]) 4 64 Tryz.underlying23 hi0 hz0 hz1 hz2 rfl (by decide) v K.length (Ft.fcells K) rfl (HOW.out _) ⟨wc.heap.size, 0, none⟩ 1 1 (Ft.fourL (f, fa, fc)) rfl rfl (Ft.four_new wc f fa fc) (Ft.four_one _) (by unfold maxLen; omega) (by omega) (by simp; omega) ?_)
          intro v' w' own gr _ hat
          have hnw : n < wc.heap.size := HG2.out.2.1.lt
          have hfo : Ft.Fd wc (fun k => (Pf k ∨ (w.heap.size + 4 ≤ k ∧ k < wc.heap.size)) ∧ some k ≠ v.ownBlock) f fa fc := HG2.out.1.ff.mono (fun k hk => ⟨.inl hk, fun e => by have := (HG2.out.1.row.1.lt k e.symm).1; have := HH.out.1 k hk; omega⟩)
          obtain ⟨g, c, rfl, v9, f9, HG3⟩ := HG2.out.1.push2 HH.out.1 hfo own gr (m := wc.heap.size + 1) (by simpa using hat) (by omega)
          have hgn : g ≠ n := by
            rcases hat with e | e
            · have := HOn.out g e.symm; omega
            · have e : some g = some (wc.heap.size + 1) := e
              injection e with e
              omega
          have hnv : some n ≠ v.ownBlock := fun e => by have := HOn.out n e.symm; omega
          have hlow : ∀ k, k < wc.heap.size → some k ≠ v.ownBlock → w'.heap[k]? = wc.heap[k]? := fun k hk hne => by rw [gr.block k (by simp; omega) hne, heap_alloc_old wc _ (by omega)]
          obtain ⟨K2, hK2⟩ : ∃ K2, K2 = K ++ [(f, fa, fc)] := ⟨_, rfl⟩
          obtain ⟨v2, hv2⟩ : ∃ v2, v2 = Value.slice (some ⟨g, 0, none⟩) (K.length + 1) c := ⟨_, rfl⟩
          obtain ⟨X, hX⟩ : ∃ X, X = w'.setCell ⟨w.heap.size + 1 + 1 + 1, 3, none⟩ (.slice (some ⟨g, 0, none⟩) (K.length + 1) c) := ⟨_, rfl⟩
          have hset : ∀ k, k ≠ w.heap.size + 3 → X.heap[k]? = w'.heap[k]? := fun k hk => by rw [hX]; exact heap_setCell_other w' ⟨w.heap.size + 1 + 1 + 1, 3, none⟩ k _ hk
          have HX0 : Hid (X = w'.setCell ⟨w.heap.size + 1 + 1 + 1, 3, none⟩ (.slice (some ⟨g, 0, none⟩) (K.length + 1) c)) := hX
          have HX : Hid (Ft.GW Pf w T (some ⟨kb, ko, none⟩) cap f fa fc K2 v2 X ∧ Ft.FileAt X n y a' c' ∧ Ft.Fd X (· < w.heap.size) y a' c' ∧ (∀ k, (v2 : Value).ownBlock = some k → k ≠ n) ∧ K2.length ≤ 1048577 ∧ K2.map (·.1) ++ ((if (y.nm.toList == x.toList) = true then (if ([] : List ByteArray) = [] then [] else [Ft.withG y [] O]) else [y]) ++ Ft.restG (x :: []) O true (T.kids.drop (i + 1))) = Ft.restG (x :: []) O false T.kids) := by
            refine ⟨by rw [hX, hK2, hv2]; exact HG3.out, (hset n (by omega)).trans ((hlow n hnw hnv).trans HG2.out.2.1), ?_, fun k hk => ?_, ?_, ?_⟩
            · refine HG2.out.2.2.same (fun k (hk : k < w.heap.size) => (hset k (by omega)).trans (hlow k (by omega) (fun e => by have := (HG2.out.1.row.1.lt k e.symm).1; omega))) (fun _ h => h)
            · rw [hv2] at hk
              have hk : some g = some k := hk
              injection hk with hk
              omega
            · rw [hK2, List.length_append, List.length_singleton]; omega
            · rw [hK2, List.map_append, List.append_assoc]
              exact HRq.out
          clear hset hX hK2 hv2 hlow hnv hgn hfo own gr hat HRq HOW v3 f0 f1 f2 f3 hnw
          go_upto_region 9 with fail
          rw [← HX0.out]
          clear HX0 v9 f9 HG3 HG2 hwcs
          obtain ⟨y0, y1, y2, y3⟩ := HX.out.2.1.cellsG
          have hx1 : X.cell? ⟨pb, po, none⟩ = some (.string x) := (HX.out.1.bel.cell (p := ⟨pb, po, none⟩) HH.out.2.2.2.1).trans HH.out.2.2.1
          cases he : (y.nm.toList == x.toList)
          · have hne : (y.nm.toList != x.toList) = true := by simp [bne, he]
            go_quiet (fail)
            clear y0 y1 y2 y3 hx1
            go_upto_region 10 with fail
            obtain ⟨Y, hY⟩ : ∃ Y, Y = (X.drewN nq).drew := ⟨_, rfl⟩
            have hYb : Below X.heap.size X Y := by rw [hY]; exact (Ft.bel_dq _ _).drew
            have HY : Hid (Ft.GW Pf w T (some ⟨kb, ko, none⟩) cap f fa fc K2 v2 Y ∧ Ft.FileAt Y n y a' c' ∧ Ft.Fd Y (· < w.heap.size) y a' c') := ⟨HX.out.1.under HH.out.1 hYb, HX.out.2.1.under hYb, HX.out.2.2.1.under (hYb.mono HX.out.1.bel.size)⟩
            have HVN : Hid (∀ k, (v2 : Value).ownBlock = some k → k ≠ n ∧ w.heap.size + 4 ≤ k ∧ k < Y.heap.size) := fun k hk => ⟨HX.out.2.2.2.1 k hk, HY.out.1.row.1.lt k hk⟩
            have HKn : Hid (K2.length ≤ 1048577) := HX.out.2.2.2.2.1
            have hys : w.heap.size + 4 ≤ Y.heap.size := HY.out.1.hs
            have hny : n < Y.heap.size := HY.out.2.1.lt
            have HSb : Hid (∀ V : World, V.heap[n]? = Y.heap[n]? → V.cell? ⟨n, 0, none⟩ = some (.string y.nm) ∧ V.cell? ⟨n, 1, none⟩ = some (.int .u8 (y.k : Int)) ∧ V.cell? ⟨n, 2, none⟩ = some (.string y.d) ∧ V.cell? ⟨n, 3, none⟩ = some (.slice a' y.kids.length c')) := fun V hV => by
              obtain ⟨u0, u1, u2, u3⟩ := Ft.FileAt.cellsG (hV.trans HY.out.2.1)
              skip
              exact ⟨u0, u1, u2, u3⟩
            have HSY : Hid (∀ V : World, Below Y.heap.size Y V → V.cell? ⟨n, 0, none⟩ = some (.string y.nm) ∧ V.cell? ⟨n, 1, none⟩ = some (.int .u8 (y.k : Int)) ∧ V.cell? ⟨n, 2, none⟩ = some (.string y.d) ∧ V.cell? ⟨n, 3, none⟩ = some (.slice a' y.kids.length c')) := fun V hV => HSb.out V (hV.block n hny)
            have HV3 : Hid (∀ V : World, Below Y.heap.size Y V → V.cell? ⟨w.heap.size + 3, 3, none⟩ = some v2) := fun V hV => by rw [cell_of_row V _ _ _ _ _ (HY.out.1.under HH.out.1 hV).o]; rfl
            have CC := rcopy_any y a' c' Y (HY.out.2.2.mono (fun k (hk : k < w.heap.size) => by show k < Y.heap.size; omega))
            simp only [Ft.fdV, Ft.fdA] at CC
            have HCC : Hid (Calls Tryz.prog 14 #[.agg #[.string y.nm, .int .u8 (y.k : Int), .string y.d, .slice a' y.kids.length c']] Y fun e w2 => ∃ a2 c2, e = .returned (.agg #[.string y.nm, .int .u8 (y.k : Int), .string y.d, .slice a2 y.kids.length c2]) ∧ Hid (Ft.Fd w2 (fun k => Pf k ∨ (Y.heap.size ≤ k ∧ k < w2.heap.size)) y a2 c2) ∧ Below Y.heap.size Y w2) := CC.mono fun e w2 ⟨a2, c2, h1, h2, h3⟩ => ⟨a2, c2, h1, h2.mono (fun k hk => .inr hk), h3⟩
            clear CC
            refine wp_region_held (S := fun w' => w'.cell? ⟨n, 0, none⟩ = some (.string y.nm) ∧ w'.cell? ⟨n, 1, none⟩ = some (.int .u8 (y.k : Int)) ∧ w'.cell? ⟨n, 2, none⟩ = some (.string y.d) ∧ w'.cell? ⟨n, 3, none⟩ = some (.slice a' y.kids.length c')) (by kernel_rfl) ?_
            have HS0 := HSY.out Y (Below.refl _ _)
            change wpAnyH Tryz.prog .any _ _ _ _ _ _ (X.drewN nq).drew
            rw [← hY]
            clear hY hYb
            refine wpAnyH_take (i := 0) (oi := { dst := some 59, op := .fieldAddr 25 (.tmp 9) 3, type := 0, pos := "ref.go:183", after := #[], guard := none }) (v := .pointer (some ⟨w.heap.size + 1 + 1 + 1, 3, none⟩)) rfl (by kernel_rfl) (by kernel_rfl) (by kernel_rfl) (fun _ _ _ h => h) (Or.inl ⟨by rfl, ?_⟩) HS0 ?_
            · intro w9 hw9; obtain ⟨l0, l1, l2, l3⟩ := hw9; go_simp
            try simp only [Act.put, List.setIfInBounds_toArray, List.set_cons_zero, List.set_cons_succ]
            refine wpAnyH_take (i := 2) (oi := { dst := some 61, op := .load 25 (.tmp 12), type := 25, pos := "ref.go:183", after := #[], guard := none }) (v := .agg #[.string y.nm, .int .u8 (y.k : Int), .string y.d, .slice a' y.kids.length c']) rfl (by kernel_rfl) (by kernel_rfl) (by kernel_rfl) (fun _ _ _ h => h) (Or.inl ⟨by rfl, ?_⟩) HS0 ?_
            · intro w9 hw9; obtain ⟨l0, l1, l2, l3⟩ := hw9; go_simp
            try simp only [Act.put, List.setIfInBounds_toArray, List.set_cons_zero, List.set_cons_succ]
            refine wpAnyH_ready (rs := [1, 3]) (by kernel_rfl) (by simp) ?_
            refine AllReadyH.cons (o := { dst := some 60, op := .load 23 (.tmp 59), type := 23, pos := "ref.go:183", after := #[{ on := 0, ground := .data }], guard := none }) rfl (fun Kq hKq => ?_) ?_
            · have v3 := HV3.out Y (Below.refl _ _)
              go_simp
              refine hKq.out _ _ HS0 (fun _ => ?_)
              clear hKq Kq v3
              try simp only [Act.put, List.setIfInBounds_toArray, List.set_cons_zero, List.set_cons_succ]
              refine wpAnyH_ready (rs := [3]) (by kernel_rfl) (by simp) ?_
              refine AllReadyH.cons (o := { dst := some 62, op := .call { callee := .value (.func 14), args := #[.tmp 61], argTypes := #[25] }, type := 25, pos := "ref.go:183", after := #[{ on := 2, ground := .data }], guard := none }) rfl (fun Kq hKq => ?_) ?_
              · go_simp
                refine Calls.mono HCC.out ?_
                rintro e w2 ⟨a2, c2, rfl, hU2, hb2⟩
                have HS2 := HSY.out w2 hb2
                refine hKq.out _ _ HS2 (fun _ => ?_)
                clear hKq Kq
                try simp only [Act.put, List.setIfInBounds_toArray, List.set_cons_zero, List.set_cons_succ]
                refine wpAnyH_ready (rs := [4]) (by kernel_rfl) (by simp) ?_
                refine AllReadyH.cons (o := { dst := some 63, op := .buildSlice 23 1 #[(0, .tmp 62)], type := 23, pos := "ref.go:183", after := #[{ on := 3, ground := .data }], guard := none }) rfl (fun Kq hKq => ?_) ?_
                · go_simp
                  have hb3 : Below Y.heap.size Y (w2.alloc (.cells #[.string y.nm, .int .u8 (y.k : Int), .string y.d, .slice a2 y.kids.length c2] 25)) := hb2.alloc hb2.size _
                  have HS3 := HSY.out _ hb3
                  refine hKq.out _ _ HS3 (fun _ => ?_)
                  clear hKq Kq
                  try simp only [Act.put, List.setIfInBounds_toArray, List.set_cons_zero, List.set_cons_succ]
                  refine wpAnyH_ready (rs := [5]) (by kernel_rfl) (by simp) ?_
                  refine AllReadyH.cons (o := { dst := some 64, op := .call { callee := .builtin .append, args := #[.tmp 60, .tmp 63], argTypes := #[23, 23] }, type := 23, pos := "ref.go:183", after := #[{ on := 1, ground := .data }, { on := 4, ground := .data }, { on := 3, ground := .chain }], guard := none }) rfl (fun Kq hKq => ?_) ?_
                  · have HG2 := HY.out.1.under HH.out.1 hb2
                    have hs2 := hb2.size
                    have hUo : Ft.Fd w2 (fun k => (Pf k ∨ (w.heap.size + 4 ≤ k ∧ k < w2.heap.size)) ∧ some k ≠ (v2 : Value).ownBlock) y a2 c2 := hU2.out.mono (fun k hk => ⟨hk.imp id (fun q => ⟨by omega, q.2⟩), fun e => by
                      have h9 := HVN.out k e.symm
                      rcases hk with q | q
                      · have := HH.out.1 k q; omega
                      · omega⟩)
                    refine step_append_lies _ rfl (.tmp 60) (.tmp 63) 23 rfl (w.heap.size + 4) 25 i0 _ 4 64 Tryz.underlying23 hi0 hz0 hz1 hz2 rfl (by decide) v2 K2.length (Ft.fcells K2) (by simp [Act.eval]) (World.ownsRow.alloc HG2.row.1 _) ⟨w2.heap.size, 0, none⟩ 1 1 (Ft.fourL (y, a2, c2)) (by simp [Act.eval]) rfl (Ft.four_new w2 y a2 c2) (Ft.four_one _) (by decide) (by have := HKn.out; unfold maxLen; omega) (by have := HKn.out; omega) (by simp; omega) _ rfl ?_
                    intro g c w3 ho hg hat hlt3
                    obtain ⟨o3, hb4, G3⟩ := HG2.push HH.out.1 hUo ho hg (m := w2.heap.size + 1) (by simpa using hat) (by omega)
                    have HG3 : Hid (Ft.GW Pf w T (some ⟨kb, ko, none⟩) cap f fa fc (K2 ++ [(y, a2, c2)]) (.slice (some ⟨g, 0, none⟩) (K2.length + 1) c) (w3.setCell ⟨w.heap.size + 3, 3, none⟩ (.slice (some ⟨g, 0, none⟩) (K2.length + 1) c))) := G3
                    have v3 : w3.cell? ⟨w.heap.size + 3, 3, none⟩ = some v2 := by rw [cell_of_row w3 _ _ _ _ _ o3]; rfl
                    have f3 : w3.frozen? ⟨w.heap.size + 3, 3, none⟩ = false := frozen_of_row w3 _ 3 _ _ o3
                    have hlow : ∀ k, k < Y.heap.size → some k ≠ (v2 : Value).ownBlock → w3.heap[k]? = Y.heap[k]? := fun k hk hne => by rw [hg.block k (by simp; omega) hne, heap_alloc_old w2 _ (by omega)]; exact hb2.block k hk
                    have hnv : some n ≠ (v2 : Value).ownBlock := fun e => (HVN.out n e.symm).1 rfl
                    skip
                    have HS4 := HSb.out w3 (hlow n hny hnv)
                    have HS5 := HSb.out (w3.setCell ⟨w.heap.size + 3, 3, none⟩ (.slice (some ⟨g, 0, none⟩) (K2.length + 1) c)) ((heap_setCell_other w3 ⟨w.heap.size + 3, 3, none⟩ n _ (show n ≠ w.heap.size + 3 by omega)).trans (hlow n hny hnv))
                    refine hKq.out _ _ HS4 (fun _ => ?_)
                    clear hKq Kq ho hg hat hlow G3 o3 hUo HG2 hlt3
                    try simp only [Act.put, List.setIfInBounds_toArray, List.set_cons_zero, List.set_cons_succ]
                    refine wpAnyH_take (i := 6) (oi := { dst := some 65, op := .fieldAddr 25 (.tmp 9) 3, type := 0, pos := "ref.go:183", after := #[{ on := 0, ground := .phase }, { on := 1, ground := .phase }, { on := 2, ground := .phase }, { on := 3, ground := .phase }, { on := 4, ground := .phase }, { on := 5, ground := .phase }], guard := none }) (v := .pointer (some ⟨w.heap.size + 1 + 1 + 1, 3, none⟩)) rfl (by kernel_rfl) (by kernel_rfl) (by kernel_rfl) (fun _ _ _ h => h) (Or.inl ⟨by rfl, ?_⟩) HS4 ?_
                    · intro w9 hw9; obtain ⟨l0, l1, l2, l3⟩ := hw9; go_simp
                    try simp only [Act.put, List.setIfInBounds_toArray, List.set_cons_zero, List.set_cons_succ]
                    refine wpAnyH_ready (rs := [7]) (by kernel_rfl) (by simp) ?_
                    refine AllReadyH.cons (o := { dst := none, op := .store 23 (.tmp 65) (.tmp 64), type := 0, pos := "ref.go:183", after := #[{ on := 6, ground := .data }, { on := 5, ground := .data }, { on := 5, ground := .chain }, { on := 0, ground := .phase }, { on := 1, ground := .phase }, { on := 2, ground := .phase }, { on := 3, ground := .phase }, { on := 4, ground := .phase }, { on := 5, ground := .phase }], guard := none }) rfl (fun Kq hKq => ?_) ?_
                    · go_simp
                      refine hKq.out _ _ HS5 (fun _ => ?_)
                      refine wpAnyH_done (by kernel_rfl) ?_ _
                      clear hKq Kq v3 f3 HS4 HS5 HSb HSY HV3 HCC
                      have HPl : Hid ((K2 ++ [(y, a2, c2)]).map (·.1) ++ Ft.restG (x :: []) O true (T.kids.drop (i + 1)) = Ft.restG (x :: []) O false T.kids) := by
                        have h := HX.out.2.2.2.2.2
                        rw [he, if_neg (by simp)] at h
                        show _ = _
                        rw [List.map_append, List.append_assoc]
                        exact h
                      clear HX HY HVN HKn hys hny
                      go_wp2_with fail
                      go_roundw
                      case rel => first | exact ⟨i + 1, true, _, _, by omega, by go_num, rfl, HG3.out, HPl.out⟩ | ((repeat apply Exists.intro); exact ⟨⟨i + 1, true, _, _, by omega, by go_num, rfl, HG3.out, HPl.out⟩, rfl⟩)
                      case measure => simp [intOf]; omega
                    exact AllReadyH.nil
                  exact AllReadyH.nil
                exact AllReadyH.nil
              exact AllReadyH.nil
            refine AllReadyH.cons (o := { dst := some 62, op := .call { callee := .value (.func 14), args := #[.tmp 61], argTypes := #[25] }, type := 25, pos := "ref.go:183", after := #[{ on := 2, ground := .data }], guard := none }) rfl (fun Kq hKq => ?_) ?_
            · go_simp
              refine Calls.mono HCC.out ?_
              rintro e w2 ⟨a2, c2, rfl, hU2, hb2⟩
              have HS2 := HSY.out w2 hb2
              refine hKq.out _ _ HS2 (fun _ => ?_)
              clear hKq Kq
              try simp only [Act.put, List.setIfInBounds_toArray, List.set_cons_zero, List.set_cons_succ]
              refine wpAnyH_ready (rs := [1, 4]) (by kernel_rfl) (by simp) ?_
              refine AllReadyH.cons (o := { dst := some 60, op := .load 23 (.tmp 59), type := 23, pos := "ref.go:183", after := #[{ on := 0, ground := .data }], guard := none }) rfl (fun Kq hKq => ?_) ?_
              · have v3 := HV3.out w2 hb2
                go_simp
                refine hKq.out _ _ HS2 (fun _ => ?_)
                clear hKq Kq v3
                try simp only [Act.put, List.setIfInBounds_toArray, List.set_cons_zero, List.set_cons_succ]
                refine wpAnyH_ready (rs := [4]) (by kernel_rfl) (by simp) ?_
                refine AllReadyH.cons (o := { dst := some 63, op := .buildSlice 23 1 #[(0, .tmp 62)], type := 23, pos := "ref.go:183", after := #[{ on := 3, ground := .data }], guard := none }) rfl (fun Kq hKq => ?_) ?_
                · go_simp
                  have hb3 : Below Y.heap.size Y (w2.alloc (.cells #[.string y.nm, .int .u8 (y.k : Int), .string y.d, .slice a2 y.kids.length c2] 25)) := hb2.alloc hb2.size _
                  have HS3 := HSY.out _ hb3
                  refine hKq.out _ _ HS3 (fun _ => ?_)
                  clear hKq Kq
                  try simp only [Act.put, List.setIfInBounds_toArray, List.set_cons_zero, List.set_cons_succ]
                  refine wpAnyH_ready (rs := [5]) (by kernel_rfl) (by simp) ?_
                  refine AllReadyH.cons (o := { dst := some 64, op := .call { callee := .builtin .append, args := #[.tmp 60, .tmp 63], argTypes := #[23, 23] }, type := 23, pos := "ref.go:183", after := #[{ on := 1, ground := .data }, { on := 4, ground := .data }, { on := 3, ground := .chain }], guard := none }) rfl (fun Kq hKq => ?_) ?_
                  · have HG2 := HY.out.1.under HH.out.1 hb2
                    have hs2 := hb2.size
                    have hUo : Ft.Fd w2 (fun k => (Pf k ∨ (w.heap.size + 4 ≤ k ∧ k < w2.heap.size)) ∧ some k ≠ (v2 : Value).ownBlock) y a2 c2 := hU2.out.mono (fun k hk => ⟨hk.imp id (fun q => ⟨by omega, q.2⟩), fun e => by
                      have h9 := HVN.out k e.symm
                      rcases hk with q | q
                      · have := HH.out.1 k q; omega
                      · omega⟩)
                    refine step_append_lies _ rfl (.tmp 60) (.tmp 63) 23 rfl (w.heap.size + 4) 25 i0 _ 4 64 Tryz.underlying23 hi0 hz0 hz1 hz2 rfl (by decide) v2 K2.length (Ft.fcells K2) (by simp [Act.eval]) (World.ownsRow.alloc HG2.row.1 _) ⟨w2.heap.size, 0, none⟩ 1 1 (Ft.fourL (y, a2, c2)) (by simp [Act.eval]) rfl (Ft.four_new w2 y a2 c2) (Ft.four_one _) (by decide) (by have := HKn.out; unfold maxLen; omega) (by have := HKn.out; omega) (by simp; omega) _ rfl ?_
                    intro g c w3 ho hg hat hlt3
                    obtain ⟨o3, hb4, G3⟩ := HG2.push HH.out.1 hUo ho hg (m := w2.heap.size + 1) (by simpa using hat) (by omega)
                    have HG3 : Hid (Ft.GW Pf w T (some ⟨kb, ko, none⟩) cap f fa fc (K2 ++ [(y, a2, c2)]) (.slice (some ⟨g, 0, none⟩) (K2.length + 1) c) (w3.setCell ⟨w.heap.size + 3, 3, none⟩ (.slice (some ⟨g, 0, none⟩) (K2.length + 1) c))) := G3
                    have v3 : w3.cell? ⟨w.heap.size + 3, 3, none⟩ = some v2 := by rw [cell_of_row w3 _ _ _ _ _ o3]; rfl
                    have f3 : w3.frozen? ⟨w.heap.size + 3, 3, none⟩ = false := frozen_of_row w3 _ 3 _ _ o3
                    have hlow : ∀ k, k < Y.heap.size → some k ≠ (v2 : Value).ownBlock → w3.heap[k]? = Y.heap[k]? := fun k hk hne => by rw [hg.block k (by simp; omega) hne, heap_alloc_old w2 _ (by omega)]; exact hb2.block k hk
                    have hnv : some n ≠ (v2 : Value).ownBlock := fun e => (HVN.out n e.symm).1 rfl
                    skip
                    have HS4 := HSb.out w3 (hlow n hny hnv)
                    have HS5 := HSb.out (w3.setCell ⟨w.heap.size + 3, 3, none⟩ (.slice (some ⟨g, 0, none⟩) (K2.length + 1) c)) ((heap_setCell_other w3 ⟨w.heap.size + 3, 3, none⟩ n _ (show n ≠ w.heap.size + 3 by omega)).trans (hlow n hny hnv))
                    refine hKq.out _ _ HS4 (fun _ => ?_)
                    clear hKq Kq ho hg hat hlow G3 o3 hUo HG2 hlt3
                    try simp only [Act.put, List.setIfInBounds_toArray, List.set_cons_zero, List.set_cons_succ]
                    refine wpAnyH_take (i := 6) (oi := { dst := some 65, op := .fieldAddr 25 (.tmp 9) 3, type := 0, pos := "ref.go:183", after := #[{ on := 0, ground := .phase }, { on := 1, ground := .phase }, { on := 2, ground := .phase }, { on := 3, ground := .phase }, { on := 4, ground := .phase }, { on := 5, ground := .phase }], guard := none }) (v := .pointer (some ⟨w.heap.size + 1 + 1 + 1, 3, none⟩)) rfl (by kernel_rfl) (by kernel_rfl) (by kernel_rfl) (fun _ _ _ h => h) (Or.inl ⟨by rfl, ?_⟩) HS4 ?_
                    · intro w9 hw9; obtain ⟨l0, l1, l2, l3⟩ := hw9; go_simp
                    try simp only [Act.put, List.setIfInBounds_toArray, List.set_cons_zero, List.set_cons_succ]
                    refine wpAnyH_ready (rs := [7]) (by kernel_rfl) (by simp) ?_
                    refine AllReadyH.cons (o := { dst := none, op := .store 23 (.tmp 65) (.tmp 64), type := 0, pos := "ref.go:183", after := #[{ on := 6, ground := .data }, { on := 5, ground := .data }, { on := 5, ground := .chain }, { on := 0, ground := .phase }, { on := 1, ground := .phase }, { on := 2, ground := .phase }, { on := 3, ground := .phase }, { on := 4, ground := .phase }, { on := 5, ground := .phase }], guard := none }) rfl (fun Kq hKq => ?_) ?_
                    · go_simp
                      refine hKq.out _ _ HS5 (fun _ => ?_)
                      refine wpAnyH_done (by kernel_rfl) ?_ _
                      clear hKq Kq v3 f3 HS4 HS5 HSb HSY HV3 HCC
                      have HPl : Hid ((K2 ++ [(y, a2, c2)]).map (·.1) ++ Ft.restG (x :: []) O true (T.kids.drop (i + 1)) = Ft.restG (x :: []) O false T.kids) := by
                        have h := HX.out.2.2.2.2.2
                        rw [he, if_neg (by simp)] at h
                        show _ = _
                        rw [List.map_append, List.append_assoc]
                        exact h
                      clear HX HY HVN HKn hys hny
                      go_wp2_with fail
                      go_roundw
                      case rel => first | exact ⟨i + 1, true, _, _, by omega, by go_num, rfl, HG3.out, HPl.out⟩ | ((repeat apply Exists.intro); exact ⟨⟨i + 1, true, _, _, by omega, by go_num, rfl, HG3.out, HPl.out⟩, rfl⟩)
                      case measure => simp [intOf]; omega
                    exact AllReadyH.nil
                  exact AllReadyH.nil
                exact AllReadyH.nil
              refine AllReadyH.cons (o := { dst := some 63, op := .buildSlice 23 1 #[(0, .tmp 62)], type := 23, pos := "ref.go:183", after := #[{ on := 3, ground := .data }], guard := none }) rfl (fun Kq hKq => ?_) ?_
              · go_simp
                have hb3 : Below Y.heap.size Y (w2.alloc (.cells #[.string y.nm, .int .u8 (y.k : Int), .string y.d, .slice a2 y.kids.length c2] 25)) := hb2.alloc hb2.size _
                have HS3 := HSY.out _ hb3
                refine hKq.out _ _ HS3 (fun _ => ?_)
                clear hKq Kq
                try simp only [Act.put, List.setIfInBounds_toArray, List.set_cons_zero, List.set_cons_succ]
                refine wpAnyH_ready (rs := [1]) (by kernel_rfl) (by simp) ?_
                refine AllReadyH.cons (o := { dst := some 60, op := .load 23 (.tmp 59), type := 23, pos := "ref.go:183", after := #[{ on := 0, ground := .data }], guard := none }) rfl (fun Kq hKq => ?_) ?_
                · have v3 := HV3.out (w2.alloc (.cells #[.string y.nm, .int .u8 (y.k : Int), .string y.d, .slice a2 y.kids.length c2] 25)) hb3
                  go_simp
                  refine hKq.out _ _ HS3 (fun _ => ?_)
                  clear hKq Kq v3
                  try simp only [Act.put, List.setIfInBounds_toArray, List.set_cons_zero, List.set_cons_succ]
                  refine wpAnyH_ready (rs := [5]) (by kernel_rfl) (by simp) ?_
                  refine AllReadyH.cons (o := { dst := some 64, op := .call { callee := .builtin .append, args := #[.tmp 60, .tmp 63], argTypes := #[23, 23] }, type := 23, pos := "ref.go:183", after := #[{ on := 1, ground := .data }, { on := 4, ground := .data }, { on := 3, ground := .chain }], guard := none }) rfl (fun Kq hKq => ?_) ?_
                  · have HG2 := HY.out.1.under HH.out.1 hb2
                    have hs2 := hb2.size
                    have hUo : Ft.Fd w2 (fun k => (Pf k ∨ (w.heap.size + 4 ≤ k ∧ k < w2.heap.size)) ∧ some k ≠ (v2 : Value).ownBlock) y a2 c2 := hU2.out.mono (fun k hk => ⟨hk.imp id (fun q => ⟨by omega, q.2⟩), fun e => by
                      have h9 := HVN.out k e.symm
                      rcases hk with q | q
                      · have := HH.out.1 k q; omega
                      · omega⟩)
                    refine step_append_lies _ rfl (.tmp 60) (.tmp 63) 23 rfl (w.heap.size + 4) 25 i0 _ 4 64 Tryz.underlying23 hi0 hz0 hz1 hz2 rfl (by decide) v2 K2.length (Ft.fcells K2) (by simp [Act.eval]) (World.ownsRow.alloc HG2.row.1 _) ⟨w2.heap.size, 0, none⟩ 1 1 (Ft.fourL (y, a2, c2)) (by simp [Act.eval]) rfl (Ft.four_new w2 y a2 c2) (Ft.four_one _) (by decide) (by have := HKn.out; unfold maxLen; omega) (by have := HKn.out; omega) (by simp; omega) _ rfl ?_
                    intro g c w3 ho hg hat hlt3
                    obtain ⟨o3, hb4, G3⟩ := HG2.push HH.out.1 hUo ho hg (m := w2.heap.size + 1) (by simpa using hat) (by omega)
                    have HG3 : Hid (Ft.GW Pf w T (some ⟨kb, ko, none⟩) cap f fa fc (K2 ++ [(y, a2, c2)]) (.slice (some ⟨g, 0, none⟩) (K2.length + 1) c) (w3.setCell ⟨w.heap.size + 3, 3, none⟩ (.slice (some ⟨g, 0, none⟩) (K2.length + 1) c))) := G3
                    have v3 : w3.cell? ⟨w.heap.size + 3, 3, none⟩ = some v2 := by rw [cell_of_row w3 _ _ _ _ _ o3]; rfl
                    have f3 : w3.frozen? ⟨w.heap.size + 3, 3, none⟩ = false := frozen_of_row w3 _ 3 _ _ o3
                    have hlow : ∀ k, k < Y.heap.size → some k ≠ (v2 : Value).ownBlock → w3.heap[k]? = Y.heap[k]? := fun k hk hne => by rw [hg.block k (by simp; omega) hne, heap_alloc_old w2 _ (by omega)]; exact hb2.block k hk
                    have hnv : some n ≠ (v2 : Value).ownBlock := fun e => (HVN.out n e.symm).1 rfl
                    skip
                    have HS4 := HSb.out w3 (hlow n hny hnv)
                    have HS5 := HSb.out (w3.setCell ⟨w.heap.size + 3, 3, none⟩ (.slice (some ⟨g, 0, none⟩) (K2.length + 1) c)) ((heap_setCell_other w3 ⟨w.heap.size + 3, 3, none⟩ n _ (show n ≠ w.heap.size + 3 by omega)).trans (hlow n hny hnv))
                    refine hKq.out _ _ HS4 (fun _ => ?_)
                    clear hKq Kq ho hg hat hlow G3 o3 hUo HG2 hlt3
                    try simp only [Act.put, List.setIfInBounds_toArray, List.set_cons_zero, List.set_cons_succ]
                    refine wpAnyH_take (i := 6) (oi := { dst := some 65, op := .fieldAddr 25 (.tmp 9) 3, type := 0, pos := "ref.go:183", after := #[{ on := 0, ground := .phase }, { on := 1, ground := .phase }, { on := 2, ground := .phase }, { on := 3, ground := .phase }, { on := 4, ground := .phase }, { on := 5, ground := .phase }], guard := none }) (v := .pointer (some ⟨w.heap.size + 1 + 1 + 1, 3, none⟩)) rfl (by kernel_rfl) (by kernel_rfl) (by kernel_rfl) (fun _ _ _ h => h) (Or.inl ⟨by rfl, ?_⟩) HS4 ?_
                    · intro w9 hw9; obtain ⟨l0, l1, l2, l3⟩ := hw9; go_simp
                    try simp only [Act.put, List.setIfInBounds_toArray, List.set_cons_zero, List.set_cons_succ]
                    refine wpAnyH_ready (rs := [7]) (by kernel_rfl) (by simp) ?_
                    refine AllReadyH.cons (o := { dst := none, op := .store 23 (.tmp 65) (.tmp 64), type := 0, pos := "ref.go:183", after := #[{ on := 6, ground := .data }, { on := 5, ground := .data }, { on := 5, ground := .chain }, { on := 0, ground := .phase }, { on := 1, ground := .phase }, { on := 2, ground := .phase }, { on := 3, ground := .phase }, { on := 4, ground := .phase }, { on := 5, ground := .phase }], guard := none }) rfl (fun Kq hKq => ?_) ?_
                    · go_simp
                      refine hKq.out _ _ HS5 (fun _ => ?_)
                      refine wpAnyH_done (by kernel_rfl) ?_ _
                      clear hKq Kq v3 f3 HS4 HS5 HSb HSY HV3 HCC
                      have HPl : Hid ((K2 ++ [(y, a2, c2)]).map (·.1) ++ Ft.restG (x :: []) O true (T.kids.drop (i + 1)) = Ft.restG (x :: []) O false T.kids) := by
                        have h := HX.out.2.2.2.2.2
                        rw [he, if_neg (by simp)] at h
                        show _ = _
                        rw [List.map_append, List.append_assoc]
                        exact h
                      clear HX HY HVN HKn hys hny
                      go_wp2_with fail
                      go_roundw
                      case rel => first | exact ⟨i + 1, true, _, _, by omega, by go_num, rfl, HG3.out, HPl.out⟩ | ((repeat apply Exists.intro); exact ⟨⟨i + 1, true, _, _, by omega, by go_num, rfl, HG3.out, HPl.out⟩, rfl⟩)
                      case measure => simp [intOf]; omega
                    exact AllReadyH.nil
                  exact AllReadyH.nil
                exact AllReadyH.nil
              exact AllReadyH.nil
            exact AllReadyH.nil
          · have hne : (y.nm.toList != x.toList) = false := by simp [bne, he]
            go_quiet (fail)
            clear y0 y1 y2 y3 hx1
            have HPl : Hid (K2.map (·.1) ++ Ft.restG (x :: []) O true (T.kids.drop (i + 1)) = Ft.restG (x :: []) O false T.kids) := by
              have h := HX.out.2.2.2.2.2
              rw [he, if_pos rfl, if_pos rfl, List.nil_append] at h
              exact h
            have HG3 : Hid (Ft.GW Pf w T (some ⟨kb, ko, none⟩) cap f fa fc K2 v2 (X.drewN nq)) := HX.out.1.under HH.out.1 (Ft.bel_dq _ _)
            clear HX
            go_wp2_with fail
            go_roundw
            case rel => first | exact ⟨i + 1, true, _, _, by omega, by go_num, rfl, HG3.out, HPl.out⟩ | ((repeat apply Exists.intro); exact ⟨⟨i + 1, true, _, _, by omega, by go_num, rfl, HG3.out, HPl.out⟩, rfl⟩)
            case measure => simp [intOf]; omega
    · obtain rfl : i = T.kids.length := by omega
      have hi1 : ¬ (T.kids.length : Int) < (T.kids.length : Int) := by omega
      have hRe := HR.out.2
      rw [List.drop_length, Ft.rest_end HO.out] at hRe
      have HRe : Hid _ := hRe
      have HGe : Hid (Ft.GW Pf w T a cap f fa fc K v wr) := HR.out.1
      have hKn : K.length ≤ 1048576 := by
        have h9 := congrArg List.length hRe
        have h8 := Ft.rest_len (x :: r) O false T.kids
        rw [List.length_append, List.length_map] at h9
        omega
      obtain ⟨C14, hC14⟩ : ∃ C : Bool, C = (r.isEmpty && !b && !gone) := ⟨_, rfl⟩
      have HC14 : Hid (C14 = (r.isEmpty && !b && !gone)) := hC14
      clear hC14 hRe HR
      go_upto_region 14 with fail
      go_cut [92] (fun v92 wx => v92 = .bool C14 ∧ wx = wr)
      case first =>
        by_cases hr : r = []
        · subst hr
          cases b
          · cases gone
            · skip
              have hc : C14 = true := by rw [HC14.out]; rfl
              go_wp2_with fail
              go_meet
              exact ⟨by rw [hc], rfl⟩
            · skip
              have hc : C14 = false := by rw [HC14.out]; rfl
              go_wp2_with fail
              go_meet
              exact ⟨by rw [hc], rfl⟩
          · skip
            have hc : C14 = false := by rw [HC14.out]; rfl
            go_wp2_with fail
            go_meet
            exact ⟨by rw [hc], rfl⟩
        · have hr2 : r.isEmpty = false := by cases r with
            | nil => exact absurd rfl hr
            | cons _ _ => rfl
          have hr1 : ¬ ((r.length : Int) + 1 = 1) := by
            have : r.length ≠ 0 := fun e => hr (List.eq_nil_of_length_eq_zero e)
            omega
          have hr3 : ((r.length : Int) + 1 == 1) = false := by simpa using hr1
          have hc : C14 = false := by rw [HC14.out, hr2]; rfl
          go_wp2_with fail
          go_meet
          exact ⟨by rw [hc], rfl⟩
      case rest =>
        obtain ⟨rfl, hwc⟩ := hcut
        subst hwc
        cases hC : C14
        · have HF : Hid (Ft.GW Pf w T a cap f fa fc K v wc ∧ K.map (·.1) = Ft.restG (x :: r) O false T.kids) := ⟨HGe.out, by
            have h := HRe.out
            rw [← HC14.out, hC, if_neg (by simp), List.append_nil] at h
            exact h⟩
          clear HGe HRe HC14 hC
          obtain ⟨l, hl⟩ : ∃ l, l = Ft.restG (x :: r) O false T.kids := ⟨_, rfl⟩
          have hll : l.length ≤ 1048576 := by have h := Ft.rest_len (x :: r) O false T.kids; rw [← hl] at h; omega
          have HWG : Hid (Ft.withG T (x :: r) O = .mk T.nm T.k T.d l) := by show _ = _; rw [hl]; exact Ft.withG_rest O (fun h => by cases h)
          have hKl := HF.out.2
          rw [← hl] at hKl
          obtain ⟨a9, c9, hv9, hF9⟩ := HF.out.1.done hKl hll
          subst hv9
          have HO9 : Hid (Ft.FileAt wc (w.heap.size + 3) (.mk T.nm T.k T.d l) a9 c9 ∧ Ft.FileAt wc (w.heap.size + 2) Ft.zF none 0 ∧ Ft.Fd wc (fun k => Pf k ∨ (w.heap.size + 4 ≤ k ∧ k < wc.heap.size)) (.mk T.nm T.k T.d l) a9 c9 ∧ Below w.heap.size w wc) := ⟨HF.out.1.o, HF.out.1.z, hF9, HF.out.1.bel⟩
          have hxs : w.heap.size + 4 ≤ wc.heap.size := HF.out.1.hs
          clear hl hKl HF hF9
          obtain ⟨o0, o1, o2, o3⟩ := HO9.out.1.cellsG
          have o0 : wc.cell? ⟨w.heap.size + 3, 0, none⟩ = some (.string T.nm) := o0
          have o1 : wc.cell? ⟨w.heap.size + 3, 1, none⟩ = some (.int .u8 (T.k : Int)) := o1
          have o2 : wc.cell? ⟨w.heap.size + 3, 2, none⟩ = some (.string T.d) := o2
          have o3 : wc.cell? ⟨w.heap.size + 3, 3, none⟩ = some (.slice a9 l.length c9) := o3
          have z0 : wc.cell? ⟨w.heap.size + 2, 0, none⟩ = some (.string ⟨#[]⟩) := HO9.out.2.1.four.c0
          have z1 : wc.cell? ⟨w.heap.size + 2, 1, none⟩ = some (.int .u8 0) := HO9.out.2.1.four.c1
          have z2 : wc.cell? ⟨w.heap.size + 2, 2, none⟩ = some (.string ⟨#[]⟩) := HO9.out.2.1.four.c2
          have z3 : wc.cell? ⟨w.heap.size + 2, 3, none⟩ = some (.slice none 0 0) := HO9.out.2.1.four.c3
          have zf := HO9.out.2.1.frozen
          go_wp2_with fail
          refine bodyPost_ret (results_cell_row rfl _ _ (w.heap.size + 2) _ _ _ _ rfl (Ft.FileAt.putF HO9.out.2.1 (.mk T.nm T.k T.d l) a9 c9) Tryz.underlying25 rfl (by kernel_rfl)) rfl ?_
          rw [HWG.out]
          have y1 : Below w.heap.size w (Ft.putF wc (w.heap.size + 2) (.mk T.nm T.k T.d l) a9 c9) := Ft.putF_below HO9.out.2.2.2 (by omega)
          have y2 : wc.heap.size ≤ (Ft.putF wc (w.heap.size + 2) (.mk T.nm T.k T.d l) a9 c9).heap.size := (Ft.putF_below (Below.refl 0 wc) (Nat.zero_le _)).size
          exact ⟨a9, c9, rfl, HO9.out.2.2.1.same (fun k hk => Ft.putF_other (by
            rcases hk with q | q
            · have := HH.out.1 k q; omega
            · omega)) (fun k hk => hk.imp id (fun q => ⟨by omega, Nat.lt_of_lt_of_le q.2 y2⟩)), y1⟩
        · have hRq := HRe.out
          rw [← HC14.out, hC, if_pos rfl] at hRq
          have HRq : Hid (K.map (·.1) ++ [f] = Ft.restG (x :: r) O false T.kids) := hRq
          clear hRq HRe HC14 hC
          obtain ⟨f0, f1, f2, f3⟩ := HGe.out.g.cellsG
          have v3 : wc.cell? ⟨w.heap.size + 3, 3, none⟩ = some v := by rw [cell_of_row wc _ _ _ _ _ HGe.out.o]; rfl
          have HOW : Hid (∀ o, (wc.alloc o).ownsRow (w.heap.size + 4) 25 4 v K.length (Ft.fcells K)) := fun o => World.ownsRow.alloc HGe.out.row.1 o
          have hwcs : w.heap.size + 4 ≤ wc.heap.size := HGe.out.hs
          go_wp2_with (at_builtin; refine Ft.wpList_append_far _ rfl _ _ 23 rfl (w.heap.size + 4) 25 i0 (.agg #[.string ⟨#[]⟩, .int .u8 0, .string ⟨#[]⟩, .slice none 0 0]) 4 64 Tryz.underlying23 hi0 hz0 hz1 hz2 rfl (by decide) v K.length (Ft.fcells K) rfl (HOW.out _) ⟨wc.heap.size, 0, none⟩ 1 1 (Ft.fourL (f, fa, fc)) rfl rfl (Ft.four_new wc f fa fc) (Ft.four_one _) (by unfold maxLen; omega) (by omega) (by simp; omega) ?_)
          intro v' w' own gr _ hat
          have hfo : Ft.Fd wc (fun k => (Pf k ∨ (w.heap.size + 4 ≤ k ∧ k < wc.heap.size)) ∧ some k ≠ v.ownBlock) f fa fc := HGe.out.ff.mono (fun k hk => ⟨.inl hk, fun e => by have := (HGe.out.row.1.lt k e.symm).1; have := HH.out.1 k hk; omega⟩)
          obtain ⟨g, c, rfl, v9, f9, HG3⟩ := HGe.out.push2 HH.out.1 hfo own gr (m := wc.heap.size + 1) (by simpa using hat) (by omega)
          obtain ⟨K2, hK2⟩ : ∃ K2, K2 = K ++ [(f, fa, fc)] := ⟨_, rfl⟩
          obtain ⟨v2, hv2⟩ : ∃ v2, v2 = Value.slice (some ⟨g, 0, none⟩) (K.length + 1) c := ⟨_, rfl⟩
          obtain ⟨X, hX⟩ : ∃ X, X = w'.setCell ⟨w.heap.size + 1 + 1 + 1, 3, none⟩ (.slice (some ⟨g, 0, none⟩) (K.length + 1) c) := ⟨_, rfl⟩
          have HX0 : Hid (X = w'.setCell ⟨w.heap.size + 1 + 1 + 1, 3, none⟩ (.slice (some ⟨g, 0, none⟩) (K.length + 1) c)) := hX
          have HF : Hid (Ft.GW Pf w T a cap f fa fc K2 v2 X ∧ K2.map (·.1) = Ft.restG (x :: r) O false T.kids) := ⟨by rw [hX, hK2, hv2]; exact HG3.out, by rw [hK2, List.map_append]; exact HRq.out⟩
          clear hX hK2 hv2 hfo own gr hat HRq HOW v3 f0 f1 f2 f3
          go_upto_region 16 with fail
          rw [← HX0.out]
          clear HX0 v9 f9 HG3 HGe hwcs
          obtain ⟨l, hl⟩ : ∃ l, l = Ft.restG (x :: r) O false T.kids := ⟨_, rfl⟩
          have hll : l.length ≤ 1048576 := by have h := Ft.rest_len (x :: r) O false T.kids; rw [← hl] at h; omega
          have HWG : Hid (Ft.withG T (x :: r) O = .mk T.nm T.k T.d l) := by show _ = _; rw [hl]; exact Ft.withG_rest O (fun h => by cases h)
          have hKl := HF.out.2
          rw [← hl] at hKl
          obtain ⟨a9, c9, hv9, hF9⟩ := HF.out.1.done hKl hll
          subst hv9
          have HO9 : Hid (Ft.FileAt X (w.heap.size + 3) (.mk T.nm T.k T.d l) a9 c9 ∧ Ft.FileAt X (w.heap.size + 2) Ft.zF none 0 ∧ Ft.Fd X (fun k => Pf k ∨ (w.heap.size + 4 ≤ k ∧ k < X.heap.size)) (.mk T.nm T.k T.d l) a9 c9 ∧ Below w.heap.size w X) := ⟨HF.out.1.o, HF.out.1.z, hF9, HF.out.1.bel⟩
          have hxs : w.heap.size + 4 ≤ X.heap.size := HF.out.1.hs
          clear hl hKl HF hF9
          obtain ⟨o0, o1, o2, o3⟩ := HO9.out.1.cellsG
          have o0 : X.cell? ⟨w.heap.size + 3, 0, none⟩ = some (.string T.nm) := o0
          have o1 : X.cell? ⟨w.heap.size + 3, 1, none⟩ = some (.int .u8 (T.k : Int)) := o1
          have o2 : X.cell? ⟨w.heap.size + 3, 2, none⟩ = some (.string T.d) := o2
          have o3 : X.cell? ⟨w.heap.size + 3, 3, none⟩ = some (.slice a9 l.length c9) := o3
          have z0 : X.cell? ⟨w.heap.size + 2, 0, none⟩ = some (.string ⟨#[]⟩) := HO9.out.2.1.four.c0
          have z1 : X.cell? ⟨w.heap.size + 2, 1, none⟩ = some (.int .u8 0) := HO9.out.2.1.four.c1
          have z2 : X.cell? ⟨w.heap.size + 2, 2, none⟩ = some (.string ⟨#[]⟩) := HO9.out.2.1.four.c2
          have z3 : X.cell? ⟨w.heap.size + 2, 3, none⟩ = some (.slice none 0 0) := HO9.out.2.1.four.c3
          have zf := HO9.out.2.1.frozen
          go_wp2_with fail
          refine bodyPost_ret (results_cell_row rfl _ _ (w.heap.size + 2) _ _ _ _ rfl (Ft.FileAt.putF HO9.out.2.1 (.mk T.nm T.k T.d l) a9 c9) Tryz.underlying25 rfl (by kernel_rfl)) rfl ?_
          rw [HWG.out]
          have y1 : Below w.heap.size w (Ft.putF X (w.heap.size + 2) (.mk T.nm T.k T.d l) a9 c9) := Ft.putF_below HO9.out.2.2.2 (by omega)
          have y2 : X.heap.size ≤ (Ft.putF X (w.heap.size + 2) (.mk T.nm T.k T.d l) a9 c9).heap.size := (Ft.putF_below (Below.refl 0 X) (Nat.zero_le _)).size
          exact ⟨a9, c9, rfl, HO9.out.2.2.1.same (fun k hk => Ft.putF_other (by
            rcases hk with q | q
            · have := HH.out.1 k q; omega
            · omega)) (fun k hk => hk.imp id (fun q => ⟨by omega, Nat.lt_of_lt_of_le q.2 y2⟩)), y1⟩
end Go.Proofs.YtfbhofomcenabaaGreatDoor
