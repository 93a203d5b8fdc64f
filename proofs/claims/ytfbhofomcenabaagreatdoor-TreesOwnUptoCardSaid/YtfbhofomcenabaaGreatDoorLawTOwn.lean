/- The law TreesOwn: the answers are their asker's own. -/
import Derived.Test.YtfbhofomcenabaaGreatDoorUB
import Derived.Test.YtfbhofomcenabaaGreatDoorFTGetX
import Derived.Test.YtfbhofomcenabaaGreatDoorFKps
import Derived.Test.YtfbhofomcenabaaGreatDoorTH
import Derived.Test.YtfbhofomcenabaaGreatDoorLawTTrn
namespace Go.Proofs.YtfbhofomcenabaaGreatDoor
open Go Go.RowKit

/-- Behind a tree's being written over nothing older has turned. -/
theorem spoil_new {V V1 W : World} {hi : Nat} (h : Below V.heap.size V V1) (ho : Ft.Outs V.heap.size hi V1 W) : Below V.heap.size V W :=
  ⟨ho.os.trans h.os, ho.tape.trans h.tape, ho.output.trans h.output, Nat.le_trans h.size ho.size, fun k hk => (ho.block k (Nat.lt_of_lt_of_le hk h.size) (.inl hk)).trans (h.block k hk)⟩
theorem Ft.lst_path (T : Ft.FT) : ∀ y ∈ Ft.lstR T, y.1.length ≤ 1048576 := by
  intro y hy
  unfold Ft.lstR at hy
  split at hy
  · rename_i hr
    rw [Ft.listT_eq, ← Ft.kp_wk T none []] at hy
    obtain ⟨x, hx, rfl⟩ := List.mem_map.1 hy
    have := (Ft.wk_right T [] (Ft.right_bel hr) (fun s h => by cases h) x hx).2.2.1
    show x.1.length ≤ _
    omega
  · cases hy
theorem Ft.two_new (w : World) : ∀ j u, ([.string ⟨#[120]⟩, .string ⟨#[121]⟩] : List Value)[j]? = some u → (w.alloc (.cells #[.string ⟨#[120]⟩, .string ⟨#[121]⟩] 9)).cell? ((⟨w.heap.size, 0, none⟩ : Addr).add j) = some u := by
  intro j u hu
  have h := heap_alloc_new w (.cells #[.string ⟨#[120]⟩, .string ⟨#[121]⟩] 9)
  rw [Ft.add_at, cell_of_row _ _ _ _ _ _ h]
  match j, hu with
  | 0, hu | 1, hu => exact hu
  | j + 2, hu => cases hu
theorem Ft.own_form1 {w' : World} {base N : Nat} {e : TypeId} {v' : Value} {xs : List Value} (h : w'.ownsRow base e 1 v' N xs) (hN : N ≠ 0) : ∃ g c, v' = .slice (some ⟨g, 0, none⟩) N c := by
  rcases h.2 with ⟨_, hz⟩ | ⟨g, cap, _, hv, _⟩
  · exact absurd hz hN
  · exact ⟨g, cap, hv⟩
theorem Sb.old {w0 V : World} {g lo hi : Nat} {T : Ft.FT} {a : Option Addr} {c : Nat} (h : Sb w0 V g lo hi T a c) : g < V.heap.size := h.at_.lt

set_option maxRecDepth 100000 in
set_option maxHeartbeats 8000000 in
theorem law_towns (T f : Ft.FT) (p : List ByteArray) (a ap fa : Option Addr) (cap cp fc : Nat) (w : World) (TT : TxT w) (hT : Ft.Fd w (· < w.heap.size) T a cap) (hz : Ft.szT T = true) (hP : Strs w ap cp p) (hf : Ft.Fd w (· < w.heap.size) f fa fc) (hzf : Ft.szT f = true) (hfd : f.d.size ≤ 1048576) (hpz : ∀ s ∈ p, s.size ≤ 1048576) (hc : Ft.cntT T < 1048576) (hcl : (Ft.listT T []).length ≤ 1048576) :
    Calls Tryz.prog 4 #[Ft.fdV T a cap, .slice ap p.length cp, Ft.fdV f fa fc] w fun e w' => e = .returned (.bool true) ∧ Below w.heap.size w w' := by
  obtain ⟨W1, hW1⟩ : ∃ W1, W1 = (w.alloc (.cells (Ft.fdA T a cap) 25)).alloc (.cells (Ft.fdA f fa fc) 25) := ⟨_, rfl⟩
  have hb1 : Below w.heap.size w W1 := by rw [hW1]; exact ((Below.refl _ _).alloc (Nat.le_refl _) _).alloc (by simp) _
  have HSt : Hid (Sb w W1 w.heap.size 0 w.heap.size T a cap) := ⟨by rw [hW1]; exact (Ft.file_new w T a cap).alloc _, (hT.under hb1).mono (fun k h => ⟨Nat.zero_le _, h⟩), hb1.size, hb1, Nat.le_refl _⟩
  have HTT : Hid (TxT w) := TT
  have HSf : Hid (Sb w W1 (w.heap.size + 1) 0 w.heap.size f fa fc) := by
    refine ⟨?_, (hf.under hb1).mono (fun k h => ⟨Nat.zero_le _, h⟩), hb1.size, hb1, by omega⟩
    rw [hW1]
    have h := Ft.file_new (w.alloc (.cells (Ft.fdA T a cap) 25)) f fa fc
    rw [World.size_alloc] at h
    exact h
  have HW1 : Hid (W1 = (w.alloc (.cells #[.string T.nm, .int .u8 (T.k : Int), .string T.d, .slice a T.kids.length cap] 25)).alloc (.cells #[.string f.nm, .int .u8 (f.k : Int), .string f.d, .slice fa f.kids.length fc] 25)) := hW1
  have HZ : Hid (Ft.szT T = true ∧ Ft.szT f = true ∧ f.d.size ≤ 1048576 ∧ (∀ s ∈ p, s.size ≤ 1048576) ∧ Ft.cntT T < 1048576 ∧ (Ft.listT T []).length ≤ 1048576) := ⟨hz, hzf, hfd, hpz, hc, hcl⟩
  have HP : Hid (∀ V, Below w.heap.size w V → Strs V ap cp p) := fun V h => hP.below h
  have HTr : Hid (∀ V, Below w.heap.size w V → Calls Tryz.prog 23 #[.agg #[.string T.nm, .int .u8 (T.k : Int), .string T.d, .slice a T.kids.length cap], .slice ap p.length cp, .agg #[.string f.nm, .int .u8 (f.k : Int), .string f.d, .slice fa f.kids.length fc]] V fun e w' => e = .returned (.bool true) ∧ Below V.heap.size V w') := fun V hV => law_tturns T f p a ap fa cap cp fc V (TT.under hV) (hT.grew hV hV.size) hz (hP.below hV) (hf.grew hV hV.size) hzf hfd hpz hc
  have hpl := hP.len
  have hpr := hP.room
  have hTl := hT.room.1
  have hfl := hf.room.1
  clear hW1 hb1 hT hf TT hz hzf hfd hpz hc hP hcl
  simp only [Ft.fdV, Ft.fdA]
  go_enter Tryz.func4, Tryz.ntmps4
  go_wp2_with fail
  rw [← HW1.out]
  clear HW1
  refine (tlives_any W1 (HTT.out.under HSt.out.bel)).mono ?_
  rintro e w2 ⟨rfl, hb2⟩
  replace HSt : Hid (Sb w w2 w.heap.size 0 w.heap.size T a cap) := HSt.out.under hb2
  replace HSf : Hid (Sb w w2 (w.heap.size + 1) 0 w.heap.size f fa fc) := HSf.out.under hb2
  clear hb2
  have HS8 : Hid (∀ V, Below w2.heap.size w2 V → V.cell? ⟨w.heap.size, 0, none⟩ = some (.string T.nm) ∧ V.cell? ⟨w.heap.size, 1, none⟩ = some (.int .u8 (T.k : Int)) ∧ V.cell? ⟨w.heap.size, 2, none⟩ = some (.string T.d) ∧ V.cell? ⟨w.heap.size, 3, none⟩ = some (.slice a T.kids.length cap) ∧ V.cell? ⟨w.heap.size + 1, 0, none⟩ = some (.string f.nm) ∧ V.cell? ⟨w.heap.size + 1, 1, none⟩ = some (.int .u8 (f.k : Int)) ∧ V.cell? ⟨w.heap.size + 1, 2, none⟩ = some (.string f.d) ∧ V.cell? ⟨w.heap.size + 1, 3, none⟩ = some (.slice fa f.kids.length fc)) := fun V hV => by
    obtain ⟨u0, u1, u2, u3⟩ := (HSt.out.under hV).at_.cellsQ
    obtain ⟨v0, v1, v2, v3⟩ := (HSf.out.under hV).at_.cellsQ
    exact ⟨u0, u1, u2, u3, v0, v1, v2, v3⟩
  have HCt : Hid (∀ V, Below w2.heap.size w2 V → Calls Tryz.prog 14 #[.agg #[.string T.nm, .int .u8 (T.k : Int), .string T.d, .slice a T.kids.length cap]] V fun e w' => ∃ a' c', e = .returned (.agg #[.string T.nm, .int .u8 (T.k : Int), .string T.d, .slice a' T.kids.length c']) ∧ Hid (Ft.Fd w' (fun k => V.heap.size ≤ k ∧ k < w'.heap.size) T a' c') ∧ Below V.heap.size V w') := fun V hV => rcopy_any T a cap V (HSt.out.under hV).fd
  have HCf : Hid (∀ V, Below w2.heap.size w2 V → Calls Tryz.prog 14 #[.agg #[.string f.nm, .int .u8 (f.k : Int), .string f.d, .slice fa f.kids.length fc]] V fun e w' => ∃ a' c', e = .returned (.agg #[.string f.nm, .int .u8 (f.k : Int), .string f.d, .slice a' f.kids.length c']) ∧ Hid (Ft.Fd w' (fun k => V.heap.size ≤ k ∧ k < w'.heap.size) f a' c') ∧ Below V.heap.size V w') := fun V hV => rcopy_any f fa fc V (HSf.out.under hV).fd
  have hw2s : w.heap.size + 1 < w2.heap.size := HSf.out.at_.lt
  go_upto_region 3 with fail
  obtain ⟨Y, hY⟩ : ∃ Y, Y = w2.drew := ⟨_, rfl⟩
  have hbY : Below w2.heap.size w2 Y := by rw [hY]; exact (Below.refl _ _).drew
  have hYs : w2.heap.size ≤ Y.heap.size := hbY.size
  go_cut [7, 8] (fun v7 v8 wx => ∃ n7 n8 a7 c7 a8 c8 lo7 hi7 lo8 hi8, v7 = .pointer (some ⟨n7, 0, none⟩) ∧ v8 = .pointer (some ⟨n8, 0, none⟩) ∧ Hid (Sb w wx n7 lo7 hi7 T a7 c7 ∧ Sb w wx n8 lo8 hi8 f a8 c8 ∧ Below w2.heap.size w2 wx))
  case first =>
    refine wp_region_held (S := fun w' => w'.cell? ⟨w.heap.size, 0, none⟩ = some (.string T.nm) ∧ w'.cell? ⟨w.heap.size, 1, none⟩ = some (.int .u8 (T.k : Int)) ∧ w'.cell? ⟨w.heap.size, 2, none⟩ = some (.string T.d) ∧ w'.cell? ⟨w.heap.size, 3, none⟩ = some (.slice a T.kids.length cap) ∧ w'.cell? ⟨w.heap.size + 1, 0, none⟩ = some (.string f.nm) ∧ w'.cell? ⟨w.heap.size + 1, 1, none⟩ = some (.int .u8 (f.k : Int)) ∧ w'.cell? ⟨w.heap.size + 1, 2, none⟩ = some (.string f.d) ∧ w'.cell? ⟨w.heap.size + 1, 3, none⟩ = some (.slice fa f.kids.length fc)) (by kernel_rfl) ?_
    have HS0 := HS8.out Y hbY
    change wpAnyH Tryz.prog .any _ _ _ _ _ _ w2.drew
    rw [← hY]
    clear hY
    refine wpAnyH_take (i := 0) (oi := { dst := some 26, op := .load 25 (.tmp 3), type := 25, pos := "law.go:198", after := #[], guard := none }) (v := .agg #[.string T.nm, .int .u8 (T.k : Int), .string T.d, .slice a T.kids.length cap]) rfl (by kernel_rfl) (by kernel_rfl) (by kernel_rfl) (fun _ _ _ h => h) (Or.inl ⟨by rfl, ?_⟩) HS0 ?_
    · intro w9 hw9; obtain ⟨l0, l1, l2, l3, l4, l5, l6, l7⟩ := hw9; go_simp
    try simp only [Act.put, List.setIfInBounds_toArray, List.set_cons_zero, List.set_cons_succ]
    refine wpAnyH_take (i := 2) (oi := { dst := some 28, op := .load 25 (.tmp 5), type := 25, pos := "law.go:198", after := #[], guard := none }) (v := .agg #[.string f.nm, .int .u8 (f.k : Int), .string f.d, .slice fa f.kids.length fc]) rfl (by kernel_rfl) (by kernel_rfl) (by kernel_rfl) (fun _ _ _ h => h) (Or.inl ⟨by rfl, ?_⟩) HS0 ?_
    · intro w9 hw9; obtain ⟨l0, l1, l2, l3, l4, l5, l6, l7⟩ := hw9; go_simp
    try simp only [Act.put, List.setIfInBounds_toArray, List.set_cons_zero, List.set_cons_succ]
    refine wpAnyH_ready (rs := [1, 4, 5]) (by kernel_rfl) (by simp) ?_
    refine AllReadyH.cons (o := { dst := some 27, op := .call { callee := .value (.func 14), args := #[.tmp 26], argTypes := #[25] }, type := 25, pos := "law.go:198", after := #[{ on := 0, ground := .data }], guard := none }) rfl (fun Kq hKq => ?_) ?_
    · go_simp
      refine Calls.mono (HCt.out _ hbY) ?_
      rintro e v1 ⟨a7, c7, rfl, fd1, rl1⟩
      have hr2 : Below (Y).heap.size (Y) (v1) := rl1
      have hb2 : Below w2.heap.size w2 (v1) := hbY.trans (hr2.mono hbY.size)
      have hs2 := HS8.out _ hb2
      have se1 : (Y).heap.size = Y.heap.size := by rfl
      have hz1 : Y.heap.size ≤ v1.heap.size := by have := rl1.size; omega
      have fe1 : Ft.Fd v1 (fun k => Y.heap.size ≤ k ∧ k < v1.heap.size) T a7 c7 := by rw [← se1]; exact fd1.out
      refine hKq.out _ _ hs2 (fun _ => ?_)
      clear hKq Kq
      try simp only [Act.put, List.setIfInBounds_toArray, List.set_cons_zero, List.set_cons_succ]
      refine wpAnyH_ready (rs := [3, 4, 5]) (by kernel_rfl) (by simp) ?_
      refine AllReadyH.cons (o := { dst := some 29, op := .call { callee := .value (.func 14), args := #[.tmp 28], argTypes := #[25] }, type := 25, pos := "law.go:198", after := #[{ on := 2, ground := .data }, { on := 1, ground := .chain }], guard := none }) rfl (fun Kq hKq => ?_) ?_
      · go_simp
        refine Calls.mono (HCf.out _ hb2) ?_
        rintro e v3 ⟨a8, c8, rfl, fd3, rl3⟩
        have hr4 : Below (v1).heap.size (v1) (v3) := rl3
        have hb4 : Below w2.heap.size w2 (v3) := hb2.trans (hr4.mono hb2.size)
        have hs4 := HS8.out _ hb4
        have c7_4 := Ft.Fd.underP fe1 (fun k hk => Nat.lt_of_lt_of_le hk.2 (Nat.le_refl v1.heap.size)) hr4
        have c7l_4 := Nat.le_trans (Nat.le_refl v1.heap.size) hr4.size
        have se3 : (v1).heap.size = v1.heap.size := by rfl
        have hz3 : v1.heap.size ≤ v3.heap.size := by have := rl3.size; omega
        have fe3 : Ft.Fd v3 (fun k => v1.heap.size ≤ k ∧ k < v3.heap.size) f a8 c8 := by rw [← se3]; exact fd3.out
        refine hKq.out _ _ hs4 (fun _ => ?_)
        clear hKq Kq
        try simp only [Act.put, List.setIfInBounds_toArray, List.set_cons_zero, List.set_cons_succ]
        refine wpAnyH_ready (rs := [4, 5]) (by kernel_rfl) (by simp) ?_
        refine AllReadyH.cons (o := { dst := some 7, op := .alloc 25, type := 0, pos := "law.go:198", after := #[], guard := none }) rfl (fun Kq hKq => ?_) ?_
        · go_simp
          have hr5 : Below (v3).heap.size (v3) ((v3.alloc (.cells #[.string ⟨#[]⟩, .int .u8 0, .string ⟨#[]⟩, .slice none 0 0] 25))) := (Below.refl _ _).alloc (Nat.le_refl _) _
          have hb5 : Below w2.heap.size w2 ((v3.alloc (.cells #[.string ⟨#[]⟩, .int .u8 0, .string ⟨#[]⟩, .slice none 0 0] 25))) := hb4.trans (hr5.mono hb4.size)
          have hs5 := HS8.out _ hb5
          have c7_5 := Ft.Fd.underP c7_4 (fun k hk => Nat.lt_of_lt_of_le hk.2 c7l_4) hr5
          have c7l_5 := Nat.le_trans c7l_4 hr5.size
          have c8_5 := Ft.Fd.underP fe3 (fun k hk => Nat.lt_of_lt_of_le hk.2 (Nat.le_refl v3.heap.size)) hr5
          have c8l_5 := Nat.le_trans (Nat.le_refl v3.heap.size) hr5.size
          have sa5 : (v3).heap.size = v3.heap.size := by rfl
          have z7_5 : Ft.FileAt (v3.alloc (.cells #[.string ⟨#[]⟩, .int .u8 0, .string ⟨#[]⟩, .slice none 0 0] 25)) (v3.heap.size) Ft.zF none 0 := by rw [← sa5]; exact Ft.file_zero v3
          refine hKq.out _ _ hs5 (fun _ => ?_)
          clear hKq Kq
          try simp only [Act.put, List.setIfInBounds_toArray, List.set_cons_zero, List.set_cons_succ]
          refine wpAnyH_ready (rs := [5]) (by kernel_rfl) (by simp) ?_
          refine AllReadyH.cons (o := { dst := some 8, op := .alloc 25, type := 0, pos := "law.go:198", after := #[], guard := none }) rfl (fun Kq hKq => ?_) ?_
          · go_simp
            have hr6 : Below ((v3.alloc (.cells #[.string ⟨#[]⟩, .int .u8 0, .string ⟨#[]⟩, .slice none 0 0] 25))).heap.size ((v3.alloc (.cells #[.string ⟨#[]⟩, .int .u8 0, .string ⟨#[]⟩, .slice none 0 0] 25))) (((v3.alloc (.cells #[.string ⟨#[]⟩, .int .u8 0, .string ⟨#[]⟩, .slice none 0 0] 25)).alloc (.cells #[.string ⟨#[]⟩, .int .u8 0, .string ⟨#[]⟩, .slice none 0 0] 25))) := (Below.refl _ _).alloc (Nat.le_refl _) _
            have hb6 : Below w2.heap.size w2 (((v3.alloc (.cells #[.string ⟨#[]⟩, .int .u8 0, .string ⟨#[]⟩, .slice none 0 0] 25)).alloc (.cells #[.string ⟨#[]⟩, .int .u8 0, .string ⟨#[]⟩, .slice none 0 0] 25))) := hb5.trans (hr6.mono hb5.size)
            have hs6 := HS8.out _ hb6
            have z7_6 := Ft.FileAt.under z7_5 hr6
            have c7_6 := Ft.Fd.underP c7_5 (fun k hk => Nat.lt_of_lt_of_le hk.2 c7l_5) hr6
            have c7l_6 := Nat.le_trans c7l_5 hr6.size
            have c8_6 := Ft.Fd.underP c8_5 (fun k hk => Nat.lt_of_lt_of_le hk.2 c8l_5) hr6
            have c8l_6 := Nat.le_trans c8l_5 hr6.size
            have sa6 : ((v3.alloc (.cells #[.string ⟨#[]⟩, .int .u8 0, .string ⟨#[]⟩, .slice none 0 0] 25))).heap.size = v3.heap.size + 1 := by simp
            have z8_6 : Ft.FileAt ((v3.alloc (.cells #[.string ⟨#[]⟩, .int .u8 0, .string ⟨#[]⟩, .slice none 0 0] 25)).alloc (.cells #[.string ⟨#[]⟩, .int .u8 0, .string ⟨#[]⟩, .slice none 0 0] 25)) (v3.heap.size + 1) Ft.zF none 0 := by rw [← sa6]; exact Ft.file_zero (v3.alloc (.cells #[.string ⟨#[]⟩, .int .u8 0, .string ⟨#[]⟩, .slice none 0 0] 25))
            refine hKq.out _ _ hs6 (fun _ => ?_)
            clear hKq Kq
            try simp only [Act.put, List.setIfInBounds_toArray, List.set_cons_zero, List.set_cons_succ]
            refine wpAnyH_ready (rs := [6]) (by kernel_rfl) (by simp) ?_
            refine AllReadyH.cons (o := { dst := none, op := .store 25 (.tmp 7) (.tmp 27), type := 0, pos := "law.go:198", after := #[{ on := 4, ground := .data }, { on := 1, ground := .data }, { on := 3, ground := .chain }, { on := 0, ground := .phase }, { on := 1, ground := .phase }, { on := 2, ground := .textOnly .lateStores }, { on := 3, ground := .textOnly .lateStoresUnsure }, { on := 4, ground := .phase }, { on := 5, ground := .phase }], guard := none }) rfl (fun Kq hKq => ?_) ?_
            · obtain ⟨zz7, hzz7⟩ : ∃ zz, zz = v3.heap.size := ⟨_, rfl⟩
              obtain ⟨zz8, hzz8⟩ : ∃ zz, zz = v3.heap.size + 1 := ⟨_, rfl⟩
              have HNe : Hid (zz7 ≠ zz8 ∧ w2.heap.size ≤ zz7 ∧ w2.heap.size ≤ zz8 ∧ (zz7 < Y.heap.size ∨ v1.heap.size ≤ zz7) ∧ (zz8 < Y.heap.size ∨ v1.heap.size ≤ zz8) ∧ (zz7 < v1.heap.size ∨ v3.heap.size ≤ zz7) ∧ (zz8 < v1.heap.size ∨ v3.heap.size ≤ zz8)) := by
                rw [hzz7, hzz8]; exact ⟨by omega, by omega, by omega, by omega, by omega, by omega, by omega⟩
              rw [← hzz8, ← hzz7]
              have zr7 : Ft.FileAt ((v3.alloc (.cells #[.string ⟨#[]⟩, .int .u8 0, .string ⟨#[]⟩, .slice none 0 0] 25)).alloc (.cells #[.string ⟨#[]⟩, .int .u8 0, .string ⟨#[]⟩, .slice none 0 0] 25)) zz7 Ft.zF none 0 := by rw [hzz7]; exact z7_6
              have zr8 : Ft.FileAt ((v3.alloc (.cells #[.string ⟨#[]⟩, .int .u8 0, .string ⟨#[]⟩, .slice none 0 0] 25)).alloc (.cells #[.string ⟨#[]⟩, .int .u8 0, .string ⟨#[]⟩, .slice none 0 0] 25)) zz8 Ft.zF none 0 := by rw [hzz8]; exact z8_6
              have HZZ : Hid (zz7 = v3.heap.size ∧ zz8 = v3.heap.size + 1) := ⟨hzz7, hzz8⟩
              clear hzz7 hzz8
              have z0 : (((v3.alloc (.cells #[.string ⟨#[]⟩, .int .u8 0, .string ⟨#[]⟩, .slice none 0 0] 25)).alloc (.cells #[.string ⟨#[]⟩, .int .u8 0, .string ⟨#[]⟩, .slice none 0 0] 25))).cell? ⟨zz7, 0, none⟩ = some (.string ⟨#[]⟩) := zr7.four.c0
              have z1 : (((v3.alloc (.cells #[.string ⟨#[]⟩, .int .u8 0, .string ⟨#[]⟩, .slice none 0 0] 25)).alloc (.cells #[.string ⟨#[]⟩, .int .u8 0, .string ⟨#[]⟩, .slice none 0 0] 25))).cell? ⟨zz7, 1, none⟩ = some (.int .u8 0) := zr7.four.c1
              have z2 : (((v3.alloc (.cells #[.string ⟨#[]⟩, .int .u8 0, .string ⟨#[]⟩, .slice none 0 0] 25)).alloc (.cells #[.string ⟨#[]⟩, .int .u8 0, .string ⟨#[]⟩, .slice none 0 0] 25))).cell? ⟨zz7, 2, none⟩ = some (.string ⟨#[]⟩) := zr7.four.c2
              have z3 : (((v3.alloc (.cells #[.string ⟨#[]⟩, .int .u8 0, .string ⟨#[]⟩, .slice none 0 0] 25)).alloc (.cells #[.string ⟨#[]⟩, .int .u8 0, .string ⟨#[]⟩, .slice none 0 0] 25))).cell? ⟨zz7, 3, none⟩ = some (.slice none 0 0) := zr7.four.c3
              have zf := zr7.frozen
              go_simp
              obtain ⟨W7, hW7⟩ : ∃ W7, W7 = Ft.putF (((v3.alloc (.cells #[.string ⟨#[]⟩, .int .u8 0, .string ⟨#[]⟩, .slice none 0 0] 25)).alloc (.cells #[.string ⟨#[]⟩, .int .u8 0, .string ⟨#[]⟩, .slice none 0 0] 25))) zz7 T a7 c7 := ⟨_, rfl⟩
              have hp7 : Below w2.heap.size w2 W7 := by rw [hW7]; exact Ft.putF_below hb6 HNe.out.2.1
              have hot7 : ∀ k, k ≠ zz7 → W7.heap[k]? = (((v3.alloc (.cells #[.string ⟨#[]⟩, .int .u8 0, .string ⟨#[]⟩, .slice none 0 0] 25)).alloc (.cells #[.string ⟨#[]⟩, .int .u8 0, .string ⟨#[]⟩, .slice none 0 0] 25))).heap[k]? := fun k hk => by rw [hW7]; exact Ft.putF_other hk
              have HF7 : Hid (Ft.FileAt W7 zz7 T a7 c7 ∧ Ft.FileAt W7 zz8 Ft.zF none 0 ∧ Ft.Fd W7 (fun k => Y.heap.size ≤ k ∧ k < v1.heap.size) T a7 c7 ∧ Ft.Fd W7 (fun k => v1.heap.size ≤ k ∧ k < v3.heap.size) f a8 c8 ∧ v1.heap.size ≤ W7.heap.size ∧ v3.heap.size ≤ W7.heap.size) := by
                have hw7 : (((v3.alloc (.cells #[.string ⟨#[]⟩, .int .u8 0, .string ⟨#[]⟩, .slice none 0 0] 25)).alloc (.cells #[.string ⟨#[]⟩, .int .u8 0, .string ⟨#[]⟩, .slice none 0 0] 25))).heap.size ≤ W7.heap.size := by rw [hW7]; exact (Ft.putF_below (Below.refl 0 (((v3.alloc (.cells #[.string ⟨#[]⟩, .int .u8 0, .string ⟨#[]⟩, .slice none 0 0] 25)).alloc (.cells #[.string ⟨#[]⟩, .int .u8 0, .string ⟨#[]⟩, .slice none 0 0] 25)))) (Nat.zero_le _)).size
                have hc7 := c7l_6
                have hc8 := c8l_6
                have hN := HNe.out
                exact ⟨by rw [hW7]; exact zr7.putF T a7 c7, (hot7 _ (fun e => hN.1 e.symm)).trans zr8, Ft.Fd.same c7_6 (fun k hk => hot7 k (by omega)) (fun _ h => h), Ft.Fd.same c8_6 (fun k hk => hot7 k (by omega)) (fun _ h => h), Nat.le_trans hc7 hw7, Nat.le_trans hc8 hw7⟩
              have HW7 : Hid (W7 = ((((((v3.alloc (.cells #[.string ⟨#[]⟩, .int .u8 0, .string ⟨#[]⟩, .slice none 0 0] 25)).alloc (.cells #[.string ⟨#[]⟩, .int .u8 0, .string ⟨#[]⟩, .slice none 0 0] 25))).setCell ⟨zz7, 0, none⟩ (.string T.nm)).setCell ⟨zz7, 1, none⟩ (.int .u8 (T.k : Int))).setCell ⟨zz7, 2, none⟩ (.string T.d)).setCell ⟨zz7, 3, none⟩ (.slice a7 T.kids.length c7)) := hW7
              rw [← HW7.out]
              refine hKq.out _ _ (HS8.out _ hp7) (fun _ => ?_)
              clear hKq Kq z0 z1 z2 z3 zf hW7 hot7 zr7 zr8
              try simp only [Act.put, List.setIfInBounds_toArray, List.set_cons_zero, List.set_cons_succ]
              refine wpAnyH_ready (rs := [7]) (by kernel_rfl) (by simp) ?_
              refine AllReadyH.cons (o := { dst := none, op := .store 25 (.tmp 8) (.tmp 29), type := 0, pos := "law.go:198", after := #[{ on := 5, ground := .data }, { on := 3, ground := .data }, { on := 6, ground := .chain }, { on := 0, ground := .phase }, { on := 1, ground := .phase }, { on := 2, ground := .phase }, { on := 3, ground := .phase }, { on := 4, ground := .phase }, { on := 5, ground := .phase }, { on := 6, ground := .phase }], guard := none }) rfl (fun Kq hKq => ?_) ?_
              · have z0 : W7.cell? ⟨zz8, 0, none⟩ = some (.string ⟨#[]⟩) := HF7.out.2.1.four.c0
                have z1 : W7.cell? ⟨zz8, 1, none⟩ = some (.int .u8 0) := HF7.out.2.1.four.c1
                have z2 : W7.cell? ⟨zz8, 2, none⟩ = some (.string ⟨#[]⟩) := HF7.out.2.1.four.c2
                have z3 : W7.cell? ⟨zz8, 3, none⟩ = some (.slice none 0 0) := HF7.out.2.1.four.c3
                have zf := HF7.out.2.1.frozen
                go_simp
                have hp8 : Below w2.heap.size w2 (Ft.putF W7 zz8 f a8 c8) := Ft.putF_below hp7 HNe.out.2.2.1
                have HF8 : Hid (Sb w (Ft.putF W7 zz8 f a8 c8) zz7 (Y.heap.size) (v1.heap.size) T a7 c7 ∧ Sb w (Ft.putF W7 zz8 f a8 c8) zz8 (v1.heap.size) (v3.heap.size) f a8 c8 ∧ Below w2.heap.size w2 (Ft.putF W7 zz8 f a8 c8)) := by
                  have hw8 : W7.heap.size ≤ (Ft.putF W7 zz8 f a8 c8).heap.size := (Ft.putF_below (Below.refl 0 W7) (Nat.zero_le _)).size
                  have hN := HNe.out
                  have hbw := HSt.out.bel.trans (hp8.mono HSt.out.bel.size)
                  have hF := HF7.out
                  exact ⟨⟨(Ft.putF_other hN.1).trans hF.1, hF.2.2.1.same (fun k hk => Ft.putF_other (by omega)) (fun _ h => h), Nat.le_trans hF.2.2.2.2.1 hw8, hbw, by omega⟩, ⟨hF.2.1.putF f a8 c8, hF.2.2.2.1.same (fun k hk => Ft.putF_other (by omega)) (fun _ h => h), Nat.le_trans hF.2.2.2.2.2 hw8, hbw, by omega⟩, hp8⟩
                refine hKq.out _ _ (HS8.out _ hp8) (fun _ => ?_)
                refine wpAnyH_done (by kernel_rfl) ?_ _
                clear hKq Kq z0 z1 z2 z3 zf
                go_wp2_with fail
                go_meet
                exact ⟨zz7, zz8, a7, c7, a8, c8, _, _, _, _, rfl, rfl, HF8⟩
              exact AllReadyH.nil
            exact AllReadyH.nil
          exact AllReadyH.nil
        refine AllReadyH.cons (o := { dst := some 8, op := .alloc 25, type := 0, pos := "law.go:198", after := #[], guard := none }) rfl (fun Kq hKq => ?_) ?_
        · go_simp
          have hr7 : Below (v3).heap.size (v3) ((v3.alloc (.cells #[.string ⟨#[]⟩, .int .u8 0, .string ⟨#[]⟩, .slice none 0 0] 25))) := (Below.refl _ _).alloc (Nat.le_refl _) _
          have hb7 : Below w2.heap.size w2 ((v3.alloc (.cells #[.string ⟨#[]⟩, .int .u8 0, .string ⟨#[]⟩, .slice none 0 0] 25))) := hb4.trans (hr7.mono hb4.size)
          have hs7 := HS8.out _ hb7
          have c7_7 := Ft.Fd.underP c7_4 (fun k hk => Nat.lt_of_lt_of_le hk.2 c7l_4) hr7
          have c7l_7 := Nat.le_trans c7l_4 hr7.size
          have c8_7 := Ft.Fd.underP fe3 (fun k hk => Nat.lt_of_lt_of_le hk.2 (Nat.le_refl v3.heap.size)) hr7
          have c8l_7 := Nat.le_trans (Nat.le_refl v3.heap.size) hr7.size
          have sa7 : (v3).heap.size = v3.heap.size := by rfl
          have z8_7 : Ft.FileAt (v3.alloc (.cells #[.string ⟨#[]⟩, .int .u8 0, .string ⟨#[]⟩, .slice none 0 0] 25)) (v3.heap.size) Ft.zF none 0 := by rw [← sa7]; exact Ft.file_zero v3
          refine hKq.out _ _ hs7 (fun _ => ?_)
          clear hKq Kq
          try simp only [Act.put, List.setIfInBounds_toArray, List.set_cons_zero, List.set_cons_succ]
          refine wpAnyH_ready (rs := [4]) (by kernel_rfl) (by simp) ?_
          refine AllReadyH.cons (o := { dst := some 7, op := .alloc 25, type := 0, pos := "law.go:198", after := #[], guard := none }) rfl (fun Kq hKq => ?_) ?_
          · go_simp
            have hr8 : Below ((v3.alloc (.cells #[.string ⟨#[]⟩, .int .u8 0, .string ⟨#[]⟩, .slice none 0 0] 25))).heap.size ((v3.alloc (.cells #[.string ⟨#[]⟩, .int .u8 0, .string ⟨#[]⟩, .slice none 0 0] 25))) (((v3.alloc (.cells #[.string ⟨#[]⟩, .int .u8 0, .string ⟨#[]⟩, .slice none 0 0] 25)).alloc (.cells #[.string ⟨#[]⟩, .int .u8 0, .string ⟨#[]⟩, .slice none 0 0] 25))) := (Below.refl _ _).alloc (Nat.le_refl _) _
            have hb8 : Below w2.heap.size w2 (((v3.alloc (.cells #[.string ⟨#[]⟩, .int .u8 0, .string ⟨#[]⟩, .slice none 0 0] 25)).alloc (.cells #[.string ⟨#[]⟩, .int .u8 0, .string ⟨#[]⟩, .slice none 0 0] 25))) := hb7.trans (hr8.mono hb7.size)
            have hs8 := HS8.out _ hb8
            have z8_8 := Ft.FileAt.under z8_7 hr8
            have c7_8 := Ft.Fd.underP c7_7 (fun k hk => Nat.lt_of_lt_of_le hk.2 c7l_7) hr8
            have c7l_8 := Nat.le_trans c7l_7 hr8.size
            have c8_8 := Ft.Fd.underP c8_7 (fun k hk => Nat.lt_of_lt_of_le hk.2 c8l_7) hr8
            have c8l_8 := Nat.le_trans c8l_7 hr8.size
            have sa8 : ((v3.alloc (.cells #[.string ⟨#[]⟩, .int .u8 0, .string ⟨#[]⟩, .slice none 0 0] 25))).heap.size = v3.heap.size + 1 := by simp
            have z7_8 : Ft.FileAt ((v3.alloc (.cells #[.string ⟨#[]⟩, .int .u8 0, .string ⟨#[]⟩, .slice none 0 0] 25)).alloc (.cells #[.string ⟨#[]⟩, .int .u8 0, .string ⟨#[]⟩, .slice none 0 0] 25)) (v3.heap.size + 1) Ft.zF none 0 := by rw [← sa8]; exact Ft.file_zero (v3.alloc (.cells #[.string ⟨#[]⟩, .int .u8 0, .string ⟨#[]⟩, .slice none 0 0] 25))
            refine hKq.out _ _ hs8 (fun _ => ?_)
            clear hKq Kq
            try simp only [Act.put, List.setIfInBounds_toArray, List.set_cons_zero, List.set_cons_succ]
            refine wpAnyH_ready (rs := [6]) (by kernel_rfl) (by simp) ?_
            refine AllReadyH.cons (o := { dst := none, op := .store 25 (.tmp 7) (.tmp 27), type := 0, pos := "law.go:198", after := #[{ on := 4, ground := .data }, { on := 1, ground := .data }, { on := 3, ground := .chain }, { on := 0, ground := .phase }, { on := 1, ground := .phase }, { on := 2, ground := .textOnly .lateStores }, { on := 3, ground := .textOnly .lateStoresUnsure }, { on := 4, ground := .phase }, { on := 5, ground := .phase }], guard := none }) rfl (fun Kq hKq => ?_) ?_
            · obtain ⟨zz7, hzz7⟩ : ∃ zz, zz = v3.heap.size + 1 := ⟨_, rfl⟩
              obtain ⟨zz8, hzz8⟩ : ∃ zz, zz = v3.heap.size := ⟨_, rfl⟩
              have HNe : Hid (zz7 ≠ zz8 ∧ w2.heap.size ≤ zz7 ∧ w2.heap.size ≤ zz8 ∧ (zz7 < Y.heap.size ∨ v1.heap.size ≤ zz7) ∧ (zz8 < Y.heap.size ∨ v1.heap.size ≤ zz8) ∧ (zz7 < v1.heap.size ∨ v3.heap.size ≤ zz7) ∧ (zz8 < v1.heap.size ∨ v3.heap.size ≤ zz8)) := by
                rw [hzz7, hzz8]; exact ⟨by omega, by omega, by omega, by omega, by omega, by omega, by omega⟩
              rw [← hzz7, ← hzz8]
              have zr7 : Ft.FileAt ((v3.alloc (.cells #[.string ⟨#[]⟩, .int .u8 0, .string ⟨#[]⟩, .slice none 0 0] 25)).alloc (.cells #[.string ⟨#[]⟩, .int .u8 0, .string ⟨#[]⟩, .slice none 0 0] 25)) zz7 Ft.zF none 0 := by rw [hzz7]; exact z7_8
              have zr8 : Ft.FileAt ((v3.alloc (.cells #[.string ⟨#[]⟩, .int .u8 0, .string ⟨#[]⟩, .slice none 0 0] 25)).alloc (.cells #[.string ⟨#[]⟩, .int .u8 0, .string ⟨#[]⟩, .slice none 0 0] 25)) zz8 Ft.zF none 0 := by rw [hzz8]; exact z8_8
              have HZZ : Hid (zz7 = v3.heap.size + 1 ∧ zz8 = v3.heap.size) := ⟨hzz7, hzz8⟩
              clear hzz7 hzz8
              have z0 : (((v3.alloc (.cells #[.string ⟨#[]⟩, .int .u8 0, .string ⟨#[]⟩, .slice none 0 0] 25)).alloc (.cells #[.string ⟨#[]⟩, .int .u8 0, .string ⟨#[]⟩, .slice none 0 0] 25))).cell? ⟨zz7, 0, none⟩ = some (.string ⟨#[]⟩) := zr7.four.c0
              have z1 : (((v3.alloc (.cells #[.string ⟨#[]⟩, .int .u8 0, .string ⟨#[]⟩, .slice none 0 0] 25)).alloc (.cells #[.string ⟨#[]⟩, .int .u8 0, .string ⟨#[]⟩, .slice none 0 0] 25))).cell? ⟨zz7, 1, none⟩ = some (.int .u8 0) := zr7.four.c1
              have z2 : (((v3.alloc (.cells #[.string ⟨#[]⟩, .int .u8 0, .string ⟨#[]⟩, .slice none 0 0] 25)).alloc (.cells #[.string ⟨#[]⟩, .int .u8 0, .string ⟨#[]⟩, .slice none 0 0] 25))).cell? ⟨zz7, 2, none⟩ = some (.string ⟨#[]⟩) := zr7.four.c2
              have z3 : (((v3.alloc (.cells #[.string ⟨#[]⟩, .int .u8 0, .string ⟨#[]⟩, .slice none 0 0] 25)).alloc (.cells #[.string ⟨#[]⟩, .int .u8 0, .string ⟨#[]⟩, .slice none 0 0] 25))).cell? ⟨zz7, 3, none⟩ = some (.slice none 0 0) := zr7.four.c3
              have zf := zr7.frozen
              go_simp
              obtain ⟨W7, hW7⟩ : ∃ W7, W7 = Ft.putF (((v3.alloc (.cells #[.string ⟨#[]⟩, .int .u8 0, .string ⟨#[]⟩, .slice none 0 0] 25)).alloc (.cells #[.string ⟨#[]⟩, .int .u8 0, .string ⟨#[]⟩, .slice none 0 0] 25))) zz7 T a7 c7 := ⟨_, rfl⟩
              have hp7 : Below w2.heap.size w2 W7 := by rw [hW7]; exact Ft.putF_below hb8 HNe.out.2.1
              have hot7 : ∀ k, k ≠ zz7 → W7.heap[k]? = (((v3.alloc (.cells #[.string ⟨#[]⟩, .int .u8 0, .string ⟨#[]⟩, .slice none 0 0] 25)).alloc (.cells #[.string ⟨#[]⟩, .int .u8 0, .string ⟨#[]⟩, .slice none 0 0] 25))).heap[k]? := fun k hk => by rw [hW7]; exact Ft.putF_other hk
              have HF7 : Hid (Ft.FileAt W7 zz7 T a7 c7 ∧ Ft.FileAt W7 zz8 Ft.zF none 0 ∧ Ft.Fd W7 (fun k => Y.heap.size ≤ k ∧ k < v1.heap.size) T a7 c7 ∧ Ft.Fd W7 (fun k => v1.heap.size ≤ k ∧ k < v3.heap.size) f a8 c8 ∧ v1.heap.size ≤ W7.heap.size ∧ v3.heap.size ≤ W7.heap.size) := by
                have hw7 : (((v3.alloc (.cells #[.string ⟨#[]⟩, .int .u8 0, .string ⟨#[]⟩, .slice none 0 0] 25)).alloc (.cells #[.string ⟨#[]⟩, .int .u8 0, .string ⟨#[]⟩, .slice none 0 0] 25))).heap.size ≤ W7.heap.size := by rw [hW7]; exact (Ft.putF_below (Below.refl 0 (((v3.alloc (.cells #[.string ⟨#[]⟩, .int .u8 0, .string ⟨#[]⟩, .slice none 0 0] 25)).alloc (.cells #[.string ⟨#[]⟩, .int .u8 0, .string ⟨#[]⟩, .slice none 0 0] 25)))) (Nat.zero_le _)).size
                have hc7 := c7l_8
                have hc8 := c8l_8
                have hN := HNe.out
                exact ⟨by rw [hW7]; exact zr7.putF T a7 c7, (hot7 _ (fun e => hN.1 e.symm)).trans zr8, Ft.Fd.same c7_8 (fun k hk => hot7 k (by omega)) (fun _ h => h), Ft.Fd.same c8_8 (fun k hk => hot7 k (by omega)) (fun _ h => h), Nat.le_trans hc7 hw7, Nat.le_trans hc8 hw7⟩
              have HW7 : Hid (W7 = ((((((v3.alloc (.cells #[.string ⟨#[]⟩, .int .u8 0, .string ⟨#[]⟩, .slice none 0 0] 25)).alloc (.cells #[.string ⟨#[]⟩, .int .u8 0, .string ⟨#[]⟩, .slice none 0 0] 25))).setCell ⟨zz7, 0, none⟩ (.string T.nm)).setCell ⟨zz7, 1, none⟩ (.int .u8 (T.k : Int))).setCell ⟨zz7, 2, none⟩ (.string T.d)).setCell ⟨zz7, 3, none⟩ (.slice a7 T.kids.length c7)) := hW7
              rw [← HW7.out]
              refine hKq.out _ _ (HS8.out _ hp7) (fun _ => ?_)
              clear hKq Kq z0 z1 z2 z3 zf hW7 hot7 zr7 zr8
              try simp only [Act.put, List.setIfInBounds_toArray, List.set_cons_zero, List.set_cons_succ]
              refine wpAnyH_ready (rs := [7]) (by kernel_rfl) (by simp) ?_
              refine AllReadyH.cons (o := { dst := none, op := .store 25 (.tmp 8) (.tmp 29), type := 0, pos := "law.go:198", after := #[{ on := 5, ground := .data }, { on := 3, ground := .data }, { on := 6, ground := .chain }, { on := 0, ground := .phase }, { on := 1, ground := .phase }, { on := 2, ground := .phase }, { on := 3, ground := .phase }, { on := 4, ground := .phase }, { on := 5, ground := .phase }, { on := 6, ground := .phase }], guard := none }) rfl (fun Kq hKq => ?_) ?_
              · have z0 : W7.cell? ⟨zz8, 0, none⟩ = some (.string ⟨#[]⟩) := HF7.out.2.1.four.c0
                have z1 : W7.cell? ⟨zz8, 1, none⟩ = some (.int .u8 0) := HF7.out.2.1.four.c1
                have z2 : W7.cell? ⟨zz8, 2, none⟩ = some (.string ⟨#[]⟩) := HF7.out.2.1.four.c2
                have z3 : W7.cell? ⟨zz8, 3, none⟩ = some (.slice none 0 0) := HF7.out.2.1.four.c3
                have zf := HF7.out.2.1.frozen
                go_simp
                have hp8 : Below w2.heap.size w2 (Ft.putF W7 zz8 f a8 c8) := Ft.putF_below hp7 HNe.out.2.2.1
                have HF8 : Hid (Sb w (Ft.putF W7 zz8 f a8 c8) zz7 (Y.heap.size) (v1.heap.size) T a7 c7 ∧ Sb w (Ft.putF W7 zz8 f a8 c8) zz8 (v1.heap.size) (v3.heap.size) f a8 c8 ∧ Below w2.heap.size w2 (Ft.putF W7 zz8 f a8 c8)) := by
                  have hw8 : W7.heap.size ≤ (Ft.putF W7 zz8 f a8 c8).heap.size := (Ft.putF_below (Below.refl 0 W7) (Nat.zero_le _)).size
                  have hN := HNe.out
                  have hbw := HSt.out.bel.trans (hp8.mono HSt.out.bel.size)
                  have hF := HF7.out
                  exact ⟨⟨(Ft.putF_other hN.1).trans hF.1, hF.2.2.1.same (fun k hk => Ft.putF_other (by omega)) (fun _ h => h), Nat.le_trans hF.2.2.2.2.1 hw8, hbw, by omega⟩, ⟨hF.2.1.putF f a8 c8, hF.2.2.2.1.same (fun k hk => Ft.putF_other (by omega)) (fun _ h => h), Nat.le_trans hF.2.2.2.2.2 hw8, hbw, by omega⟩, hp8⟩
                refine hKq.out _ _ (HS8.out _ hp8) (fun _ => ?_)
                refine wpAnyH_done (by kernel_rfl) ?_ _
                clear hKq Kq z0 z1 z2 z3 zf
                go_wp2_with fail
                go_meet
                exact ⟨zz7, zz8, a7, c7, a8, c8, _, _, _, _, rfl, rfl, HF8⟩
              exact AllReadyH.nil
            exact AllReadyH.nil
          exact AllReadyH.nil
        exact AllReadyH.nil
      refine AllReadyH.cons (o := { dst := some 7, op := .alloc 25, type := 0, pos := "law.go:198", after := #[], guard := none }) rfl (fun Kq hKq => ?_) ?_
      · go_simp
        have hr9 : Below (v1).heap.size (v1) ((v1.alloc (.cells #[.string ⟨#[]⟩, .int .u8 0, .string ⟨#[]⟩, .slice none 0 0] 25))) := (Below.refl _ _).alloc (Nat.le_refl _) _
        have hb9 : Below w2.heap.size w2 ((v1.alloc (.cells #[.string ⟨#[]⟩, .int .u8 0, .string ⟨#[]⟩, .slice none 0 0] 25))) := hb2.trans (hr9.mono hb2.size)
        have hs9 := HS8.out _ hb9
        have c7_9 := Ft.Fd.underP fe1 (fun k hk => Nat.lt_of_lt_of_le hk.2 (Nat.le_refl v1.heap.size)) hr9
        have c7l_9 := Nat.le_trans (Nat.le_refl v1.heap.size) hr9.size
        have sa9 : (v1).heap.size = v1.heap.size := by rfl
        have z7_9 : Ft.FileAt (v1.alloc (.cells #[.string ⟨#[]⟩, .int .u8 0, .string ⟨#[]⟩, .slice none 0 0] 25)) (v1.heap.size) Ft.zF none 0 := by rw [← sa9]; exact Ft.file_zero v1
        refine hKq.out _ _ hs9 (fun _ => ?_)
        clear hKq Kq
        try simp only [Act.put, List.setIfInBounds_toArray, List.set_cons_zero, List.set_cons_succ]
        refine wpAnyH_ready (rs := [3, 5]) (by kernel_rfl) (by simp) ?_
        refine AllReadyH.cons (o := { dst := some 29, op := .call { callee := .value (.func 14), args := #[.tmp 28], argTypes := #[25] }, type := 25, pos := "law.go:198", after := #[{ on := 2, ground := .data }, { on := 1, ground := .chain }], guard := none }) rfl (fun Kq hKq => ?_) ?_
        · go_simp
          refine Calls.mono (HCf.out _ hb9) ?_
          rintro e v10 ⟨a8, c8, rfl, fd10, rl10⟩
          have hr11 : Below ((v1.alloc (.cells #[.string ⟨#[]⟩, .int .u8 0, .string ⟨#[]⟩, .slice none 0 0] 25))).heap.size ((v1.alloc (.cells #[.string ⟨#[]⟩, .int .u8 0, .string ⟨#[]⟩, .slice none 0 0] 25))) (v10) := rl10
          have hb11 : Below w2.heap.size w2 (v10) := hb9.trans (hr11.mono hb9.size)
          have hs11 := HS8.out _ hb11
          have z7_11 := Ft.FileAt.under z7_9 hr11
          have c7_11 := Ft.Fd.underP c7_9 (fun k hk => Nat.lt_of_lt_of_le hk.2 c7l_9) hr11
          have c7l_11 := Nat.le_trans c7l_9 hr11.size
          have se10 : ((v1.alloc (.cells #[.string ⟨#[]⟩, .int .u8 0, .string ⟨#[]⟩, .slice none 0 0] 25))).heap.size = v1.heap.size + 1 := by simp
          have hz10 : v1.heap.size + 1 ≤ v10.heap.size := by have := rl10.size; omega
          have fe10 : Ft.Fd v10 (fun k => v1.heap.size + 1 ≤ k ∧ k < v10.heap.size) f a8 c8 := by rw [← se10]; exact fd10.out
          refine hKq.out _ _ hs11 (fun _ => ?_)
          clear hKq Kq
          try simp only [Act.put, List.setIfInBounds_toArray, List.set_cons_zero, List.set_cons_succ]
          refine wpAnyH_ready (rs := [5]) (by kernel_rfl) (by simp) ?_
          refine AllReadyH.cons (o := { dst := some 8, op := .alloc 25, type := 0, pos := "law.go:198", after := #[], guard := none }) rfl (fun Kq hKq => ?_) ?_
          · go_simp
            have hr12 : Below (v10).heap.size (v10) ((v10.alloc (.cells #[.string ⟨#[]⟩, .int .u8 0, .string ⟨#[]⟩, .slice none 0 0] 25))) := (Below.refl _ _).alloc (Nat.le_refl _) _
            have hb12 : Below w2.heap.size w2 ((v10.alloc (.cells #[.string ⟨#[]⟩, .int .u8 0, .string ⟨#[]⟩, .slice none 0 0] 25))) := hb11.trans (hr12.mono hb11.size)
            have hs12 := HS8.out _ hb12
            have z7_12 := Ft.FileAt.under z7_11 hr12
            have c7_12 := Ft.Fd.underP c7_11 (fun k hk => Nat.lt_of_lt_of_le hk.2 c7l_11) hr12
            have c7l_12 := Nat.le_trans c7l_11 hr12.size
            have c8_12 := Ft.Fd.underP fe10 (fun k hk => Nat.lt_of_lt_of_le hk.2 (Nat.le_refl v10.heap.size)) hr12
            have c8l_12 := Nat.le_trans (Nat.le_refl v10.heap.size) hr12.size
            have sa12 : (v10).heap.size = v10.heap.size := by rfl
            have z8_12 : Ft.FileAt (v10.alloc (.cells #[.string ⟨#[]⟩, .int .u8 0, .string ⟨#[]⟩, .slice none 0 0] 25)) (v10.heap.size) Ft.zF none 0 := by rw [← sa12]; exact Ft.file_zero v10
            refine hKq.out _ _ hs12 (fun _ => ?_)
            clear hKq Kq
            try simp only [Act.put, List.setIfInBounds_toArray, List.set_cons_zero, List.set_cons_succ]
            refine wpAnyH_ready (rs := [6]) (by kernel_rfl) (by simp) ?_
            refine AllReadyH.cons (o := { dst := none, op := .store 25 (.tmp 7) (.tmp 27), type := 0, pos := "law.go:198", after := #[{ on := 4, ground := .data }, { on := 1, ground := .data }, { on := 3, ground := .chain }, { on := 0, ground := .phase }, { on := 1, ground := .phase }, { on := 2, ground := .textOnly .lateStores }, { on := 3, ground := .textOnly .lateStoresUnsure }, { on := 4, ground := .phase }, { on := 5, ground := .phase }], guard := none }) rfl (fun Kq hKq => ?_) ?_
            · obtain ⟨zz7, hzz7⟩ : ∃ zz, zz = v1.heap.size := ⟨_, rfl⟩
              obtain ⟨zz8, hzz8⟩ : ∃ zz, zz = v10.heap.size := ⟨_, rfl⟩
              have HNe : Hid (zz7 ≠ zz8 ∧ w2.heap.size ≤ zz7 ∧ w2.heap.size ≤ zz8 ∧ (zz7 < Y.heap.size ∨ v1.heap.size ≤ zz7) ∧ (zz8 < Y.heap.size ∨ v1.heap.size ≤ zz8) ∧ (zz7 < v1.heap.size + 1 ∨ v10.heap.size ≤ zz7) ∧ (zz8 < v1.heap.size + 1 ∨ v10.heap.size ≤ zz8)) := by
                rw [hzz7, hzz8]; exact ⟨by omega, by omega, by omega, by omega, by omega, by omega, by omega⟩
              rw [← hzz7, ← hzz8]
              have zr7 : Ft.FileAt (v10.alloc (.cells #[.string ⟨#[]⟩, .int .u8 0, .string ⟨#[]⟩, .slice none 0 0] 25)) zz7 Ft.zF none 0 := by rw [hzz7]; exact z7_12
              have zr8 : Ft.FileAt (v10.alloc (.cells #[.string ⟨#[]⟩, .int .u8 0, .string ⟨#[]⟩, .slice none 0 0] 25)) zz8 Ft.zF none 0 := by rw [hzz8]; exact z8_12
              have HZZ : Hid (zz7 = v1.heap.size ∧ zz8 = v10.heap.size) := ⟨hzz7, hzz8⟩
              clear hzz7 hzz8
              have z0 : ((v10.alloc (.cells #[.string ⟨#[]⟩, .int .u8 0, .string ⟨#[]⟩, .slice none 0 0] 25))).cell? ⟨zz7, 0, none⟩ = some (.string ⟨#[]⟩) := zr7.four.c0
              have z1 : ((v10.alloc (.cells #[.string ⟨#[]⟩, .int .u8 0, .string ⟨#[]⟩, .slice none 0 0] 25))).cell? ⟨zz7, 1, none⟩ = some (.int .u8 0) := zr7.four.c1
              have z2 : ((v10.alloc (.cells #[.string ⟨#[]⟩, .int .u8 0, .string ⟨#[]⟩, .slice none 0 0] 25))).cell? ⟨zz7, 2, none⟩ = some (.string ⟨#[]⟩) := zr7.four.c2
              have z3 : ((v10.alloc (.cells #[.string ⟨#[]⟩, .int .u8 0, .string ⟨#[]⟩, .slice none 0 0] 25))).cell? ⟨zz7, 3, none⟩ = some (.slice none 0 0) := zr7.four.c3
              have zf := zr7.frozen
              go_simp
              obtain ⟨W7, hW7⟩ : ∃ W7, W7 = Ft.putF ((v10.alloc (.cells #[.string ⟨#[]⟩, .int .u8 0, .string ⟨#[]⟩, .slice none 0 0] 25))) zz7 T a7 c7 := ⟨_, rfl⟩
              have hp7 : Below w2.heap.size w2 W7 := by rw [hW7]; exact Ft.putF_below hb12 HNe.out.2.1
              have hot7 : ∀ k, k ≠ zz7 → W7.heap[k]? = ((v10.alloc (.cells #[.string ⟨#[]⟩, .int .u8 0, .string ⟨#[]⟩, .slice none 0 0] 25))).heap[k]? := fun k hk => by rw [hW7]; exact Ft.putF_other hk
              have HF7 : Hid (Ft.FileAt W7 zz7 T a7 c7 ∧ Ft.FileAt W7 zz8 Ft.zF none 0 ∧ Ft.Fd W7 (fun k => Y.heap.size ≤ k ∧ k < v1.heap.size) T a7 c7 ∧ Ft.Fd W7 (fun k => v1.heap.size + 1 ≤ k ∧ k < v10.heap.size) f a8 c8 ∧ v1.heap.size ≤ W7.heap.size ∧ v10.heap.size ≤ W7.heap.size) := by
                have hw7 : ((v10.alloc (.cells #[.string ⟨#[]⟩, .int .u8 0, .string ⟨#[]⟩, .slice none 0 0] 25))).heap.size ≤ W7.heap.size := by rw [hW7]; exact (Ft.putF_below (Below.refl 0 ((v10.alloc (.cells #[.string ⟨#[]⟩, .int .u8 0, .string ⟨#[]⟩, .slice none 0 0] 25)))) (Nat.zero_le _)).size
                have hc7 := c7l_12
                have hc8 := c8l_12
                have hN := HNe.out
                exact ⟨by rw [hW7]; exact zr7.putF T a7 c7, (hot7 _ (fun e => hN.1 e.symm)).trans zr8, Ft.Fd.same c7_12 (fun k hk => hot7 k (by omega)) (fun _ h => h), Ft.Fd.same c8_12 (fun k hk => hot7 k (by omega)) (fun _ h => h), Nat.le_trans hc7 hw7, Nat.le_trans hc8 hw7⟩
              have HW7 : Hid (W7 = (((((v10.alloc (.cells #[.string ⟨#[]⟩, .int .u8 0, .string ⟨#[]⟩, .slice none 0 0] 25))).setCell ⟨zz7, 0, none⟩ (.string T.nm)).setCell ⟨zz7, 1, none⟩ (.int .u8 (T.k : Int))).setCell ⟨zz7, 2, none⟩ (.string T.d)).setCell ⟨zz7, 3, none⟩ (.slice a7 T.kids.length c7)) := hW7
              rw [← HW7.out]
              refine hKq.out _ _ (HS8.out _ hp7) (fun _ => ?_)
              clear hKq Kq z0 z1 z2 z3 zf hW7 hot7 zr7 zr8
              try simp only [Act.put, List.setIfInBounds_toArray, List.set_cons_zero, List.set_cons_succ]
              refine wpAnyH_ready (rs := [7]) (by kernel_rfl) (by simp) ?_
              refine AllReadyH.cons (o := { dst := none, op := .store 25 (.tmp 8) (.tmp 29), type := 0, pos := "law.go:198", after := #[{ on := 5, ground := .data }, { on := 3, ground := .data }, { on := 6, ground := .chain }, { on := 0, ground := .phase }, { on := 1, ground := .phase }, { on := 2, ground := .phase }, { on := 3, ground := .phase }, { on := 4, ground := .phase }, { on := 5, ground := .phase }, { on := 6, ground := .phase }], guard := none }) rfl (fun Kq hKq => ?_) ?_
              · have z0 : W7.cell? ⟨zz8, 0, none⟩ = some (.string ⟨#[]⟩) := HF7.out.2.1.four.c0
                have z1 : W7.cell? ⟨zz8, 1, none⟩ = some (.int .u8 0) := HF7.out.2.1.four.c1
                have z2 : W7.cell? ⟨zz8, 2, none⟩ = some (.string ⟨#[]⟩) := HF7.out.2.1.four.c2
                have z3 : W7.cell? ⟨zz8, 3, none⟩ = some (.slice none 0 0) := HF7.out.2.1.four.c3
                have zf := HF7.out.2.1.frozen
                go_simp
                have hp8 : Below w2.heap.size w2 (Ft.putF W7 zz8 f a8 c8) := Ft.putF_below hp7 HNe.out.2.2.1
                have HF8 : Hid (Sb w (Ft.putF W7 zz8 f a8 c8) zz7 (Y.heap.size) (v1.heap.size) T a7 c7 ∧ Sb w (Ft.putF W7 zz8 f a8 c8) zz8 (v1.heap.size + 1) (v10.heap.size) f a8 c8 ∧ Below w2.heap.size w2 (Ft.putF W7 zz8 f a8 c8)) := by
                  have hw8 : W7.heap.size ≤ (Ft.putF W7 zz8 f a8 c8).heap.size := (Ft.putF_below (Below.refl 0 W7) (Nat.zero_le _)).size
                  have hN := HNe.out
                  have hbw := HSt.out.bel.trans (hp8.mono HSt.out.bel.size)
                  have hF := HF7.out
                  exact ⟨⟨(Ft.putF_other hN.1).trans hF.1, hF.2.2.1.same (fun k hk => Ft.putF_other (by omega)) (fun _ h => h), Nat.le_trans hF.2.2.2.2.1 hw8, hbw, by omega⟩, ⟨hF.2.1.putF f a8 c8, hF.2.2.2.1.same (fun k hk => Ft.putF_other (by omega)) (fun _ h => h), Nat.le_trans hF.2.2.2.2.2 hw8, hbw, by omega⟩, hp8⟩
                refine hKq.out _ _ (HS8.out _ hp8) (fun _ => ?_)
                refine wpAnyH_done (by kernel_rfl) ?_ _
                clear hKq Kq z0 z1 z2 z3 zf
                go_wp2_with fail
                go_meet
                exact ⟨zz7, zz8, a7, c7, a8, c8, _, _, _, _, rfl, rfl, HF8⟩
              exact AllReadyH.nil
            exact AllReadyH.nil
          exact AllReadyH.nil
        refine AllReadyH.cons (o := { dst := some 8, op := .alloc 25, type := 0, pos := "law.go:198", after := #[], guard := none }) rfl (fun Kq hKq => ?_) ?_
        · go_simp
          have hr13 : Below ((v1.alloc (.cells #[.string ⟨#[]⟩, .int .u8 0, .string ⟨#[]⟩, .slice none 0 0] 25))).heap.size ((v1.alloc (.cells #[.string ⟨#[]⟩, .int .u8 0, .string ⟨#[]⟩, .slice none 0 0] 25))) (((v1.alloc (.cells #[.string ⟨#[]⟩, .int .u8 0, .string ⟨#[]⟩, .slice none 0 0] 25)).alloc (.cells #[.string ⟨#[]⟩, .int .u8 0, .string ⟨#[]⟩, .slice none 0 0] 25))) := (Below.refl _ _).alloc (Nat.le_refl _) _
          have hb13 : Below w2.heap.size w2 (((v1.alloc (.cells #[.string ⟨#[]⟩, .int .u8 0, .string ⟨#[]⟩, .slice none 0 0] 25)).alloc (.cells #[.string ⟨#[]⟩, .int .u8 0, .string ⟨#[]⟩, .slice none 0 0] 25))) := hb9.trans (hr13.mono hb9.size)
          have hs13 := HS8.out _ hb13
          have z7_13 := Ft.FileAt.under z7_9 hr13
          have c7_13 := Ft.Fd.underP c7_9 (fun k hk => Nat.lt_of_lt_of_le hk.2 c7l_9) hr13
          have c7l_13 := Nat.le_trans c7l_9 hr13.size
          have sa13 : ((v1.alloc (.cells #[.string ⟨#[]⟩, .int .u8 0, .string ⟨#[]⟩, .slice none 0 0] 25))).heap.size = v1.heap.size + 1 := by simp
          have z8_13 : Ft.FileAt ((v1.alloc (.cells #[.string ⟨#[]⟩, .int .u8 0, .string ⟨#[]⟩, .slice none 0 0] 25)).alloc (.cells #[.string ⟨#[]⟩, .int .u8 0, .string ⟨#[]⟩, .slice none 0 0] 25)) (v1.heap.size + 1) Ft.zF none 0 := by rw [← sa13]; exact Ft.file_zero (v1.alloc (.cells #[.string ⟨#[]⟩, .int .u8 0, .string ⟨#[]⟩, .slice none 0 0] 25))
          refine hKq.out _ _ hs13 (fun _ => ?_)
          clear hKq Kq
          try simp only [Act.put, List.setIfInBounds_toArray, List.set_cons_zero, List.set_cons_succ]
          refine wpAnyH_ready (rs := [3]) (by kernel_rfl) (by simp) ?_
          refine AllReadyH.cons (o := { dst := some 29, op := .call { callee := .value (.func 14), args := #[.tmp 28], argTypes := #[25] }, type := 25, pos := "law.go:198", after := #[{ on := 2, ground := .data }, { on := 1, ground := .chain }], guard := none }) rfl (fun Kq hKq => ?_) ?_
          · go_simp
            refine Calls.mono (HCf.out _ hb13) ?_
            rintro e v14 ⟨a8, c8, rfl, fd14, rl14⟩
            have hr15 : Below (((v1.alloc (.cells #[.string ⟨#[]⟩, .int .u8 0, .string ⟨#[]⟩, .slice none 0 0] 25)).alloc (.cells #[.string ⟨#[]⟩, .int .u8 0, .string ⟨#[]⟩, .slice none 0 0] 25))).heap.size (((v1.alloc (.cells #[.string ⟨#[]⟩, .int .u8 0, .string ⟨#[]⟩, .slice none 0 0] 25)).alloc (.cells #[.string ⟨#[]⟩, .int .u8 0, .string ⟨#[]⟩, .slice none 0 0] 25))) (v14) := rl14
            have hb15 : Below w2.heap.size w2 (v14) := hb13.trans (hr15.mono hb13.size)
            have hs15 := HS8.out _ hb15
            have z7_15 := Ft.FileAt.under z7_13 hr15
            have z8_15 := Ft.FileAt.under z8_13 hr15
            have c7_15 := Ft.Fd.underP c7_13 (fun k hk => Nat.lt_of_lt_of_le hk.2 c7l_13) hr15
            have c7l_15 := Nat.le_trans c7l_13 hr15.size
            have se14 : (((v1.alloc (.cells #[.string ⟨#[]⟩, .int .u8 0, .string ⟨#[]⟩, .slice none 0 0] 25)).alloc (.cells #[.string ⟨#[]⟩, .int .u8 0, .string ⟨#[]⟩, .slice none 0 0] 25))).heap.size = v1.heap.size + 1 + 1 := by simp
            have hz14 : v1.heap.size + 1 + 1 ≤ v14.heap.size := by have := rl14.size; omega
            have fe14 : Ft.Fd v14 (fun k => v1.heap.size + 1 + 1 ≤ k ∧ k < v14.heap.size) f a8 c8 := by rw [← se14]; exact fd14.out
            refine hKq.out _ _ hs15 (fun _ => ?_)
            clear hKq Kq
            try simp only [Act.put, List.setIfInBounds_toArray, List.set_cons_zero, List.set_cons_succ]
            refine wpAnyH_ready (rs := [6]) (by kernel_rfl) (by simp) ?_
            refine AllReadyH.cons (o := { dst := none, op := .store 25 (.tmp 7) (.tmp 27), type := 0, pos := "law.go:198", after := #[{ on := 4, ground := .data }, { on := 1, ground := .data }, { on := 3, ground := .chain }, { on := 0, ground := .phase }, { on := 1, ground := .phase }, { on := 2, ground := .textOnly .lateStores }, { on := 3, ground := .textOnly .lateStoresUnsure }, { on := 4, ground := .phase }, { on := 5, ground := .phase }], guard := none }) rfl (fun Kq hKq => ?_) ?_
            · obtain ⟨zz7, hzz7⟩ : ∃ zz, zz = v1.heap.size := ⟨_, rfl⟩
              obtain ⟨zz8, hzz8⟩ : ∃ zz, zz = v1.heap.size + 1 := ⟨_, rfl⟩
              have HNe : Hid (zz7 ≠ zz8 ∧ w2.heap.size ≤ zz7 ∧ w2.heap.size ≤ zz8 ∧ (zz7 < Y.heap.size ∨ v1.heap.size ≤ zz7) ∧ (zz8 < Y.heap.size ∨ v1.heap.size ≤ zz8) ∧ (zz7 < v1.heap.size + 1 + 1 ∨ v14.heap.size ≤ zz7) ∧ (zz8 < v1.heap.size + 1 + 1 ∨ v14.heap.size ≤ zz8)) := by
                rw [hzz7, hzz8]; exact ⟨by omega, by omega, by omega, by omega, by omega, by omega, by omega⟩
              rw [← hzz8, ← hzz7]
              have zr7 : Ft.FileAt v14 zz7 Ft.zF none 0 := by rw [hzz7]; exact z7_15
              have zr8 : Ft.FileAt v14 zz8 Ft.zF none 0 := by rw [hzz8]; exact z8_15
              have HZZ : Hid (zz7 = v1.heap.size ∧ zz8 = v1.heap.size + 1) := ⟨hzz7, hzz8⟩
              clear hzz7 hzz8
              have z0 : (v14).cell? ⟨zz7, 0, none⟩ = some (.string ⟨#[]⟩) := zr7.four.c0
              have z1 : (v14).cell? ⟨zz7, 1, none⟩ = some (.int .u8 0) := zr7.four.c1
              have z2 : (v14).cell? ⟨zz7, 2, none⟩ = some (.string ⟨#[]⟩) := zr7.four.c2
              have z3 : (v14).cell? ⟨zz7, 3, none⟩ = some (.slice none 0 0) := zr7.four.c3
              have zf := zr7.frozen
              go_simp
              obtain ⟨W7, hW7⟩ : ∃ W7, W7 = Ft.putF (v14) zz7 T a7 c7 := ⟨_, rfl⟩
              have hp7 : Below w2.heap.size w2 W7 := by rw [hW7]; exact Ft.putF_below hb15 HNe.out.2.1
              have hot7 : ∀ k, k ≠ zz7 → W7.heap[k]? = (v14).heap[k]? := fun k hk => by rw [hW7]; exact Ft.putF_other hk
              have HF7 : Hid (Ft.FileAt W7 zz7 T a7 c7 ∧ Ft.FileAt W7 zz8 Ft.zF none 0 ∧ Ft.Fd W7 (fun k => Y.heap.size ≤ k ∧ k < v1.heap.size) T a7 c7 ∧ Ft.Fd W7 (fun k => v1.heap.size + 1 + 1 ≤ k ∧ k < v14.heap.size) f a8 c8 ∧ v1.heap.size ≤ W7.heap.size ∧ v14.heap.size ≤ W7.heap.size) := by
                have hw7 : (v14).heap.size ≤ W7.heap.size := by rw [hW7]; exact (Ft.putF_below (Below.refl 0 (v14)) (Nat.zero_le _)).size
                have hc7 := c7l_15
                have hc8 := (Nat.le_refl v14.heap.size)
                have hN := HNe.out
                exact ⟨by rw [hW7]; exact zr7.putF T a7 c7, (hot7 _ (fun e => hN.1 e.symm)).trans zr8, Ft.Fd.same c7_15 (fun k hk => hot7 k (by omega)) (fun _ h => h), Ft.Fd.same fe14 (fun k hk => hot7 k (by omega)) (fun _ h => h), Nat.le_trans hc7 hw7, Nat.le_trans hc8 hw7⟩
              have HW7 : Hid (W7 = ((((v14).setCell ⟨zz7, 0, none⟩ (.string T.nm)).setCell ⟨zz7, 1, none⟩ (.int .u8 (T.k : Int))).setCell ⟨zz7, 2, none⟩ (.string T.d)).setCell ⟨zz7, 3, none⟩ (.slice a7 T.kids.length c7)) := hW7
              rw [← HW7.out]
              refine hKq.out _ _ (HS8.out _ hp7) (fun _ => ?_)
              clear hKq Kq z0 z1 z2 z3 zf hW7 hot7 zr7 zr8
              try simp only [Act.put, List.setIfInBounds_toArray, List.set_cons_zero, List.set_cons_succ]
              refine wpAnyH_ready (rs := [7]) (by kernel_rfl) (by simp) ?_
              refine AllReadyH.cons (o := { dst := none, op := .store 25 (.tmp 8) (.tmp 29), type := 0, pos := "law.go:198", after := #[{ on := 5, ground := .data }, { on := 3, ground := .data }, { on := 6, ground := .chain }, { on := 0, ground := .phase }, { on := 1, ground := .phase }, { on := 2, ground := .phase }, { on := 3, ground := .phase }, { on := 4, ground := .phase }, { on := 5, ground := .phase }, { on := 6, ground := .phase }], guard := none }) rfl (fun Kq hKq => ?_) ?_
              · have z0 : W7.cell? ⟨zz8, 0, none⟩ = some (.string ⟨#[]⟩) := HF7.out.2.1.four.c0
                have z1 : W7.cell? ⟨zz8, 1, none⟩ = some (.int .u8 0) := HF7.out.2.1.four.c1
                have z2 : W7.cell? ⟨zz8, 2, none⟩ = some (.string ⟨#[]⟩) := HF7.out.2.1.four.c2
                have z3 : W7.cell? ⟨zz8, 3, none⟩ = some (.slice none 0 0) := HF7.out.2.1.four.c3
                have zf := HF7.out.2.1.frozen
                go_simp
                have hp8 : Below w2.heap.size w2 (Ft.putF W7 zz8 f a8 c8) := Ft.putF_below hp7 HNe.out.2.2.1
                have HF8 : Hid (Sb w (Ft.putF W7 zz8 f a8 c8) zz7 (Y.heap.size) (v1.heap.size) T a7 c7 ∧ Sb w (Ft.putF W7 zz8 f a8 c8) zz8 (v1.heap.size + 1 + 1) (v14.heap.size) f a8 c8 ∧ Below w2.heap.size w2 (Ft.putF W7 zz8 f a8 c8)) := by
                  have hw8 : W7.heap.size ≤ (Ft.putF W7 zz8 f a8 c8).heap.size := (Ft.putF_below (Below.refl 0 W7) (Nat.zero_le _)).size
                  have hN := HNe.out
                  have hbw := HSt.out.bel.trans (hp8.mono HSt.out.bel.size)
                  have hF := HF7.out
                  exact ⟨⟨(Ft.putF_other hN.1).trans hF.1, hF.2.2.1.same (fun k hk => Ft.putF_other (by omega)) (fun _ h => h), Nat.le_trans hF.2.2.2.2.1 hw8, hbw, by omega⟩, ⟨hF.2.1.putF f a8 c8, hF.2.2.2.1.same (fun k hk => Ft.putF_other (by omega)) (fun _ h => h), Nat.le_trans hF.2.2.2.2.2 hw8, hbw, by omega⟩, hp8⟩
                refine hKq.out _ _ (HS8.out _ hp8) (fun _ => ?_)
                refine wpAnyH_done (by kernel_rfl) ?_ _
                clear hKq Kq z0 z1 z2 z3 zf
                go_wp2_with fail
                go_meet
                exact ⟨zz7, zz8, a7, c7, a8, c8, _, _, _, _, rfl, rfl, HF8⟩
              exact AllReadyH.nil
            exact AllReadyH.nil
          exact AllReadyH.nil
        exact AllReadyH.nil
      refine AllReadyH.cons (o := { dst := some 8, op := .alloc 25, type := 0, pos := "law.go:198", after := #[], guard := none }) rfl (fun Kq hKq => ?_) ?_
      · go_simp
        have hr16 : Below (v1).heap.size (v1) ((v1.alloc (.cells #[.string ⟨#[]⟩, .int .u8 0, .string ⟨#[]⟩, .slice none 0 0] 25))) := (Below.refl _ _).alloc (Nat.le_refl _) _
        have hb16 : Below w2.heap.size w2 ((v1.alloc (.cells #[.string ⟨#[]⟩, .int .u8 0, .string ⟨#[]⟩, .slice none 0 0] 25))) := hb2.trans (hr16.mono hb2.size)
        have hs16 := HS8.out _ hb16
        have c7_16 := Ft.Fd.underP fe1 (fun k hk => Nat.lt_of_lt_of_le hk.2 (Nat.le_refl v1.heap.size)) hr16
        have c7l_16 := Nat.le_trans (Nat.le_refl v1.heap.size) hr16.size
        have sa16 : (v1).heap.size = v1.heap.size := by rfl
        have z8_16 : Ft.FileAt (v1.alloc (.cells #[.string ⟨#[]⟩, .int .u8 0, .string ⟨#[]⟩, .slice none 0 0] 25)) (v1.heap.size) Ft.zF none 0 := by rw [← sa16]; exact Ft.file_zero v1
        refine hKq.out _ _ hs16 (fun _ => ?_)
        clear hKq Kq
        try simp only [Act.put, List.setIfInBounds_toArray, List.set_cons_zero, List.set_cons_succ]
        refine wpAnyH_ready (rs := [3, 4]) (by kernel_rfl) (by simp) ?_
        refine AllReadyH.cons (o := { dst := some 29, op := .call { callee := .value (.func 14), args := #[.tmp 28], argTypes := #[25] }, type := 25, pos := "law.go:198", after := #[{ on := 2, ground := .data }, { on := 1, ground := .chain }], guard := none }) rfl (fun Kq hKq => ?_) ?_
        · go_simp
          refine Calls.mono (HCf.out _ hb16) ?_
          rintro e v17 ⟨a8, c8, rfl, fd17, rl17⟩
          have hr18 : Below ((v1.alloc (.cells #[.string ⟨#[]⟩, .int .u8 0, .string ⟨#[]⟩, .slice none 0 0] 25))).heap.size ((v1.alloc (.cells #[.string ⟨#[]⟩, .int .u8 0, .string ⟨#[]⟩, .slice none 0 0] 25))) (v17) := rl17
          have hb18 : Below w2.heap.size w2 (v17) := hb16.trans (hr18.mono hb16.size)
          have hs18 := HS8.out _ hb18
          have z8_18 := Ft.FileAt.under z8_16 hr18
          have c7_18 := Ft.Fd.underP c7_16 (fun k hk => Nat.lt_of_lt_of_le hk.2 c7l_16) hr18
          have c7l_18 := Nat.le_trans c7l_16 hr18.size
          have se17 : ((v1.alloc (.cells #[.string ⟨#[]⟩, .int .u8 0, .string ⟨#[]⟩, .slice none 0 0] 25))).heap.size = v1.heap.size + 1 := by simp
          have hz17 : v1.heap.size + 1 ≤ v17.heap.size := by have := rl17.size; omega
          have fe17 : Ft.Fd v17 (fun k => v1.heap.size + 1 ≤ k ∧ k < v17.heap.size) f a8 c8 := by rw [← se17]; exact fd17.out
          refine hKq.out _ _ hs18 (fun _ => ?_)
          clear hKq Kq
          try simp only [Act.put, List.setIfInBounds_toArray, List.set_cons_zero, List.set_cons_succ]
          refine wpAnyH_ready (rs := [4]) (by kernel_rfl) (by simp) ?_
          refine AllReadyH.cons (o := { dst := some 7, op := .alloc 25, type := 0, pos := "law.go:198", after := #[], guard := none }) rfl (fun Kq hKq => ?_) ?_
          · go_simp
            have hr19 : Below (v17).heap.size (v17) ((v17.alloc (.cells #[.string ⟨#[]⟩, .int .u8 0, .string ⟨#[]⟩, .slice none 0 0] 25))) := (Below.refl _ _).alloc (Nat.le_refl _) _
            have hb19 : Below w2.heap.size w2 ((v17.alloc (.cells #[.string ⟨#[]⟩, .int .u8 0, .string ⟨#[]⟩, .slice none 0 0] 25))) := hb18.trans (hr19.mono hb18.size)
            have hs19 := HS8.out _ hb19
            have z8_19 := Ft.FileAt.under z8_18 hr19
            have c7_19 := Ft.Fd.underP c7_18 (fun k hk => Nat.lt_of_lt_of_le hk.2 c7l_18) hr19
            have c7l_19 := Nat.le_trans c7l_18 hr19.size
            have c8_19 := Ft.Fd.underP fe17 (fun k hk => Nat.lt_of_lt_of_le hk.2 (Nat.le_refl v17.heap.size)) hr19
            have c8l_19 := Nat.le_trans (Nat.le_refl v17.heap.size) hr19.size
            have sa19 : (v17).heap.size = v17.heap.size := by rfl
            have z7_19 : Ft.FileAt (v17.alloc (.cells #[.string ⟨#[]⟩, .int .u8 0, .string ⟨#[]⟩, .slice none 0 0] 25)) (v17.heap.size) Ft.zF none 0 := by rw [← sa19]; exact Ft.file_zero v17
            refine hKq.out _ _ hs19 (fun _ => ?_)
            clear hKq Kq
            try simp only [Act.put, List.setIfInBounds_toArray, List.set_cons_zero, List.set_cons_succ]
            refine wpAnyH_ready (rs := [6]) (by kernel_rfl) (by simp) ?_
            refine AllReadyH.cons (o := { dst := none, op := .store 25 (.tmp 7) (.tmp 27), type := 0, pos := "law.go:198", after := #[{ on := 4, ground := .data }, { on := 1, ground := .data }, { on := 3, ground := .chain }, { on := 0, ground := .phase }, { on := 1, ground := .phase }, { on := 2, ground := .textOnly .lateStores }, { on := 3, ground := .textOnly .lateStoresUnsure }, { on := 4, ground := .phase }, { on := 5, ground := .phase }], guard := none }) rfl (fun Kq hKq => ?_) ?_
            · obtain ⟨zz7, hzz7⟩ : ∃ zz, zz = v17.heap.size := ⟨_, rfl⟩
              obtain ⟨zz8, hzz8⟩ : ∃ zz, zz = v1.heap.size := ⟨_, rfl⟩
              have HNe : Hid (zz7 ≠ zz8 ∧ w2.heap.size ≤ zz7 ∧ w2.heap.size ≤ zz8 ∧ (zz7 < Y.heap.size ∨ v1.heap.size ≤ zz7) ∧ (zz8 < Y.heap.size ∨ v1.heap.size ≤ zz8) ∧ (zz7 < v1.heap.size + 1 ∨ v17.heap.size ≤ zz7) ∧ (zz8 < v1.heap.size + 1 ∨ v17.heap.size ≤ zz8)) := by
                rw [hzz7, hzz8]; exact ⟨by omega, by omega, by omega, by omega, by omega, by omega, by omega⟩
              rw [← hzz7, ← hzz8]
              have zr7 : Ft.FileAt (v17.alloc (.cells #[.string ⟨#[]⟩, .int .u8 0, .string ⟨#[]⟩, .slice none 0 0] 25)) zz7 Ft.zF none 0 := by rw [hzz7]; exact z7_19
              have zr8 : Ft.FileAt (v17.alloc (.cells #[.string ⟨#[]⟩, .int .u8 0, .string ⟨#[]⟩, .slice none 0 0] 25)) zz8 Ft.zF none 0 := by rw [hzz8]; exact z8_19
              have HZZ : Hid (zz7 = v17.heap.size ∧ zz8 = v1.heap.size) := ⟨hzz7, hzz8⟩
              clear hzz7 hzz8
              have z0 : ((v17.alloc (.cells #[.string ⟨#[]⟩, .int .u8 0, .string ⟨#[]⟩, .slice none 0 0] 25))).cell? ⟨zz7, 0, none⟩ = some (.string ⟨#[]⟩) := zr7.four.c0
              have z1 : ((v17.alloc (.cells #[.string ⟨#[]⟩, .int .u8 0, .string ⟨#[]⟩, .slice none 0 0] 25))).cell? ⟨zz7, 1, none⟩ = some (.int .u8 0) := zr7.four.c1
              have z2 : ((v17.alloc (.cells #[.string ⟨#[]⟩, .int .u8 0, .string ⟨#[]⟩, .slice none 0 0] 25))).cell? ⟨zz7, 2, none⟩ = some (.string ⟨#[]⟩) := zr7.four.c2
              have z3 : ((v17.alloc (.cells #[.string ⟨#[]⟩, .int .u8 0, .string ⟨#[]⟩, .slice none 0 0] 25))).cell? ⟨zz7, 3, none⟩ = some (.slice none 0 0) := zr7.four.c3
              have zf := zr7.frozen
              go_simp
              obtain ⟨W7, hW7⟩ : ∃ W7, W7 = Ft.putF ((v17.alloc (.cells #[.string ⟨#[]⟩, .int .u8 0, .string ⟨#[]⟩, .slice none 0 0] 25))) zz7 T a7 c7 := ⟨_, rfl⟩
              have hp7 : Below w2.heap.size w2 W7 := by rw [hW7]; exact Ft.putF_below hb19 HNe.out.2.1
              have hot7 : ∀ k, k ≠ zz7 → W7.heap[k]? = ((v17.alloc (.cells #[.string ⟨#[]⟩, .int .u8 0, .string ⟨#[]⟩, .slice none 0 0] 25))).heap[k]? := fun k hk => by rw [hW7]; exact Ft.putF_other hk
              have HF7 : Hid (Ft.FileAt W7 zz7 T a7 c7 ∧ Ft.FileAt W7 zz8 Ft.zF none 0 ∧ Ft.Fd W7 (fun k => Y.heap.size ≤ k ∧ k < v1.heap.size) T a7 c7 ∧ Ft.Fd W7 (fun k => v1.heap.size + 1 ≤ k ∧ k < v17.heap.size) f a8 c8 ∧ v1.heap.size ≤ W7.heap.size ∧ v17.heap.size ≤ W7.heap.size) := by
                have hw7 : ((v17.alloc (.cells #[.string ⟨#[]⟩, .int .u8 0, .string ⟨#[]⟩, .slice none 0 0] 25))).heap.size ≤ W7.heap.size := by rw [hW7]; exact (Ft.putF_below (Below.refl 0 ((v17.alloc (.cells #[.string ⟨#[]⟩, .int .u8 0, .string ⟨#[]⟩, .slice none 0 0] 25)))) (Nat.zero_le _)).size
                have hc7 := c7l_19
                have hc8 := c8l_19
                have hN := HNe.out
                exact ⟨by rw [hW7]; exact zr7.putF T a7 c7, (hot7 _ (fun e => hN.1 e.symm)).trans zr8, Ft.Fd.same c7_19 (fun k hk => hot7 k (by omega)) (fun _ h => h), Ft.Fd.same c8_19 (fun k hk => hot7 k (by omega)) (fun _ h => h), Nat.le_trans hc7 hw7, Nat.le_trans hc8 hw7⟩
              have HW7 : Hid (W7 = (((((v17.alloc (.cells #[.string ⟨#[]⟩, .int .u8 0, .string ⟨#[]⟩, .slice none 0 0] 25))).setCell ⟨zz7, 0, none⟩ (.string T.nm)).setCell ⟨zz7, 1, none⟩ (.int .u8 (T.k : Int))).setCell ⟨zz7, 2, none⟩ (.string T.d)).setCell ⟨zz7, 3, none⟩ (.slice a7 T.kids.length c7)) := hW7
              rw [← HW7.out]
              refine hKq.out _ _ (HS8.out _ hp7) (fun _ => ?_)
              clear hKq Kq z0 z1 z2 z3 zf hW7 hot7 zr7 zr8
              try simp only [Act.put, List.setIfInBounds_toArray, List.set_cons_zero, List.set_cons_succ]
              refine wpAnyH_ready (rs := [7]) (by kernel_rfl) (by simp) ?_
              refine AllReadyH.cons (o := { dst := none, op := .store 25 (.tmp 8) (.tmp 29), type := 0, pos := "law.go:198", after := #[{ on := 5, ground := .data }, { on := 3, ground := .data }, { on := 6, ground := .chain }, { on := 0, ground := .phase }, { on := 1, ground := .phase }, { on := 2, ground := .phase }, { on := 3, ground := .phase }, { on := 4, ground := .phase }, { on := 5, ground := .phase }, { on := 6, ground := .phase }], guard := none }) rfl (fun Kq hKq => ?_) ?_
              · have z0 : W7.cell? ⟨zz8, 0, none⟩ = some (.string ⟨#[]⟩) := HF7.out.2.1.four.c0
                have z1 : W7.cell? ⟨zz8, 1, none⟩ = some (.int .u8 0) := HF7.out.2.1.four.c1
                have z2 : W7.cell? ⟨zz8, 2, none⟩ = some (.string ⟨#[]⟩) := HF7.out.2.1.four.c2
                have z3 : W7.cell? ⟨zz8, 3, none⟩ = some (.slice none 0 0) := HF7.out.2.1.four.c3
                have zf := HF7.out.2.1.frozen
                go_simp
                have hp8 : Below w2.heap.size w2 (Ft.putF W7 zz8 f a8 c8) := Ft.putF_below hp7 HNe.out.2.2.1
                have HF8 : Hid (Sb w (Ft.putF W7 zz8 f a8 c8) zz7 (Y.heap.size) (v1.heap.size) T a7 c7 ∧ Sb w (Ft.putF W7 zz8 f a8 c8) zz8 (v1.heap.size + 1) (v17.heap.size) f a8 c8 ∧ Below w2.heap.size w2 (Ft.putF W7 zz8 f a8 c8)) := by
                  have hw8 : W7.heap.size ≤ (Ft.putF W7 zz8 f a8 c8).heap.size := (Ft.putF_below (Below.refl 0 W7) (Nat.zero_le _)).size
                  have hN := HNe.out
                  have hbw := HSt.out.bel.trans (hp8.mono HSt.out.bel.size)
                  have hF := HF7.out
                  exact ⟨⟨(Ft.putF_other hN.1).trans hF.1, hF.2.2.1.same (fun k hk => Ft.putF_other (by omega)) (fun _ h => h), Nat.le_trans hF.2.2.2.2.1 hw8, hbw, by omega⟩, ⟨hF.2.1.putF f a8 c8, hF.2.2.2.1.same (fun k hk => Ft.putF_other (by omega)) (fun _ h => h), Nat.le_trans hF.2.2.2.2.2 hw8, hbw, by omega⟩, hp8⟩
                refine hKq.out _ _ (HS8.out _ hp8) (fun _ => ?_)
                refine wpAnyH_done (by kernel_rfl) ?_ _
                clear hKq Kq z0 z1 z2 z3 zf
                go_wp2_with fail
                go_meet
                exact ⟨zz7, zz8, a7, c7, a8, c8, _, _, _, _, rfl, rfl, HF8⟩
              exact AllReadyH.nil
            exact AllReadyH.nil
          exact AllReadyH.nil
        refine AllReadyH.cons (o := { dst := some 7, op := .alloc 25, type := 0, pos := "law.go:198", after := #[], guard := none }) rfl (fun Kq hKq => ?_) ?_
        · go_simp
          have hr20 : Below ((v1.alloc (.cells #[.string ⟨#[]⟩, .int .u8 0, .string ⟨#[]⟩, .slice none 0 0] 25))).heap.size ((v1.alloc (.cells #[.string ⟨#[]⟩, .int .u8 0, .string ⟨#[]⟩, .slice none 0 0] 25))) (((v1.alloc (.cells #[.string ⟨#[]⟩, .int .u8 0, .string ⟨#[]⟩, .slice none 0 0] 25)).alloc (.cells #[.string ⟨#[]⟩, .int .u8 0, .string ⟨#[]⟩, .slice none 0 0] 25))) := (Below.refl _ _).alloc (Nat.le_refl _) _
          have hb20 : Below w2.heap.size w2 (((v1.alloc (.cells #[.string ⟨#[]⟩, .int .u8 0, .string ⟨#[]⟩, .slice none 0 0] 25)).alloc (.cells #[.string ⟨#[]⟩, .int .u8 0, .string ⟨#[]⟩, .slice none 0 0] 25))) := hb16.trans (hr20.mono hb16.size)
          have hs20 := HS8.out _ hb20
          have z8_20 := Ft.FileAt.under z8_16 hr20
          have c7_20 := Ft.Fd.underP c7_16 (fun k hk => Nat.lt_of_lt_of_le hk.2 c7l_16) hr20
          have c7l_20 := Nat.le_trans c7l_16 hr20.size
          have sa20 : ((v1.alloc (.cells #[.string ⟨#[]⟩, .int .u8 0, .string ⟨#[]⟩, .slice none 0 0] 25))).heap.size = v1.heap.size + 1 := by simp
          have z7_20 : Ft.FileAt ((v1.alloc (.cells #[.string ⟨#[]⟩, .int .u8 0, .string ⟨#[]⟩, .slice none 0 0] 25)).alloc (.cells #[.string ⟨#[]⟩, .int .u8 0, .string ⟨#[]⟩, .slice none 0 0] 25)) (v1.heap.size + 1) Ft.zF none 0 := by rw [← sa20]; exact Ft.file_zero (v1.alloc (.cells #[.string ⟨#[]⟩, .int .u8 0, .string ⟨#[]⟩, .slice none 0 0] 25))
          refine hKq.out _ _ hs20 (fun _ => ?_)
          clear hKq Kq
          try simp only [Act.put, List.setIfInBounds_toArray, List.set_cons_zero, List.set_cons_succ]
          refine wpAnyH_ready (rs := [3]) (by kernel_rfl) (by simp) ?_
          refine AllReadyH.cons (o := { dst := some 29, op := .call { callee := .value (.func 14), args := #[.tmp 28], argTypes := #[25] }, type := 25, pos := "law.go:198", after := #[{ on := 2, ground := .data }, { on := 1, ground := .chain }], guard := none }) rfl (fun Kq hKq => ?_) ?_
          · go_simp
            refine Calls.mono (HCf.out _ hb20) ?_
            rintro e v21 ⟨a8, c8, rfl, fd21, rl21⟩
            have hr22 : Below (((v1.alloc (.cells #[.string ⟨#[]⟩, .int .u8 0, .string ⟨#[]⟩, .slice none 0 0] 25)).alloc (.cells #[.string ⟨#[]⟩, .int .u8 0, .string ⟨#[]⟩, .slice none 0 0] 25))).heap.size (((v1.alloc (.cells #[.string ⟨#[]⟩, .int .u8 0, .string ⟨#[]⟩, .slice none 0 0] 25)).alloc (.cells #[.string ⟨#[]⟩, .int .u8 0, .string ⟨#[]⟩, .slice none 0 0] 25))) (v21) := rl21
            have hb22 : Below w2.heap.size w2 (v21) := hb20.trans (hr22.mono hb20.size)
            have hs22 := HS8.out _ hb22
            have z7_22 := Ft.FileAt.under z7_20 hr22
            have z8_22 := Ft.FileAt.under z8_20 hr22
            have c7_22 := Ft.Fd.underP c7_20 (fun k hk => Nat.lt_of_lt_of_le hk.2 c7l_20) hr22
            have c7l_22 := Nat.le_trans c7l_20 hr22.size
            have se21 : (((v1.alloc (.cells #[.string ⟨#[]⟩, .int .u8 0, .string ⟨#[]⟩, .slice none 0 0] 25)).alloc (.cells #[.string ⟨#[]⟩, .int .u8 0, .string ⟨#[]⟩, .slice none 0 0] 25))).heap.size = v1.heap.size + 1 + 1 := by simp
            have hz21 : v1.heap.size + 1 + 1 ≤ v21.heap.size := by have := rl21.size; omega
            have fe21 : Ft.Fd v21 (fun k => v1.heap.size + 1 + 1 ≤ k ∧ k < v21.heap.size) f a8 c8 := by rw [← se21]; exact fd21.out
            refine hKq.out _ _ hs22 (fun _ => ?_)
            clear hKq Kq
            try simp only [Act.put, List.setIfInBounds_toArray, List.set_cons_zero, List.set_cons_succ]
            refine wpAnyH_ready (rs := [6]) (by kernel_rfl) (by simp) ?_
            refine AllReadyH.cons (o := { dst := none, op := .store 25 (.tmp 7) (.tmp 27), type := 0, pos := "law.go:198", after := #[{ on := 4, ground := .data }, { on := 1, ground := .data }, { on := 3, ground := .chain }, { on := 0, ground := .phase }, { on := 1, ground := .phase }, { on := 2, ground := .textOnly .lateStores }, { on := 3, ground := .textOnly .lateStoresUnsure }, { on := 4, ground := .phase }, { on := 5, ground := .phase }], guard := none }) rfl (fun Kq hKq => ?_) ?_
            · obtain ⟨zz7, hzz7⟩ : ∃ zz, zz = v1.heap.size + 1 := ⟨_, rfl⟩
              obtain ⟨zz8, hzz8⟩ : ∃ zz, zz = v1.heap.size := ⟨_, rfl⟩
              have HNe : Hid (zz7 ≠ zz8 ∧ w2.heap.size ≤ zz7 ∧ w2.heap.size ≤ zz8 ∧ (zz7 < Y.heap.size ∨ v1.heap.size ≤ zz7) ∧ (zz8 < Y.heap.size ∨ v1.heap.size ≤ zz8) ∧ (zz7 < v1.heap.size + 1 + 1 ∨ v21.heap.size ≤ zz7) ∧ (zz8 < v1.heap.size + 1 + 1 ∨ v21.heap.size ≤ zz8)) := by
                rw [hzz7, hzz8]; exact ⟨by omega, by omega, by omega, by omega, by omega, by omega, by omega⟩
              rw [← hzz7, ← hzz8]
              have zr7 : Ft.FileAt v21 zz7 Ft.zF none 0 := by rw [hzz7]; exact z7_22
              have zr8 : Ft.FileAt v21 zz8 Ft.zF none 0 := by rw [hzz8]; exact z8_22
              have HZZ : Hid (zz7 = v1.heap.size + 1 ∧ zz8 = v1.heap.size) := ⟨hzz7, hzz8⟩
              clear hzz7 hzz8
              have z0 : (v21).cell? ⟨zz7, 0, none⟩ = some (.string ⟨#[]⟩) := zr7.four.c0
              have z1 : (v21).cell? ⟨zz7, 1, none⟩ = some (.int .u8 0) := zr7.four.c1
              have z2 : (v21).cell? ⟨zz7, 2, none⟩ = some (.string ⟨#[]⟩) := zr7.four.c2
              have z3 : (v21).cell? ⟨zz7, 3, none⟩ = some (.slice none 0 0) := zr7.four.c3
              have zf := zr7.frozen
              go_simp
              obtain ⟨W7, hW7⟩ : ∃ W7, W7 = Ft.putF (v21) zz7 T a7 c7 := ⟨_, rfl⟩
              have hp7 : Below w2.heap.size w2 W7 := by rw [hW7]; exact Ft.putF_below hb22 HNe.out.2.1
              have hot7 : ∀ k, k ≠ zz7 → W7.heap[k]? = (v21).heap[k]? := fun k hk => by rw [hW7]; exact Ft.putF_other hk
              have HF7 : Hid (Ft.FileAt W7 zz7 T a7 c7 ∧ Ft.FileAt W7 zz8 Ft.zF none 0 ∧ Ft.Fd W7 (fun k => Y.heap.size ≤ k ∧ k < v1.heap.size) T a7 c7 ∧ Ft.Fd W7 (fun k => v1.heap.size + 1 + 1 ≤ k ∧ k < v21.heap.size) f a8 c8 ∧ v1.heap.size ≤ W7.heap.size ∧ v21.heap.size ≤ W7.heap.size) := by
                have hw7 : (v21).heap.size ≤ W7.heap.size := by rw [hW7]; exact (Ft.putF_below (Below.refl 0 (v21)) (Nat.zero_le _)).size
                have hc7 := c7l_22
                have hc8 := (Nat.le_refl v21.heap.size)
                have hN := HNe.out
                exact ⟨by rw [hW7]; exact zr7.putF T a7 c7, (hot7 _ (fun e => hN.1 e.symm)).trans zr8, Ft.Fd.same c7_22 (fun k hk => hot7 k (by omega)) (fun _ h => h), Ft.Fd.same fe21 (fun k hk => hot7 k (by omega)) (fun _ h => h), Nat.le_trans hc7 hw7, Nat.le_trans hc8 hw7⟩
              have HW7 : Hid (W7 = ((((v21).setCell ⟨zz7, 0, none⟩ (.string T.nm)).setCell ⟨zz7, 1, none⟩ (.int .u8 (T.k : Int))).setCell ⟨zz7, 2, none⟩ (.string T.d)).setCell ⟨zz7, 3, none⟩ (.slice a7 T.kids.length c7)) := hW7
              rw [← HW7.out]
              refine hKq.out _ _ (HS8.out _ hp7) (fun _ => ?_)
              clear hKq Kq z0 z1 z2 z3 zf hW7 hot7 zr7 zr8
              try simp only [Act.put, List.setIfInBounds_toArray, List.set_cons_zero, List.set_cons_succ]
              refine wpAnyH_ready (rs := [7]) (by kernel_rfl) (by simp) ?_
              refine AllReadyH.cons (o := { dst := none, op := .store 25 (.tmp 8) (.tmp 29), type := 0, pos := "law.go:198", after := #[{ on := 5, ground := .data }, { on := 3, ground := .data }, { on := 6, ground := .chain }, { on := 0, ground := .phase }, { on := 1, ground := .phase }, { on := 2, ground := .phase }, { on := 3, ground := .phase }, { on := 4, ground := .phase }, { on := 5, ground := .phase }, { on := 6, ground := .phase }], guard := none }) rfl (fun Kq hKq => ?_) ?_
              · have z0 : W7.cell? ⟨zz8, 0, none⟩ = some (.string ⟨#[]⟩) := HF7.out.2.1.four.c0
                have z1 : W7.cell? ⟨zz8, 1, none⟩ = some (.int .u8 0) := HF7.out.2.1.four.c1
                have z2 : W7.cell? ⟨zz8, 2, none⟩ = some (.string ⟨#[]⟩) := HF7.out.2.1.four.c2
                have z3 : W7.cell? ⟨zz8, 3, none⟩ = some (.slice none 0 0) := HF7.out.2.1.four.c3
                have zf := HF7.out.2.1.frozen
                go_simp
                have hp8 : Below w2.heap.size w2 (Ft.putF W7 zz8 f a8 c8) := Ft.putF_below hp7 HNe.out.2.2.1
                have HF8 : Hid (Sb w (Ft.putF W7 zz8 f a8 c8) zz7 (Y.heap.size) (v1.heap.size) T a7 c7 ∧ Sb w (Ft.putF W7 zz8 f a8 c8) zz8 (v1.heap.size + 1 + 1) (v21.heap.size) f a8 c8 ∧ Below w2.heap.size w2 (Ft.putF W7 zz8 f a8 c8)) := by
                  have hw8 : W7.heap.size ≤ (Ft.putF W7 zz8 f a8 c8).heap.size := (Ft.putF_below (Below.refl 0 W7) (Nat.zero_le _)).size
                  have hN := HNe.out
                  have hbw := HSt.out.bel.trans (hp8.mono HSt.out.bel.size)
                  have hF := HF7.out
                  exact ⟨⟨(Ft.putF_other hN.1).trans hF.1, hF.2.2.1.same (fun k hk => Ft.putF_other (by omega)) (fun _ h => h), Nat.le_trans hF.2.2.2.2.1 hw8, hbw, by omega⟩, ⟨hF.2.1.putF f a8 c8, hF.2.2.2.1.same (fun k hk => Ft.putF_other (by omega)) (fun _ h => h), Nat.le_trans hF.2.2.2.2.2 hw8, hbw, by omega⟩, hp8⟩
                refine hKq.out _ _ (HS8.out _ hp8) (fun _ => ?_)
                refine wpAnyH_done (by kernel_rfl) ?_ _
                clear hKq Kq z0 z1 z2 z3 zf
                go_wp2_with fail
                go_meet
                exact ⟨zz7, zz8, a7, c7, a8, c8, _, _, _, _, rfl, rfl, HF8⟩
              exact AllReadyH.nil
            exact AllReadyH.nil
          exact AllReadyH.nil
        exact AllReadyH.nil
      exact AllReadyH.nil
    refine AllReadyH.cons (o := { dst := some 7, op := .alloc 25, type := 0, pos := "law.go:198", after := #[], guard := none }) rfl (fun Kq hKq => ?_) ?_
    · go_simp
      have hr23 : Below (Y).heap.size (Y) ((Y.alloc (.cells #[.string ⟨#[]⟩, .int .u8 0, .string ⟨#[]⟩, .slice none 0 0] 25))) := (Below.refl _ _).alloc (Nat.le_refl _) _
      have hb23 : Below w2.heap.size w2 ((Y.alloc (.cells #[.string ⟨#[]⟩, .int .u8 0, .string ⟨#[]⟩, .slice none 0 0] 25))) := hbY.trans (hr23.mono hbY.size)
      have hs23 := HS8.out _ hb23
      have sa23 : (Y).heap.size = Y.heap.size := by rfl
      have z7_23 : Ft.FileAt (Y.alloc (.cells #[.string ⟨#[]⟩, .int .u8 0, .string ⟨#[]⟩, .slice none 0 0] 25)) (Y.heap.size) Ft.zF none 0 := by rw [← sa23]; exact Ft.file_zero Y
      refine hKq.out _ _ hs23 (fun _ => ?_)
      clear hKq Kq
      try simp only [Act.put, List.setIfInBounds_toArray, List.set_cons_zero, List.set_cons_succ]
      refine wpAnyH_ready (rs := [1, 5]) (by kernel_rfl) (by simp) ?_
      refine AllReadyH.cons (o := { dst := some 27, op := .call { callee := .value (.func 14), args := #[.tmp 26], argTypes := #[25] }, type := 25, pos := "law.go:198", after := #[{ on := 0, ground := .data }], guard := none }) rfl (fun Kq hKq => ?_) ?_
      · go_simp
        refine Calls.mono (HCt.out _ hb23) ?_
        rintro e v24 ⟨a7, c7, rfl, fd24, rl24⟩
        have hr25 : Below ((Y.alloc (.cells #[.string ⟨#[]⟩, .int .u8 0, .string ⟨#[]⟩, .slice none 0 0] 25))).heap.size ((Y.alloc (.cells #[.string ⟨#[]⟩, .int .u8 0, .string ⟨#[]⟩, .slice none 0 0] 25))) (v24) := rl24
        have hb25 : Below w2.heap.size w2 (v24) := hb23.trans (hr25.mono hb23.size)
        have hs25 := HS8.out _ hb25
        have z7_25 := Ft.FileAt.under z7_23 hr25
        have se24 : ((Y.alloc (.cells #[.string ⟨#[]⟩, .int .u8 0, .string ⟨#[]⟩, .slice none 0 0] 25))).heap.size = Y.heap.size + 1 := by simp
        have hz24 : Y.heap.size + 1 ≤ v24.heap.size := by have := rl24.size; omega
        have fe24 : Ft.Fd v24 (fun k => Y.heap.size + 1 ≤ k ∧ k < v24.heap.size) T a7 c7 := by rw [← se24]; exact fd24.out
        refine hKq.out _ _ hs25 (fun _ => ?_)
        clear hKq Kq
        try simp only [Act.put, List.setIfInBounds_toArray, List.set_cons_zero, List.set_cons_succ]
        refine wpAnyH_ready (rs := [3, 5]) (by kernel_rfl) (by simp) ?_
        refine AllReadyH.cons (o := { dst := some 29, op := .call { callee := .value (.func 14), args := #[.tmp 28], argTypes := #[25] }, type := 25, pos := "law.go:198", after := #[{ on := 2, ground := .data }, { on := 1, ground := .chain }], guard := none }) rfl (fun Kq hKq => ?_) ?_
        · go_simp
          refine Calls.mono (HCf.out _ hb25) ?_
          rintro e v26 ⟨a8, c8, rfl, fd26, rl26⟩
          have hr27 : Below (v24).heap.size (v24) (v26) := rl26
          have hb27 : Below w2.heap.size w2 (v26) := hb25.trans (hr27.mono hb25.size)
          have hs27 := HS8.out _ hb27
          have z7_27 := Ft.FileAt.under z7_25 hr27
          have c7_27 := Ft.Fd.underP fe24 (fun k hk => Nat.lt_of_lt_of_le hk.2 (Nat.le_refl v24.heap.size)) hr27
          have c7l_27 := Nat.le_trans (Nat.le_refl v24.heap.size) hr27.size
          have se26 : (v24).heap.size = v24.heap.size := by rfl
          have hz26 : v24.heap.size ≤ v26.heap.size := by have := rl26.size; omega
          have fe26 : Ft.Fd v26 (fun k => v24.heap.size ≤ k ∧ k < v26.heap.size) f a8 c8 := by rw [← se26]; exact fd26.out
          refine hKq.out _ _ hs27 (fun _ => ?_)
          clear hKq Kq
          try simp only [Act.put, List.setIfInBounds_toArray, List.set_cons_zero, List.set_cons_succ]
          refine wpAnyH_ready (rs := [5]) (by kernel_rfl) (by simp) ?_
          refine AllReadyH.cons (o := { dst := some 8, op := .alloc 25, type := 0, pos := "law.go:198", after := #[], guard := none }) rfl (fun Kq hKq => ?_) ?_
          · go_simp
            have hr28 : Below (v26).heap.size (v26) ((v26.alloc (.cells #[.string ⟨#[]⟩, .int .u8 0, .string ⟨#[]⟩, .slice none 0 0] 25))) := (Below.refl _ _).alloc (Nat.le_refl _) _
            have hb28 : Below w2.heap.size w2 ((v26.alloc (.cells #[.string ⟨#[]⟩, .int .u8 0, .string ⟨#[]⟩, .slice none 0 0] 25))) := hb27.trans (hr28.mono hb27.size)
            have hs28 := HS8.out _ hb28
            have z7_28 := Ft.FileAt.under z7_27 hr28
            have c7_28 := Ft.Fd.underP c7_27 (fun k hk => Nat.lt_of_lt_of_le hk.2 c7l_27) hr28
            have c7l_28 := Nat.le_trans c7l_27 hr28.size
            have c8_28 := Ft.Fd.underP fe26 (fun k hk => Nat.lt_of_lt_of_le hk.2 (Nat.le_refl v26.heap.size)) hr28
            have c8l_28 := Nat.le_trans (Nat.le_refl v26.heap.size) hr28.size
            have sa28 : (v26).heap.size = v26.heap.size := by rfl
            have z8_28 : Ft.FileAt (v26.alloc (.cells #[.string ⟨#[]⟩, .int .u8 0, .string ⟨#[]⟩, .slice none 0 0] 25)) (v26.heap.size) Ft.zF none 0 := by rw [← sa28]; exact Ft.file_zero v26
            refine hKq.out _ _ hs28 (fun _ => ?_)
            clear hKq Kq
            try simp only [Act.put, List.setIfInBounds_toArray, List.set_cons_zero, List.set_cons_succ]
            refine wpAnyH_ready (rs := [6]) (by kernel_rfl) (by simp) ?_
            refine AllReadyH.cons (o := { dst := none, op := .store 25 (.tmp 7) (.tmp 27), type := 0, pos := "law.go:198", after := #[{ on := 4, ground := .data }, { on := 1, ground := .data }, { on := 3, ground := .chain }, { on := 0, ground := .phase }, { on := 1, ground := .phase }, { on := 2, ground := .textOnly .lateStores }, { on := 3, ground := .textOnly .lateStoresUnsure }, { on := 4, ground := .phase }, { on := 5, ground := .phase }], guard := none }) rfl (fun Kq hKq => ?_) ?_
            · obtain ⟨zz7, hzz7⟩ : ∃ zz, zz = Y.heap.size := ⟨_, rfl⟩
              obtain ⟨zz8, hzz8⟩ : ∃ zz, zz = v26.heap.size := ⟨_, rfl⟩
              have HNe : Hid (zz7 ≠ zz8 ∧ w2.heap.size ≤ zz7 ∧ w2.heap.size ≤ zz8 ∧ (zz7 < Y.heap.size + 1 ∨ v24.heap.size ≤ zz7) ∧ (zz8 < Y.heap.size + 1 ∨ v24.heap.size ≤ zz8) ∧ (zz7 < v24.heap.size ∨ v26.heap.size ≤ zz7) ∧ (zz8 < v24.heap.size ∨ v26.heap.size ≤ zz8)) := by
                rw [hzz7, hzz8]; exact ⟨by omega, by omega, by omega, by omega, by omega, by omega, by omega⟩
              rw [← hzz7, ← hzz8]
              have zr7 : Ft.FileAt (v26.alloc (.cells #[.string ⟨#[]⟩, .int .u8 0, .string ⟨#[]⟩, .slice none 0 0] 25)) zz7 Ft.zF none 0 := by rw [hzz7]; exact z7_28
              have zr8 : Ft.FileAt (v26.alloc (.cells #[.string ⟨#[]⟩, .int .u8 0, .string ⟨#[]⟩, .slice none 0 0] 25)) zz8 Ft.zF none 0 := by rw [hzz8]; exact z8_28
              have HZZ : Hid (zz7 = Y.heap.size ∧ zz8 = v26.heap.size) := ⟨hzz7, hzz8⟩
              clear hzz7 hzz8
              have z0 : ((v26.alloc (.cells #[.string ⟨#[]⟩, .int .u8 0, .string ⟨#[]⟩, .slice none 0 0] 25))).cell? ⟨zz7, 0, none⟩ = some (.string ⟨#[]⟩) := zr7.four.c0
              have z1 : ((v26.alloc (.cells #[.string ⟨#[]⟩, .int .u8 0, .string ⟨#[]⟩, .slice none 0 0] 25))).cell? ⟨zz7, 1, none⟩ = some (.int .u8 0) := zr7.four.c1
              have z2 : ((v26.alloc (.cells #[.string ⟨#[]⟩, .int .u8 0, .string ⟨#[]⟩, .slice none 0 0] 25))).cell? ⟨zz7, 2, none⟩ = some (.string ⟨#[]⟩) := zr7.four.c2
              have z3 : ((v26.alloc (.cells #[.string ⟨#[]⟩, .int .u8 0, .string ⟨#[]⟩, .slice none 0 0] 25))).cell? ⟨zz7, 3, none⟩ = some (.slice none 0 0) := zr7.four.c3
              have zf := zr7.frozen
              go_simp
              obtain ⟨W7, hW7⟩ : ∃ W7, W7 = Ft.putF ((v26.alloc (.cells #[.string ⟨#[]⟩, .int .u8 0, .string ⟨#[]⟩, .slice none 0 0] 25))) zz7 T a7 c7 := ⟨_, rfl⟩
              have hp7 : Below w2.heap.size w2 W7 := by rw [hW7]; exact Ft.putF_below hb28 HNe.out.2.1
              have hot7 : ∀ k, k ≠ zz7 → W7.heap[k]? = ((v26.alloc (.cells #[.string ⟨#[]⟩, .int .u8 0, .string ⟨#[]⟩, .slice none 0 0] 25))).heap[k]? := fun k hk => by rw [hW7]; exact Ft.putF_other hk
              have HF7 : Hid (Ft.FileAt W7 zz7 T a7 c7 ∧ Ft.FileAt W7 zz8 Ft.zF none 0 ∧ Ft.Fd W7 (fun k => Y.heap.size + 1 ≤ k ∧ k < v24.heap.size) T a7 c7 ∧ Ft.Fd W7 (fun k => v24.heap.size ≤ k ∧ k < v26.heap.size) f a8 c8 ∧ v24.heap.size ≤ W7.heap.size ∧ v26.heap.size ≤ W7.heap.size) := by
                have hw7 : ((v26.alloc (.cells #[.string ⟨#[]⟩, .int .u8 0, .string ⟨#[]⟩, .slice none 0 0] 25))).heap.size ≤ W7.heap.size := by rw [hW7]; exact (Ft.putF_below (Below.refl 0 ((v26.alloc (.cells #[.string ⟨#[]⟩, .int .u8 0, .string ⟨#[]⟩, .slice none 0 0] 25)))) (Nat.zero_le _)).size
                have hc7 := c7l_28
                have hc8 := c8l_28
                have hN := HNe.out
                exact ⟨by rw [hW7]; exact zr7.putF T a7 c7, (hot7 _ (fun e => hN.1 e.symm)).trans zr8, Ft.Fd.same c7_28 (fun k hk => hot7 k (by omega)) (fun _ h => h), Ft.Fd.same c8_28 (fun k hk => hot7 k (by omega)) (fun _ h => h), Nat.le_trans hc7 hw7, Nat.le_trans hc8 hw7⟩
              have HW7 : Hid (W7 = (((((v26.alloc (.cells #[.string ⟨#[]⟩, .int .u8 0, .string ⟨#[]⟩, .slice none 0 0] 25))).setCell ⟨zz7, 0, none⟩ (.string T.nm)).setCell ⟨zz7, 1, none⟩ (.int .u8 (T.k : Int))).setCell ⟨zz7, 2, none⟩ (.string T.d)).setCell ⟨zz7, 3, none⟩ (.slice a7 T.kids.length c7)) := hW7
              rw [← HW7.out]
              refine hKq.out _ _ (HS8.out _ hp7) (fun _ => ?_)
              clear hKq Kq z0 z1 z2 z3 zf hW7 hot7 zr7 zr8
              try simp only [Act.put, List.setIfInBounds_toArray, List.set_cons_zero, List.set_cons_succ]
              refine wpAnyH_ready (rs := [7]) (by kernel_rfl) (by simp) ?_
              refine AllReadyH.cons (o := { dst := none, op := .store 25 (.tmp 8) (.tmp 29), type := 0, pos := "law.go:198", after := #[{ on := 5, ground := .data }, { on := 3, ground := .data }, { on := 6, ground := .chain }, { on := 0, ground := .phase }, { on := 1, ground := .phase }, { on := 2, ground := .phase }, { on := 3, ground := .phase }, { on := 4, ground := .phase }, { on := 5, ground := .phase }, { on := 6, ground := .phase }], guard := none }) rfl (fun Kq hKq => ?_) ?_
              · have z0 : W7.cell? ⟨zz8, 0, none⟩ = some (.string ⟨#[]⟩) := HF7.out.2.1.four.c0
                have z1 : W7.cell? ⟨zz8, 1, none⟩ = some (.int .u8 0) := HF7.out.2.1.four.c1
                have z2 : W7.cell? ⟨zz8, 2, none⟩ = some (.string ⟨#[]⟩) := HF7.out.2.1.four.c2
                have z3 : W7.cell? ⟨zz8, 3, none⟩ = some (.slice none 0 0) := HF7.out.2.1.four.c3
                have zf := HF7.out.2.1.frozen
                go_simp
                have hp8 : Below w2.heap.size w2 (Ft.putF W7 zz8 f a8 c8) := Ft.putF_below hp7 HNe.out.2.2.1
                have HF8 : Hid (Sb w (Ft.putF W7 zz8 f a8 c8) zz7 (Y.heap.size + 1) (v24.heap.size) T a7 c7 ∧ Sb w (Ft.putF W7 zz8 f a8 c8) zz8 (v24.heap.size) (v26.heap.size) f a8 c8 ∧ Below w2.heap.size w2 (Ft.putF W7 zz8 f a8 c8)) := by
                  have hw8 : W7.heap.size ≤ (Ft.putF W7 zz8 f a8 c8).heap.size := (Ft.putF_below (Below.refl 0 W7) (Nat.zero_le _)).size
                  have hN := HNe.out
                  have hbw := HSt.out.bel.trans (hp8.mono HSt.out.bel.size)
                  have hF := HF7.out
                  exact ⟨⟨(Ft.putF_other hN.1).trans hF.1, hF.2.2.1.same (fun k hk => Ft.putF_other (by omega)) (fun _ h => h), Nat.le_trans hF.2.2.2.2.1 hw8, hbw, by omega⟩, ⟨hF.2.1.putF f a8 c8, hF.2.2.2.1.same (fun k hk => Ft.putF_other (by omega)) (fun _ h => h), Nat.le_trans hF.2.2.2.2.2 hw8, hbw, by omega⟩, hp8⟩
                refine hKq.out _ _ (HS8.out _ hp8) (fun _ => ?_)
                refine wpAnyH_done (by kernel_rfl) ?_ _
                clear hKq Kq z0 z1 z2 z3 zf
                go_wp2_with fail
                go_meet
                exact ⟨zz7, zz8, a7, c7, a8, c8, _, _, _, _, rfl, rfl, HF8⟩
              exact AllReadyH.nil
            exact AllReadyH.nil
          exact AllReadyH.nil
        refine AllReadyH.cons (o := { dst := some 8, op := .alloc 25, type := 0, pos := "law.go:198", after := #[], guard := none }) rfl (fun Kq hKq => ?_) ?_
        · go_simp
          have hr29 : Below (v24).heap.size (v24) ((v24.alloc (.cells #[.string ⟨#[]⟩, .int .u8 0, .string ⟨#[]⟩, .slice none 0 0] 25))) := (Below.refl _ _).alloc (Nat.le_refl _) _
          have hb29 : Below w2.heap.size w2 ((v24.alloc (.cells #[.string ⟨#[]⟩, .int .u8 0, .string ⟨#[]⟩, .slice none 0 0] 25))) := hb25.trans (hr29.mono hb25.size)
          have hs29 := HS8.out _ hb29
          have z7_29 := Ft.FileAt.under z7_25 hr29
          have c7_29 := Ft.Fd.underP fe24 (fun k hk => Nat.lt_of_lt_of_le hk.2 (Nat.le_refl v24.heap.size)) hr29
          have c7l_29 := Nat.le_trans (Nat.le_refl v24.heap.size) hr29.size
          have sa29 : (v24).heap.size = v24.heap.size := by rfl
          have z8_29 : Ft.FileAt (v24.alloc (.cells #[.string ⟨#[]⟩, .int .u8 0, .string ⟨#[]⟩, .slice none 0 0] 25)) (v24.heap.size) Ft.zF none 0 := by rw [← sa29]; exact Ft.file_zero v24
          refine hKq.out _ _ hs29 (fun _ => ?_)
          clear hKq Kq
          try simp only [Act.put, List.setIfInBounds_toArray, List.set_cons_zero, List.set_cons_succ]
          refine wpAnyH_ready (rs := [3]) (by kernel_rfl) (by simp) ?_
          refine AllReadyH.cons (o := { dst := some 29, op := .call { callee := .value (.func 14), args := #[.tmp 28], argTypes := #[25] }, type := 25, pos := "law.go:198", after := #[{ on := 2, ground := .data }, { on := 1, ground := .chain }], guard := none }) rfl (fun Kq hKq => ?_) ?_
          · go_simp
            refine Calls.mono (HCf.out _ hb29) ?_
            rintro e v30 ⟨a8, c8, rfl, fd30, rl30⟩
            have hr31 : Below ((v24.alloc (.cells #[.string ⟨#[]⟩, .int .u8 0, .string ⟨#[]⟩, .slice none 0 0] 25))).heap.size ((v24.alloc (.cells #[.string ⟨#[]⟩, .int .u8 0, .string ⟨#[]⟩, .slice none 0 0] 25))) (v30) := rl30
            have hb31 : Below w2.heap.size w2 (v30) := hb29.trans (hr31.mono hb29.size)
            have hs31 := HS8.out _ hb31
            have z7_31 := Ft.FileAt.under z7_29 hr31
            have z8_31 := Ft.FileAt.under z8_29 hr31
            have c7_31 := Ft.Fd.underP c7_29 (fun k hk => Nat.lt_of_lt_of_le hk.2 c7l_29) hr31
            have c7l_31 := Nat.le_trans c7l_29 hr31.size
            have se30 : ((v24.alloc (.cells #[.string ⟨#[]⟩, .int .u8 0, .string ⟨#[]⟩, .slice none 0 0] 25))).heap.size = v24.heap.size + 1 := by simp
            have hz30 : v24.heap.size + 1 ≤ v30.heap.size := by have := rl30.size; omega
            have fe30 : Ft.Fd v30 (fun k => v24.heap.size + 1 ≤ k ∧ k < v30.heap.size) f a8 c8 := by rw [← se30]; exact fd30.out
            refine hKq.out _ _ hs31 (fun _ => ?_)
            clear hKq Kq
            try simp only [Act.put, List.setIfInBounds_toArray, List.set_cons_zero, List.set_cons_succ]
            refine wpAnyH_ready (rs := [6]) (by kernel_rfl) (by simp) ?_
            refine AllReadyH.cons (o := { dst := none, op := .store 25 (.tmp 7) (.tmp 27), type := 0, pos := "law.go:198", after := #[{ on := 4, ground := .data }, { on := 1, ground := .data }, { on := 3, ground := .chain }, { on := 0, ground := .phase }, { on := 1, ground := .phase }, { on := 2, ground := .textOnly .lateStores }, { on := 3, ground := .textOnly .lateStoresUnsure }, { on := 4, ground := .phase }, { on := 5, ground := .phase }], guard := none }) rfl (fun Kq hKq => ?_) ?_
            · obtain ⟨zz7, hzz7⟩ : ∃ zz, zz = Y.heap.size := ⟨_, rfl⟩
              obtain ⟨zz8, hzz8⟩ : ∃ zz, zz = v24.heap.size := ⟨_, rfl⟩
              have HNe : Hid (zz7 ≠ zz8 ∧ w2.heap.size ≤ zz7 ∧ w2.heap.size ≤ zz8 ∧ (zz7 < Y.heap.size + 1 ∨ v24.heap.size ≤ zz7) ∧ (zz8 < Y.heap.size + 1 ∨ v24.heap.size ≤ zz8) ∧ (zz7 < v24.heap.size + 1 ∨ v30.heap.size ≤ zz7) ∧ (zz8 < v24.heap.size + 1 ∨ v30.heap.size ≤ zz8)) := by
                rw [hzz7, hzz8]; exact ⟨by omega, by omega, by omega, by omega, by omega, by omega, by omega⟩
              rw [← hzz7, ← hzz8]
              have zr7 : Ft.FileAt v30 zz7 Ft.zF none 0 := by rw [hzz7]; exact z7_31
              have zr8 : Ft.FileAt v30 zz8 Ft.zF none 0 := by rw [hzz8]; exact z8_31
              have HZZ : Hid (zz7 = Y.heap.size ∧ zz8 = v24.heap.size) := ⟨hzz7, hzz8⟩
              clear hzz7 hzz8
              have z0 : (v30).cell? ⟨zz7, 0, none⟩ = some (.string ⟨#[]⟩) := zr7.four.c0
              have z1 : (v30).cell? ⟨zz7, 1, none⟩ = some (.int .u8 0) := zr7.four.c1
              have z2 : (v30).cell? ⟨zz7, 2, none⟩ = some (.string ⟨#[]⟩) := zr7.four.c2
              have z3 : (v30).cell? ⟨zz7, 3, none⟩ = some (.slice none 0 0) := zr7.four.c3
              have zf := zr7.frozen
              go_simp
              obtain ⟨W7, hW7⟩ : ∃ W7, W7 = Ft.putF (v30) zz7 T a7 c7 := ⟨_, rfl⟩
              have hp7 : Below w2.heap.size w2 W7 := by rw [hW7]; exact Ft.putF_below hb31 HNe.out.2.1
              have hot7 : ∀ k, k ≠ zz7 → W7.heap[k]? = (v30).heap[k]? := fun k hk => by rw [hW7]; exact Ft.putF_other hk
              have HF7 : Hid (Ft.FileAt W7 zz7 T a7 c7 ∧ Ft.FileAt W7 zz8 Ft.zF none 0 ∧ Ft.Fd W7 (fun k => Y.heap.size + 1 ≤ k ∧ k < v24.heap.size) T a7 c7 ∧ Ft.Fd W7 (fun k => v24.heap.size + 1 ≤ k ∧ k < v30.heap.size) f a8 c8 ∧ v24.heap.size ≤ W7.heap.size ∧ v30.heap.size ≤ W7.heap.size) := by
                have hw7 : (v30).heap.size ≤ W7.heap.size := by rw [hW7]; exact (Ft.putF_below (Below.refl 0 (v30)) (Nat.zero_le _)).size
                have hc7 := c7l_31
                have hc8 := (Nat.le_refl v30.heap.size)
                have hN := HNe.out
                exact ⟨by rw [hW7]; exact zr7.putF T a7 c7, (hot7 _ (fun e => hN.1 e.symm)).trans zr8, Ft.Fd.same c7_31 (fun k hk => hot7 k (by omega)) (fun _ h => h), Ft.Fd.same fe30 (fun k hk => hot7 k (by omega)) (fun _ h => h), Nat.le_trans hc7 hw7, Nat.le_trans hc8 hw7⟩
              have HW7 : Hid (W7 = ((((v30).setCell ⟨zz7, 0, none⟩ (.string T.nm)).setCell ⟨zz7, 1, none⟩ (.int .u8 (T.k : Int))).setCell ⟨zz7, 2, none⟩ (.string T.d)).setCell ⟨zz7, 3, none⟩ (.slice a7 T.kids.length c7)) := hW7
              rw [← HW7.out]
              refine hKq.out _ _ (HS8.out _ hp7) (fun _ => ?_)
              clear hKq Kq z0 z1 z2 z3 zf hW7 hot7 zr7 zr8
              try simp only [Act.put, List.setIfInBounds_toArray, List.set_cons_zero, List.set_cons_succ]
              refine wpAnyH_ready (rs := [7]) (by kernel_rfl) (by simp) ?_
              refine AllReadyH.cons (o := { dst := none, op := .store 25 (.tmp 8) (.tmp 29), type := 0, pos := "law.go:198", after := #[{ on := 5, ground := .data }, { on := 3, ground := .data }, { on := 6, ground := .chain }, { on := 0, ground := .phase }, { on := 1, ground := .phase }, { on := 2, ground := .phase }, { on := 3, ground := .phase }, { on := 4, ground := .phase }, { on := 5, ground := .phase }, { on := 6, ground := .phase }], guard := none }) rfl (fun Kq hKq => ?_) ?_
              · have z0 : W7.cell? ⟨zz8, 0, none⟩ = some (.string ⟨#[]⟩) := HF7.out.2.1.four.c0
                have z1 : W7.cell? ⟨zz8, 1, none⟩ = some (.int .u8 0) := HF7.out.2.1.four.c1
                have z2 : W7.cell? ⟨zz8, 2, none⟩ = some (.string ⟨#[]⟩) := HF7.out.2.1.four.c2
                have z3 : W7.cell? ⟨zz8, 3, none⟩ = some (.slice none 0 0) := HF7.out.2.1.four.c3
                have zf := HF7.out.2.1.frozen
                go_simp
                have hp8 : Below w2.heap.size w2 (Ft.putF W7 zz8 f a8 c8) := Ft.putF_below hp7 HNe.out.2.2.1
                have HF8 : Hid (Sb w (Ft.putF W7 zz8 f a8 c8) zz7 (Y.heap.size + 1) (v24.heap.size) T a7 c7 ∧ Sb w (Ft.putF W7 zz8 f a8 c8) zz8 (v24.heap.size + 1) (v30.heap.size) f a8 c8 ∧ Below w2.heap.size w2 (Ft.putF W7 zz8 f a8 c8)) := by
                  have hw8 : W7.heap.size ≤ (Ft.putF W7 zz8 f a8 c8).heap.size := (Ft.putF_below (Below.refl 0 W7) (Nat.zero_le _)).size
                  have hN := HNe.out
                  have hbw := HSt.out.bel.trans (hp8.mono HSt.out.bel.size)
                  have hF := HF7.out
                  exact ⟨⟨(Ft.putF_other hN.1).trans hF.1, hF.2.2.1.same (fun k hk => Ft.putF_other (by omega)) (fun _ h => h), Nat.le_trans hF.2.2.2.2.1 hw8, hbw, by omega⟩, ⟨hF.2.1.putF f a8 c8, hF.2.2.2.1.same (fun k hk => Ft.putF_other (by omega)) (fun _ h => h), Nat.le_trans hF.2.2.2.2.2 hw8, hbw, by omega⟩, hp8⟩
                refine hKq.out _ _ (HS8.out _ hp8) (fun _ => ?_)
                refine wpAnyH_done (by kernel_rfl) ?_ _
                clear hKq Kq z0 z1 z2 z3 zf
                go_wp2_with fail
                go_meet
                exact ⟨zz7, zz8, a7, c7, a8, c8, _, _, _, _, rfl, rfl, HF8⟩
              exact AllReadyH.nil
            exact AllReadyH.nil
          exact AllReadyH.nil
        exact AllReadyH.nil
      refine AllReadyH.cons (o := { dst := some 8, op := .alloc 25, type := 0, pos := "law.go:198", after := #[], guard := none }) rfl (fun Kq hKq => ?_) ?_
      · go_simp
        have hr32 : Below ((Y.alloc (.cells #[.string ⟨#[]⟩, .int .u8 0, .string ⟨#[]⟩, .slice none 0 0] 25))).heap.size ((Y.alloc (.cells #[.string ⟨#[]⟩, .int .u8 0, .string ⟨#[]⟩, .slice none 0 0] 25))) (((Y.alloc (.cells #[.string ⟨#[]⟩, .int .u8 0, .string ⟨#[]⟩, .slice none 0 0] 25)).alloc (.cells #[.string ⟨#[]⟩, .int .u8 0, .string ⟨#[]⟩, .slice none 0 0] 25))) := (Below.refl _ _).alloc (Nat.le_refl _) _
        have hb32 : Below w2.heap.size w2 (((Y.alloc (.cells #[.string ⟨#[]⟩, .int .u8 0, .string ⟨#[]⟩, .slice none 0 0] 25)).alloc (.cells #[.string ⟨#[]⟩, .int .u8 0, .string ⟨#[]⟩, .slice none 0 0] 25))) := hb23.trans (hr32.mono hb23.size)
        have hs32 := HS8.out _ hb32
        have z7_32 := Ft.FileAt.under z7_23 hr32
        have sa32 : ((Y.alloc (.cells #[.string ⟨#[]⟩, .int .u8 0, .string ⟨#[]⟩, .slice none 0 0] 25))).heap.size = Y.heap.size + 1 := by simp
        have z8_32 : Ft.FileAt ((Y.alloc (.cells #[.string ⟨#[]⟩, .int .u8 0, .string ⟨#[]⟩, .slice none 0 0] 25)).alloc (.cells #[.string ⟨#[]⟩, .int .u8 0, .string ⟨#[]⟩, .slice none 0 0] 25)) (Y.heap.size + 1) Ft.zF none 0 := by rw [← sa32]; exact Ft.file_zero (Y.alloc (.cells #[.string ⟨#[]⟩, .int .u8 0, .string ⟨#[]⟩, .slice none 0 0] 25))
        refine hKq.out _ _ hs32 (fun _ => ?_)
        clear hKq Kq
        try simp only [Act.put, List.setIfInBounds_toArray, List.set_cons_zero, List.set_cons_succ]
        refine wpAnyH_ready (rs := [1]) (by kernel_rfl) (by simp) ?_
        refine AllReadyH.cons (o := { dst := some 27, op := .call { callee := .value (.func 14), args := #[.tmp 26], argTypes := #[25] }, type := 25, pos := "law.go:198", after := #[{ on := 0, ground := .data }], guard := none }) rfl (fun Kq hKq => ?_) ?_
        · go_simp
          refine Calls.mono (HCt.out _ hb32) ?_
          rintro e v33 ⟨a7, c7, rfl, fd33, rl33⟩
          have hr34 : Below (((Y.alloc (.cells #[.string ⟨#[]⟩, .int .u8 0, .string ⟨#[]⟩, .slice none 0 0] 25)).alloc (.cells #[.string ⟨#[]⟩, .int .u8 0, .string ⟨#[]⟩, .slice none 0 0] 25))).heap.size (((Y.alloc (.cells #[.string ⟨#[]⟩, .int .u8 0, .string ⟨#[]⟩, .slice none 0 0] 25)).alloc (.cells #[.string ⟨#[]⟩, .int .u8 0, .string ⟨#[]⟩, .slice none 0 0] 25))) (v33) := rl33
          have hb34 : Below w2.heap.size w2 (v33) := hb32.trans (hr34.mono hb32.size)
          have hs34 := HS8.out _ hb34
          have z7_34 := Ft.FileAt.under z7_32 hr34
          have z8_34 := Ft.FileAt.under z8_32 hr34
          have se33 : (((Y.alloc (.cells #[.string ⟨#[]⟩, .int .u8 0, .string ⟨#[]⟩, .slice none 0 0] 25)).alloc (.cells #[.string ⟨#[]⟩, .int .u8 0, .string ⟨#[]⟩, .slice none 0 0] 25))).heap.size = Y.heap.size + 1 + 1 := by simp
          have hz33 : Y.heap.size + 1 + 1 ≤ v33.heap.size := by have := rl33.size; omega
          have fe33 : Ft.Fd v33 (fun k => Y.heap.size + 1 + 1 ≤ k ∧ k < v33.heap.size) T a7 c7 := by rw [← se33]; exact fd33.out
          refine hKq.out _ _ hs34 (fun _ => ?_)
          clear hKq Kq
          try simp only [Act.put, List.setIfInBounds_toArray, List.set_cons_zero, List.set_cons_succ]
          refine wpAnyH_ready (rs := [3]) (by kernel_rfl) (by simp) ?_
          refine AllReadyH.cons (o := { dst := some 29, op := .call { callee := .value (.func 14), args := #[.tmp 28], argTypes := #[25] }, type := 25, pos := "law.go:198", after := #[{ on := 2, ground := .data }, { on := 1, ground := .chain }], guard := none }) rfl (fun Kq hKq => ?_) ?_
          · go_simp
            refine Calls.mono (HCf.out _ hb34) ?_
            rintro e v35 ⟨a8, c8, rfl, fd35, rl35⟩
            have hr36 : Below (v33).heap.size (v33) (v35) := rl35
            have hb36 : Below w2.heap.size w2 (v35) := hb34.trans (hr36.mono hb34.size)
            have hs36 := HS8.out _ hb36
            have z7_36 := Ft.FileAt.under z7_34 hr36
            have z8_36 := Ft.FileAt.under z8_34 hr36
            have c7_36 := Ft.Fd.underP fe33 (fun k hk => Nat.lt_of_lt_of_le hk.2 (Nat.le_refl v33.heap.size)) hr36
            have c7l_36 := Nat.le_trans (Nat.le_refl v33.heap.size) hr36.size
            have se35 : (v33).heap.size = v33.heap.size := by rfl
            have hz35 : v33.heap.size ≤ v35.heap.size := by have := rl35.size; omega
            have fe35 : Ft.Fd v35 (fun k => v33.heap.size ≤ k ∧ k < v35.heap.size) f a8 c8 := by rw [← se35]; exact fd35.out
            refine hKq.out _ _ hs36 (fun _ => ?_)
            clear hKq Kq
            try simp only [Act.put, List.setIfInBounds_toArray, List.set_cons_zero, List.set_cons_succ]
            refine wpAnyH_ready (rs := [6]) (by kernel_rfl) (by simp) ?_
            refine AllReadyH.cons (o := { dst := none, op := .store 25 (.tmp 7) (.tmp 27), type := 0, pos := "law.go:198", after := #[{ on := 4, ground := .data }, { on := 1, ground := .data }, { on := 3, ground := .chain }, { on := 0, ground := .phase }, { on := 1, ground := .phase }, { on := 2, ground := .textOnly .lateStores }, { on := 3, ground := .textOnly .lateStoresUnsure }, { on := 4, ground := .phase }, { on := 5, ground := .phase }], guard := none }) rfl (fun Kq hKq => ?_) ?_
            · obtain ⟨zz7, hzz7⟩ : ∃ zz, zz = Y.heap.size := ⟨_, rfl⟩
              obtain ⟨zz8, hzz8⟩ : ∃ zz, zz = Y.heap.size + 1 := ⟨_, rfl⟩
              have HNe : Hid (zz7 ≠ zz8 ∧ w2.heap.size ≤ zz7 ∧ w2.heap.size ≤ zz8 ∧ (zz7 < Y.heap.size + 1 + 1 ∨ v33.heap.size ≤ zz7) ∧ (zz8 < Y.heap.size + 1 + 1 ∨ v33.heap.size ≤ zz8) ∧ (zz7 < v33.heap.size ∨ v35.heap.size ≤ zz7) ∧ (zz8 < v33.heap.size ∨ v35.heap.size ≤ zz8)) := by
                rw [hzz7, hzz8]; exact ⟨by omega, by omega, by omega, by omega, by omega, by omega, by omega⟩
              rw [← hzz8, ← hzz7]
              have zr7 : Ft.FileAt v35 zz7 Ft.zF none 0 := by rw [hzz7]; exact z7_36
              have zr8 : Ft.FileAt v35 zz8 Ft.zF none 0 := by rw [hzz8]; exact z8_36
              have HZZ : Hid (zz7 = Y.heap.size ∧ zz8 = Y.heap.size + 1) := ⟨hzz7, hzz8⟩
              clear hzz7 hzz8
              have z0 : (v35).cell? ⟨zz7, 0, none⟩ = some (.string ⟨#[]⟩) := zr7.four.c0
              have z1 : (v35).cell? ⟨zz7, 1, none⟩ = some (.int .u8 0) := zr7.four.c1
              have z2 : (v35).cell? ⟨zz7, 2, none⟩ = some (.string ⟨#[]⟩) := zr7.four.c2
              have z3 : (v35).cell? ⟨zz7, 3, none⟩ = some (.slice none 0 0) := zr7.four.c3
              have zf := zr7.frozen
              go_simp
              obtain ⟨W7, hW7⟩ : ∃ W7, W7 = Ft.putF (v35) zz7 T a7 c7 := ⟨_, rfl⟩
              have hp7 : Below w2.heap.size w2 W7 := by rw [hW7]; exact Ft.putF_below hb36 HNe.out.2.1
              have hot7 : ∀ k, k ≠ zz7 → W7.heap[k]? = (v35).heap[k]? := fun k hk => by rw [hW7]; exact Ft.putF_other hk
              have HF7 : Hid (Ft.FileAt W7 zz7 T a7 c7 ∧ Ft.FileAt W7 zz8 Ft.zF none 0 ∧ Ft.Fd W7 (fun k => Y.heap.size + 1 + 1 ≤ k ∧ k < v33.heap.size) T a7 c7 ∧ Ft.Fd W7 (fun k => v33.heap.size ≤ k ∧ k < v35.heap.size) f a8 c8 ∧ v33.heap.size ≤ W7.heap.size ∧ v35.heap.size ≤ W7.heap.size) := by
                have hw7 : (v35).heap.size ≤ W7.heap.size := by rw [hW7]; exact (Ft.putF_below (Below.refl 0 (v35)) (Nat.zero_le _)).size
                have hc7 := c7l_36
                have hc8 := (Nat.le_refl v35.heap.size)
                have hN := HNe.out
                exact ⟨by rw [hW7]; exact zr7.putF T a7 c7, (hot7 _ (fun e => hN.1 e.symm)).trans zr8, Ft.Fd.same c7_36 (fun k hk => hot7 k (by omega)) (fun _ h => h), Ft.Fd.same fe35 (fun k hk => hot7 k (by omega)) (fun _ h => h), Nat.le_trans hc7 hw7, Nat.le_trans hc8 hw7⟩
              have HW7 : Hid (W7 = ((((v35).setCell ⟨zz7, 0, none⟩ (.string T.nm)).setCell ⟨zz7, 1, none⟩ (.int .u8 (T.k : Int))).setCell ⟨zz7, 2, none⟩ (.string T.d)).setCell ⟨zz7, 3, none⟩ (.slice a7 T.kids.length c7)) := hW7
              rw [← HW7.out]
              refine hKq.out _ _ (HS8.out _ hp7) (fun _ => ?_)
              clear hKq Kq z0 z1 z2 z3 zf hW7 hot7 zr7 zr8
              try simp only [Act.put, List.setIfInBounds_toArray, List.set_cons_zero, List.set_cons_succ]
              refine wpAnyH_ready (rs := [7]) (by kernel_rfl) (by simp) ?_
              refine AllReadyH.cons (o := { dst := none, op := .store 25 (.tmp 8) (.tmp 29), type := 0, pos := "law.go:198", after := #[{ on := 5, ground := .data }, { on := 3, ground := .data }, { on := 6, ground := .chain }, { on := 0, ground := .phase }, { on := 1, ground := .phase }, { on := 2, ground := .phase }, { on := 3, ground := .phase }, { on := 4, ground := .phase }, { on := 5, ground := .phase }, { on := 6, ground := .phase }], guard := none }) rfl (fun Kq hKq => ?_) ?_
              · have z0 : W7.cell? ⟨zz8, 0, none⟩ = some (.string ⟨#[]⟩) := HF7.out.2.1.four.c0
                have z1 : W7.cell? ⟨zz8, 1, none⟩ = some (.int .u8 0) := HF7.out.2.1.four.c1
                have z2 : W7.cell? ⟨zz8, 2, none⟩ = some (.string ⟨#[]⟩) := HF7.out.2.1.four.c2
                have z3 : W7.cell? ⟨zz8, 3, none⟩ = some (.slice none 0 0) := HF7.out.2.1.four.c3
                have zf := HF7.out.2.1.frozen
                go_simp
                have hp8 : Below w2.heap.size w2 (Ft.putF W7 zz8 f a8 c8) := Ft.putF_below hp7 HNe.out.2.2.1
                have HF8 : Hid (Sb w (Ft.putF W7 zz8 f a8 c8) zz7 (Y.heap.size + 1 + 1) (v33.heap.size) T a7 c7 ∧ Sb w (Ft.putF W7 zz8 f a8 c8) zz8 (v33.heap.size) (v35.heap.size) f a8 c8 ∧ Below w2.heap.size w2 (Ft.putF W7 zz8 f a8 c8)) := by
                  have hw8 : W7.heap.size ≤ (Ft.putF W7 zz8 f a8 c8).heap.size := (Ft.putF_below (Below.refl 0 W7) (Nat.zero_le _)).size
                  have hN := HNe.out
                  have hbw := HSt.out.bel.trans (hp8.mono HSt.out.bel.size)
                  have hF := HF7.out
                  exact ⟨⟨(Ft.putF_other hN.1).trans hF.1, hF.2.2.1.same (fun k hk => Ft.putF_other (by omega)) (fun _ h => h), Nat.le_trans hF.2.2.2.2.1 hw8, hbw, by omega⟩, ⟨hF.2.1.putF f a8 c8, hF.2.2.2.1.same (fun k hk => Ft.putF_other (by omega)) (fun _ h => h), Nat.le_trans hF.2.2.2.2.2 hw8, hbw, by omega⟩, hp8⟩
                refine hKq.out _ _ (HS8.out _ hp8) (fun _ => ?_)
                refine wpAnyH_done (by kernel_rfl) ?_ _
                clear hKq Kq z0 z1 z2 z3 zf
                go_wp2_with fail
                go_meet
                exact ⟨zz7, zz8, a7, c7, a8, c8, _, _, _, _, rfl, rfl, HF8⟩
              exact AllReadyH.nil
            exact AllReadyH.nil
          exact AllReadyH.nil
        exact AllReadyH.nil
      exact AllReadyH.nil
    refine AllReadyH.cons (o := { dst := some 8, op := .alloc 25, type := 0, pos := "law.go:198", after := #[], guard := none }) rfl (fun Kq hKq => ?_) ?_
    · go_simp
      have hr37 : Below (Y).heap.size (Y) ((Y.alloc (.cells #[.string ⟨#[]⟩, .int .u8 0, .string ⟨#[]⟩, .slice none 0 0] 25))) := (Below.refl _ _).alloc (Nat.le_refl _) _
      have hb37 : Below w2.heap.size w2 ((Y.alloc (.cells #[.string ⟨#[]⟩, .int .u8 0, .string ⟨#[]⟩, .slice none 0 0] 25))) := hbY.trans (hr37.mono hbY.size)
      have hs37 := HS8.out _ hb37
      have sa37 : (Y).heap.size = Y.heap.size := by rfl
      have z8_37 : Ft.FileAt (Y.alloc (.cells #[.string ⟨#[]⟩, .int .u8 0, .string ⟨#[]⟩, .slice none 0 0] 25)) (Y.heap.size) Ft.zF none 0 := by rw [← sa37]; exact Ft.file_zero Y
      refine hKq.out _ _ hs37 (fun _ => ?_)
      clear hKq Kq
      try simp only [Act.put, List.setIfInBounds_toArray, List.set_cons_zero, List.set_cons_succ]
      refine wpAnyH_ready (rs := [1, 4]) (by kernel_rfl) (by simp) ?_
      refine AllReadyH.cons (o := { dst := some 27, op := .call { callee := .value (.func 14), args := #[.tmp 26], argTypes := #[25] }, type := 25, pos := "law.go:198", after := #[{ on := 0, ground := .data }], guard := none }) rfl (fun Kq hKq => ?_) ?_
      · go_simp
        refine Calls.mono (HCt.out _ hb37) ?_
        rintro e v38 ⟨a7, c7, rfl, fd38, rl38⟩
        have hr39 : Below ((Y.alloc (.cells #[.string ⟨#[]⟩, .int .u8 0, .string ⟨#[]⟩, .slice none 0 0] 25))).heap.size ((Y.alloc (.cells #[.string ⟨#[]⟩, .int .u8 0, .string ⟨#[]⟩, .slice none 0 0] 25))) (v38) := rl38
        have hb39 : Below w2.heap.size w2 (v38) := hb37.trans (hr39.mono hb37.size)
        have hs39 := HS8.out _ hb39
        have z8_39 := Ft.FileAt.under z8_37 hr39
        have se38 : ((Y.alloc (.cells #[.string ⟨#[]⟩, .int .u8 0, .string ⟨#[]⟩, .slice none 0 0] 25))).heap.size = Y.heap.size + 1 := by simp
        have hz38 : Y.heap.size + 1 ≤ v38.heap.size := by have := rl38.size; omega
        have fe38 : Ft.Fd v38 (fun k => Y.heap.size + 1 ≤ k ∧ k < v38.heap.size) T a7 c7 := by rw [← se38]; exact fd38.out
        refine hKq.out _ _ hs39 (fun _ => ?_)
        clear hKq Kq
        try simp only [Act.put, List.setIfInBounds_toArray, List.set_cons_zero, List.set_cons_succ]
        refine wpAnyH_ready (rs := [3, 4]) (by kernel_rfl) (by simp) ?_
        refine AllReadyH.cons (o := { dst := some 29, op := .call { callee := .value (.func 14), args := #[.tmp 28], argTypes := #[25] }, type := 25, pos := "law.go:198", after := #[{ on := 2, ground := .data }, { on := 1, ground := .chain }], guard := none }) rfl (fun Kq hKq => ?_) ?_
        · go_simp
          refine Calls.mono (HCf.out _ hb39) ?_
          rintro e v40 ⟨a8, c8, rfl, fd40, rl40⟩
          have hr41 : Below (v38).heap.size (v38) (v40) := rl40
          have hb41 : Below w2.heap.size w2 (v40) := hb39.trans (hr41.mono hb39.size)
          have hs41 := HS8.out _ hb41
          have z8_41 := Ft.FileAt.under z8_39 hr41
          have c7_41 := Ft.Fd.underP fe38 (fun k hk => Nat.lt_of_lt_of_le hk.2 (Nat.le_refl v38.heap.size)) hr41
          have c7l_41 := Nat.le_trans (Nat.le_refl v38.heap.size) hr41.size
          have se40 : (v38).heap.size = v38.heap.size := by rfl
          have hz40 : v38.heap.size ≤ v40.heap.size := by have := rl40.size; omega
          have fe40 : Ft.Fd v40 (fun k => v38.heap.size ≤ k ∧ k < v40.heap.size) f a8 c8 := by rw [← se40]; exact fd40.out
          refine hKq.out _ _ hs41 (fun _ => ?_)
          clear hKq Kq
          try simp only [Act.put, List.setIfInBounds_toArray, List.set_cons_zero, List.set_cons_succ]
          refine wpAnyH_ready (rs := [4]) (by kernel_rfl) (by simp) ?_
          refine AllReadyH.cons (o := { dst := some 7, op := .alloc 25, type := 0, pos := "law.go:198", after := #[], guard := none }) rfl (fun Kq hKq => ?_) ?_
          · go_simp
            have hr42 : Below (v40).heap.size (v40) ((v40.alloc (.cells #[.string ⟨#[]⟩, .int .u8 0, .string ⟨#[]⟩, .slice none 0 0] 25))) := (Below.refl _ _).alloc (Nat.le_refl _) _
            have hb42 : Below w2.heap.size w2 ((v40.alloc (.cells #[.string ⟨#[]⟩, .int .u8 0, .string ⟨#[]⟩, .slice none 0 0] 25))) := hb41.trans (hr42.mono hb41.size)
            have hs42 := HS8.out _ hb42
            have z8_42 := Ft.FileAt.under z8_41 hr42
            have c7_42 := Ft.Fd.underP c7_41 (fun k hk => Nat.lt_of_lt_of_le hk.2 c7l_41) hr42
            have c7l_42 := Nat.le_trans c7l_41 hr42.size
            have c8_42 := Ft.Fd.underP fe40 (fun k hk => Nat.lt_of_lt_of_le hk.2 (Nat.le_refl v40.heap.size)) hr42
            have c8l_42 := Nat.le_trans (Nat.le_refl v40.heap.size) hr42.size
            have sa42 : (v40).heap.size = v40.heap.size := by rfl
            have z7_42 : Ft.FileAt (v40.alloc (.cells #[.string ⟨#[]⟩, .int .u8 0, .string ⟨#[]⟩, .slice none 0 0] 25)) (v40.heap.size) Ft.zF none 0 := by rw [← sa42]; exact Ft.file_zero v40
            refine hKq.out _ _ hs42 (fun _ => ?_)
            clear hKq Kq
            try simp only [Act.put, List.setIfInBounds_toArray, List.set_cons_zero, List.set_cons_succ]
            refine wpAnyH_ready (rs := [6]) (by kernel_rfl) (by simp) ?_
            refine AllReadyH.cons (o := { dst := none, op := .store 25 (.tmp 7) (.tmp 27), type := 0, pos := "law.go:198", after := #[{ on := 4, ground := .data }, { on := 1, ground := .data }, { on := 3, ground := .chain }, { on := 0, ground := .phase }, { on := 1, ground := .phase }, { on := 2, ground := .textOnly .lateStores }, { on := 3, ground := .textOnly .lateStoresUnsure }, { on := 4, ground := .phase }, { on := 5, ground := .phase }], guard := none }) rfl (fun Kq hKq => ?_) ?_
            · obtain ⟨zz7, hzz7⟩ : ∃ zz, zz = v40.heap.size := ⟨_, rfl⟩
              obtain ⟨zz8, hzz8⟩ : ∃ zz, zz = Y.heap.size := ⟨_, rfl⟩
              have HNe : Hid (zz7 ≠ zz8 ∧ w2.heap.size ≤ zz7 ∧ w2.heap.size ≤ zz8 ∧ (zz7 < Y.heap.size + 1 ∨ v38.heap.size ≤ zz7) ∧ (zz8 < Y.heap.size + 1 ∨ v38.heap.size ≤ zz8) ∧ (zz7 < v38.heap.size ∨ v40.heap.size ≤ zz7) ∧ (zz8 < v38.heap.size ∨ v40.heap.size ≤ zz8)) := by
                rw [hzz7, hzz8]; exact ⟨by omega, by omega, by omega, by omega, by omega, by omega, by omega⟩
              rw [← hzz7, ← hzz8]
              have zr7 : Ft.FileAt (v40.alloc (.cells #[.string ⟨#[]⟩, .int .u8 0, .string ⟨#[]⟩, .slice none 0 0] 25)) zz7 Ft.zF none 0 := by rw [hzz7]; exact z7_42
              have zr8 : Ft.FileAt (v40.alloc (.cells #[.string ⟨#[]⟩, .int .u8 0, .string ⟨#[]⟩, .slice none 0 0] 25)) zz8 Ft.zF none 0 := by rw [hzz8]; exact z8_42
              have HZZ : Hid (zz7 = v40.heap.size ∧ zz8 = Y.heap.size) := ⟨hzz7, hzz8⟩
              clear hzz7 hzz8
              have z0 : ((v40.alloc (.cells #[.string ⟨#[]⟩, .int .u8 0, .string ⟨#[]⟩, .slice none 0 0] 25))).cell? ⟨zz7, 0, none⟩ = some (.string ⟨#[]⟩) := zr7.four.c0
              have z1 : ((v40.alloc (.cells #[.string ⟨#[]⟩, .int .u8 0, .string ⟨#[]⟩, .slice none 0 0] 25))).cell? ⟨zz7, 1, none⟩ = some (.int .u8 0) := zr7.four.c1
              have z2 : ((v40.alloc (.cells #[.string ⟨#[]⟩, .int .u8 0, .string ⟨#[]⟩, .slice none 0 0] 25))).cell? ⟨zz7, 2, none⟩ = some (.string ⟨#[]⟩) := zr7.four.c2
              have z3 : ((v40.alloc (.cells #[.string ⟨#[]⟩, .int .u8 0, .string ⟨#[]⟩, .slice none 0 0] 25))).cell? ⟨zz7, 3, none⟩ = some (.slice none 0 0) := zr7.four.c3
              have zf := zr7.frozen
              go_simp
              obtain ⟨W7, hW7⟩ : ∃ W7, W7 = Ft.putF ((v40.alloc (.cells #[.string ⟨#[]⟩, .int .u8 0, .string ⟨#[]⟩, .slice none 0 0] 25))) zz7 T a7 c7 := ⟨_, rfl⟩
              have hp7 : Below w2.heap.size w2 W7 := by rw [hW7]; exact Ft.putF_below hb42 HNe.out.2.1
              have hot7 : ∀ k, k ≠ zz7 → W7.heap[k]? = ((v40.alloc (.cells #[.string ⟨#[]⟩, .int .u8 0, .string ⟨#[]⟩, .slice none 0 0] 25))).heap[k]? := fun k hk => by rw [hW7]; exact Ft.putF_other hk
              have HF7 : Hid (Ft.FileAt W7 zz7 T a7 c7 ∧ Ft.FileAt W7 zz8 Ft.zF none 0 ∧ Ft.Fd W7 (fun k => Y.heap.size + 1 ≤ k ∧ k < v38.heap.size) T a7 c7 ∧ Ft.Fd W7 (fun k => v38.heap.size ≤ k ∧ k < v40.heap.size) f a8 c8 ∧ v38.heap.size ≤ W7.heap.size ∧ v40.heap.size ≤ W7.heap.size) := by
                have hw7 : ((v40.alloc (.cells #[.string ⟨#[]⟩, .int .u8 0, .string ⟨#[]⟩, .slice none 0 0] 25))).heap.size ≤ W7.heap.size := by rw [hW7]; exact (Ft.putF_below (Below.refl 0 ((v40.alloc (.cells #[.string ⟨#[]⟩, .int .u8 0, .string ⟨#[]⟩, .slice none 0 0] 25)))) (Nat.zero_le _)).size
                have hc7 := c7l_42
                have hc8 := c8l_42
                have hN := HNe.out
                exact ⟨by rw [hW7]; exact zr7.putF T a7 c7, (hot7 _ (fun e => hN.1 e.symm)).trans zr8, Ft.Fd.same c7_42 (fun k hk => hot7 k (by omega)) (fun _ h => h), Ft.Fd.same c8_42 (fun k hk => hot7 k (by omega)) (fun _ h => h), Nat.le_trans hc7 hw7, Nat.le_trans hc8 hw7⟩
              have HW7 : Hid (W7 = (((((v40.alloc (.cells #[.string ⟨#[]⟩, .int .u8 0, .string ⟨#[]⟩, .slice none 0 0] 25))).setCell ⟨zz7, 0, none⟩ (.string T.nm)).setCell ⟨zz7, 1, none⟩ (.int .u8 (T.k : Int))).setCell ⟨zz7, 2, none⟩ (.string T.d)).setCell ⟨zz7, 3, none⟩ (.slice a7 T.kids.length c7)) := hW7
              rw [← HW7.out]
              refine hKq.out _ _ (HS8.out _ hp7) (fun _ => ?_)
              clear hKq Kq z0 z1 z2 z3 zf hW7 hot7 zr7 zr8
              try simp only [Act.put, List.setIfInBounds_toArray, List.set_cons_zero, List.set_cons_succ]
              refine wpAnyH_ready (rs := [7]) (by kernel_rfl) (by simp) ?_
              refine AllReadyH.cons (o := { dst := none, op := .store 25 (.tmp 8) (.tmp 29), type := 0, pos := "law.go:198", after := #[{ on := 5, ground := .data }, { on := 3, ground := .data }, { on := 6, ground := .chain }, { on := 0, ground := .phase }, { on := 1, ground := .phase }, { on := 2, ground := .phase }, { on := 3, ground := .phase }, { on := 4, ground := .phase }, { on := 5, ground := .phase }, { on := 6, ground := .phase }], guard := none }) rfl (fun Kq hKq => ?_) ?_
              · have z0 : W7.cell? ⟨zz8, 0, none⟩ = some (.string ⟨#[]⟩) := HF7.out.2.1.four.c0
                have z1 : W7.cell? ⟨zz8, 1, none⟩ = some (.int .u8 0) := HF7.out.2.1.four.c1
                have z2 : W7.cell? ⟨zz8, 2, none⟩ = some (.string ⟨#[]⟩) := HF7.out.2.1.four.c2
                have z3 : W7.cell? ⟨zz8, 3, none⟩ = some (.slice none 0 0) := HF7.out.2.1.four.c3
                have zf := HF7.out.2.1.frozen
                go_simp
                have hp8 : Below w2.heap.size w2 (Ft.putF W7 zz8 f a8 c8) := Ft.putF_below hp7 HNe.out.2.2.1
                have HF8 : Hid (Sb w (Ft.putF W7 zz8 f a8 c8) zz7 (Y.heap.size + 1) (v38.heap.size) T a7 c7 ∧ Sb w (Ft.putF W7 zz8 f a8 c8) zz8 (v38.heap.size) (v40.heap.size) f a8 c8 ∧ Below w2.heap.size w2 (Ft.putF W7 zz8 f a8 c8)) := by
                  have hw8 : W7.heap.size ≤ (Ft.putF W7 zz8 f a8 c8).heap.size := (Ft.putF_below (Below.refl 0 W7) (Nat.zero_le _)).size
                  have hN := HNe.out
                  have hbw := HSt.out.bel.trans (hp8.mono HSt.out.bel.size)
                  have hF := HF7.out
                  exact ⟨⟨(Ft.putF_other hN.1).trans hF.1, hF.2.2.1.same (fun k hk => Ft.putF_other (by omega)) (fun _ h => h), Nat.le_trans hF.2.2.2.2.1 hw8, hbw, by omega⟩, ⟨hF.2.1.putF f a8 c8, hF.2.2.2.1.same (fun k hk => Ft.putF_other (by omega)) (fun _ h => h), Nat.le_trans hF.2.2.2.2.2 hw8, hbw, by omega⟩, hp8⟩
                refine hKq.out _ _ (HS8.out _ hp8) (fun _ => ?_)
                refine wpAnyH_done (by kernel_rfl) ?_ _
                clear hKq Kq z0 z1 z2 z3 zf
                go_wp2_with fail
                go_meet
                exact ⟨zz7, zz8, a7, c7, a8, c8, _, _, _, _, rfl, rfl, HF8⟩
              exact AllReadyH.nil
            exact AllReadyH.nil
          exact AllReadyH.nil
        refine AllReadyH.cons (o := { dst := some 7, op := .alloc 25, type := 0, pos := "law.go:198", after := #[], guard := none }) rfl (fun Kq hKq => ?_) ?_
        · go_simp
          have hr43 : Below (v38).heap.size (v38) ((v38.alloc (.cells #[.string ⟨#[]⟩, .int .u8 0, .string ⟨#[]⟩, .slice none 0 0] 25))) := (Below.refl _ _).alloc (Nat.le_refl _) _
          have hb43 : Below w2.heap.size w2 ((v38.alloc (.cells #[.string ⟨#[]⟩, .int .u8 0, .string ⟨#[]⟩, .slice none 0 0] 25))) := hb39.trans (hr43.mono hb39.size)
          have hs43 := HS8.out _ hb43
          have z8_43 := Ft.FileAt.under z8_39 hr43
          have c7_43 := Ft.Fd.underP fe38 (fun k hk => Nat.lt_of_lt_of_le hk.2 (Nat.le_refl v38.heap.size)) hr43
          have c7l_43 := Nat.le_trans (Nat.le_refl v38.heap.size) hr43.size
          have sa43 : (v38).heap.size = v38.heap.size := by rfl
          have z7_43 : Ft.FileAt (v38.alloc (.cells #[.string ⟨#[]⟩, .int .u8 0, .string ⟨#[]⟩, .slice none 0 0] 25)) (v38.heap.size) Ft.zF none 0 := by rw [← sa43]; exact Ft.file_zero v38
          refine hKq.out _ _ hs43 (fun _ => ?_)
          clear hKq Kq
          try simp only [Act.put, List.setIfInBounds_toArray, List.set_cons_zero, List.set_cons_succ]
          refine wpAnyH_ready (rs := [3]) (by kernel_rfl) (by simp) ?_
          refine AllReadyH.cons (o := { dst := some 29, op := .call { callee := .value (.func 14), args := #[.tmp 28], argTypes := #[25] }, type := 25, pos := "law.go:198", after := #[{ on := 2, ground := .data }, { on := 1, ground := .chain }], guard := none }) rfl (fun Kq hKq => ?_) ?_
          · go_simp
            refine Calls.mono (HCf.out _ hb43) ?_
            rintro e v44 ⟨a8, c8, rfl, fd44, rl44⟩
            have hr45 : Below ((v38.alloc (.cells #[.string ⟨#[]⟩, .int .u8 0, .string ⟨#[]⟩, .slice none 0 0] 25))).heap.size ((v38.alloc (.cells #[.string ⟨#[]⟩, .int .u8 0, .string ⟨#[]⟩, .slice none 0 0] 25))) (v44) := rl44
            have hb45 : Below w2.heap.size w2 (v44) := hb43.trans (hr45.mono hb43.size)
            have hs45 := HS8.out _ hb45
            have z7_45 := Ft.FileAt.under z7_43 hr45
            have z8_45 := Ft.FileAt.under z8_43 hr45
            have c7_45 := Ft.Fd.underP c7_43 (fun k hk => Nat.lt_of_lt_of_le hk.2 c7l_43) hr45
            have c7l_45 := Nat.le_trans c7l_43 hr45.size
            have se44 : ((v38.alloc (.cells #[.string ⟨#[]⟩, .int .u8 0, .string ⟨#[]⟩, .slice none 0 0] 25))).heap.size = v38.heap.size + 1 := by simp
            have hz44 : v38.heap.size + 1 ≤ v44.heap.size := by have := rl44.size; omega
            have fe44 : Ft.Fd v44 (fun k => v38.heap.size + 1 ≤ k ∧ k < v44.heap.size) f a8 c8 := by rw [← se44]; exact fd44.out
            refine hKq.out _ _ hs45 (fun _ => ?_)
            clear hKq Kq
            try simp only [Act.put, List.setIfInBounds_toArray, List.set_cons_zero, List.set_cons_succ]
            refine wpAnyH_ready (rs := [6]) (by kernel_rfl) (by simp) ?_
            refine AllReadyH.cons (o := { dst := none, op := .store 25 (.tmp 7) (.tmp 27), type := 0, pos := "law.go:198", after := #[{ on := 4, ground := .data }, { on := 1, ground := .data }, { on := 3, ground := .chain }, { on := 0, ground := .phase }, { on := 1, ground := .phase }, { on := 2, ground := .textOnly .lateStores }, { on := 3, ground := .textOnly .lateStoresUnsure }, { on := 4, ground := .phase }, { on := 5, ground := .phase }], guard := none }) rfl (fun Kq hKq => ?_) ?_
            · obtain ⟨zz7, hzz7⟩ : ∃ zz, zz = v38.heap.size := ⟨_, rfl⟩
              obtain ⟨zz8, hzz8⟩ : ∃ zz, zz = Y.heap.size := ⟨_, rfl⟩
              have HNe : Hid (zz7 ≠ zz8 ∧ w2.heap.size ≤ zz7 ∧ w2.heap.size ≤ zz8 ∧ (zz7 < Y.heap.size + 1 ∨ v38.heap.size ≤ zz7) ∧ (zz8 < Y.heap.size + 1 ∨ v38.heap.size ≤ zz8) ∧ (zz7 < v38.heap.size + 1 ∨ v44.heap.size ≤ zz7) ∧ (zz8 < v38.heap.size + 1 ∨ v44.heap.size ≤ zz8)) := by
                rw [hzz7, hzz8]; exact ⟨by omega, by omega, by omega, by omega, by omega, by omega, by omega⟩
              rw [← hzz7, ← hzz8]
              have zr7 : Ft.FileAt v44 zz7 Ft.zF none 0 := by rw [hzz7]; exact z7_45
              have zr8 : Ft.FileAt v44 zz8 Ft.zF none 0 := by rw [hzz8]; exact z8_45
              have HZZ : Hid (zz7 = v38.heap.size ∧ zz8 = Y.heap.size) := ⟨hzz7, hzz8⟩
              clear hzz7 hzz8
              have z0 : (v44).cell? ⟨zz7, 0, none⟩ = some (.string ⟨#[]⟩) := zr7.four.c0
              have z1 : (v44).cell? ⟨zz7, 1, none⟩ = some (.int .u8 0) := zr7.four.c1
              have z2 : (v44).cell? ⟨zz7, 2, none⟩ = some (.string ⟨#[]⟩) := zr7.four.c2
              have z3 : (v44).cell? ⟨zz7, 3, none⟩ = some (.slice none 0 0) := zr7.four.c3
              have zf := zr7.frozen
              go_simp
              obtain ⟨W7, hW7⟩ : ∃ W7, W7 = Ft.putF (v44) zz7 T a7 c7 := ⟨_, rfl⟩
              have hp7 : Below w2.heap.size w2 W7 := by rw [hW7]; exact Ft.putF_below hb45 HNe.out.2.1
              have hot7 : ∀ k, k ≠ zz7 → W7.heap[k]? = (v44).heap[k]? := fun k hk => by rw [hW7]; exact Ft.putF_other hk
              have HF7 : Hid (Ft.FileAt W7 zz7 T a7 c7 ∧ Ft.FileAt W7 zz8 Ft.zF none 0 ∧ Ft.Fd W7 (fun k => Y.heap.size + 1 ≤ k ∧ k < v38.heap.size) T a7 c7 ∧ Ft.Fd W7 (fun k => v38.heap.size + 1 ≤ k ∧ k < v44.heap.size) f a8 c8 ∧ v38.heap.size ≤ W7.heap.size ∧ v44.heap.size ≤ W7.heap.size) := by
                have hw7 : (v44).heap.size ≤ W7.heap.size := by rw [hW7]; exact (Ft.putF_below (Below.refl 0 (v44)) (Nat.zero_le _)).size
                have hc7 := c7l_45
                have hc8 := (Nat.le_refl v44.heap.size)
                have hN := HNe.out
                exact ⟨by rw [hW7]; exact zr7.putF T a7 c7, (hot7 _ (fun e => hN.1 e.symm)).trans zr8, Ft.Fd.same c7_45 (fun k hk => hot7 k (by omega)) (fun _ h => h), Ft.Fd.same fe44 (fun k hk => hot7 k (by omega)) (fun _ h => h), Nat.le_trans hc7 hw7, Nat.le_trans hc8 hw7⟩
              have HW7 : Hid (W7 = ((((v44).setCell ⟨zz7, 0, none⟩ (.string T.nm)).setCell ⟨zz7, 1, none⟩ (.int .u8 (T.k : Int))).setCell ⟨zz7, 2, none⟩ (.string T.d)).setCell ⟨zz7, 3, none⟩ (.slice a7 T.kids.length c7)) := hW7
              rw [← HW7.out]
              refine hKq.out _ _ (HS8.out _ hp7) (fun _ => ?_)
              clear hKq Kq z0 z1 z2 z3 zf hW7 hot7 zr7 zr8
              try simp only [Act.put, List.setIfInBounds_toArray, List.set_cons_zero, List.set_cons_succ]
              refine wpAnyH_ready (rs := [7]) (by kernel_rfl) (by simp) ?_
              refine AllReadyH.cons (o := { dst := none, op := .store 25 (.tmp 8) (.tmp 29), type := 0, pos := "law.go:198", after := #[{ on := 5, ground := .data }, { on := 3, ground := .data }, { on := 6, ground := .chain }, { on := 0, ground := .phase }, { on := 1, ground := .phase }, { on := 2, ground := .phase }, { on := 3, ground := .phase }, { on := 4, ground := .phase }, { on := 5, ground := .phase }, { on := 6, ground := .phase }], guard := none }) rfl (fun Kq hKq => ?_) ?_
              · have z0 : W7.cell? ⟨zz8, 0, none⟩ = some (.string ⟨#[]⟩) := HF7.out.2.1.four.c0
                have z1 : W7.cell? ⟨zz8, 1, none⟩ = some (.int .u8 0) := HF7.out.2.1.four.c1
                have z2 : W7.cell? ⟨zz8, 2, none⟩ = some (.string ⟨#[]⟩) := HF7.out.2.1.four.c2
                have z3 : W7.cell? ⟨zz8, 3, none⟩ = some (.slice none 0 0) := HF7.out.2.1.four.c3
                have zf := HF7.out.2.1.frozen
                go_simp
                have hp8 : Below w2.heap.size w2 (Ft.putF W7 zz8 f a8 c8) := Ft.putF_below hp7 HNe.out.2.2.1
                have HF8 : Hid (Sb w (Ft.putF W7 zz8 f a8 c8) zz7 (Y.heap.size + 1) (v38.heap.size) T a7 c7 ∧ Sb w (Ft.putF W7 zz8 f a8 c8) zz8 (v38.heap.size + 1) (v44.heap.size) f a8 c8 ∧ Below w2.heap.size w2 (Ft.putF W7 zz8 f a8 c8)) := by
                  have hw8 : W7.heap.size ≤ (Ft.putF W7 zz8 f a8 c8).heap.size := (Ft.putF_below (Below.refl 0 W7) (Nat.zero_le _)).size
                  have hN := HNe.out
                  have hbw := HSt.out.bel.trans (hp8.mono HSt.out.bel.size)
                  have hF := HF7.out
                  exact ⟨⟨(Ft.putF_other hN.1).trans hF.1, hF.2.2.1.same (fun k hk => Ft.putF_other (by omega)) (fun _ h => h), Nat.le_trans hF.2.2.2.2.1 hw8, hbw, by omega⟩, ⟨hF.2.1.putF f a8 c8, hF.2.2.2.1.same (fun k hk => Ft.putF_other (by omega)) (fun _ h => h), Nat.le_trans hF.2.2.2.2.2 hw8, hbw, by omega⟩, hp8⟩
                refine hKq.out _ _ (HS8.out _ hp8) (fun _ => ?_)
                refine wpAnyH_done (by kernel_rfl) ?_ _
                clear hKq Kq z0 z1 z2 z3 zf
                go_wp2_with fail
                go_meet
                exact ⟨zz7, zz8, a7, c7, a8, c8, _, _, _, _, rfl, rfl, HF8⟩
              exact AllReadyH.nil
            exact AllReadyH.nil
          exact AllReadyH.nil
        exact AllReadyH.nil
      refine AllReadyH.cons (o := { dst := some 7, op := .alloc 25, type := 0, pos := "law.go:198", after := #[], guard := none }) rfl (fun Kq hKq => ?_) ?_
      · go_simp
        have hr46 : Below ((Y.alloc (.cells #[.string ⟨#[]⟩, .int .u8 0, .string ⟨#[]⟩, .slice none 0 0] 25))).heap.size ((Y.alloc (.cells #[.string ⟨#[]⟩, .int .u8 0, .string ⟨#[]⟩, .slice none 0 0] 25))) (((Y.alloc (.cells #[.string ⟨#[]⟩, .int .u8 0, .string ⟨#[]⟩, .slice none 0 0] 25)).alloc (.cells #[.string ⟨#[]⟩, .int .u8 0, .string ⟨#[]⟩, .slice none 0 0] 25))) := (Below.refl _ _).alloc (Nat.le_refl _) _
        have hb46 : Below w2.heap.size w2 (((Y.alloc (.cells #[.string ⟨#[]⟩, .int .u8 0, .string ⟨#[]⟩, .slice none 0 0] 25)).alloc (.cells #[.string ⟨#[]⟩, .int .u8 0, .string ⟨#[]⟩, .slice none 0 0] 25))) := hb37.trans (hr46.mono hb37.size)
        have hs46 := HS8.out _ hb46
        have z8_46 := Ft.FileAt.under z8_37 hr46
        have sa46 : ((Y.alloc (.cells #[.string ⟨#[]⟩, .int .u8 0, .string ⟨#[]⟩, .slice none 0 0] 25))).heap.size = Y.heap.size + 1 := by simp
        have z7_46 : Ft.FileAt ((Y.alloc (.cells #[.string ⟨#[]⟩, .int .u8 0, .string ⟨#[]⟩, .slice none 0 0] 25)).alloc (.cells #[.string ⟨#[]⟩, .int .u8 0, .string ⟨#[]⟩, .slice none 0 0] 25)) (Y.heap.size + 1) Ft.zF none 0 := by rw [← sa46]; exact Ft.file_zero (Y.alloc (.cells #[.string ⟨#[]⟩, .int .u8 0, .string ⟨#[]⟩, .slice none 0 0] 25))
        refine hKq.out _ _ hs46 (fun _ => ?_)
        clear hKq Kq
        try simp only [Act.put, List.setIfInBounds_toArray, List.set_cons_zero, List.set_cons_succ]
        refine wpAnyH_ready (rs := [1]) (by kernel_rfl) (by simp) ?_
        refine AllReadyH.cons (o := { dst := some 27, op := .call { callee := .value (.func 14), args := #[.tmp 26], argTypes := #[25] }, type := 25, pos := "law.go:198", after := #[{ on := 0, ground := .data }], guard := none }) rfl (fun Kq hKq => ?_) ?_
        · go_simp
          refine Calls.mono (HCt.out _ hb46) ?_
          rintro e v47 ⟨a7, c7, rfl, fd47, rl47⟩
          have hr48 : Below (((Y.alloc (.cells #[.string ⟨#[]⟩, .int .u8 0, .string ⟨#[]⟩, .slice none 0 0] 25)).alloc (.cells #[.string ⟨#[]⟩, .int .u8 0, .string ⟨#[]⟩, .slice none 0 0] 25))).heap.size (((Y.alloc (.cells #[.string ⟨#[]⟩, .int .u8 0, .string ⟨#[]⟩, .slice none 0 0] 25)).alloc (.cells #[.string ⟨#[]⟩, .int .u8 0, .string ⟨#[]⟩, .slice none 0 0] 25))) (v47) := rl47
          have hb48 : Below w2.heap.size w2 (v47) := hb46.trans (hr48.mono hb46.size)
          have hs48 := HS8.out _ hb48
          have z7_48 := Ft.FileAt.under z7_46 hr48
          have z8_48 := Ft.FileAt.under z8_46 hr48
          have se47 : (((Y.alloc (.cells #[.string ⟨#[]⟩, .int .u8 0, .string ⟨#[]⟩, .slice none 0 0] 25)).alloc (.cells #[.string ⟨#[]⟩, .int .u8 0, .string ⟨#[]⟩, .slice none 0 0] 25))).heap.size = Y.heap.size + 1 + 1 := by simp
          have hz47 : Y.heap.size + 1 + 1 ≤ v47.heap.size := by have := rl47.size; omega
          have fe47 : Ft.Fd v47 (fun k => Y.heap.size + 1 + 1 ≤ k ∧ k < v47.heap.size) T a7 c7 := by rw [← se47]; exact fd47.out
          refine hKq.out _ _ hs48 (fun _ => ?_)
          clear hKq Kq
          try simp only [Act.put, List.setIfInBounds_toArray, List.set_cons_zero, List.set_cons_succ]
          refine wpAnyH_ready (rs := [3]) (by kernel_rfl) (by simp) ?_
          refine AllReadyH.cons (o := { dst := some 29, op := .call { callee := .value (.func 14), args := #[.tmp 28], argTypes := #[25] }, type := 25, pos := "law.go:198", after := #[{ on := 2, ground := .data }, { on := 1, ground := .chain }], guard := none }) rfl (fun Kq hKq => ?_) ?_
          · go_simp
            refine Calls.mono (HCf.out _ hb48) ?_
            rintro e v49 ⟨a8, c8, rfl, fd49, rl49⟩
            have hr50 : Below (v47).heap.size (v47) (v49) := rl49
            have hb50 : Below w2.heap.size w2 (v49) := hb48.trans (hr50.mono hb48.size)
            have hs50 := HS8.out _ hb50
            have z7_50 := Ft.FileAt.under z7_48 hr50
            have z8_50 := Ft.FileAt.under z8_48 hr50
            have c7_50 := Ft.Fd.underP fe47 (fun k hk => Nat.lt_of_lt_of_le hk.2 (Nat.le_refl v47.heap.size)) hr50
            have c7l_50 := Nat.le_trans (Nat.le_refl v47.heap.size) hr50.size
            have se49 : (v47).heap.size = v47.heap.size := by rfl
            have hz49 : v47.heap.size ≤ v49.heap.size := by have := rl49.size; omega
            have fe49 : Ft.Fd v49 (fun k => v47.heap.size ≤ k ∧ k < v49.heap.size) f a8 c8 := by rw [← se49]; exact fd49.out
            refine hKq.out _ _ hs50 (fun _ => ?_)
            clear hKq Kq
            try simp only [Act.put, List.setIfInBounds_toArray, List.set_cons_zero, List.set_cons_succ]
            refine wpAnyH_ready (rs := [6]) (by kernel_rfl) (by simp) ?_
            refine AllReadyH.cons (o := { dst := none, op := .store 25 (.tmp 7) (.tmp 27), type := 0, pos := "law.go:198", after := #[{ on := 4, ground := .data }, { on := 1, ground := .data }, { on := 3, ground := .chain }, { on := 0, ground := .phase }, { on := 1, ground := .phase }, { on := 2, ground := .textOnly .lateStores }, { on := 3, ground := .textOnly .lateStoresUnsure }, { on := 4, ground := .phase }, { on := 5, ground := .phase }], guard := none }) rfl (fun Kq hKq => ?_) ?_
            · obtain ⟨zz7, hzz7⟩ : ∃ zz, zz = Y.heap.size + 1 := ⟨_, rfl⟩
              obtain ⟨zz8, hzz8⟩ : ∃ zz, zz = Y.heap.size := ⟨_, rfl⟩
              have HNe : Hid (zz7 ≠ zz8 ∧ w2.heap.size ≤ zz7 ∧ w2.heap.size ≤ zz8 ∧ (zz7 < Y.heap.size + 1 + 1 ∨ v47.heap.size ≤ zz7) ∧ (zz8 < Y.heap.size + 1 + 1 ∨ v47.heap.size ≤ zz8) ∧ (zz7 < v47.heap.size ∨ v49.heap.size ≤ zz7) ∧ (zz8 < v47.heap.size ∨ v49.heap.size ≤ zz8)) := by
                rw [hzz7, hzz8]; exact ⟨by omega, by omega, by omega, by omega, by omega, by omega, by omega⟩
              rw [← hzz7, ← hzz8]
              have zr7 : Ft.FileAt v49 zz7 Ft.zF none 0 := by rw [hzz7]; exact z7_50
              have zr8 : Ft.FileAt v49 zz8 Ft.zF none 0 := by rw [hzz8]; exact z8_50
              have HZZ : Hid (zz7 = Y.heap.size + 1 ∧ zz8 = Y.heap.size) := ⟨hzz7, hzz8⟩
              clear hzz7 hzz8
              have z0 : (v49).cell? ⟨zz7, 0, none⟩ = some (.string ⟨#[]⟩) := zr7.four.c0
              have z1 : (v49).cell? ⟨zz7, 1, none⟩ = some (.int .u8 0) := zr7.four.c1
              have z2 : (v49).cell? ⟨zz7, 2, none⟩ = some (.string ⟨#[]⟩) := zr7.four.c2
              have z3 : (v49).cell? ⟨zz7, 3, none⟩ = some (.slice none 0 0) := zr7.four.c3
              have zf := zr7.frozen
              go_simp
              obtain ⟨W7, hW7⟩ : ∃ W7, W7 = Ft.putF (v49) zz7 T a7 c7 := ⟨_, rfl⟩
              have hp7 : Below w2.heap.size w2 W7 := by rw [hW7]; exact Ft.putF_below hb50 HNe.out.2.1
              have hot7 : ∀ k, k ≠ zz7 → W7.heap[k]? = (v49).heap[k]? := fun k hk => by rw [hW7]; exact Ft.putF_other hk
              have HF7 : Hid (Ft.FileAt W7 zz7 T a7 c7 ∧ Ft.FileAt W7 zz8 Ft.zF none 0 ∧ Ft.Fd W7 (fun k => Y.heap.size + 1 + 1 ≤ k ∧ k < v47.heap.size) T a7 c7 ∧ Ft.Fd W7 (fun k => v47.heap.size ≤ k ∧ k < v49.heap.size) f a8 c8 ∧ v47.heap.size ≤ W7.heap.size ∧ v49.heap.size ≤ W7.heap.size) := by
                have hw7 : (v49).heap.size ≤ W7.heap.size := by rw [hW7]; exact (Ft.putF_below (Below.refl 0 (v49)) (Nat.zero_le _)).size
                have hc7 := c7l_50
                have hc8 := (Nat.le_refl v49.heap.size)
                have hN := HNe.out
                exact ⟨by rw [hW7]; exact zr7.putF T a7 c7, (hot7 _ (fun e => hN.1 e.symm)).trans zr8, Ft.Fd.same c7_50 (fun k hk => hot7 k (by omega)) (fun _ h => h), Ft.Fd.same fe49 (fun k hk => hot7 k (by omega)) (fun _ h => h), Nat.le_trans hc7 hw7, Nat.le_trans hc8 hw7⟩
              have HW7 : Hid (W7 = ((((v49).setCell ⟨zz7, 0, none⟩ (.string T.nm)).setCell ⟨zz7, 1, none⟩ (.int .u8 (T.k : Int))).setCell ⟨zz7, 2, none⟩ (.string T.d)).setCell ⟨zz7, 3, none⟩ (.slice a7 T.kids.length c7)) := hW7
              rw [← HW7.out]
              refine hKq.out _ _ (HS8.out _ hp7) (fun _ => ?_)
              clear hKq Kq z0 z1 z2 z3 zf hW7 hot7 zr7 zr8
              try simp only [Act.put, List.setIfInBounds_toArray, List.set_cons_zero, List.set_cons_succ]
              refine wpAnyH_ready (rs := [7]) (by kernel_rfl) (by simp) ?_
              refine AllReadyH.cons (o := { dst := none, op := .store 25 (.tmp 8) (.tmp 29), type := 0, pos := "law.go:198", after := #[{ on := 5, ground := .data }, { on := 3, ground := .data }, { on := 6, ground := .chain }, { on := 0, ground := .phase }, { on := 1, ground := .phase }, { on := 2, ground := .phase }, { on := 3, ground := .phase }, { on := 4, ground := .phase }, { on := 5, ground := .phase }, { on := 6, ground := .phase }], guard := none }) rfl (fun Kq hKq => ?_) ?_
              · have z0 : W7.cell? ⟨zz8, 0, none⟩ = some (.string ⟨#[]⟩) := HF7.out.2.1.four.c0
                have z1 : W7.cell? ⟨zz8, 1, none⟩ = some (.int .u8 0) := HF7.out.2.1.four.c1
                have z2 : W7.cell? ⟨zz8, 2, none⟩ = some (.string ⟨#[]⟩) := HF7.out.2.1.four.c2
                have z3 : W7.cell? ⟨zz8, 3, none⟩ = some (.slice none 0 0) := HF7.out.2.1.four.c3
                have zf := HF7.out.2.1.frozen
                go_simp
                have hp8 : Below w2.heap.size w2 (Ft.putF W7 zz8 f a8 c8) := Ft.putF_below hp7 HNe.out.2.2.1
                have HF8 : Hid (Sb w (Ft.putF W7 zz8 f a8 c8) zz7 (Y.heap.size + 1 + 1) (v47.heap.size) T a7 c7 ∧ Sb w (Ft.putF W7 zz8 f a8 c8) zz8 (v47.heap.size) (v49.heap.size) f a8 c8 ∧ Below w2.heap.size w2 (Ft.putF W7 zz8 f a8 c8)) := by
                  have hw8 : W7.heap.size ≤ (Ft.putF W7 zz8 f a8 c8).heap.size := (Ft.putF_below (Below.refl 0 W7) (Nat.zero_le _)).size
                  have hN := HNe.out
                  have hbw := HSt.out.bel.trans (hp8.mono HSt.out.bel.size)
                  have hF := HF7.out
                  exact ⟨⟨(Ft.putF_other hN.1).trans hF.1, hF.2.2.1.same (fun k hk => Ft.putF_other (by omega)) (fun _ h => h), Nat.le_trans hF.2.2.2.2.1 hw8, hbw, by omega⟩, ⟨hF.2.1.putF f a8 c8, hF.2.2.2.1.same (fun k hk => Ft.putF_other (by omega)) (fun _ h => h), Nat.le_trans hF.2.2.2.2.2 hw8, hbw, by omega⟩, hp8⟩
                refine hKq.out _ _ (HS8.out _ hp8) (fun _ => ?_)
                refine wpAnyH_done (by kernel_rfl) ?_ _
                clear hKq Kq z0 z1 z2 z3 zf
                go_wp2_with fail
                go_meet
                exact ⟨zz7, zz8, a7, c7, a8, c8, _, _, _, _, rfl, rfl, HF8⟩
              exact AllReadyH.nil
            exact AllReadyH.nil
          exact AllReadyH.nil
        exact AllReadyH.nil
      exact AllReadyH.nil
    exact AllReadyH.nil
  case rest =>
    obtain ⟨gc, gg, ac, cc, ag, cg, loc, hic, log, hig, rfl, rfl, HM⟩ := hcut
    have HSc : Hid (Sb w wc gc loc hic T ac cc) := HM.out.1
    have HSg : Hid (Sb w wc gg log hig f ag cg) := HM.out.2.1
    have hbM : Below w2.heap.size w2 wc := HM.out.2.2
    replace HSt : Hid (Sb w wc w.heap.size 0 w.heap.size T a cap) := HSt.out.under hbM
    replace HSf : Hid (Sb w wc (w.heap.size + 1) 0 w.heap.size f fa fc) := HSf.out.under hbM
    clear hbM HM HS8 HCt HCf
    have Cr := tputx_any T f p ac ap ag cc cp cg wc HSc.out.fd HZ.out.1 (HP.out _ HSt.out.bel) HSg.out.fd HZ.out.2.1 HZ.out.2.2.1 HZ.out.2.2.2.1 HZ.out.2.2.2.2.1
    simp only [Ft.fdV, Ft.fdA] at Cr
    have HCr : Hid _ := Cr
    clear Cr
    obtain ⟨qc0, qc1, qc2, qc3⟩ := HSc.out.at_.cellsQ
    obtain ⟨qg0, qg1, qg2, qg3⟩ := HSg.out.at_.cellsQ
    go_wp2_with fail
    refine Calls.mono HCr.out ?_
    clear HCr qc0 qc1 qc2 qc3 qg0 qg1 qg2 qg3
    rintro e wr ⟨Ur, br, cr, dr, rfl, Kr⟩
    simp only [Ft.fdV, Ft.fdA]
    obtain ⟨Vr, hVr⟩ : ∃ V, V = wr.alloc (.cells (Ft.fdA Ur br cr) 25) := ⟨_, rfl⟩
    have HVr : Hid (Vr = wr.alloc (.cells #[.string Ur.nm, .int .u8 (Ur.k : Int), .string Ur.d, .slice br Ur.kids.length cr] 25)) := hVr
    have hrr : Below wc.heap.size wc Vr := by rw [hVr]; exact Kr.out.2.2.alloc Kr.out.2.2.size _
    have halr : Below wr.heap.size wr Vr := by rw [hVr]; exact (Below.refl _ _).alloc (Nat.le_refl _) _
    have HNr : Hid (Ft.FileAt Vr wr.heap.size Ur br cr) := by rw [hVr]; exact Ft.file_new wr Ur br cr
    have hklr : Ur.kids.length ≤ 1048576 := Kr.out.2.1.fd.room.1
    have HSPr : Hid _ := spoil_any Ur wc.heap.size wr.heap.size br cr Vr halr.size (Kr.out.2.1.same (fun k _ h2 => halr.block k h2))
    go_upto_region 5 with fail
    rw [← HVr.out]
    obtain ⟨q0, q1, q2, q3⟩ := HNr.out.cellsQ
    clear HVr hVr
    simp only [Ft.fdV, Ft.fdA] at HSPr
    go_wp2_with fail
    refine Calls.mono HSPr.out ?_
    rintro e xr ⟨⟨ve, rfl⟩, or⟩
    have hxr : Below wc.heap.size wc xr := spoil_new hrr or
    clear q0 q1 q2 q3 or hrr halr HSPr HNr
    replace HSt : Hid (Sb w xr w.heap.size 0 w.heap.size T a cap) := HSt.out.under hxr
    replace HSf : Hid (Sb w xr (w.heap.size + 1) 0 w.heap.size f fa fc) := HSf.out.under hxr
    replace HSc : Hid (Sb w xr gc loc hic T ac cc) := HSc.out.under hxr
    replace HSg : Hid (Sb w xr gg log hig f ag cg) := HSg.out.under hxr
    clear hxr
    have Cd := tdropx_any T p ac ap cc cp xr HSc.out.fd HZ.out.1 (HP.out _ HSt.out.bel)
    simp only [Ft.fdV, Ft.fdA] at Cd
    have HCd : Hid _ := Cd
    clear Cd
    obtain ⟨qc0, qc1, qc2, qc3⟩ := HSc.out.at_.cellsQ
    go_wp2_with fail
    refine Calls.mono HCd.out ?_
    clear HCd qc0 qc1 qc2 qc3
    rintro e wd ⟨Ud, bd, cd, dd, rfl, Kd⟩
    simp only [Ft.fdV, Ft.fdA]
    obtain ⟨Vd, hVd⟩ : ∃ V, V = wd.alloc (.cells (Ft.fdA Ud bd cd) 25) := ⟨_, rfl⟩
    have HVd : Hid (Vd = wd.alloc (.cells #[.string Ud.nm, .int .u8 (Ud.k : Int), .string Ud.d, .slice bd Ud.kids.length cd] 25)) := hVd
    have hrd : Below xr.heap.size xr Vd := by rw [hVd]; exact Kd.out.2.2.alloc Kd.out.2.2.size _
    have hald : Below wd.heap.size wd Vd := by rw [hVd]; exact (Below.refl _ _).alloc (Nat.le_refl _) _
    have HNd : Hid (Ft.FileAt Vd wd.heap.size Ud bd cd) := by rw [hVd]; exact Ft.file_new wd Ud bd cd
    have hkld : Ud.kids.length ≤ 1048576 := Kd.out.2.1.fd.room.1
    have HSPd : Hid _ := spoil_any Ud xr.heap.size wd.heap.size bd cd Vd hald.size (Kd.out.2.1.same (fun k _ h2 => hald.block k h2))
    go_upto_region 7 with fail
    rw [← HVd.out]
    obtain ⟨q0, q1, q2, q3⟩ := HNd.out.cellsQ
    clear HVd hVd
    simp only [Ft.fdV, Ft.fdA] at HSPd
    go_wp2_with fail
    refine Calls.mono HSPd.out ?_
    rintro e xd ⟨⟨ve, rfl⟩, od⟩
    have hxd : Below xr.heap.size xr xd := spoil_new hrd od
    clear q0 q1 q2 q3 od hrd hald HSPd HNd
    replace HSt : Hid (Sb w xd w.heap.size 0 w.heap.size T a cap) := HSt.out.under hxd
    replace HSf : Hid (Sb w xd (w.heap.size + 1) 0 w.heap.size f fa fc) := HSf.out.under hxd
    replace HSc : Hid (Sb w xd gc loc hic T ac cc) := HSc.out.under hxd
    replace HSg : Hid (Sb w xd gg log hig f ag cg) := HSg.out.under hxd
    clear hxd
    have Ce := tgetx_any T p ac ap cc cp xd HSc.out.fd HZ.out.1 (HP.out _ HSt.out.bel)
    simp only [Ft.fdV, Ft.fdA] at Ce
    have HCe : Hid _ := Ce
    clear Ce
    obtain ⟨qc0, qc1, qc2, qc3⟩ := HSc.out.at_.cellsQ
    go_wp2_with fail
    refine Calls.mono HCe.out ?_
    clear HCe qc0 qc1 qc2 qc3
    rintro e we ⟨Ue, be, ce, de, rfl, Ke⟩
    simp only [Ft.fdV, Ft.fdA]
    obtain ⟨Ve, hVe⟩ : ∃ V, V = we.alloc (.cells (Ft.fdA Ue be ce) 25) := ⟨_, rfl⟩
    have HVe : Hid (Ve = we.alloc (.cells #[.string Ue.nm, .int .u8 (Ue.k : Int), .string Ue.d, .slice be Ue.kids.length ce] 25)) := hVe
    have hre : Below xd.heap.size xd Ve := by rw [hVe]; exact Ke.out.2.2.alloc Ke.out.2.2.size _
    have hale : Below we.heap.size we Ve := by rw [hVe]; exact (Below.refl _ _).alloc (Nat.le_refl _) _
    have HNe : Hid (Ft.FileAt Ve we.heap.size Ue be ce) := by rw [hVe]; exact Ft.file_new we Ue be ce
    have hkle : Ue.kids.length ≤ 1048576 := Ke.out.2.1.fd.room.1
    have HSPe : Hid _ := spoil_any Ue xd.heap.size we.heap.size be ce Ve hale.size (Ke.out.2.1.same (fun k _ h2 => hale.block k h2))
    go_upto_region 9 with fail
    rw [← HVe.out]
    obtain ⟨q0, q1, q2, q3⟩ := HNe.out.cellsQ
    clear HVe hVe
    simp only [Ft.fdV, Ft.fdA] at HSPe
    go_wp2_with fail
    refine Calls.mono HSPe.out ?_
    rintro e xe ⟨⟨ve, rfl⟩, oe⟩
    have hxe : Below xd.heap.size xd xe := spoil_new hre oe
    clear q0 q1 q2 q3 oe hre hale HSPe HNe
    replace HSt : Hid (Sb w xe w.heap.size 0 w.heap.size T a cap) := HSt.out.under hxe
    replace HSf : Hid (Sb w xe (w.heap.size + 1) 0 w.heap.size f fa fc) := HSf.out.under hxe
    replace HSc : Hid (Sb w xe gc loc hic T ac cc) := HSc.out.under hxe
    replace HSg : Hid (Sb w xe gg log hig f ag cg) := HSg.out.under hxe
    clear hxe
    have Cq := tcopyx_any T ac cc xe HSc.out.fd
    simp only [Ft.fdV, Ft.fdA] at Cq
    have HCq : Hid _ := Cq
    clear Cq
    obtain ⟨qc0, qc1, qc2, qc3⟩ := HSc.out.at_.cellsQ
    go_wp2_with fail
    refine Calls.mono HCq.out ?_
    clear HCq qc0 qc1 qc2 qc3
    rintro e wq ⟨bq, cq, rfl, fxq, blq⟩
    simp only
    obtain ⟨Vq, hVq⟩ : ∃ V, V = wq.alloc (.cells (Ft.fdA T bq cq) 25) := ⟨_, rfl⟩
    have HVq : Hid (Vq = wq.alloc (.cells #[.string T.nm, .int .u8 (T.k : Int), .string T.d, .slice bq T.kids.length cq] 25)) := hVq
    have hrq : Below xe.heap.size xe Vq := by rw [hVq]; exact blq.alloc blq.size _
    have halq : Below wq.heap.size wq Vq := by rw [hVq]; exact (Below.refl _ _).alloc (Nat.le_refl _) _
    have HNq : Hid (Ft.FileAt Vq wq.heap.size T bq cq) := by rw [hVq]; exact Ft.file_new wq T bq cq
    have hklq : T.kids.length ≤ 1048576 := fxq.fd.room.1
    have HSPq : Hid _ := spoil_any T xe.heap.size wq.heap.size bq cq Vq halq.size (fxq.same (fun k _ h2 => halq.block k h2))
    go_upto_region 11 with fail
    rw [← HVq.out]
    obtain ⟨q0, q1, q2, q3⟩ := HNq.out.cellsQ
    clear HVq hVq
    simp only [Ft.fdV, Ft.fdA] at HSPq
    go_wp2_with fail
    refine Calls.mono HSPq.out ?_
    rintro e xq ⟨⟨ve, rfl⟩, oq⟩
    have hxq : Below xe.heap.size xe xq := spoil_new hrq oq
    clear q0 q1 q2 q3 oq hrq halq HSPq HNq
    replace HSt : Hid (Sb w xq w.heap.size 0 w.heap.size T a cap) := HSt.out.under hxq
    replace HSf : Hid (Sb w xq (w.heap.size + 1) 0 w.heap.size f fa fc) := HSf.out.under hxq
    replace HSc : Hid (Sb w xq gc loc hic T ac cc) := HSc.out.under hxq
    replace HSg : Hid (Sb w xq gg log hig f ag cg) := HSg.out.under hxq
    clear hxq
    have CL := tlistx_any T ac cc xq HSc.out.fd HZ.out.1 HZ.out.2.2.2.2.2
    simp only [Ft.fdV, Ft.fdA] at CL
    have HCL : Hid _ := CL
    clear CL
    obtain ⟨qc0, qc1, qc2, qc3⟩ := HSc.out.at_.cellsQ
    go_wp2_with fail
    refine Calls.mono HCL.out ?_
    clear HCL qc0 qc1 qc2 qc3
    rintro e wl ⟨vl, rfl, hkx, bl⟩
    obtain ⟨la, ln, lc, rfl, hln, hlr, hlo⟩ := hkx.owl bl.size (fun y hy => Ft.lst_path T y hy)
    have HLb : Hid (ln ≤ 1048576) := by
      show _ ≤ _
      rw [hln]; unfold Ft.lstR
      split
      · exact HZ.out.2.2.2.2.2
      · simp
    have hlnb : ln ≤ 1048576 := HLb.out
    have HBl : Hid (Below xq.heap.size xq wl) := bl
    obtain ⟨gl, ps, hlo2⟩ : ∃ gl ps, Hid (ln ≠ 0 → la = some ⟨gl, 0, none⟩ ∧ Ft.OwL wl wl xq.heap.size gl ln lc ps ∧ ∀ j, j < ln → (ps j).2.1 ≤ 1048576) := by
      by_cases h : ln = 0
      · exact ⟨0, fun _ => (none, 0, 0), fun h2 => absurd h h2⟩
      · obtain ⟨g, ps, h1, h2, h3⟩ := hlo h
        exact ⟨g, ps, fun _ => ⟨h1, h2, h3⟩⟩
    obtain ⟨LC, hLC⟩ : ∃ LC : Int, LC = Ft.lstC T := ⟨_, rfl⟩
    have HLC : Hid (LC = Ft.lstC T) := hLC
    rw [← hLC]
    clear hkx hln hlo bl hLC
    obtain ⟨i0, hi0, hz0, hz1, hz2⟩ := info_parts Tryz.infoStr
    go_wp2_with fail
    go_loopw [66] (fun iv wr => ∃ (i : Nat) (ps : Nat → Option Addr × Nat × Nat), i ≤ ln ∧ iv = .int .i64 (i : Int) ∧ Hid (Below xq.heap.size wl wr ∧ (ln ≠ 0 → Ft.OwL wl wr xq.heap.size gl ln lc ps ∧ ∀ j, i ≤ j → j < ln → (ps j).2.1 ≤ 1048576))) (fun iv _ => ln - (intOf iv).toNat)
    case atStart => exact ⟨0, ps, Nat.zero_le _, rfl, Below.refl _ _, fun h => ⟨(hlo2.out h).2.1, fun j _ hj => (hlo2.out h).2.2 j hj⟩⟩
    case round =>
      obtain ⟨i, qs, hi, rfl, HR⟩ := hrel
      by_cases hlt : i < ln
      · have hla := (hlo2.out (by omega)).1
        subst hla
        have hi1 : (i : Int) < (ln : Int) := by omega
        obtain ⟨hOw, hbd⟩ := HR.out.2 (by omega)
        have HOw : Hid (Ft.OwL wl wr xq.heap.size gl ln lc qs) := hOw
        have HBd : Hid (∀ j, i ≤ j → j < ln → (qs j).2.1 ≤ 1048576) := hbd
        have hpn := hbd i (Nat.le_refl _) hlt
        obtain ⟨pa, hpa⟩ : ∃ x, x = (qs i).1 := ⟨_, rfl⟩
        obtain ⟨pn, hpn2⟩ : ∃ x, x = (qs i).2.1 := ⟨_, rfl⟩
        obtain ⟨pc, hpc⟩ : ∃ x, x = (qs i).2.2 := ⟨_, rfl⟩
        have HPs : Hid (pa = (qs i).1 ∧ pn = (qs i).2.1 ∧ pc = (qs i).2.2) := ⟨hpa, hpn2, hpc⟩
        have hcl := hOw.cell i hlt
        rw [← hpa, ← hpn2, ← hpc] at hcl
        rw [← hpn2] at hpn
        clear hpa hpn2 hpc hOw hbd HR
        go_wp2_with fail
        clear hcl
        go_loopw [75] (fun iv w5 => ∃ k : Nat, k ≤ pn ∧ iv = .int .i64 (k : Int) ∧ Hid (Ft.OwL wl w5 xq.heap.size gl ln lc qs)) (fun iv _ => pn - (intOf iv).toNat)
        case atStart => exact ⟨0, Nat.zero_le _, rfl, HOw⟩
        case round =>
          obtain ⟨k, hk, rfl, HQ⟩ := hrel
          have hcl := HQ.out.cell i hlt
          rw [← HPs.out.1, ← HPs.out.2.1, ← HPs.out.2.2] at hcl
          by_cases hkt : k < pn
          · have hk1 : (k : Int) < (pn : Int) := by omega
            obtain ⟨x, cur, hx, hxc, hcs, hpp⟩ : ∃ x cur, pa = some ⟨x, 0, none⟩ ∧ wr.heap[x]? = some (.cells cur 9 (0, 0)) ∧ k < cur.size ∧ (qs i).1 = some ⟨x, 0, none⟩ := by
              obtain ⟨e1, e2, e3⟩ := HPs.out
              rcases (HQ.out.rows i hlt).1 with ⟨_, h2, _⟩ | ⟨x, cur, h1, _, h3, _, h5, h6⟩
              · omega
              · exact ⟨x, cur, by rw [e1, h1], h5, by omega, h1⟩
            subst hx
            obtain ⟨u, hu⟩ : ∃ u, wr.cell? ⟨x, k, none⟩ = some u := ⟨cur[k]'hcs, by rw [cell_of_row wr x _ _ _ _ hxc]; exact Array.getElem?_eq_getElem _⟩
            have hfu : wr.frozen? ⟨x, k, none⟩ = false := frozen_of_row wr x _ _ _ hxc
            have HPut : Hid (Ft.OwL wl (wr.setCell ⟨x, k, none⟩ (.string ⟨#[103, 111, 110, 101]⟩)) xq.heap.size gl ln lc qs) := HQ.out.put hlt hpp _
            clear hxc hcs HQ
            go_wp2_with fail
            go_roundw
            case rel => exact ⟨k + 1, by omega, by go_num, HPut⟩
            case measure => simp [intOf]; omega
          · obtain rfl : k = pn := by omega
            have hk1 : ¬ (k : Int) < (k : Int) := by omega
            obtain ⟨xs, hxs⟩ := (HQ.out.rows i hlt).1.own
            rw [← HPs.out.1, ← HPs.out.2.1, ← HPs.out.2.2] at hxs
            have HXs : Hid _ := hxs
            have hbw : xq.heap.size ≤ wr.heap.size := Nat.le_trans HQ.out.old HQ.out.bel.size
            clear hxs
            go_wp2_with (at_builtin; refine Ft.wpList_append_far _ rfl _ _ 37 rfl xq.heap.size 9 i0 (.string ⟨#[]⟩) 1 16 Tryz.underlying37 hi0 hz0 hz1 hz2 rfl (by decide) (.slice pa k pc) k xs rfl (World.ownsRow.alloc HXs.out _) ⟨wr.heap.size, 0, none⟩ 2 2 [.string ⟨#[120]⟩, .string ⟨#[121]⟩] rfl rfl (Ft.two_new wr) (by intro u hu; simp at hu; rcases hu with rfl | rfl <;> rfl) (by unfold maxLen; omega) (by omega) (by simp; omega) ?_)
            intro v' w7 own gr _ hat
            obtain ⟨ng, nc, rfl⟩ := Ft.own_form1 own (by omega)
            have hsa : (wr.alloc (.cells #[.string ⟨#[120]⟩, .string ⟨#[121]⟩] 9)).heap.size = wr.heap.size + 1 := by simp
            have happ := HQ.out.app (a' := some ⟨ng, 0, none⟩) (c' := nc) (m := wr.heap.size + 1) (o := .cells #[.string ⟨#[120]⟩, .string ⟨#[121]⟩] 9) (xs := xs ++ [.string ⟨#[120]⟩, .string ⟨#[121]⟩]) hlt (by rw [← HPs.out.2.1]; omega) (by rw [← HPs.out.2.1]; exact own) (by rw [← HPs.out.1, ← HPs.out.2.1, ← HPs.out.2.2]; exact gr) (by rw [← HPs.out.1, ← HPs.out.2.1, ← HPs.out.2.2]; first | exact hat | (rw [hsa] at hat; exact hat)) (by omega)
            rw [← HPs.out.2.1] at happ
            obtain ⟨⟨u, hu⟩, hfu, hO8⟩ := happ
            have HO8 : Hid _ := hO8
            clear own gr hat hO8 HXs HQ hsa
            go_wp2_with fail
            go_roundw
            case rel => exact ⟨i + 1, _, by omega, by go_num, HO8.out.bel, fun _ => ⟨HO8.out, fun j h1 h2 => by rw [if_neg (by omega : ¬ j = i)]; exact HBd.out j (by omega) h2⟩⟩
            case measure => simp [intOf]; omega
      · obtain rfl : i = ln := by omega
        have hi1 : ¬ (i : Int) < (i : Int) := by omega
        have hbV : Below xq.heap.size xq wr := HBl.out.trans HR.out.1
        clear HR hlo2
        replace HSt : Hid (Sb w wr w.heap.size 0 w.heap.size T a cap) := HSt.out.under hbV
        replace HSf : Hid (Sb w wr (w.heap.size + 1) 0 w.heap.size f fa fc) := HSf.out.under hbV
        replace HSc : Hid (Sb w wr gc loc hic T ac cc) := HSc.out.under hbV
        replace HSg : Hid (Sb w wr gg log hig f ag cg) := HSg.out.under hbV
        clear hbV HBl
        have HLn : Hid ((Ft.lstR T).length ≤ 1048576) := by
          show _ ≤ _
          unfold Ft.lstR
          split
          · exact HZ.out.2.2.2.2.2
          · simp
        obtain ⟨KL, hKL⟩ : ∃ KL, KL = (Ft.lstR T).length := ⟨_, rfl⟩
        have HKL : Hid (KL = (Ft.lstR T).length) := hKL
        have hKLb : KL ≤ 1048576 := by rw [hKL]; exact HLn.out
        have CM := tlist_any T ac cc wr HSc.out.fd HZ.out.1 HZ.out.2.2.2.2.2
        rw [← HLC.out] at CM
        simp only [Ft.fdV, Ft.fdA] at CM
        have HCM : Hid _ := CM
        clear CM hKL
        obtain ⟨qc0, qc1, qc2, qc3⟩ := HSc.out.at_.cellsQ
        go_wp2_with fail
        refine Calls.mono HCM.out ?_
        clear HCM qc0 qc1 qc2 qc3
        rintro e wm ⟨vm, rfl, hKm, bm⟩
        obtain ⟨xm, em, rfl, hkm⟩ := hKm.kps HLn.out
        replace HSt : Hid (Sb w wm w.heap.size 0 w.heap.size T a cap) := HSt.out.under bm
        replace HSf : Hid (Sb w wm (w.heap.size + 1) 0 w.heap.size f fa fc) := HSf.out.under bm
        replace HSc : Hid (Sb w wm gc loc hic T ac cc) := HSc.out.under bm
        replace HSg : Hid (Sb w wm gg log hig f ag cg) := HSg.out.under bm
        have HKm : Hid (Ft.Kps wm xm em (Ft.lstR T)) := hkm
        clear hKm hkm bm
        have CN := rlist_any T a cap wm HSt.out.fd HZ.out.1 HZ.out.2.2.2.2.2
        rw [← HLC.out] at CN
        simp only [Ft.fdV, Ft.fdA] at CN
        have HCN : Hid _ := CN
        clear CN
        rw [← HKL.out]
        obtain ⟨qt0, qt1, qt2, qt3⟩ := HSt.out.at_.cellsQ
        go_wp2_with fail
        refine Calls.mono HCN.out ?_
        clear HCN qt0 qt1 qt2 qt3
        rintro e wn ⟨vn, rfl, hKn, bn⟩
        obtain ⟨xn, en, rfl, hkn⟩ := hKn.kps HLn.out
        replace HSt : Hid (Sb w wn w.heap.size 0 w.heap.size T a cap) := HSt.out.under bn
        replace HSf : Hid (Sb w wn (w.heap.size + 1) 0 w.heap.size f fa fc) := HSf.out.under bn
        replace HSc : Hid (Sb w wn gc loc hic T ac cc) := HSc.out.under bn
        replace HSg : Hid (Sb w wn gg log hig f ag cg) := HSg.out.under bn
        have HKn : Hid (Ft.Kps wn xm em (Ft.lstR T) ∧ Ft.Kps wn xn en (Ft.lstR T)) := ⟨HKm.out.below bn, hkn⟩
        clear hKn hkn bn HKm
        rw [← HKL.out]
        have CS := rsame_any T T ac a cc cap wn HSc.out.fd HSt.out.fd
        rw [Ft.sameT_refl] at CS
        simp only [Ft.fdV, Ft.fdA] at CS
        have HCS : Hid _ := CS
        clear CS
        obtain ⟨qc0, qc1, qc2, qc3⟩ := HSc.out.at_.cellsQ
        obtain ⟨qt0, qt1, qt2, qt3⟩ := HSt.out.at_.cellsQ
        go_wp2_with fail
        refine Calls.mono HCS.out ?_
        clear HCS qc0 qc1 qc2 qc3 qt0 qt1 qt2 qt3
        rintro e ws0 ⟨rfl, bs0⟩
        replace HSt : Hid (Sb w ws0 w.heap.size 0 w.heap.size T a cap) := HSt.out.under bs0
        replace HSf : Hid (Sb w ws0 (w.heap.size + 1) 0 w.heap.size f fa fc) := HSf.out.under bs0
        replace HSc : Hid (Sb w ws0 gc loc hic T ac cc) := HSc.out.under bs0
        replace HSg : Hid (Sb w ws0 gg log hig f ag cg) := HSg.out.under bs0
        replace HKn : Hid (Ft.Kps ws0 xm em (Ft.lstR T) ∧ Ft.Kps ws0 xn en (Ft.lstR T)) := ⟨HKn.out.1.below bs0, HKn.out.2.below bs0⟩
        clear bs0
        have CS := rsame_any f f ag fa cg fc ws0 HSg.out.fd HSf.out.fd
        rw [Ft.sameT_refl] at CS
        simp only [Ft.fdV, Ft.fdA] at CS
        have HCS : Hid _ := CS
        clear CS
        obtain ⟨qg0, qg1, qg2, qg3⟩ := HSg.out.at_.cellsQ
        obtain ⟨qf0, qf1, qf2, qf3⟩ := HSf.out.at_.cellsQ
        go_wp2_with fail
        refine Calls.mono HCS.out ?_
        clear HCS qg0 qg1 qg2 qg3 qf0 qf1 qf2 qf3
        rintro e ws1 ⟨rfl, bs1⟩
        replace HSt : Hid (Sb w ws1 w.heap.size 0 w.heap.size T a cap) := HSt.out.under bs1
        replace HSf : Hid (Sb w ws1 (w.heap.size + 1) 0 w.heap.size f fa fc) := HSf.out.under bs1
        replace HSc : Hid (Sb w ws1 gc loc hic T ac cc) := HSc.out.under bs1
        replace HSg : Hid (Sb w ws1 gg log hig f ag cg) := HSg.out.under bs1
        replace HKn : Hid (Ft.Kps ws1 xm em (Ft.lstR T) ∧ Ft.Kps ws1 xn en (Ft.lstR T)) := ⟨HKn.out.1.below bs1, HKn.out.2.below bs1⟩
        clear bs1
        have CK := kept_any xm xn em en (Ft.lstR T) ws1 HKn.out.1 HKn.out.2
        rw [← HKL.out] at CK
        have HCK : Hid _ := CK
        clear CK
        go_wp2_with fail
        refine Calls.mono HCK.out ?_
        clear HCK HKn
        rintro e wk ⟨rfl, nk, hwk⟩
        have bk9 : Below ws1.heap.size ws1 wk := by rw [hwk]; exact bel_dn _ _
        replace HSt : Hid (Sb w wk w.heap.size 0 w.heap.size T a cap) := HSt.out.under bk9
        replace HSf : Hid (Sb w wk (w.heap.size + 1) 0 w.heap.size f fa fc) := HSf.out.under bk9
        replace HSc : Hid (Sb w wk gc loc hic T ac cc) := HSc.out.under bk9
        replace HSg : Hid (Sb w wk gg log hig f ag cg) := HSg.out.under bk9
        clear bk9 hwk
        obtain ⟨qt0, qt1, qt2, qt3⟩ := HSt.out.at_.cellsQ
        obtain ⟨qf0, qf1, qf2, qf3⟩ := HSf.out.at_.cellsQ
        go_wp2_with fail
        refine Calls.mono (HTr.out wk HSt.out.bel) ?_
        clear qt0 qt1 qt2 qt3 qf0 qf1 qf2 qf3
        rintro e wz ⟨rfl, bz⟩
        have HE9 : Hid (Below w.heap.size w wz) := HSt.out.bel.trans (bz.mono HSt.out.bel.size)
        clear HSt HSf HSc HSg bz
        go_wp2_with fail
        go_ret
        exact ⟨rfl, HE9.out⟩
end Go.Proofs.YtfbhofomcenabaaGreatDoor
