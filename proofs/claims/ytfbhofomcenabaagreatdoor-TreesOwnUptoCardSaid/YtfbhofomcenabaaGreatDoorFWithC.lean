/- What trees.with answers. -/
import Derived.Test.YtfbhofomcenabaaGreatDoorTX
namespace Go.Proofs.YtfbhofomcenabaaGreatDoor
open Go Go.RowKit

set_option maxRecDepth 100000 in
set_option maxHeartbeats 4000000 in
theorem twith_any (p : List ByteArray) : ∀ (T : Ft.FT) (a ap : Option Addr) (cap cp : Nat) (fs : Ft.FS) (P : Nat → Prop) (w : World), (∀ b, P b → b < w.heap.size) → Ft.Fd w P T a cap → Ft.FdL w P fs → Strs w ap cp p → p.length < cp → (∃ q, Ft.belT T q = none) → (∃ D, Ft.lookR T p = .inr D) →
    Calls Tryz.prog 55 #[Ft.fdV T a cap, .slice ap p.length cp, .slice fs.2.1 fs.1.length fs.2.2] w fun e w' => ∃ b c, e = .returned (Ft.fdV (Ft.withR T p fs.1) b c) ∧ Hid (Ft.Fd w' (fun k => P k ∨ (w.heap.size ≤ k ∧ k < w'.heap.size)) (Ft.withR T p fs.1) b c ∧ Below w.heap.size w w') := by
  induction p with
  | nil =>
    intro T a ap cap cp fs P w hP hN hF hS _ _ _
    exact twith_nil T a ap cap cp fs P w hP hN hF hS
  | cons x r ih =>
    intro T a ap cap cp fs P w hP hN hF hS hcp0 hb hD
    have hcp : cp ≠ 1 := by simp only [List.length_cons] at hcp0; omega
    have hcpr : r.length < cp - 1 := by simp only [List.length_cons] at hcp0; omega
    clear hcp0
    obtain ⟨fl, fa, fc⟩ := fs
    obtain ⟨q0', hb0⟩ := hb
    have hR := Ft.bel_ris hb0
    obtain ⟨W, hW⟩ : ∃ W, W = (w.alloc (.cells (Ft.fdA T a cap) 25)).alloc (.cells #[.string ⟨#[]⟩, .int .u8 0, .string ⟨#[]⟩, .slice none 0 0] 25) := ⟨_, rfl⟩
    have hB : Below w.heap.size w W := by rw [hW]; exact ((Below.refl _ _).alloc (Nat.le_refl _) _).alloc (by simp) _
    have hF1 : Ft.FileAt W w.heap.size T a cap := by rw [hW]; exact (Ft.file_new w T a cap).alloc _
    have hF2 : Ft.FileAt W (w.heap.size + 1) Ft.zF none 0 := by
      rw [hW]
      have := Ft.file_zero (w.alloc (.cells (Ft.fdA T a cap) 25))
      simpa using this
    obtain ⟨pb, po, rfl⟩ : ∃ pb po, ap = some ⟨pb, po, none⟩ := by obtain ⟨pb, po, e, _⟩ := hS.cells 0 (by simp); exact ⟨pb, po, e⟩
    have hp0 : W.cell? ⟨pb, po, none⟩ = some (.string x) := by
      obtain ⟨pb2, po2, e, hlt, hc⟩ := hS.cells 0 (by simp)
      cases e
      have := (hB.cell (p := ⟨pb, po + 0, none⟩) hlt).trans hc
      simpa using this
    have hpl := hS.len
    have hpr := hS.room
    have hTl := hN.room.1
    have C1 := tfind_any T x a cap W.drew (by exact (hN.underP hP (hB.trans ((Below.refl _ W).drew.mono hB.size))).mono (fun b h => by have := hP b h; have := hB.size; show b < W.heap.size; omega)) hR
    have HC1 : Hid _ := C1
    have HW : Hid (W = (w.alloc (.cells #[.string T.nm, .int .u8 (T.k : Int), .string T.d, .slice a T.kids.length cap] 25)).alloc (.cells #[.string ⟨#[]⟩, .int .u8 0, .string ⟨#[]⟩, .slice none 0 0] 25)) := hW
    have HF : Hid (Ft.FileAt W w.heap.size T a cap ∧ Ft.FileAt W (w.heap.size + 1) Ft.zF none 0 ∧ Below w.heap.size w W ∧ Ft.FdL w P (fl, fa, fc) ∧ (∀ b, P b → b < w.heap.size) ∧ Ft.Fd w P T a cap ∧ Strs w (some ⟨pb, po, none⟩) cp (x :: r)) := ⟨hF1, hF2, hB, hF, hP, hN, hS⟩
    have HD : Hid (∃ D, Ft.lookR T (x :: r) = .inr D) := hD
    have HIH : Hid _ := ih
    have HBl : Hid (Ft.belT T q0' = none) := hb0
    clear hW hB hF1 hF2 hF hP hN hS hD ih hb0 C1
    simp only [Ft.fdV, Ft.fdA]
    go_enter Tryz.func55, Tryz.ntmps55
    go_upto_region 1 with fail
    rw [← HW.out]
    clear HW
    obtain ⟨q0, q1, q2, q3⟩ := HF.out.1.four
    have i1 : ¬ ((r.length : Int) + 1 = 0) := by omega
    have i2 : (0 : Int) < (r.length : Int) + 1 := by omega
    go_wp2_with fail
    have HS : Hid (∀ wn, Below W.drew.heap.size W.drew wn → Below W.heap.size W wn ∧ wn.cell? ⟨w.heap.size, 3, none⟩ = some (.slice a T.kids.length cap) ∧ wn.cell? ⟨pb, po, none⟩ = some (.string x)) := fun wn hb => by
      have hb2 : Below W.heap.size W wn := (Below.refl _ W).drew.trans hb
      exact ⟨hb2, (Ft.FileAt.under HF.out.1 hb2).four.c3, (hb2.cell (p := ⟨pb, po, none⟩) (World.block_lt_of_cell? W _ hp0)).trans hp0⟩
    have s0 := HS.out W.drew (Below.refl _ _)
    have j3 : W.cell? ⟨w.heap.size, 3, none⟩ = some (.slice a T.kids.length cap) := by rw [Nat.zero_add] at q3; exact q3
    go_region_held3 (fun w' => Below W.heap.size W w' ∧ w'.cell? ⟨w.heap.size, 3, none⟩ = some (.slice a T.kids.length cap) ∧ w'.cell? ⟨pb, po, none⟩ = some (.string x)) ((first | exact s0 | exact l9)) (first
      | (go_at_call 90; refine Calls.mono HC1.out ?_; rintro e wn ⟨q, rfl, hpq, b9⟩; have l9 := HS.out wn b9))
    all_goals
      obtain ⟨D, hD⟩ := HD.out
      obtain ⟨V, hV, hVD⟩ := Ft.look_cons hD
      obtain ⟨hat, hq, hqV⟩ := Ft.kid_here hR hpq hV
      have hBn : Below w.heap.size w wn := HF.out.2.2.1.trans (l9.1.mono HF.out.2.2.1.size)
      have hsn := hBn.size
      obtain ⟨kb, ko, a', c', rfl, hpk, h4, hk⟩ := (HF.out.2.2.2.2.2.1.underP HF.out.2.2.2.2.1 hBn).kid hq
      rw [hqV] at h4 hk
      obtain ⟨e0, e1, e2, e3⟩ := h4
      have hkl := hk.room.1
      have j1 : (q : Int) < (T.kids.length : Int) := by omega
      have hkw : kb < w.heap.size := HF.out.2.2.2.2.1 kb hpk
      have hbD : Below wn.heap.size wn wn.drew := (Below.refl _ wn).drew
      have hbwD : Below w.heap.size w wn.drew := hBn.trans (hbD.mono hsn)
      have hPn : ∀ b, P b → b < wn.drew.heap.size := fun b h => Nat.lt_of_lt_of_le (HF.out.2.2.2.2.1 b h) hbwD.size
      obtain ⟨ad', hadv⟩ : ∃ ad' : Addr, ad' = ⟨pb, po + 1, none⟩ := ⟨_, rfl⟩
      have hSr : Strs wn.drew (some ad') (cp - 1) r := strs_rest (HF.out.2.2.2.2.2.2.below hbwD) ad' (fun _ => hadv)
      have hbV : ∃ y, Ft.belT V y = none := ⟨_, hqV ▸ (Ft.bel_kid HBl.out hq).2⟩
      have CW := HIH.out V a' (some ad') c' (cp - 1) (fl, fa, fc) P wn.drew hPn (hk.underP (fun b h => Nat.lt_of_lt_of_le (HF.out.2.2.2.2.1 b h) hsn) hbD) (HF.out.2.2.2.1.underP HF.out.2.2.2.2.1 hbwD) hSr hcpr hbV ⟨D, hVD⟩
      simp only [Ft.fdV, Ft.fdA] at CW
      have HCW : Hid _ := CW
      have HU : Hid (∀ (w2 : World) (U : Ft.FT) (b2 : Option Addr) (c2 : Nat), U = Ft.withR V r fl → Hid (Ft.Fd w2 (fun k => P k ∨ (wn.drew.heap.size ≤ k ∧ k < w2.heap.size)) U b2 c2 ∧ Below wn.drew.heap.size wn.drew w2) → True) := fun _ _ _ _ _ _ => trivial
      rw [hat]
      have hVk := hV
      have HVk : Hid (Ft.withR T (x :: r) fl = .mk T.nm T.k T.d (Ft.setN T.kids x (Ft.withR V r fl))) := by show _ = _; rw [Ft.withR, hV]
      have HWn : Hid (Below W.heap.size W wn) := l9.1
      clear s0 hD hV CW hSr hbV hk
      subst hadv
      have n1 : (1 : Int) ≤ (r.length : Int) + 1 := by omega
      have HG : Hid (w.heap.size < wn.heap.size ∧ Ft.FileAt wn w.heap.size T (some ⟨kb, ko, none⟩) cap ∧ Ft.FileAt wn (w.heap.size + 1) Ft.zF none 0) := ⟨(Ft.FileAt.under HF.out.1 l9.1).lt, Ft.FileAt.under HF.out.1 l9.1, Ft.FileAt.under HF.out.2.1 l9.1⟩
      have HS5 : Hid (∀ w', Below wn.heap.size wn w' → (w'.cell? ⟨pb, po, none⟩ = some (.string x) ∧ w'.cell? ⟨kb, ko + q * 4, none⟩ = some (.string V.nm) ∧ w'.cell? ⟨kb, ko + q * 4 + 1, none⟩ = some (.int .u8 (V.k : Int)) ∧ w'.cell? ⟨kb, ko + q * 4 + 2, none⟩ = some (.string V.d) ∧ w'.cell? ⟨kb, ko + q * 4 + 3, none⟩ = some (.slice a' V.kids.length c')) ∧ w'.cell? ⟨w.heap.size, 3, none⟩ = some (.slice (some ⟨kb, ko, none⟩) T.kids.length cap) ∧ w'.frozen? ⟨w.heap.size, 3, none⟩ = false) := fun w' hb => by
        have hkb : kb < wn.heap.size := by omega
        refine ⟨⟨(hb.cell (p := ⟨pb, po, none⟩) (World.block_lt_of_cell? wn _ l9.2.2)).trans l9.2.2, (hb.cell (p := ⟨kb, ko + q * 4, none⟩) hkb).trans e0, (hb.cell (p := ⟨kb, ko + q * 4 + 1, none⟩) hkb).trans e1, (hb.cell (p := ⟨kb, ko + q * 4 + 2, none⟩) hkb).trans e2, (hb.cell (p := ⟨kb, ko + q * 4 + 3, none⟩) hkb).trans e3⟩, ?_, (Ft.FileAt.under HG.out.2.1 hb).frozen 3⟩
        have := (Ft.FileAt.under HG.out.2.1 hb).four.c3
        rw [Nat.zero_add] at this
        exact this
      obtain ⟨s5, g3, gf⟩ := HS5.out wn.drew (Below.refl _ wn).drew
      clear e0 e1 e2 e3 l9
      have HAl : Hid (∀ (W' : World) (o : Obj), (W'.cell? ⟨pb, po, none⟩ = some (.string x) ∧ W'.cell? ⟨kb, ko + q * 4, none⟩ = some (.string V.nm) ∧ W'.cell? ⟨kb, ko + q * 4 + 1, none⟩ = some (.int .u8 (V.k : Int)) ∧ W'.cell? ⟨kb, ko + q * 4 + 2, none⟩ = some (.string V.d) ∧ W'.cell? ⟨kb, ko + q * 4 + 3, none⟩ = some (.slice a' V.kids.length c')) → ((W'.alloc o).cell? ⟨pb, po, none⟩ = some (.string x) ∧ (W'.alloc o).cell? ⟨kb, ko + q * 4, none⟩ = some (.string V.nm) ∧ (W'.alloc o).cell? ⟨kb, ko + q * 4 + 1, none⟩ = some (.int .u8 (V.k : Int)) ∧ (W'.alloc o).cell? ⟨kb, ko + q * 4 + 2, none⟩ = some (.string V.d) ∧ (W'.alloc o).cell? ⟨kb, ko + q * 4 + 3, none⟩ = some (.slice a' V.kids.length c'))) := fun W' o h => by
        have hb : Below W'.heap.size W' (W'.alloc o) := (Below.refl _ _).alloc (Nat.le_refl _) o
        exact ⟨(hb.cell (p := ⟨pb, po, none⟩) (World.block_lt_of_cell? W' _ h.1)).trans h.1, (hb.cell (p := ⟨kb, ko + q * 4, none⟩) (World.block_lt_of_cell? W' _ h.2.1)).trans h.2.1, (hb.cell (p := ⟨kb, ko + q * 4 + 1, none⟩) (World.block_lt_of_cell? W' _ h.2.2.1)).trans h.2.2.1, (hb.cell (p := ⟨kb, ko + q * 4 + 2, none⟩) (World.block_lt_of_cell? W' _ h.2.2.2.1)).trans h.2.2.2.1, (hb.cell (p := ⟨kb, ko + q * 4 + 3, none⟩) (World.block_lt_of_cell? W' _ h.2.2.2.2)).trans h.2.2.2.2⟩
      have hpb : pb < w.heap.size := by
        obtain ⟨pb2, po2, e, hlt, _⟩ := HF.out.2.2.2.2.2.2.cells 0 (by simp)
        cases e
        exact hlt
      have HSt : Hid (∀ (W' : World) (u : Value), (W'.cell? ⟨pb, po, none⟩ = some (.string x) ∧ W'.cell? ⟨kb, ko + q * 4, none⟩ = some (.string V.nm) ∧ W'.cell? ⟨kb, ko + q * 4 + 1, none⟩ = some (.int .u8 (V.k : Int)) ∧ W'.cell? ⟨kb, ko + q * 4 + 2, none⟩ = some (.string V.d) ∧ W'.cell? ⟨kb, ko + q * 4 + 3, none⟩ = some (.slice a' V.kids.length c')) → ((W'.setCell ⟨w.heap.size, 3, none⟩ u).cell? ⟨pb, po, none⟩ = some (.string x) ∧ (W'.setCell ⟨w.heap.size, 3, none⟩ u).cell? ⟨kb, ko + q * 4, none⟩ = some (.string V.nm) ∧ (W'.setCell ⟨w.heap.size, 3, none⟩ u).cell? ⟨kb, ko + q * 4 + 1, none⟩ = some (.int .u8 (V.k : Int)) ∧ (W'.setCell ⟨w.heap.size, 3, none⟩ u).cell? ⟨kb, ko + q * 4 + 2, none⟩ = some (.string V.d) ∧ (W'.setCell ⟨w.heap.size, 3, none⟩ u).cell? ⟨kb, ko + q * 4 + 3, none⟩ = some (.slice a' V.kids.length c'))) := fun W' u h => by
        have hk1 := heap_setCell_other W' ⟨w.heap.size, 3, none⟩ pb u (show pb ≠ w.heap.size by omega)
        have hk2 := heap_setCell_other W' ⟨w.heap.size, 3, none⟩ kb u (show kb ≠ w.heap.size by omega)
        exact ⟨(World.cell?_of_block hk1).trans h.1, (World.cell?_of_block hk2).trans h.2.1, (World.cell?_of_block hk2).trans h.2.2.1, (World.cell?_of_block hk2).trans h.2.2.2.1, (World.cell?_of_block hk2).trans h.2.2.2.2⟩
      have HSw : Hid (∀ (w2 : World) (b2 : Option Addr) (c2 : Nat), Hid (Ft.Fd w2 (fun k => P k ∨ (wn.drew.heap.size ≤ k ∧ k < w2.heap.size)) (Ft.withR V r fl) b2 c2 ∧ Below wn.drew.heap.size wn.drew w2) → Calls Tryz.prog 56 #[.slice (some ⟨kb, ko, none⟩) T.kids.length cap, .string x, .slice (some ⟨w2.heap.size, 0, none⟩) 1 1] (w2.alloc (.cells #[.string (Ft.withR V r fl).nm, .int .u8 ((Ft.withR V r fl).k : Int), .string (Ft.withR V r fl).d, .slice b2 (Ft.withR V r fl).kids.length c2] 25)) fun e w' => ∃ a4 c4, e = .returned (.slice a4 T.kids.length c4) ∧ Hid (Ft.FdL w' (fun k => P k ∨ (wn.heap.size ≤ k ∧ k < w'.heap.size)) (Ft.setN T.kids x (Ft.withR V r fl), a4, c4) ∧ Below wn.heap.size wn w')) := fun w2 b2 c2 hU => by
        refine (swap_one T V (Ft.withR V r fl) x ⟨kb, ko, none⟩ cap b2 c2 P wn w2 (fun b h => Nat.lt_of_lt_of_le (HF.out.2.2.2.2.1 b h) hsn) (hbD.trans hU.out.2) (HF.out.2.2.2.2.2.1.underP HF.out.2.2.2.2.1 hBn) hR hVk (hU.out.1.mono (fun k h => h.imp id (fun g => ⟨g.1, g.2⟩)))).mono ?_
        rintro e w' ⟨a4, c4, rfl, h1, h2⟩
        exact ⟨a4, c4, rfl, h1, (hbD.trans hU.out.2).trans (h2.mono ((hbD.trans hU.out.2).size))⟩
      clear hbwD hBn hpk hPn
      go_wp2_with fail
      have HS0 : wn.drew.cell? ⟨pb, po, none⟩ = some (.string x) ∧ wn.drew.cell? ⟨kb, ko + q * 4, none⟩ = some (.string V.nm) ∧ wn.drew.cell? ⟨kb, ko + q * 4 + 1, none⟩ = some (.int .u8 (V.k : Int)) ∧ wn.drew.cell? ⟨kb, ko + q * 4 + 2, none⟩ = some (.string V.d) ∧ wn.drew.cell? ⟨kb, ko + q * 4 + 3, none⟩ = some (.slice a' V.kids.length c') := s5
      clear s5 HAl
      refine wp_region_held (S := fun w' => w'.cell? ⟨pb, po, none⟩ = some (.string x) ∧ w'.cell? ⟨kb, ko + q * 4, none⟩ = some (.string V.nm) ∧ w'.cell? ⟨kb, ko + q * 4 + 1, none⟩ = some (.int .u8 (V.k : Int)) ∧ w'.cell? ⟨kb, ko + q * 4 + 2, none⟩ = some (.string V.d) ∧ w'.cell? ⟨kb, ko + q * 4 + 3, none⟩ = some (.slice a' V.kids.length c')) (by kernel_rfl) ?_
      change wpAnyH Tryz.prog .any _ _ _ _ _ { tmps := #[.agg #[.string T.nm, .int .u8 (T.k : Int), .string T.d, .slice (some ⟨kb, ko, none⟩) T.kids.length cap], .slice (some ⟨pb, po, none⟩) (r.length + 1) cp, .slice fa fl.length fc, .pointer (some ⟨w.heap.size, 0, none⟩), undef, undef, .pointer (some ⟨w.heap.size + 1, 0, none⟩), .int .i64 (q : Int), .bool true, .slice (some ⟨pb, po, none⟩) (r.length + 1) cp, .int .i64 ((r.length : Int) + 1), .bool false, undef, undef, undef, .tuple #[.int .i64 (q : Int), .bool true], .pointer (some ⟨w.heap.size, 3, none⟩), .slice (some ⟨kb, ko, none⟩) T.kids.length cap, .slice (some ⟨pb, po, none⟩) (r.length + 1) cp, .pointer (some ⟨pb, po, none⟩), .string x, .tuple #[.int .i64 (q : Int), .bool true], .int .i64 (q : Int), .bool true, undef, undef, undef, undef, undef, undef, undef, undef, undef, undef, undef, undef, undef, undef, undef, undef, undef, undef], defers := [] } wn.drew
      refine wpAnyH_take (i := 0) (v := .pointer (some ⟨w.heap.size, 3, none⟩)) rfl (by kernel_rfl) (by kernel_rfl) (by kernel_rfl) (fun _ _ _ h => h) (Or.inl ⟨by rfl, ?_⟩) HS0 ?_
      · intro w9 hw9; obtain ⟨y0, y1, y2, y3, y4⟩ := hw9; go_simp
      change wpAnyH Tryz.prog .any _ _ _ _ _ { tmps := #[.agg #[.string T.nm, .int .u8 (T.k : Int), .string T.d, .slice (some ⟨kb, ko, none⟩) T.kids.length cap], .slice (some ⟨pb, po, none⟩) (r.length + 1) cp, .slice fa fl.length fc, .pointer (some ⟨w.heap.size, 0, none⟩), undef, undef, .pointer (some ⟨w.heap.size + 1, 0, none⟩), .int .i64 (q : Int), .bool true, .slice (some ⟨pb, po, none⟩) (r.length + 1) cp, .int .i64 ((r.length : Int) + 1), .bool false, undef, undef, undef, .tuple #[.int .i64 (q : Int), .bool true], .pointer (some ⟨w.heap.size, 3, none⟩), .slice (some ⟨kb, ko, none⟩) T.kids.length cap, .slice (some ⟨pb, po, none⟩) (r.length + 1) cp, .pointer (some ⟨pb, po, none⟩), .string x, .tuple #[.int .i64 (q : Int), .bool true], .int .i64 (q : Int), .bool true, .pointer (some ⟨w.heap.size, 3, none⟩), undef, undef, undef, undef, undef, undef, undef, undef, undef, undef, undef, undef, undef, undef, undef, undef, undef], defers := [] } wn.drew
      refine wpAnyH_take (i := 2) (v := .slice (some ⟨pb, po, none⟩) (r.length + 1) cp) rfl (by kernel_rfl) (by kernel_rfl) (by kernel_rfl) (fun _ _ _ h => h) (Or.inl ⟨by rfl, ?_⟩) HS0 ?_
      · intro w9 hw9; obtain ⟨y0, y1, y2, y3, y4⟩ := hw9; go_simp
      change wpAnyH Tryz.prog .any _ _ _ _ _ { tmps := #[.agg #[.string T.nm, .int .u8 (T.k : Int), .string T.d, .slice (some ⟨kb, ko, none⟩) T.kids.length cap], .slice (some ⟨pb, po, none⟩) (r.length + 1) cp, .slice fa fl.length fc, .pointer (some ⟨w.heap.size, 0, none⟩), undef, undef, .pointer (some ⟨w.heap.size + 1, 0, none⟩), .int .i64 (q : Int), .bool true, .slice (some ⟨pb, po, none⟩) (r.length + 1) cp, .int .i64 ((r.length : Int) + 1), .bool false, undef, undef, undef, .tuple #[.int .i64 (q : Int), .bool true], .pointer (some ⟨w.heap.size, 3, none⟩), .slice (some ⟨kb, ko, none⟩) T.kids.length cap, .slice (some ⟨pb, po, none⟩) (r.length + 1) cp, .pointer (some ⟨pb, po, none⟩), .string x, .tuple #[.int .i64 (q : Int), .bool true], .int .i64 (q : Int), .bool true, .pointer (some ⟨w.heap.size, 3, none⟩), undef, .slice (some ⟨pb, po, none⟩) (r.length + 1) cp, undef, undef, undef, undef, undef, undef, undef, undef, undef, undef, undef, undef, undef, undef, undef], defers := [] } wn.drew
      refine wpAnyH_take (i := 3) (v := .pointer (some ⟨pb, po, none⟩)) rfl (by kernel_rfl) (by kernel_rfl) (by kernel_rfl) (fun _ _ _ h => h) (Or.inl ⟨by rfl, ?_⟩) HS0 ?_
      · intro w9 hw9; obtain ⟨y0, y1, y2, y3, y4⟩ := hw9; go_simp
      change wpAnyH Tryz.prog .any _ _ _ _ _ { tmps := #[.agg #[.string T.nm, .int .u8 (T.k : Int), .string T.d, .slice (some ⟨kb, ko, none⟩) T.kids.length cap], .slice (some ⟨pb, po, none⟩) (r.length + 1) cp, .slice fa fl.length fc, .pointer (some ⟨w.heap.size, 0, none⟩), undef, undef, .pointer (some ⟨w.heap.size + 1, 0, none⟩), .int .i64 (q : Int), .bool true, .slice (some ⟨pb, po, none⟩) (r.length + 1) cp, .int .i64 ((r.length : Int) + 1), .bool false, undef, undef, undef, .tuple #[.int .i64 (q : Int), .bool true], .pointer (some ⟨w.heap.size, 3, none⟩), .slice (some ⟨kb, ko, none⟩) T.kids.length cap, .slice (some ⟨pb, po, none⟩) (r.length + 1) cp, .pointer (some ⟨pb, po, none⟩), .string x, .tuple #[.int .i64 (q : Int), .bool true], .int .i64 (q : Int), .bool true, .pointer (some ⟨w.heap.size, 3, none⟩), undef, .slice (some ⟨pb, po, none⟩) (r.length + 1) cp, .pointer (some ⟨pb, po, none⟩), undef, undef, undef, undef, undef, undef, undef, undef, undef, undef, undef, undef, undef, undef], defers := [] } wn.drew
      refine wpAnyH_take (i := 4) (v := .string x) rfl (by kernel_rfl) (by kernel_rfl) (by kernel_rfl) (fun _ _ _ h => h) (Or.inl ⟨by rfl, ?_⟩) HS0 ?_
      · intro w9 hw9; obtain ⟨y0, y1, y2, y3, y4⟩ := hw9; go_simp
      change wpAnyH Tryz.prog .any _ _ _ _ _ { tmps := #[.agg #[.string T.nm, .int .u8 (T.k : Int), .string T.d, .slice (some ⟨kb, ko, none⟩) T.kids.length cap], .slice (some ⟨pb, po, none⟩) (r.length + 1) cp, .slice fa fl.length fc, .pointer (some ⟨w.heap.size, 0, none⟩), undef, undef, .pointer (some ⟨w.heap.size + 1, 0, none⟩), .int .i64 (q : Int), .bool true, .slice (some ⟨pb, po, none⟩) (r.length + 1) cp, .int .i64 ((r.length : Int) + 1), .bool false, undef, undef, undef, .tuple #[.int .i64 (q : Int), .bool true], .pointer (some ⟨w.heap.size, 3, none⟩), .slice (some ⟨kb, ko, none⟩) T.kids.length cap, .slice (some ⟨pb, po, none⟩) (r.length + 1) cp, .pointer (some ⟨pb, po, none⟩), .string x, .tuple #[.int .i64 (q : Int), .bool true], .int .i64 (q : Int), .bool true, .pointer (some ⟨w.heap.size, 3, none⟩), undef, .slice (some ⟨pb, po, none⟩) (r.length + 1) cp, .pointer (some ⟨pb, po, none⟩), .string x, undef, undef, undef, undef, undef, undef, undef, undef, undef, undef, undef, undef, undef], defers := [] } wn.drew
      refine wpAnyH_take (i := 5) (v := .pointer (some ⟨w.heap.size, 3, none⟩)) rfl (by kernel_rfl) (by kernel_rfl) (by kernel_rfl) (fun _ _ _ h => h) (Or.inl ⟨by rfl, ?_⟩) HS0 ?_
      · intro w9 hw9; obtain ⟨y0, y1, y2, y3, y4⟩ := hw9; go_simp
      change wpAnyH Tryz.prog .any _ _ _ _ _ { tmps := #[.agg #[.string T.nm, .int .u8 (T.k : Int), .string T.d, .slice (some ⟨kb, ko, none⟩) T.kids.length cap], .slice (some ⟨pb, po, none⟩) (r.length + 1) cp, .slice fa fl.length fc, .pointer (some ⟨w.heap.size, 0, none⟩), undef, undef, .pointer (some ⟨w.heap.size + 1, 0, none⟩), .int .i64 (q : Int), .bool true, .slice (some ⟨pb, po, none⟩) (r.length + 1) cp, .int .i64 ((r.length : Int) + 1), .bool false, undef, undef, undef, .tuple #[.int .i64 (q : Int), .bool true], .pointer (some ⟨w.heap.size, 3, none⟩), .slice (some ⟨kb, ko, none⟩) T.kids.length cap, .slice (some ⟨pb, po, none⟩) (r.length + 1) cp, .pointer (some ⟨pb, po, none⟩), .string x, .tuple #[.int .i64 (q : Int), .bool true], .int .i64 (q : Int), .bool true, .pointer (some ⟨w.heap.size, 3, none⟩), undef, .slice (some ⟨pb, po, none⟩) (r.length + 1) cp, .pointer (some ⟨pb, po, none⟩), .string x, .pointer (some ⟨w.heap.size, 3, none⟩), undef, undef, undef, undef, undef, undef, undef, undef, undef, undef, undef, undef], defers := [] } wn.drew
      refine wpAnyH_take (i := 7) (v := .int .i64 (q : Int)) rfl (by kernel_rfl) (by kernel_rfl) (by kernel_rfl) (fun _ _ _ h => h) (Or.inl ⟨by rfl, ?_⟩) HS0 ?_
      · intro w9 hw9; obtain ⟨y0, y1, y2, y3, y4⟩ := hw9; go_simp
      change wpAnyH Tryz.prog .any _ _ _ _ _ { tmps := #[.agg #[.string T.nm, .int .u8 (T.k : Int), .string T.d, .slice (some ⟨kb, ko, none⟩) T.kids.length cap], .slice (some ⟨pb, po, none⟩) (r.length + 1) cp, .slice fa fl.length fc, .pointer (some ⟨w.heap.size, 0, none⟩), undef, undef, .pointer (some ⟨w.heap.size + 1, 0, none⟩), .int .i64 (q : Int), .bool true, .slice (some ⟨pb, po, none⟩) (r.length + 1) cp, .int .i64 ((r.length : Int) + 1), .bool false, undef, undef, undef, .tuple #[.int .i64 (q : Int), .bool true], .pointer (some ⟨w.heap.size, 3, none⟩), .slice (some ⟨kb, ko, none⟩) T.kids.length cap, .slice (some ⟨pb, po, none⟩) (r.length + 1) cp, .pointer (some ⟨pb, po, none⟩), .string x, .tuple #[.int .i64 (q : Int), .bool true], .int .i64 (q : Int), .bool true, .pointer (some ⟨w.heap.size, 3, none⟩), undef, .slice (some ⟨pb, po, none⟩) (r.length + 1) cp, .pointer (some ⟨pb, po, none⟩), .string x, .pointer (some ⟨w.heap.size, 3, none⟩), undef, .int .i64 (q : Int), undef, undef, undef, undef, undef, undef, undef, undef, undef, undef], defers := [] } wn.drew
      refine wpAnyH_take (i := 10) (v := .slice (some ⟨pb, po, none⟩) (r.length + 1) cp) rfl (by kernel_rfl) (by kernel_rfl) (by kernel_rfl) (fun _ _ _ h => h) (Or.inl ⟨by rfl, ?_⟩) HS0 ?_
      · intro w9 hw9; obtain ⟨y0, y1, y2, y3, y4⟩ := hw9; go_simp
      change wpAnyH Tryz.prog .any _ _ _ _ _ { tmps := #[.agg #[.string T.nm, .int .u8 (T.k : Int), .string T.d, .slice (some ⟨kb, ko, none⟩) T.kids.length cap], .slice (some ⟨pb, po, none⟩) (r.length + 1) cp, .slice fa fl.length fc, .pointer (some ⟨w.heap.size, 0, none⟩), undef, undef, .pointer (some ⟨w.heap.size + 1, 0, none⟩), .int .i64 (q : Int), .bool true, .slice (some ⟨pb, po, none⟩) (r.length + 1) cp, .int .i64 ((r.length : Int) + 1), .bool false, undef, undef, undef, .tuple #[.int .i64 (q : Int), .bool true], .pointer (some ⟨w.heap.size, 3, none⟩), .slice (some ⟨kb, ko, none⟩) T.kids.length cap, .slice (some ⟨pb, po, none⟩) (r.length + 1) cp, .pointer (some ⟨pb, po, none⟩), .string x, .tuple #[.int .i64 (q : Int), .bool true], .int .i64 (q : Int), .bool true, .pointer (some ⟨w.heap.size, 3, none⟩), undef, .slice (some ⟨pb, po, none⟩) (r.length + 1) cp, .pointer (some ⟨pb, po, none⟩), .string x, .pointer (some ⟨w.heap.size, 3, none⟩), undef, .int .i64 (q : Int), undef, undef, .slice (some ⟨pb, po, none⟩) (r.length + 1) cp, undef, undef, undef, undef, undef, undef, undef], defers := [] } wn.drew
      refine wpAnyH_take (i := 11) (v := .slice (some ⟨pb, po + 1, none⟩) r.length (cp - 1)) rfl (by kernel_rfl) (by kernel_rfl) (by kernel_rfl) (fun _ _ _ h => h) (Or.inl ⟨by rfl, ?_⟩) HS0 ?_
      · intro w9 hw9; obtain ⟨y0, y1, y2, y3, y4⟩ := hw9; go_simp
      change wpAnyH Tryz.prog .any _ _ _ _ _ { tmps := #[.agg #[.string T.nm, .int .u8 (T.k : Int), .string T.d, .slice (some ⟨kb, ko, none⟩) T.kids.length cap], .slice (some ⟨pb, po, none⟩) (r.length + 1) cp, .slice fa fl.length fc, .pointer (some ⟨w.heap.size, 0, none⟩), undef, undef, .pointer (some ⟨w.heap.size + 1, 0, none⟩), .int .i64 (q : Int), .bool true, .slice (some ⟨pb, po, none⟩) (r.length + 1) cp, .int .i64 ((r.length : Int) + 1), .bool false, undef, undef, undef, .tuple #[.int .i64 (q : Int), .bool true], .pointer (some ⟨w.heap.size, 3, none⟩), .slice (some ⟨kb, ko, none⟩) T.kids.length cap, .slice (some ⟨pb, po, none⟩) (r.length + 1) cp, .pointer (some ⟨pb, po, none⟩), .string x, .tuple #[.int .i64 (q : Int), .bool true], .int .i64 (q : Int), .bool true, .pointer (some ⟨w.heap.size, 3, none⟩), undef, .slice (some ⟨pb, po, none⟩) (r.length + 1) cp, .pointer (some ⟨pb, po, none⟩), .string x, .pointer (some ⟨w.heap.size, 3, none⟩), undef, .int .i64 (q : Int), undef, undef, .slice (some ⟨pb, po, none⟩) (r.length + 1) cp, .slice (some ⟨pb, po + 1, none⟩) r.length (cp - 1), undef, undef, undef, undef, undef, undef], defers := [] } wn.drew
      refine wpAnyH_take (i := 12) (v := .slice fa fl.length fc) rfl (by kernel_rfl) (by kernel_rfl) (by kernel_rfl) (fun _ _ _ h => h) (Or.inl ⟨by rfl, ?_⟩) HS0 ?_
      · intro w9 hw9; obtain ⟨y0, y1, y2, y3, y4⟩ := hw9; go_simp
      change wpAnyH Tryz.prog .any _ _ _ _ _ { tmps := #[.agg #[.string T.nm, .int .u8 (T.k : Int), .string T.d, .slice (some ⟨kb, ko, none⟩) T.kids.length cap], .slice (some ⟨pb, po, none⟩) (r.length + 1) cp, .slice fa fl.length fc, .pointer (some ⟨w.heap.size, 0, none⟩), undef, undef, .pointer (some ⟨w.heap.size + 1, 0, none⟩), .int .i64 (q : Int), .bool true, .slice (some ⟨pb, po, none⟩) (r.length + 1) cp, .int .i64 ((r.length : Int) + 1), .bool false, undef, undef, undef, .tuple #[.int .i64 (q : Int), .bool true], .pointer (some ⟨w.heap.size, 3, none⟩), .slice (some ⟨kb, ko, none⟩) T.kids.length cap, .slice (some ⟨pb, po, none⟩) (r.length + 1) cp, .pointer (some ⟨pb, po, none⟩), .string x, .tuple #[.int .i64 (q : Int), .bool true], .int .i64 (q : Int), .bool true, .pointer (some ⟨w.heap.size, 3, none⟩), undef, .slice (some ⟨pb, po, none⟩) (r.length + 1) cp, .pointer (some ⟨pb, po, none⟩), .string x, .pointer (some ⟨w.heap.size, 3, none⟩), undef, .int .i64 (q : Int), undef, undef, .slice (some ⟨pb, po, none⟩) (r.length + 1) cp, .slice (some ⟨pb, po + 1, none⟩) r.length (cp - 1), .slice fa fl.length fc, undef, undef, undef, undef, undef], defers := [] } wn.drew
      refine wpAnyH_ready (rs := [1, 6]) (by kernel_rfl) (by simp) ?_
      refine AllReadyH.cons rfl (fun K hK => ?_) ?_
      · go_simp
        refine hK.out _ _ HS0 (fun _ => ?_)
        clear hK K
        change wpAnyH Tryz.prog .any _ _ _ _ _ { tmps := #[.agg #[.string T.nm, .int .u8 (T.k : Int), .string T.d, .slice (some ⟨kb, ko, none⟩) T.kids.length cap], .slice (some ⟨pb, po, none⟩) (r.length + 1) cp, .slice fa fl.length fc, .pointer (some ⟨w.heap.size, 0, none⟩), undef, undef, .pointer (some ⟨w.heap.size + 1, 0, none⟩), .int .i64 (q : Int), .bool true, .slice (some ⟨pb, po, none⟩) (r.length + 1) cp, .int .i64 ((r.length : Int) + 1), .bool false, undef, undef, undef, .tuple #[.int .i64 (q : Int), .bool true], .pointer (some ⟨w.heap.size, 3, none⟩), .slice (some ⟨kb, ko, none⟩) T.kids.length cap, .slice (some ⟨pb, po, none⟩) (r.length + 1) cp, .pointer (some ⟨pb, po, none⟩), .string x, .tuple #[.int .i64 (q : Int), .bool true], .int .i64 (q : Int), .bool true, .pointer (some ⟨w.heap.size, 3, none⟩), .slice (some ⟨kb, ko, none⟩) T.kids.length cap, .slice (some ⟨pb, po, none⟩) (r.length + 1) cp, .pointer (some ⟨pb, po, none⟩), .string x, .pointer (some ⟨w.heap.size, 3, none⟩), undef, .int .i64 (q : Int), undef, undef, .slice (some ⟨pb, po, none⟩) (r.length + 1) cp, .slice (some ⟨pb, po + 1, none⟩) r.length (cp - 1), .slice fa fl.length fc, undef, undef, undef, undef, undef], defers := [] } wn.drew
        refine wpAnyH_ready (rs := [6]) (by kernel_rfl) (by simp) ?_
        refine AllReadyH.cons rfl (fun K hK => ?_) ?_
        · go_simp
          refine hK.out _ _ HS0 (fun _ => ?_)
          clear hK K
          change wpAnyH Tryz.prog .any _ _ _ _ _ { tmps := #[.agg #[.string T.nm, .int .u8 (T.k : Int), .string T.d, .slice (some ⟨kb, ko, none⟩) T.kids.length cap], .slice (some ⟨pb, po, none⟩) (r.length + 1) cp, .slice fa fl.length fc, .pointer (some ⟨w.heap.size, 0, none⟩), undef, undef, .pointer (some ⟨w.heap.size + 1, 0, none⟩), .int .i64 (q : Int), .bool true, .slice (some ⟨pb, po, none⟩) (r.length + 1) cp, .int .i64 ((r.length : Int) + 1), .bool false, undef, undef, undef, .tuple #[.int .i64 (q : Int), .bool true], .pointer (some ⟨w.heap.size, 3, none⟩), .slice (some ⟨kb, ko, none⟩) T.kids.length cap, .slice (some ⟨pb, po, none⟩) (r.length + 1) cp, .pointer (some ⟨pb, po, none⟩), .string x, .tuple #[.int .i64 (q : Int), .bool true], .int .i64 (q : Int), .bool true, .pointer (some ⟨w.heap.size, 3, none⟩), .slice (some ⟨kb, ko, none⟩) T.kids.length cap, .slice (some ⟨pb, po, none⟩) (r.length + 1) cp, .pointer (some ⟨pb, po, none⟩), .string x, .pointer (some ⟨w.heap.size, 3, none⟩), .slice (some ⟨kb, ko, none⟩) T.kids.length cap, .int .i64 (q : Int), undef, undef, .slice (some ⟨pb, po, none⟩) (r.length + 1) cp, .slice (some ⟨pb, po + 1, none⟩) r.length (cp - 1), .slice fa fl.length fc, undef, undef, undef, undef, undef], defers := [] } wn.drew
          refine wpAnyH_take (i := 8) (v := .pointer (some ⟨kb, ko + q * 4, none⟩)) rfl (by kernel_rfl) (by kernel_rfl) (by kernel_rfl) (fun _ _ _ h => h) (Or.inl ⟨by rfl, ?_⟩) HS0 ?_
          · intro w9 hw9; obtain ⟨y0, y1, y2, y3, y4⟩ := hw9; go_simp
          change wpAnyH Tryz.prog .any _ _ _ _ _ { tmps := #[.agg #[.string T.nm, .int .u8 (T.k : Int), .string T.d, .slice (some ⟨kb, ko, none⟩) T.kids.length cap], .slice (some ⟨pb, po, none⟩) (r.length + 1) cp, .slice fa fl.length fc, .pointer (some ⟨w.heap.size, 0, none⟩), undef, undef, .pointer (some ⟨w.heap.size + 1, 0, none⟩), .int .i64 (q : Int), .bool true, .slice (some ⟨pb, po, none⟩) (r.length + 1) cp, .int .i64 ((r.length : Int) + 1), .bool false, undef, undef, undef, .tuple #[.int .i64 (q : Int), .bool true], .pointer (some ⟨w.heap.size, 3, none⟩), .slice (some ⟨kb, ko, none⟩) T.kids.length cap, .slice (some ⟨pb, po, none⟩) (r.length + 1) cp, .pointer (some ⟨pb, po, none⟩), .string x, .tuple #[.int .i64 (q : Int), .bool true], .int .i64 (q : Int), .bool true, .pointer (some ⟨w.heap.size, 3, none⟩), .slice (some ⟨kb, ko, none⟩) T.kids.length cap, .slice (some ⟨pb, po, none⟩) (r.length + 1) cp, .pointer (some ⟨pb, po, none⟩), .string x, .pointer (some ⟨w.heap.size, 3, none⟩), .slice (some ⟨kb, ko, none⟩) T.kids.length cap, .int .i64 (q : Int), .pointer (some ⟨kb, ko + q * 4, none⟩), undef, .slice (some ⟨pb, po, none⟩) (r.length + 1) cp, .slice (some ⟨pb, po + 1, none⟩) r.length (cp - 1), .slice fa fl.length fc, undef, undef, undef, undef, undef], defers := [] } wn.drew
          refine wpAnyH_take (i := 9) (v := .agg #[.string V.nm, .int .u8 (V.k : Int), .string V.d, .slice a' V.kids.length c']) rfl (by kernel_rfl) (by kernel_rfl) (by kernel_rfl) (fun _ _ _ h => h) (Or.inl ⟨by rfl, ?_⟩) HS0 ?_
          · intro w9 hw9; obtain ⟨y0, y1, y2, y3, y4⟩ := hw9; go_simp
          change wpAnyH Tryz.prog .any _ _ _ _ _ { tmps := #[.agg #[.string T.nm, .int .u8 (T.k : Int), .string T.d, .slice (some ⟨kb, ko, none⟩) T.kids.length cap], .slice (some ⟨pb, po, none⟩) (r.length + 1) cp, .slice fa fl.length fc, .pointer (some ⟨w.heap.size, 0, none⟩), undef, undef, .pointer (some ⟨w.heap.size + 1, 0, none⟩), .int .i64 (q : Int), .bool true, .slice (some ⟨pb, po, none⟩) (r.length + 1) cp, .int .i64 ((r.length : Int) + 1), .bool false, undef, undef, undef, .tuple #[.int .i64 (q : Int), .bool true], .pointer (some ⟨w.heap.size, 3, none⟩), .slice (some ⟨kb, ko, none⟩) T.kids.length cap, .slice (some ⟨pb, po, none⟩) (r.length + 1) cp, .pointer (some ⟨pb, po, none⟩), .string x, .tuple #[.int .i64 (q : Int), .bool true], .int .i64 (q : Int), .bool true, .pointer (some ⟨w.heap.size, 3, none⟩), .slice (some ⟨kb, ko, none⟩) T.kids.length cap, .slice (some ⟨pb, po, none⟩) (r.length + 1) cp, .pointer (some ⟨pb, po, none⟩), .string x, .pointer (some ⟨w.heap.size, 3, none⟩), .slice (some ⟨kb, ko, none⟩) T.kids.length cap, .int .i64 (q : Int), .pointer (some ⟨kb, ko + q * 4, none⟩), .agg #[.string V.nm, .int .u8 (V.k : Int), .string V.d, .slice a' V.kids.length c'], .slice (some ⟨pb, po, none⟩) (r.length + 1) cp, .slice (some ⟨pb, po + 1, none⟩) r.length (cp - 1), .slice fa fl.length fc, undef, undef, undef, undef, undef], defers := [] } wn.drew
          refine wpAnyH_ready (rs := [13]) (by kernel_rfl) (by simp) ?_
          refine AllReadyH.cons rfl (fun K hK => ?_) ?_
          · go_simp
            refine Calls.mono HCW.out ?_
            rintro e w2 ⟨b2, c2, rfl, hU⟩
            have hb2 : Below wn.heap.size wn w2 := hbD.trans hU.out.2
            obtain ⟨HS2, g2, gf2⟩ := HS5.out w2 hb2
            refine hK.out _ _ HS2 (fun _ => ?_)
            clear hK K
            change wpAnyH Tryz.prog .any _ _ _ _ _ { tmps := #[.agg #[.string T.nm, .int .u8 (T.k : Int), .string T.d, .slice (some ⟨kb, ko, none⟩) T.kids.length cap], .slice (some ⟨pb, po, none⟩) (r.length + 1) cp, .slice fa fl.length fc, .pointer (some ⟨w.heap.size, 0, none⟩), undef, undef, .pointer (some ⟨w.heap.size + 1, 0, none⟩), .int .i64 (q : Int), .bool true, .slice (some ⟨pb, po, none⟩) (r.length + 1) cp, .int .i64 ((r.length : Int) + 1), .bool false, undef, undef, undef, .tuple #[.int .i64 (q : Int), .bool true], .pointer (some ⟨w.heap.size, 3, none⟩), .slice (some ⟨kb, ko, none⟩) T.kids.length cap, .slice (some ⟨pb, po, none⟩) (r.length + 1) cp, .pointer (some ⟨pb, po, none⟩), .string x, .tuple #[.int .i64 (q : Int), .bool true], .int .i64 (q : Int), .bool true, .pointer (some ⟨w.heap.size, 3, none⟩), .slice (some ⟨kb, ko, none⟩) T.kids.length cap, .slice (some ⟨pb, po, none⟩) (r.length + 1) cp, .pointer (some ⟨pb, po, none⟩), .string x, .pointer (some ⟨w.heap.size, 3, none⟩), .slice (some ⟨kb, ko, none⟩) T.kids.length cap, .int .i64 (q : Int), .pointer (some ⟨kb, ko + q * 4, none⟩), .agg #[.string V.nm, .int .u8 (V.k : Int), .string V.d, .slice a' V.kids.length c'], .slice (some ⟨pb, po, none⟩) (r.length + 1) cp, .slice (some ⟨pb, po + 1, none⟩) r.length (cp - 1), .slice fa fl.length fc, .agg #[.string (Ft.withR V r fl).nm, .int .u8 ((Ft.withR V r fl).k : Int), .string (Ft.withR V r fl).d, .slice b2 (Ft.withR V r fl).kids.length c2], undef, undef, undef, undef], defers := [] } w2
            refine wpAnyH_ready (rs := [14]) (by kernel_rfl) (by simp) ?_
            refine AllReadyH.cons rfl (fun K hK => ?_) ?_
            · go_simp
              have hb3 : Below wn.heap.size wn (w2.alloc (.cells #[.string (Ft.withR V r fl).nm, .int .u8 ((Ft.withR V r fl).k : Int), .string (Ft.withR V r fl).d, .slice b2 (Ft.withR V r fl).kids.length c2] 25)) := hb2.alloc hb2.size _
              obtain ⟨HS3, g3', gf3⟩ := HS5.out (w2.alloc (.cells #[.string (Ft.withR V r fl).nm, .int .u8 ((Ft.withR V r fl).k : Int), .string (Ft.withR V r fl).d, .slice b2 (Ft.withR V r fl).kids.length c2] 25)) hb3
              refine hK.out _ _ HS3 (fun _ => ?_)
              clear hK K
              change wpAnyH Tryz.prog .any _ _ _ _ _ { tmps := #[.agg #[.string T.nm, .int .u8 (T.k : Int), .string T.d, .slice (some ⟨kb, ko, none⟩) T.kids.length cap], .slice (some ⟨pb, po, none⟩) (r.length + 1) cp, .slice fa fl.length fc, .pointer (some ⟨w.heap.size, 0, none⟩), undef, undef, .pointer (some ⟨w.heap.size + 1, 0, none⟩), .int .i64 (q : Int), .bool true, .slice (some ⟨pb, po, none⟩) (r.length + 1) cp, .int .i64 ((r.length : Int) + 1), .bool false, undef, undef, undef, .tuple #[.int .i64 (q : Int), .bool true], .pointer (some ⟨w.heap.size, 3, none⟩), .slice (some ⟨kb, ko, none⟩) T.kids.length cap, .slice (some ⟨pb, po, none⟩) (r.length + 1) cp, .pointer (some ⟨pb, po, none⟩), .string x, .tuple #[.int .i64 (q : Int), .bool true], .int .i64 (q : Int), .bool true, .pointer (some ⟨w.heap.size, 3, none⟩), .slice (some ⟨kb, ko, none⟩) T.kids.length cap, .slice (some ⟨pb, po, none⟩) (r.length + 1) cp, .pointer (some ⟨pb, po, none⟩), .string x, .pointer (some ⟨w.heap.size, 3, none⟩), .slice (some ⟨kb, ko, none⟩) T.kids.length cap, .int .i64 (q : Int), .pointer (some ⟨kb, ko + q * 4, none⟩), .agg #[.string V.nm, .int .u8 (V.k : Int), .string V.d, .slice a' V.kids.length c'], .slice (some ⟨pb, po, none⟩) (r.length + 1) cp, .slice (some ⟨pb, po + 1, none⟩) r.length (cp - 1), .slice fa fl.length fc, .agg #[.string (Ft.withR V r fl).nm, .int .u8 ((Ft.withR V r fl).k : Int), .string (Ft.withR V r fl).d, .slice b2 (Ft.withR V r fl).kids.length c2], .slice (some ⟨w2.heap.size, 0, none⟩) 1 1, undef, undef, undef], defers := [] } (w2.alloc (.cells #[.string (Ft.withR V r fl).nm, .int .u8 ((Ft.withR V r fl).k : Int), .string (Ft.withR V r fl).d, .slice b2 (Ft.withR V r fl).kids.length c2] 25))
              refine wpAnyH_ready (rs := [15]) (by kernel_rfl) (by simp) ?_
              refine AllReadyH.cons rfl (fun K hK => ?_) ?_
              · go_simp
                refine Calls.mono (HSw.out w2 b2 c2 hU) ?_
                rintro e w4 ⟨a4, c4, rfl, hR4⟩
                obtain ⟨HS4, g4, gf4⟩ := HS5.out w4 hR4.out.2
                refine hK.out _ _ HS4 (fun _ => ?_)
                clear hK K
                change wpAnyH Tryz.prog .any _ _ _ _ _ { tmps := #[.agg #[.string T.nm, .int .u8 (T.k : Int), .string T.d, .slice (some ⟨kb, ko, none⟩) T.kids.length cap], .slice (some ⟨pb, po, none⟩) (r.length + 1) cp, .slice fa fl.length fc, .pointer (some ⟨w.heap.size, 0, none⟩), undef, undef, .pointer (some ⟨w.heap.size + 1, 0, none⟩), .int .i64 (q : Int), .bool true, .slice (some ⟨pb, po, none⟩) (r.length + 1) cp, .int .i64 ((r.length : Int) + 1), .bool false, undef, undef, undef, .tuple #[.int .i64 (q : Int), .bool true], .pointer (some ⟨w.heap.size, 3, none⟩), .slice (some ⟨kb, ko, none⟩) T.kids.length cap, .slice (some ⟨pb, po, none⟩) (r.length + 1) cp, .pointer (some ⟨pb, po, none⟩), .string x, .tuple #[.int .i64 (q : Int), .bool true], .int .i64 (q : Int), .bool true, .pointer (some ⟨w.heap.size, 3, none⟩), .slice (some ⟨kb, ko, none⟩) T.kids.length cap, .slice (some ⟨pb, po, none⟩) (r.length + 1) cp, .pointer (some ⟨pb, po, none⟩), .string x, .pointer (some ⟨w.heap.size, 3, none⟩), .slice (some ⟨kb, ko, none⟩) T.kids.length cap, .int .i64 (q : Int), .pointer (some ⟨kb, ko + q * 4, none⟩), .agg #[.string V.nm, .int .u8 (V.k : Int), .string V.d, .slice a' V.kids.length c'], .slice (some ⟨pb, po, none⟩) (r.length + 1) cp, .slice (some ⟨pb, po + 1, none⟩) r.length (cp - 1), .slice fa fl.length fc, .agg #[.string (Ft.withR V r fl).nm, .int .u8 ((Ft.withR V r fl).k : Int), .string (Ft.withR V r fl).d, .slice b2 (Ft.withR V r fl).kids.length c2], .slice (some ⟨w2.heap.size, 0, none⟩) 1 1, .slice a4 T.kids.length c4, undef, undef], defers := [] } w4
                refine wpAnyH_take (i := 16) (v := .pointer (some ⟨w.heap.size, 3, none⟩)) rfl (by kernel_rfl) (by kernel_rfl) (by kernel_rfl) (fun _ _ _ h => h) (Or.inl ⟨by rfl, ?_⟩) HS4 ?_
                · intro w9 hw9; obtain ⟨y0, y1, y2, y3, y4⟩ := hw9; go_simp
                change wpAnyH Tryz.prog .any _ _ _ _ _ { tmps := #[.agg #[.string T.nm, .int .u8 (T.k : Int), .string T.d, .slice (some ⟨kb, ko, none⟩) T.kids.length cap], .slice (some ⟨pb, po, none⟩) (r.length + 1) cp, .slice fa fl.length fc, .pointer (some ⟨w.heap.size, 0, none⟩), undef, undef, .pointer (some ⟨w.heap.size + 1, 0, none⟩), .int .i64 (q : Int), .bool true, .slice (some ⟨pb, po, none⟩) (r.length + 1) cp, .int .i64 ((r.length : Int) + 1), .bool false, undef, undef, undef, .tuple #[.int .i64 (q : Int), .bool true], .pointer (some ⟨w.heap.size, 3, none⟩), .slice (some ⟨kb, ko, none⟩) T.kids.length cap, .slice (some ⟨pb, po, none⟩) (r.length + 1) cp, .pointer (some ⟨pb, po, none⟩), .string x, .tuple #[.int .i64 (q : Int), .bool true], .int .i64 (q : Int), .bool true, .pointer (some ⟨w.heap.size, 3, none⟩), .slice (some ⟨kb, ko, none⟩) T.kids.length cap, .slice (some ⟨pb, po, none⟩) (r.length + 1) cp, .pointer (some ⟨pb, po, none⟩), .string x, .pointer (some ⟨w.heap.size, 3, none⟩), .slice (some ⟨kb, ko, none⟩) T.kids.length cap, .int .i64 (q : Int), .pointer (some ⟨kb, ko + q * 4, none⟩), .agg #[.string V.nm, .int .u8 (V.k : Int), .string V.d, .slice a' V.kids.length c'], .slice (some ⟨pb, po, none⟩) (r.length + 1) cp, .slice (some ⟨pb, po + 1, none⟩) r.length (cp - 1), .slice fa fl.length fc, .agg #[.string (Ft.withR V r fl).nm, .int .u8 ((Ft.withR V r fl).k : Int), .string (Ft.withR V r fl).d, .slice b2 (Ft.withR V r fl).kids.length c2], .slice (some ⟨w2.heap.size, 0, none⟩) 1 1, .slice a4 T.kids.length c4, .pointer (some ⟨w.heap.size, 3, none⟩), undef], defers := [] } w4
                refine wpAnyH_ready (rs := [17]) (by kernel_rfl) (by simp) ?_
                refine AllReadyH.cons rfl (fun K hK => ?_) ?_
                · go_simp
                  refine hK.out _ _ (HSt.out w4 _ HS4) (fun _ => ?_)
                  refine wpAnyH_done (by kernel_rfl) ?_ _
                  clear hK K
                  have hF4 : Ft.FileAt w4 w.heap.size T (some ⟨kb, ko, none⟩) cap := Ft.FileAt.under HG.out.2.1 hR4.out.2
                  have hZ4 : Ft.FileAt w4 (w.heap.size + 1) Ft.zF none 0 := Ft.FileAt.under HG.out.2.2 hR4.out.2
                  have HR4 : Hid (Ft.FdL w4 (fun k => P k ∨ (wn.heap.size ≤ k ∧ k < w4.heap.size)) (Ft.setN T.kids x (Ft.withR V r fl), a4, c4)) := hR4.out.1
                  have HB4 : Hid (Below w.heap.size w w4) := HF.out.2.2.1.trans (HWn.out.trans (hR4.out.2.mono HWn.out.size) |>.mono HF.out.2.2.1.size)
                  have HZ4 : Hid (Ft.FileAt w4 (w.heap.size + 1) Ft.zF none 0) := hZ4
                  have HT : Hid (Ft.withR T (x :: r) fl = .mk T.nm T.k T.d (Ft.setN T.kids x (Ft.withR V r fl))) := HVk.out
                  have hl := Ft.setN_len T.kids x (Ft.withR V r fl)
                  obtain ⟨x0, x1, x2, x3⟩ := hF4.four
                  have qf := hF4.frozen
                  have z0 : w4.cell? ⟨w.heap.size + 1, 0, none⟩ = some (.string ⟨#[]⟩) := hZ4.four.c0
                  have z1 : w4.cell? ⟨w.heap.size + 1, 1, none⟩ = some (.int .u8 0) := hZ4.four.c1
                  have z2 : w4.cell? ⟨w.heap.size + 1, 2, none⟩ = some (.string ⟨#[]⟩) := hZ4.four.c2
                  have z3 : w4.cell? ⟨w.heap.size + 1, 3, none⟩ = some (.slice none 0 0) := hZ4.four.c3
                  have zf := hZ4.frozen
                  have HWl : w.heap.size + 1 < wn.heap.size := Ft.FileAt.lt HG.out.2.2
                  clear HS4 g4 gf4 hR4 hU hb2 HS2 g2 gf2 HS0 g3 gf q0 q1 q2 q3 hF4 hZ4 HIH HC1 HSw HCW HS5 HSt HG HS
                  go_wp2_with fail
                  generalize Ft.setN T.kids x (Ft.withR V r fl) = SN at *
                  rw [← hl]
                  have hne : w.heap.size + 1 ≠ w.heap.size := by omega
                  have K1 : Ft.FileAt (w4.setCell ⟨w.heap.size, 3, none⟩ (.slice a4 SN.length c4)) (w.heap.size + 1) Ft.zF none 0 := (heap_setCell_other w4 ⟨w.heap.size, 3, none⟩ (w.heap.size + 1) _ hne).trans HZ4.out
                  have K0 : Below w.heap.size w4 (w4.setCell ⟨w.heap.size, 3, none⟩ (.slice a4 SN.length c4)) := (Below.refl _ _).setCell (p := ⟨w.heap.size, 3, none⟩) (Nat.le_refl _) _
                  have K2 : Below w.heap.size w (Ft.putF (w4.setCell ⟨w.heap.size, 3, none⟩ (.slice a4 SN.length c4)) (w.heap.size + 1) (.mk T.nm T.k T.d SN) a4 c4) := Ft.putF_below (HB4.out.trans K0) (by omega)
                  have K3 : w4.heap.size ≤ (Ft.putF (w4.setCell ⟨w.heap.size, 3, none⟩ (.slice a4 SN.length c4)) (w.heap.size + 1) (.mk T.nm T.k T.d SN) a4 c4).heap.size := (Ft.putF_below K0 (by omega)).size
                  refine bodyPost_ret (results_cell_row rfl _ _ (w.heap.size + 1) _ _ _ _ rfl (Ft.FileAt.putF K1 (.mk T.nm T.k T.d SN) a4 c4) Tryz.underlying25 rfl (by kernel_rfl)) rfl ?_
                  rw [HT.out]
                  refine ⟨a4, c4, rfl, Ft.Fd.same (HR4.out.tree T.nm T.k T.d) (fun k hk => ?_) (fun k hk => ?_), K2⟩
                  · have hk2 : k ≠ w.heap.size ∧ k ≠ w.heap.size + 1 := by
                      rcases hk with hk | hk
                      · have := HF.out.2.2.2.2.1 k hk; omega
                      · omega
                    exact (Ft.putF_other (T := .mk T.nm T.k T.d SN) (a := a4) (cap := c4) hk2.2).trans (heap_setCell_other w4 ⟨w.heap.size, 3, none⟩ k _ hk2.1)
                  · rcases hk with hk | hk
                    · exact .inl hk
                    · exact .inr ⟨by omega, Nat.lt_of_lt_of_le hk.2 K3⟩
                exact AllReadyH.nil
              exact AllReadyH.nil
            exact AllReadyH.nil
          exact AllReadyH.nil
        exact AllReadyH.nil
      refine AllReadyH.cons rfl (fun K hK => ?_) ?_
      · go_simp
        refine hK.out _ _ HS0 (fun _ => ?_)
        clear hK K
        change wpAnyH Tryz.prog .any _ _ _ _ _ { tmps := #[.agg #[.string T.nm, .int .u8 (T.k : Int), .string T.d, .slice (some ⟨kb, ko, none⟩) T.kids.length cap], .slice (some ⟨pb, po, none⟩) (r.length + 1) cp, .slice fa fl.length fc, .pointer (some ⟨w.heap.size, 0, none⟩), undef, undef, .pointer (some ⟨w.heap.size + 1, 0, none⟩), .int .i64 (q : Int), .bool true, .slice (some ⟨pb, po, none⟩) (r.length + 1) cp, .int .i64 ((r.length : Int) + 1), .bool false, undef, undef, undef, .tuple #[.int .i64 (q : Int), .bool true], .pointer (some ⟨w.heap.size, 3, none⟩), .slice (some ⟨kb, ko, none⟩) T.kids.length cap, .slice (some ⟨pb, po, none⟩) (r.length + 1) cp, .pointer (some ⟨pb, po, none⟩), .string x, .tuple #[.int .i64 (q : Int), .bool true], .int .i64 (q : Int), .bool true, .pointer (some ⟨w.heap.size, 3, none⟩), undef, .slice (some ⟨pb, po, none⟩) (r.length + 1) cp, .pointer (some ⟨pb, po, none⟩), .string x, .pointer (some ⟨w.heap.size, 3, none⟩), .slice (some ⟨kb, ko, none⟩) T.kids.length cap, .int .i64 (q : Int), undef, undef, .slice (some ⟨pb, po, none⟩) (r.length + 1) cp, .slice (some ⟨pb, po + 1, none⟩) r.length (cp - 1), .slice fa fl.length fc, undef, undef, undef, undef, undef], defers := [] } wn.drew
        refine wpAnyH_take (i := 8) (v := .pointer (some ⟨kb, ko + q * 4, none⟩)) rfl (by kernel_rfl) (by kernel_rfl) (by kernel_rfl) (fun _ _ _ h => h) (Or.inl ⟨by rfl, ?_⟩) HS0 ?_
        · intro w9 hw9; obtain ⟨y0, y1, y2, y3, y4⟩ := hw9; go_simp
        change wpAnyH Tryz.prog .any _ _ _ _ _ { tmps := #[.agg #[.string T.nm, .int .u8 (T.k : Int), .string T.d, .slice (some ⟨kb, ko, none⟩) T.kids.length cap], .slice (some ⟨pb, po, none⟩) (r.length + 1) cp, .slice fa fl.length fc, .pointer (some ⟨w.heap.size, 0, none⟩), undef, undef, .pointer (some ⟨w.heap.size + 1, 0, none⟩), .int .i64 (q : Int), .bool true, .slice (some ⟨pb, po, none⟩) (r.length + 1) cp, .int .i64 ((r.length : Int) + 1), .bool false, undef, undef, undef, .tuple #[.int .i64 (q : Int), .bool true], .pointer (some ⟨w.heap.size, 3, none⟩), .slice (some ⟨kb, ko, none⟩) T.kids.length cap, .slice (some ⟨pb, po, none⟩) (r.length + 1) cp, .pointer (some ⟨pb, po, none⟩), .string x, .tuple #[.int .i64 (q : Int), .bool true], .int .i64 (q : Int), .bool true, .pointer (some ⟨w.heap.size, 3, none⟩), undef, .slice (some ⟨pb, po, none⟩) (r.length + 1) cp, .pointer (some ⟨pb, po, none⟩), .string x, .pointer (some ⟨w.heap.size, 3, none⟩), .slice (some ⟨kb, ko, none⟩) T.kids.length cap, .int .i64 (q : Int), .pointer (some ⟨kb, ko + q * 4, none⟩), undef, .slice (some ⟨pb, po, none⟩) (r.length + 1) cp, .slice (some ⟨pb, po + 1, none⟩) r.length (cp - 1), .slice fa fl.length fc, undef, undef, undef, undef, undef], defers := [] } wn.drew
        refine wpAnyH_take (i := 9) (v := .agg #[.string V.nm, .int .u8 (V.k : Int), .string V.d, .slice a' V.kids.length c']) rfl (by kernel_rfl) (by kernel_rfl) (by kernel_rfl) (fun _ _ _ h => h) (Or.inl ⟨by rfl, ?_⟩) HS0 ?_
        · intro w9 hw9; obtain ⟨y0, y1, y2, y3, y4⟩ := hw9; go_simp
        change wpAnyH Tryz.prog .any _ _ _ _ _ { tmps := #[.agg #[.string T.nm, .int .u8 (T.k : Int), .string T.d, .slice (some ⟨kb, ko, none⟩) T.kids.length cap], .slice (some ⟨pb, po, none⟩) (r.length + 1) cp, .slice fa fl.length fc, .pointer (some ⟨w.heap.size, 0, none⟩), undef, undef, .pointer (some ⟨w.heap.size + 1, 0, none⟩), .int .i64 (q : Int), .bool true, .slice (some ⟨pb, po, none⟩) (r.length + 1) cp, .int .i64 ((r.length : Int) + 1), .bool false, undef, undef, undef, .tuple #[.int .i64 (q : Int), .bool true], .pointer (some ⟨w.heap.size, 3, none⟩), .slice (some ⟨kb, ko, none⟩) T.kids.length cap, .slice (some ⟨pb, po, none⟩) (r.length + 1) cp, .pointer (some ⟨pb, po, none⟩), .string x, .tuple #[.int .i64 (q : Int), .bool true], .int .i64 (q : Int), .bool true, .pointer (some ⟨w.heap.size, 3, none⟩), undef, .slice (some ⟨pb, po, none⟩) (r.length + 1) cp, .pointer (some ⟨pb, po, none⟩), .string x, .pointer (some ⟨w.heap.size, 3, none⟩), .slice (some ⟨kb, ko, none⟩) T.kids.length cap, .int .i64 (q : Int), .pointer (some ⟨kb, ko + q * 4, none⟩), .agg #[.string V.nm, .int .u8 (V.k : Int), .string V.d, .slice a' V.kids.length c'], .slice (some ⟨pb, po, none⟩) (r.length + 1) cp, .slice (some ⟨pb, po + 1, none⟩) r.length (cp - 1), .slice fa fl.length fc, undef, undef, undef, undef, undef], defers := [] } wn.drew
        refine wpAnyH_ready (rs := [1, 13]) (by kernel_rfl) (by simp) ?_
        refine AllReadyH.cons rfl (fun K hK => ?_) ?_
        · go_simp
          refine hK.out _ _ HS0 (fun _ => ?_)
          clear hK K
          change wpAnyH Tryz.prog .any _ _ _ _ _ { tmps := #[.agg #[.string T.nm, .int .u8 (T.k : Int), .string T.d, .slice (some ⟨kb, ko, none⟩) T.kids.length cap], .slice (some ⟨pb, po, none⟩) (r.length + 1) cp, .slice fa fl.length fc, .pointer (some ⟨w.heap.size, 0, none⟩), undef, undef, .pointer (some ⟨w.heap.size + 1, 0, none⟩), .int .i64 (q : Int), .bool true, .slice (some ⟨pb, po, none⟩) (r.length + 1) cp, .int .i64 ((r.length : Int) + 1), .bool false, undef, undef, undef, .tuple #[.int .i64 (q : Int), .bool true], .pointer (some ⟨w.heap.size, 3, none⟩), .slice (some ⟨kb, ko, none⟩) T.kids.length cap, .slice (some ⟨pb, po, none⟩) (r.length + 1) cp, .pointer (some ⟨pb, po, none⟩), .string x, .tuple #[.int .i64 (q : Int), .bool true], .int .i64 (q : Int), .bool true, .pointer (some ⟨w.heap.size, 3, none⟩), .slice (some ⟨kb, ko, none⟩) T.kids.length cap, .slice (some ⟨pb, po, none⟩) (r.length + 1) cp, .pointer (some ⟨pb, po, none⟩), .string x, .pointer (some ⟨w.heap.size, 3, none⟩), .slice (some ⟨kb, ko, none⟩) T.kids.length cap, .int .i64 (q : Int), .pointer (some ⟨kb, ko + q * 4, none⟩), .agg #[.string V.nm, .int .u8 (V.k : Int), .string V.d, .slice a' V.kids.length c'], .slice (some ⟨pb, po, none⟩) (r.length + 1) cp, .slice (some ⟨pb, po + 1, none⟩) r.length (cp - 1), .slice fa fl.length fc, undef, undef, undef, undef, undef], defers := [] } wn.drew
          refine wpAnyH_ready (rs := [13]) (by kernel_rfl) (by simp) ?_
          refine AllReadyH.cons rfl (fun K hK => ?_) ?_
          · go_simp
            refine Calls.mono HCW.out ?_
            rintro e w2 ⟨b2, c2, rfl, hU⟩
            have hb2 : Below wn.heap.size wn w2 := hbD.trans hU.out.2
            obtain ⟨HS2, g2, gf2⟩ := HS5.out w2 hb2
            refine hK.out _ _ HS2 (fun _ => ?_)
            clear hK K
            change wpAnyH Tryz.prog .any _ _ _ _ _ { tmps := #[.agg #[.string T.nm, .int .u8 (T.k : Int), .string T.d, .slice (some ⟨kb, ko, none⟩) T.kids.length cap], .slice (some ⟨pb, po, none⟩) (r.length + 1) cp, .slice fa fl.length fc, .pointer (some ⟨w.heap.size, 0, none⟩), undef, undef, .pointer (some ⟨w.heap.size + 1, 0, none⟩), .int .i64 (q : Int), .bool true, .slice (some ⟨pb, po, none⟩) (r.length + 1) cp, .int .i64 ((r.length : Int) + 1), .bool false, undef, undef, undef, .tuple #[.int .i64 (q : Int), .bool true], .pointer (some ⟨w.heap.size, 3, none⟩), .slice (some ⟨kb, ko, none⟩) T.kids.length cap, .slice (some ⟨pb, po, none⟩) (r.length + 1) cp, .pointer (some ⟨pb, po, none⟩), .string x, .tuple #[.int .i64 (q : Int), .bool true], .int .i64 (q : Int), .bool true, .pointer (some ⟨w.heap.size, 3, none⟩), .slice (some ⟨kb, ko, none⟩) T.kids.length cap, .slice (some ⟨pb, po, none⟩) (r.length + 1) cp, .pointer (some ⟨pb, po, none⟩), .string x, .pointer (some ⟨w.heap.size, 3, none⟩), .slice (some ⟨kb, ko, none⟩) T.kids.length cap, .int .i64 (q : Int), .pointer (some ⟨kb, ko + q * 4, none⟩), .agg #[.string V.nm, .int .u8 (V.k : Int), .string V.d, .slice a' V.kids.length c'], .slice (some ⟨pb, po, none⟩) (r.length + 1) cp, .slice (some ⟨pb, po + 1, none⟩) r.length (cp - 1), .slice fa fl.length fc, .agg #[.string (Ft.withR V r fl).nm, .int .u8 ((Ft.withR V r fl).k : Int), .string (Ft.withR V r fl).d, .slice b2 (Ft.withR V r fl).kids.length c2], undef, undef, undef, undef], defers := [] } w2
            refine wpAnyH_ready (rs := [14]) (by kernel_rfl) (by simp) ?_
            refine AllReadyH.cons rfl (fun K hK => ?_) ?_
            · go_simp
              have hb3 : Below wn.heap.size wn (w2.alloc (.cells #[.string (Ft.withR V r fl).nm, .int .u8 ((Ft.withR V r fl).k : Int), .string (Ft.withR V r fl).d, .slice b2 (Ft.withR V r fl).kids.length c2] 25)) := hb2.alloc hb2.size _
              obtain ⟨HS3, g3', gf3⟩ := HS5.out (w2.alloc (.cells #[.string (Ft.withR V r fl).nm, .int .u8 ((Ft.withR V r fl).k : Int), .string (Ft.withR V r fl).d, .slice b2 (Ft.withR V r fl).kids.length c2] 25)) hb3
              refine hK.out _ _ HS3 (fun _ => ?_)
              clear hK K
              change wpAnyH Tryz.prog .any _ _ _ _ _ { tmps := #[.agg #[.string T.nm, .int .u8 (T.k : Int), .string T.d, .slice (some ⟨kb, ko, none⟩) T.kids.length cap], .slice (some ⟨pb, po, none⟩) (r.length + 1) cp, .slice fa fl.length fc, .pointer (some ⟨w.heap.size, 0, none⟩), undef, undef, .pointer (some ⟨w.heap.size + 1, 0, none⟩), .int .i64 (q : Int), .bool true, .slice (some ⟨pb, po, none⟩) (r.length + 1) cp, .int .i64 ((r.length : Int) + 1), .bool false, undef, undef, undef, .tuple #[.int .i64 (q : Int), .bool true], .pointer (some ⟨w.heap.size, 3, none⟩), .slice (some ⟨kb, ko, none⟩) T.kids.length cap, .slice (some ⟨pb, po, none⟩) (r.length + 1) cp, .pointer (some ⟨pb, po, none⟩), .string x, .tuple #[.int .i64 (q : Int), .bool true], .int .i64 (q : Int), .bool true, .pointer (some ⟨w.heap.size, 3, none⟩), .slice (some ⟨kb, ko, none⟩) T.kids.length cap, .slice (some ⟨pb, po, none⟩) (r.length + 1) cp, .pointer (some ⟨pb, po, none⟩), .string x, .pointer (some ⟨w.heap.size, 3, none⟩), .slice (some ⟨kb, ko, none⟩) T.kids.length cap, .int .i64 (q : Int), .pointer (some ⟨kb, ko + q * 4, none⟩), .agg #[.string V.nm, .int .u8 (V.k : Int), .string V.d, .slice a' V.kids.length c'], .slice (some ⟨pb, po, none⟩) (r.length + 1) cp, .slice (some ⟨pb, po + 1, none⟩) r.length (cp - 1), .slice fa fl.length fc, .agg #[.string (Ft.withR V r fl).nm, .int .u8 ((Ft.withR V r fl).k : Int), .string (Ft.withR V r fl).d, .slice b2 (Ft.withR V r fl).kids.length c2], .slice (some ⟨w2.heap.size, 0, none⟩) 1 1, undef, undef, undef], defers := [] } (w2.alloc (.cells #[.string (Ft.withR V r fl).nm, .int .u8 ((Ft.withR V r fl).k : Int), .string (Ft.withR V r fl).d, .slice b2 (Ft.withR V r fl).kids.length c2] 25))
              refine wpAnyH_ready (rs := [15]) (by kernel_rfl) (by simp) ?_
              refine AllReadyH.cons rfl (fun K hK => ?_) ?_
              · go_simp
                refine Calls.mono (HSw.out w2 b2 c2 hU) ?_
                rintro e w4 ⟨a4, c4, rfl, hR4⟩
                obtain ⟨HS4, g4, gf4⟩ := HS5.out w4 hR4.out.2
                refine hK.out _ _ HS4 (fun _ => ?_)
                clear hK K
                change wpAnyH Tryz.prog .any _ _ _ _ _ { tmps := #[.agg #[.string T.nm, .int .u8 (T.k : Int), .string T.d, .slice (some ⟨kb, ko, none⟩) T.kids.length cap], .slice (some ⟨pb, po, none⟩) (r.length + 1) cp, .slice fa fl.length fc, .pointer (some ⟨w.heap.size, 0, none⟩), undef, undef, .pointer (some ⟨w.heap.size + 1, 0, none⟩), .int .i64 (q : Int), .bool true, .slice (some ⟨pb, po, none⟩) (r.length + 1) cp, .int .i64 ((r.length : Int) + 1), .bool false, undef, undef, undef, .tuple #[.int .i64 (q : Int), .bool true], .pointer (some ⟨w.heap.size, 3, none⟩), .slice (some ⟨kb, ko, none⟩) T.kids.length cap, .slice (some ⟨pb, po, none⟩) (r.length + 1) cp, .pointer (some ⟨pb, po, none⟩), .string x, .tuple #[.int .i64 (q : Int), .bool true], .int .i64 (q : Int), .bool true, .pointer (some ⟨w.heap.size, 3, none⟩), .slice (some ⟨kb, ko, none⟩) T.kids.length cap, .slice (some ⟨pb, po, none⟩) (r.length + 1) cp, .pointer (some ⟨pb, po, none⟩), .string x, .pointer (some ⟨w.heap.size, 3, none⟩), .slice (some ⟨kb, ko, none⟩) T.kids.length cap, .int .i64 (q : Int), .pointer (some ⟨kb, ko + q * 4, none⟩), .agg #[.string V.nm, .int .u8 (V.k : Int), .string V.d, .slice a' V.kids.length c'], .slice (some ⟨pb, po, none⟩) (r.length + 1) cp, .slice (some ⟨pb, po + 1, none⟩) r.length (cp - 1), .slice fa fl.length fc, .agg #[.string (Ft.withR V r fl).nm, .int .u8 ((Ft.withR V r fl).k : Int), .string (Ft.withR V r fl).d, .slice b2 (Ft.withR V r fl).kids.length c2], .slice (some ⟨w2.heap.size, 0, none⟩) 1 1, .slice a4 T.kids.length c4, undef, undef], defers := [] } w4
                refine wpAnyH_take (i := 16) (v := .pointer (some ⟨w.heap.size, 3, none⟩)) rfl (by kernel_rfl) (by kernel_rfl) (by kernel_rfl) (fun _ _ _ h => h) (Or.inl ⟨by rfl, ?_⟩) HS4 ?_
                · intro w9 hw9; obtain ⟨y0, y1, y2, y3, y4⟩ := hw9; go_simp
                change wpAnyH Tryz.prog .any _ _ _ _ _ { tmps := #[.agg #[.string T.nm, .int .u8 (T.k : Int), .string T.d, .slice (some ⟨kb, ko, none⟩) T.kids.length cap], .slice (some ⟨pb, po, none⟩) (r.length + 1) cp, .slice fa fl.length fc, .pointer (some ⟨w.heap.size, 0, none⟩), undef, undef, .pointer (some ⟨w.heap.size + 1, 0, none⟩), .int .i64 (q : Int), .bool true, .slice (some ⟨pb, po, none⟩) (r.length + 1) cp, .int .i64 ((r.length : Int) + 1), .bool false, undef, undef, undef, .tuple #[.int .i64 (q : Int), .bool true], .pointer (some ⟨w.heap.size, 3, none⟩), .slice (some ⟨kb, ko, none⟩) T.kids.length cap, .slice (some ⟨pb, po, none⟩) (r.length + 1) cp, .pointer (some ⟨pb, po, none⟩), .string x, .tuple #[.int .i64 (q : Int), .bool true], .int .i64 (q : Int), .bool true, .pointer (some ⟨w.heap.size, 3, none⟩), .slice (some ⟨kb, ko, none⟩) T.kids.length cap, .slice (some ⟨pb, po, none⟩) (r.length + 1) cp, .pointer (some ⟨pb, po, none⟩), .string x, .pointer (some ⟨w.heap.size, 3, none⟩), .slice (some ⟨kb, ko, none⟩) T.kids.length cap, .int .i64 (q : Int), .pointer (some ⟨kb, ko + q * 4, none⟩), .agg #[.string V.nm, .int .u8 (V.k : Int), .string V.d, .slice a' V.kids.length c'], .slice (some ⟨pb, po, none⟩) (r.length + 1) cp, .slice (some ⟨pb, po + 1, none⟩) r.length (cp - 1), .slice fa fl.length fc, .agg #[.string (Ft.withR V r fl).nm, .int .u8 ((Ft.withR V r fl).k : Int), .string (Ft.withR V r fl).d, .slice b2 (Ft.withR V r fl).kids.length c2], .slice (some ⟨w2.heap.size, 0, none⟩) 1 1, .slice a4 T.kids.length c4, .pointer (some ⟨w.heap.size, 3, none⟩), undef], defers := [] } w4
                refine wpAnyH_ready (rs := [17]) (by kernel_rfl) (by simp) ?_
                refine AllReadyH.cons rfl (fun K hK => ?_) ?_
                · go_simp
                  refine hK.out _ _ (HSt.out w4 _ HS4) (fun _ => ?_)
                  refine wpAnyH_done (by kernel_rfl) ?_ _
                  clear hK K
                  have hF4 : Ft.FileAt w4 w.heap.size T (some ⟨kb, ko, none⟩) cap := Ft.FileAt.under HG.out.2.1 hR4.out.2
                  have hZ4 : Ft.FileAt w4 (w.heap.size + 1) Ft.zF none 0 := Ft.FileAt.under HG.out.2.2 hR4.out.2
                  have HR4 : Hid (Ft.FdL w4 (fun k => P k ∨ (wn.heap.size ≤ k ∧ k < w4.heap.size)) (Ft.setN T.kids x (Ft.withR V r fl), a4, c4)) := hR4.out.1
                  have HB4 : Hid (Below w.heap.size w w4) := HF.out.2.2.1.trans (HWn.out.trans (hR4.out.2.mono HWn.out.size) |>.mono HF.out.2.2.1.size)
                  have HZ4 : Hid (Ft.FileAt w4 (w.heap.size + 1) Ft.zF none 0) := hZ4
                  have HT : Hid (Ft.withR T (x :: r) fl = .mk T.nm T.k T.d (Ft.setN T.kids x (Ft.withR V r fl))) := HVk.out
                  have hl := Ft.setN_len T.kids x (Ft.withR V r fl)
                  obtain ⟨x0, x1, x2, x3⟩ := hF4.four
                  have qf := hF4.frozen
                  have z0 : w4.cell? ⟨w.heap.size + 1, 0, none⟩ = some (.string ⟨#[]⟩) := hZ4.four.c0
                  have z1 : w4.cell? ⟨w.heap.size + 1, 1, none⟩ = some (.int .u8 0) := hZ4.four.c1
                  have z2 : w4.cell? ⟨w.heap.size + 1, 2, none⟩ = some (.string ⟨#[]⟩) := hZ4.four.c2
                  have z3 : w4.cell? ⟨w.heap.size + 1, 3, none⟩ = some (.slice none 0 0) := hZ4.four.c3
                  have zf := hZ4.frozen
                  have HWl : w.heap.size + 1 < wn.heap.size := Ft.FileAt.lt HG.out.2.2
                  clear HS4 g4 gf4 hR4 hU hb2 HS2 g2 gf2 HS0 g3 gf q0 q1 q2 q3 hF4 hZ4 HIH HC1 HSw HCW HS5 HSt HG HS
                  go_wp2_with fail
                  generalize Ft.setN T.kids x (Ft.withR V r fl) = SN at *
                  rw [← hl]
                  have hne : w.heap.size + 1 ≠ w.heap.size := by omega
                  have K1 : Ft.FileAt (w4.setCell ⟨w.heap.size, 3, none⟩ (.slice a4 SN.length c4)) (w.heap.size + 1) Ft.zF none 0 := (heap_setCell_other w4 ⟨w.heap.size, 3, none⟩ (w.heap.size + 1) _ hne).trans HZ4.out
                  have K0 : Below w.heap.size w4 (w4.setCell ⟨w.heap.size, 3, none⟩ (.slice a4 SN.length c4)) := (Below.refl _ _).setCell (p := ⟨w.heap.size, 3, none⟩) (Nat.le_refl _) _
                  have K2 : Below w.heap.size w (Ft.putF (w4.setCell ⟨w.heap.size, 3, none⟩ (.slice a4 SN.length c4)) (w.heap.size + 1) (.mk T.nm T.k T.d SN) a4 c4) := Ft.putF_below (HB4.out.trans K0) (by omega)
                  have K3 : w4.heap.size ≤ (Ft.putF (w4.setCell ⟨w.heap.size, 3, none⟩ (.slice a4 SN.length c4)) (w.heap.size + 1) (.mk T.nm T.k T.d SN) a4 c4).heap.size := (Ft.putF_below K0 (by omega)).size
                  refine bodyPost_ret (results_cell_row rfl _ _ (w.heap.size + 1) _ _ _ _ rfl (Ft.FileAt.putF K1 (.mk T.nm T.k T.d SN) a4 c4) Tryz.underlying25 rfl (by kernel_rfl)) rfl ?_
                  rw [HT.out]
                  refine ⟨a4, c4, rfl, Ft.Fd.same (HR4.out.tree T.nm T.k T.d) (fun k hk => ?_) (fun k hk => ?_), K2⟩
                  · have hk2 : k ≠ w.heap.size ∧ k ≠ w.heap.size + 1 := by
                      rcases hk with hk | hk
                      · have := HF.out.2.2.2.2.1 k hk; omega
                      · omega
                    exact (Ft.putF_other (T := .mk T.nm T.k T.d SN) (a := a4) (cap := c4) hk2.2).trans (heap_setCell_other w4 ⟨w.heap.size, 3, none⟩ k _ hk2.1)
                  · rcases hk with hk | hk
                    · exact .inl hk
                    · exact .inr ⟨by omega, Nat.lt_of_lt_of_le hk.2 K3⟩
                exact AllReadyH.nil
              exact AllReadyH.nil
            exact AllReadyH.nil
          exact AllReadyH.nil
        refine AllReadyH.cons rfl (fun K hK => ?_) ?_
        · go_simp
          refine Calls.mono HCW.out ?_
          rintro e w2 ⟨b2, c2, rfl, hU⟩
          have hb2 : Below wn.heap.size wn w2 := hbD.trans hU.out.2
          obtain ⟨HS2, g2, gf2⟩ := HS5.out w2 hb2
          refine hK.out _ _ HS2 (fun _ => ?_)
          clear hK K
          change wpAnyH Tryz.prog .any _ _ _ _ _ { tmps := #[.agg #[.string T.nm, .int .u8 (T.k : Int), .string T.d, .slice (some ⟨kb, ko, none⟩) T.kids.length cap], .slice (some ⟨pb, po, none⟩) (r.length + 1) cp, .slice fa fl.length fc, .pointer (some ⟨w.heap.size, 0, none⟩), undef, undef, .pointer (some ⟨w.heap.size + 1, 0, none⟩), .int .i64 (q : Int), .bool true, .slice (some ⟨pb, po, none⟩) (r.length + 1) cp, .int .i64 ((r.length : Int) + 1), .bool false, undef, undef, undef, .tuple #[.int .i64 (q : Int), .bool true], .pointer (some ⟨w.heap.size, 3, none⟩), .slice (some ⟨kb, ko, none⟩) T.kids.length cap, .slice (some ⟨pb, po, none⟩) (r.length + 1) cp, .pointer (some ⟨pb, po, none⟩), .string x, .tuple #[.int .i64 (q : Int), .bool true], .int .i64 (q : Int), .bool true, .pointer (some ⟨w.heap.size, 3, none⟩), undef, .slice (some ⟨pb, po, none⟩) (r.length + 1) cp, .pointer (some ⟨pb, po, none⟩), .string x, .pointer (some ⟨w.heap.size, 3, none⟩), .slice (some ⟨kb, ko, none⟩) T.kids.length cap, .int .i64 (q : Int), .pointer (some ⟨kb, ko + q * 4, none⟩), .agg #[.string V.nm, .int .u8 (V.k : Int), .string V.d, .slice a' V.kids.length c'], .slice (some ⟨pb, po, none⟩) (r.length + 1) cp, .slice (some ⟨pb, po + 1, none⟩) r.length (cp - 1), .slice fa fl.length fc, .agg #[.string (Ft.withR V r fl).nm, .int .u8 ((Ft.withR V r fl).k : Int), .string (Ft.withR V r fl).d, .slice b2 (Ft.withR V r fl).kids.length c2], undef, undef, undef, undef], defers := [] } w2
          refine wpAnyH_ready (rs := [1, 14]) (by kernel_rfl) (by simp) ?_
          refine AllReadyH.cons rfl (fun K hK => ?_) ?_
          · go_simp
            refine hK.out _ _ HS2 (fun _ => ?_)
            clear hK K
            change wpAnyH Tryz.prog .any _ _ _ _ _ { tmps := #[.agg #[.string T.nm, .int .u8 (T.k : Int), .string T.d, .slice (some ⟨kb, ko, none⟩) T.kids.length cap], .slice (some ⟨pb, po, none⟩) (r.length + 1) cp, .slice fa fl.length fc, .pointer (some ⟨w.heap.size, 0, none⟩), undef, undef, .pointer (some ⟨w.heap.size + 1, 0, none⟩), .int .i64 (q : Int), .bool true, .slice (some ⟨pb, po, none⟩) (r.length + 1) cp, .int .i64 ((r.length : Int) + 1), .bool false, undef, undef, undef, .tuple #[.int .i64 (q : Int), .bool true], .pointer (some ⟨w.heap.size, 3, none⟩), .slice (some ⟨kb, ko, none⟩) T.kids.length cap, .slice (some ⟨pb, po, none⟩) (r.length + 1) cp, .pointer (some ⟨pb, po, none⟩), .string x, .tuple #[.int .i64 (q : Int), .bool true], .int .i64 (q : Int), .bool true, .pointer (some ⟨w.heap.size, 3, none⟩), .slice (some ⟨kb, ko, none⟩) T.kids.length cap, .slice (some ⟨pb, po, none⟩) (r.length + 1) cp, .pointer (some ⟨pb, po, none⟩), .string x, .pointer (some ⟨w.heap.size, 3, none⟩), .slice (some ⟨kb, ko, none⟩) T.kids.length cap, .int .i64 (q : Int), .pointer (some ⟨kb, ko + q * 4, none⟩), .agg #[.string V.nm, .int .u8 (V.k : Int), .string V.d, .slice a' V.kids.length c'], .slice (some ⟨pb, po, none⟩) (r.length + 1) cp, .slice (some ⟨pb, po + 1, none⟩) r.length (cp - 1), .slice fa fl.length fc, .agg #[.string (Ft.withR V r fl).nm, .int .u8 ((Ft.withR V r fl).k : Int), .string (Ft.withR V r fl).d, .slice b2 (Ft.withR V r fl).kids.length c2], undef, undef, undef, undef], defers := [] } w2
            refine wpAnyH_ready (rs := [14]) (by kernel_rfl) (by simp) ?_
            refine AllReadyH.cons rfl (fun K hK => ?_) ?_
            · go_simp
              have hb3 : Below wn.heap.size wn (w2.alloc (.cells #[.string (Ft.withR V r fl).nm, .int .u8 ((Ft.withR V r fl).k : Int), .string (Ft.withR V r fl).d, .slice b2 (Ft.withR V r fl).kids.length c2] 25)) := hb2.alloc hb2.size _
              obtain ⟨HS3, g3', gf3⟩ := HS5.out (w2.alloc (.cells #[.string (Ft.withR V r fl).nm, .int .u8 ((Ft.withR V r fl).k : Int), .string (Ft.withR V r fl).d, .slice b2 (Ft.withR V r fl).kids.length c2] 25)) hb3
              refine hK.out _ _ HS3 (fun _ => ?_)
              clear hK K
              change wpAnyH Tryz.prog .any _ _ _ _ _ { tmps := #[.agg #[.string T.nm, .int .u8 (T.k : Int), .string T.d, .slice (some ⟨kb, ko, none⟩) T.kids.length cap], .slice (some ⟨pb, po, none⟩) (r.length + 1) cp, .slice fa fl.length fc, .pointer (some ⟨w.heap.size, 0, none⟩), undef, undef, .pointer (some ⟨w.heap.size + 1, 0, none⟩), .int .i64 (q : Int), .bool true, .slice (some ⟨pb, po, none⟩) (r.length + 1) cp, .int .i64 ((r.length : Int) + 1), .bool false, undef, undef, undef, .tuple #[.int .i64 (q : Int), .bool true], .pointer (some ⟨w.heap.size, 3, none⟩), .slice (some ⟨kb, ko, none⟩) T.kids.length cap, .slice (some ⟨pb, po, none⟩) (r.length + 1) cp, .pointer (some ⟨pb, po, none⟩), .string x, .tuple #[.int .i64 (q : Int), .bool true], .int .i64 (q : Int), .bool true, .pointer (some ⟨w.heap.size, 3, none⟩), .slice (some ⟨kb, ko, none⟩) T.kids.length cap, .slice (some ⟨pb, po, none⟩) (r.length + 1) cp, .pointer (some ⟨pb, po, none⟩), .string x, .pointer (some ⟨w.heap.size, 3, none⟩), .slice (some ⟨kb, ko, none⟩) T.kids.length cap, .int .i64 (q : Int), .pointer (some ⟨kb, ko + q * 4, none⟩), .agg #[.string V.nm, .int .u8 (V.k : Int), .string V.d, .slice a' V.kids.length c'], .slice (some ⟨pb, po, none⟩) (r.length + 1) cp, .slice (some ⟨pb, po + 1, none⟩) r.length (cp - 1), .slice fa fl.length fc, .agg #[.string (Ft.withR V r fl).nm, .int .u8 ((Ft.withR V r fl).k : Int), .string (Ft.withR V r fl).d, .slice b2 (Ft.withR V r fl).kids.length c2], .slice (some ⟨w2.heap.size, 0, none⟩) 1 1, undef, undef, undef], defers := [] } (w2.alloc (.cells #[.string (Ft.withR V r fl).nm, .int .u8 ((Ft.withR V r fl).k : Int), .string (Ft.withR V r fl).d, .slice b2 (Ft.withR V r fl).kids.length c2] 25))
              refine wpAnyH_ready (rs := [15]) (by kernel_rfl) (by simp) ?_
              refine AllReadyH.cons rfl (fun K hK => ?_) ?_
              · go_simp
                refine Calls.mono (HSw.out w2 b2 c2 hU) ?_
                rintro e w4 ⟨a4, c4, rfl, hR4⟩
                obtain ⟨HS4, g4, gf4⟩ := HS5.out w4 hR4.out.2
                refine hK.out _ _ HS4 (fun _ => ?_)
                clear hK K
                change wpAnyH Tryz.prog .any _ _ _ _ _ { tmps := #[.agg #[.string T.nm, .int .u8 (T.k : Int), .string T.d, .slice (some ⟨kb, ko, none⟩) T.kids.length cap], .slice (some ⟨pb, po, none⟩) (r.length + 1) cp, .slice fa fl.length fc, .pointer (some ⟨w.heap.size, 0, none⟩), undef, undef, .pointer (some ⟨w.heap.size + 1, 0, none⟩), .int .i64 (q : Int), .bool true, .slice (some ⟨pb, po, none⟩) (r.length + 1) cp, .int .i64 ((r.length : Int) + 1), .bool false, undef, undef, undef, .tuple #[.int .i64 (q : Int), .bool true], .pointer (some ⟨w.heap.size, 3, none⟩), .slice (some ⟨kb, ko, none⟩) T.kids.length cap, .slice (some ⟨pb, po, none⟩) (r.length + 1) cp, .pointer (some ⟨pb, po, none⟩), .string x, .tuple #[.int .i64 (q : Int), .bool true], .int .i64 (q : Int), .bool true, .pointer (some ⟨w.heap.size, 3, none⟩), .slice (some ⟨kb, ko, none⟩) T.kids.length cap, .slice (some ⟨pb, po, none⟩) (r.length + 1) cp, .pointer (some ⟨pb, po, none⟩), .string x, .pointer (some ⟨w.heap.size, 3, none⟩), .slice (some ⟨kb, ko, none⟩) T.kids.length cap, .int .i64 (q : Int), .pointer (some ⟨kb, ko + q * 4, none⟩), .agg #[.string V.nm, .int .u8 (V.k : Int), .string V.d, .slice a' V.kids.length c'], .slice (some ⟨pb, po, none⟩) (r.length + 1) cp, .slice (some ⟨pb, po + 1, none⟩) r.length (cp - 1), .slice fa fl.length fc, .agg #[.string (Ft.withR V r fl).nm, .int .u8 ((Ft.withR V r fl).k : Int), .string (Ft.withR V r fl).d, .slice b2 (Ft.withR V r fl).kids.length c2], .slice (some ⟨w2.heap.size, 0, none⟩) 1 1, .slice a4 T.kids.length c4, undef, undef], defers := [] } w4
                refine wpAnyH_take (i := 16) (v := .pointer (some ⟨w.heap.size, 3, none⟩)) rfl (by kernel_rfl) (by kernel_rfl) (by kernel_rfl) (fun _ _ _ h => h) (Or.inl ⟨by rfl, ?_⟩) HS4 ?_
                · intro w9 hw9; obtain ⟨y0, y1, y2, y3, y4⟩ := hw9; go_simp
                change wpAnyH Tryz.prog .any _ _ _ _ _ { tmps := #[.agg #[.string T.nm, .int .u8 (T.k : Int), .string T.d, .slice (some ⟨kb, ko, none⟩) T.kids.length cap], .slice (some ⟨pb, po, none⟩) (r.length + 1) cp, .slice fa fl.length fc, .pointer (some ⟨w.heap.size, 0, none⟩), undef, undef, .pointer (some ⟨w.heap.size + 1, 0, none⟩), .int .i64 (q : Int), .bool true, .slice (some ⟨pb, po, none⟩) (r.length + 1) cp, .int .i64 ((r.length : Int) + 1), .bool false, undef, undef, undef, .tuple #[.int .i64 (q : Int), .bool true], .pointer (some ⟨w.heap.size, 3, none⟩), .slice (some ⟨kb, ko, none⟩) T.kids.length cap, .slice (some ⟨pb, po, none⟩) (r.length + 1) cp, .pointer (some ⟨pb, po, none⟩), .string x, .tuple #[.int .i64 (q : Int), .bool true], .int .i64 (q : Int), .bool true, .pointer (some ⟨w.heap.size, 3, none⟩), .slice (some ⟨kb, ko, none⟩) T.kids.length cap, .slice (some ⟨pb, po, none⟩) (r.length + 1) cp, .pointer (some ⟨pb, po, none⟩), .string x, .pointer (some ⟨w.heap.size, 3, none⟩), .slice (some ⟨kb, ko, none⟩) T.kids.length cap, .int .i64 (q : Int), .pointer (some ⟨kb, ko + q * 4, none⟩), .agg #[.string V.nm, .int .u8 (V.k : Int), .string V.d, .slice a' V.kids.length c'], .slice (some ⟨pb, po, none⟩) (r.length + 1) cp, .slice (some ⟨pb, po + 1, none⟩) r.length (cp - 1), .slice fa fl.length fc, .agg #[.string (Ft.withR V r fl).nm, .int .u8 ((Ft.withR V r fl).k : Int), .string (Ft.withR V r fl).d, .slice b2 (Ft.withR V r fl).kids.length c2], .slice (some ⟨w2.heap.size, 0, none⟩) 1 1, .slice a4 T.kids.length c4, .pointer (some ⟨w.heap.size, 3, none⟩), undef], defers := [] } w4
                refine wpAnyH_ready (rs := [17]) (by kernel_rfl) (by simp) ?_
                refine AllReadyH.cons rfl (fun K hK => ?_) ?_
                · go_simp
                  refine hK.out _ _ (HSt.out w4 _ HS4) (fun _ => ?_)
                  refine wpAnyH_done (by kernel_rfl) ?_ _
                  clear hK K
                  have hF4 : Ft.FileAt w4 w.heap.size T (some ⟨kb, ko, none⟩) cap := Ft.FileAt.under HG.out.2.1 hR4.out.2
                  have hZ4 : Ft.FileAt w4 (w.heap.size + 1) Ft.zF none 0 := Ft.FileAt.under HG.out.2.2 hR4.out.2
                  have HR4 : Hid (Ft.FdL w4 (fun k => P k ∨ (wn.heap.size ≤ k ∧ k < w4.heap.size)) (Ft.setN T.kids x (Ft.withR V r fl), a4, c4)) := hR4.out.1
                  have HB4 : Hid (Below w.heap.size w w4) := HF.out.2.2.1.trans (HWn.out.trans (hR4.out.2.mono HWn.out.size) |>.mono HF.out.2.2.1.size)
                  have HZ4 : Hid (Ft.FileAt w4 (w.heap.size + 1) Ft.zF none 0) := hZ4
                  have HT : Hid (Ft.withR T (x :: r) fl = .mk T.nm T.k T.d (Ft.setN T.kids x (Ft.withR V r fl))) := HVk.out
                  have hl := Ft.setN_len T.kids x (Ft.withR V r fl)
                  obtain ⟨x0, x1, x2, x3⟩ := hF4.four
                  have qf := hF4.frozen
                  have z0 : w4.cell? ⟨w.heap.size + 1, 0, none⟩ = some (.string ⟨#[]⟩) := hZ4.four.c0
                  have z1 : w4.cell? ⟨w.heap.size + 1, 1, none⟩ = some (.int .u8 0) := hZ4.four.c1
                  have z2 : w4.cell? ⟨w.heap.size + 1, 2, none⟩ = some (.string ⟨#[]⟩) := hZ4.four.c2
                  have z3 : w4.cell? ⟨w.heap.size + 1, 3, none⟩ = some (.slice none 0 0) := hZ4.four.c3
                  have zf := hZ4.frozen
                  have HWl : w.heap.size + 1 < wn.heap.size := Ft.FileAt.lt HG.out.2.2
                  clear HS4 g4 gf4 hR4 hU hb2 HS2 g2 gf2 HS0 g3 gf q0 q1 q2 q3 hF4 hZ4 HIH HC1 HSw HCW HS5 HSt HG HS
                  go_wp2_with fail
                  generalize Ft.setN T.kids x (Ft.withR V r fl) = SN at *
                  rw [← hl]
                  have hne : w.heap.size + 1 ≠ w.heap.size := by omega
                  have K1 : Ft.FileAt (w4.setCell ⟨w.heap.size, 3, none⟩ (.slice a4 SN.length c4)) (w.heap.size + 1) Ft.zF none 0 := (heap_setCell_other w4 ⟨w.heap.size, 3, none⟩ (w.heap.size + 1) _ hne).trans HZ4.out
                  have K0 : Below w.heap.size w4 (w4.setCell ⟨w.heap.size, 3, none⟩ (.slice a4 SN.length c4)) := (Below.refl _ _).setCell (p := ⟨w.heap.size, 3, none⟩) (Nat.le_refl _) _
                  have K2 : Below w.heap.size w (Ft.putF (w4.setCell ⟨w.heap.size, 3, none⟩ (.slice a4 SN.length c4)) (w.heap.size + 1) (.mk T.nm T.k T.d SN) a4 c4) := Ft.putF_below (HB4.out.trans K0) (by omega)
                  have K3 : w4.heap.size ≤ (Ft.putF (w4.setCell ⟨w.heap.size, 3, none⟩ (.slice a4 SN.length c4)) (w.heap.size + 1) (.mk T.nm T.k T.d SN) a4 c4).heap.size := (Ft.putF_below K0 (by omega)).size
                  refine bodyPost_ret (results_cell_row rfl _ _ (w.heap.size + 1) _ _ _ _ rfl (Ft.FileAt.putF K1 (.mk T.nm T.k T.d SN) a4 c4) Tryz.underlying25 rfl (by kernel_rfl)) rfl ?_
                  rw [HT.out]
                  refine ⟨a4, c4, rfl, Ft.Fd.same (HR4.out.tree T.nm T.k T.d) (fun k hk => ?_) (fun k hk => ?_), K2⟩
                  · have hk2 : k ≠ w.heap.size ∧ k ≠ w.heap.size + 1 := by
                      rcases hk with hk | hk
                      · have := HF.out.2.2.2.2.1 k hk; omega
                      · omega
                    exact (Ft.putF_other (T := .mk T.nm T.k T.d SN) (a := a4) (cap := c4) hk2.2).trans (heap_setCell_other w4 ⟨w.heap.size, 3, none⟩ k _ hk2.1)
                  · rcases hk with hk | hk
                    · exact .inl hk
                    · exact .inr ⟨by omega, Nat.lt_of_lt_of_le hk.2 K3⟩
                exact AllReadyH.nil
              exact AllReadyH.nil
            exact AllReadyH.nil
          refine AllReadyH.cons rfl (fun K hK => ?_) ?_
          · go_simp
            have hb3 : Below wn.heap.size wn (w2.alloc (.cells #[.string (Ft.withR V r fl).nm, .int .u8 ((Ft.withR V r fl).k : Int), .string (Ft.withR V r fl).d, .slice b2 (Ft.withR V r fl).kids.length c2] 25)) := hb2.alloc hb2.size _
            obtain ⟨HS3, g3', gf3⟩ := HS5.out (w2.alloc (.cells #[.string (Ft.withR V r fl).nm, .int .u8 ((Ft.withR V r fl).k : Int), .string (Ft.withR V r fl).d, .slice b2 (Ft.withR V r fl).kids.length c2] 25)) hb3
            refine hK.out _ _ HS3 (fun _ => ?_)
            clear hK K
            change wpAnyH Tryz.prog .any _ _ _ _ _ { tmps := #[.agg #[.string T.nm, .int .u8 (T.k : Int), .string T.d, .slice (some ⟨kb, ko, none⟩) T.kids.length cap], .slice (some ⟨pb, po, none⟩) (r.length + 1) cp, .slice fa fl.length fc, .pointer (some ⟨w.heap.size, 0, none⟩), undef, undef, .pointer (some ⟨w.heap.size + 1, 0, none⟩), .int .i64 (q : Int), .bool true, .slice (some ⟨pb, po, none⟩) (r.length + 1) cp, .int .i64 ((r.length : Int) + 1), .bool false, undef, undef, undef, .tuple #[.int .i64 (q : Int), .bool true], .pointer (some ⟨w.heap.size, 3, none⟩), .slice (some ⟨kb, ko, none⟩) T.kids.length cap, .slice (some ⟨pb, po, none⟩) (r.length + 1) cp, .pointer (some ⟨pb, po, none⟩), .string x, .tuple #[.int .i64 (q : Int), .bool true], .int .i64 (q : Int), .bool true, .pointer (some ⟨w.heap.size, 3, none⟩), undef, .slice (some ⟨pb, po, none⟩) (r.length + 1) cp, .pointer (some ⟨pb, po, none⟩), .string x, .pointer (some ⟨w.heap.size, 3, none⟩), .slice (some ⟨kb, ko, none⟩) T.kids.length cap, .int .i64 (q : Int), .pointer (some ⟨kb, ko + q * 4, none⟩), .agg #[.string V.nm, .int .u8 (V.k : Int), .string V.d, .slice a' V.kids.length c'], .slice (some ⟨pb, po, none⟩) (r.length + 1) cp, .slice (some ⟨pb, po + 1, none⟩) r.length (cp - 1), .slice fa fl.length fc, .agg #[.string (Ft.withR V r fl).nm, .int .u8 ((Ft.withR V r fl).k : Int), .string (Ft.withR V r fl).d, .slice b2 (Ft.withR V r fl).kids.length c2], .slice (some ⟨w2.heap.size, 0, none⟩) 1 1, undef, undef, undef], defers := [] } (w2.alloc (.cells #[.string (Ft.withR V r fl).nm, .int .u8 ((Ft.withR V r fl).k : Int), .string (Ft.withR V r fl).d, .slice b2 (Ft.withR V r fl).kids.length c2] 25))
            refine wpAnyH_ready (rs := [1]) (by kernel_rfl) (by simp) ?_
            refine AllReadyH.cons rfl (fun K hK => ?_) ?_
            · go_simp
              refine hK.out _ _ HS3 (fun _ => ?_)
              clear hK K
              change wpAnyH Tryz.prog .any _ _ _ _ _ { tmps := #[.agg #[.string T.nm, .int .u8 (T.k : Int), .string T.d, .slice (some ⟨kb, ko, none⟩) T.kids.length cap], .slice (some ⟨pb, po, none⟩) (r.length + 1) cp, .slice fa fl.length fc, .pointer (some ⟨w.heap.size, 0, none⟩), undef, undef, .pointer (some ⟨w.heap.size + 1, 0, none⟩), .int .i64 (q : Int), .bool true, .slice (some ⟨pb, po, none⟩) (r.length + 1) cp, .int .i64 ((r.length : Int) + 1), .bool false, undef, undef, undef, .tuple #[.int .i64 (q : Int), .bool true], .pointer (some ⟨w.heap.size, 3, none⟩), .slice (some ⟨kb, ko, none⟩) T.kids.length cap, .slice (some ⟨pb, po, none⟩) (r.length + 1) cp, .pointer (some ⟨pb, po, none⟩), .string x, .tuple #[.int .i64 (q : Int), .bool true], .int .i64 (q : Int), .bool true, .pointer (some ⟨w.heap.size, 3, none⟩), .slice (some ⟨kb, ko, none⟩) T.kids.length cap, .slice (some ⟨pb, po, none⟩) (r.length + 1) cp, .pointer (some ⟨pb, po, none⟩), .string x, .pointer (some ⟨w.heap.size, 3, none⟩), .slice (some ⟨kb, ko, none⟩) T.kids.length cap, .int .i64 (q : Int), .pointer (some ⟨kb, ko + q * 4, none⟩), .agg #[.string V.nm, .int .u8 (V.k : Int), .string V.d, .slice a' V.kids.length c'], .slice (some ⟨pb, po, none⟩) (r.length + 1) cp, .slice (some ⟨pb, po + 1, none⟩) r.length (cp - 1), .slice fa fl.length fc, .agg #[.string (Ft.withR V r fl).nm, .int .u8 ((Ft.withR V r fl).k : Int), .string (Ft.withR V r fl).d, .slice b2 (Ft.withR V r fl).kids.length c2], .slice (some ⟨w2.heap.size, 0, none⟩) 1 1, undef, undef, undef], defers := [] } (w2.alloc (.cells #[.string (Ft.withR V r fl).nm, .int .u8 ((Ft.withR V r fl).k : Int), .string (Ft.withR V r fl).d, .slice b2 (Ft.withR V r fl).kids.length c2] 25))
              refine wpAnyH_ready (rs := [15]) (by kernel_rfl) (by simp) ?_
              refine AllReadyH.cons rfl (fun K hK => ?_) ?_
              · go_simp
                refine Calls.mono (HSw.out w2 b2 c2 hU) ?_
                rintro e w4 ⟨a4, c4, rfl, hR4⟩
                obtain ⟨HS4, g4, gf4⟩ := HS5.out w4 hR4.out.2
                refine hK.out _ _ HS4 (fun _ => ?_)
                clear hK K
                change wpAnyH Tryz.prog .any _ _ _ _ _ { tmps := #[.agg #[.string T.nm, .int .u8 (T.k : Int), .string T.d, .slice (some ⟨kb, ko, none⟩) T.kids.length cap], .slice (some ⟨pb, po, none⟩) (r.length + 1) cp, .slice fa fl.length fc, .pointer (some ⟨w.heap.size, 0, none⟩), undef, undef, .pointer (some ⟨w.heap.size + 1, 0, none⟩), .int .i64 (q : Int), .bool true, .slice (some ⟨pb, po, none⟩) (r.length + 1) cp, .int .i64 ((r.length : Int) + 1), .bool false, undef, undef, undef, .tuple #[.int .i64 (q : Int), .bool true], .pointer (some ⟨w.heap.size, 3, none⟩), .slice (some ⟨kb, ko, none⟩) T.kids.length cap, .slice (some ⟨pb, po, none⟩) (r.length + 1) cp, .pointer (some ⟨pb, po, none⟩), .string x, .tuple #[.int .i64 (q : Int), .bool true], .int .i64 (q : Int), .bool true, .pointer (some ⟨w.heap.size, 3, none⟩), .slice (some ⟨kb, ko, none⟩) T.kids.length cap, .slice (some ⟨pb, po, none⟩) (r.length + 1) cp, .pointer (some ⟨pb, po, none⟩), .string x, .pointer (some ⟨w.heap.size, 3, none⟩), .slice (some ⟨kb, ko, none⟩) T.kids.length cap, .int .i64 (q : Int), .pointer (some ⟨kb, ko + q * 4, none⟩), .agg #[.string V.nm, .int .u8 (V.k : Int), .string V.d, .slice a' V.kids.length c'], .slice (some ⟨pb, po, none⟩) (r.length + 1) cp, .slice (some ⟨pb, po + 1, none⟩) r.length (cp - 1), .slice fa fl.length fc, .agg #[.string (Ft.withR V r fl).nm, .int .u8 ((Ft.withR V r fl).k : Int), .string (Ft.withR V r fl).d, .slice b2 (Ft.withR V r fl).kids.length c2], .slice (some ⟨w2.heap.size, 0, none⟩) 1 1, .slice a4 T.kids.length c4, undef, undef], defers := [] } w4
                refine wpAnyH_take (i := 16) (v := .pointer (some ⟨w.heap.size, 3, none⟩)) rfl (by kernel_rfl) (by kernel_rfl) (by kernel_rfl) (fun _ _ _ h => h) (Or.inl ⟨by rfl, ?_⟩) HS4 ?_
                · intro w9 hw9; obtain ⟨y0, y1, y2, y3, y4⟩ := hw9; go_simp
                change wpAnyH Tryz.prog .any _ _ _ _ _ { tmps := #[.agg #[.string T.nm, .int .u8 (T.k : Int), .string T.d, .slice (some ⟨kb, ko, none⟩) T.kids.length cap], .slice (some ⟨pb, po, none⟩) (r.length + 1) cp, .slice fa fl.length fc, .pointer (some ⟨w.heap.size, 0, none⟩), undef, undef, .pointer (some ⟨w.heap.size + 1, 0, none⟩), .int .i64 (q : Int), .bool true, .slice (some ⟨pb, po, none⟩) (r.length + 1) cp, .int .i64 ((r.length : Int) + 1), .bool false, undef, undef, undef, .tuple #[.int .i64 (q : Int), .bool true], .pointer (some ⟨w.heap.size, 3, none⟩), .slice (some ⟨kb, ko, none⟩) T.kids.length cap, .slice (some ⟨pb, po, none⟩) (r.length + 1) cp, .pointer (some ⟨pb, po, none⟩), .string x, .tuple #[.int .i64 (q : Int), .bool true], .int .i64 (q : Int), .bool true, .pointer (some ⟨w.heap.size, 3, none⟩), .slice (some ⟨kb, ko, none⟩) T.kids.length cap, .slice (some ⟨pb, po, none⟩) (r.length + 1) cp, .pointer (some ⟨pb, po, none⟩), .string x, .pointer (some ⟨w.heap.size, 3, none⟩), .slice (some ⟨kb, ko, none⟩) T.kids.length cap, .int .i64 (q : Int), .pointer (some ⟨kb, ko + q * 4, none⟩), .agg #[.string V.nm, .int .u8 (V.k : Int), .string V.d, .slice a' V.kids.length c'], .slice (some ⟨pb, po, none⟩) (r.length + 1) cp, .slice (some ⟨pb, po + 1, none⟩) r.length (cp - 1), .slice fa fl.length fc, .agg #[.string (Ft.withR V r fl).nm, .int .u8 ((Ft.withR V r fl).k : Int), .string (Ft.withR V r fl).d, .slice b2 (Ft.withR V r fl).kids.length c2], .slice (some ⟨w2.heap.size, 0, none⟩) 1 1, .slice a4 T.kids.length c4, .pointer (some ⟨w.heap.size, 3, none⟩), undef], defers := [] } w4
                refine wpAnyH_ready (rs := [17]) (by kernel_rfl) (by simp) ?_
                refine AllReadyH.cons rfl (fun K hK => ?_) ?_
                · go_simp
                  refine hK.out _ _ (HSt.out w4 _ HS4) (fun _ => ?_)
                  refine wpAnyH_done (by kernel_rfl) ?_ _
                  clear hK K
                  have hF4 : Ft.FileAt w4 w.heap.size T (some ⟨kb, ko, none⟩) cap := Ft.FileAt.under HG.out.2.1 hR4.out.2
                  have hZ4 : Ft.FileAt w4 (w.heap.size + 1) Ft.zF none 0 := Ft.FileAt.under HG.out.2.2 hR4.out.2
                  have HR4 : Hid (Ft.FdL w4 (fun k => P k ∨ (wn.heap.size ≤ k ∧ k < w4.heap.size)) (Ft.setN T.kids x (Ft.withR V r fl), a4, c4)) := hR4.out.1
                  have HB4 : Hid (Below w.heap.size w w4) := HF.out.2.2.1.trans (HWn.out.trans (hR4.out.2.mono HWn.out.size) |>.mono HF.out.2.2.1.size)
                  have HZ4 : Hid (Ft.FileAt w4 (w.heap.size + 1) Ft.zF none 0) := hZ4
                  have HT : Hid (Ft.withR T (x :: r) fl = .mk T.nm T.k T.d (Ft.setN T.kids x (Ft.withR V r fl))) := HVk.out
                  have hl := Ft.setN_len T.kids x (Ft.withR V r fl)
                  obtain ⟨x0, x1, x2, x3⟩ := hF4.four
                  have qf := hF4.frozen
                  have z0 : w4.cell? ⟨w.heap.size + 1, 0, none⟩ = some (.string ⟨#[]⟩) := hZ4.four.c0
                  have z1 : w4.cell? ⟨w.heap.size + 1, 1, none⟩ = some (.int .u8 0) := hZ4.four.c1
                  have z2 : w4.cell? ⟨w.heap.size + 1, 2, none⟩ = some (.string ⟨#[]⟩) := hZ4.four.c2
                  have z3 : w4.cell? ⟨w.heap.size + 1, 3, none⟩ = some (.slice none 0 0) := hZ4.four.c3
                  have zf := hZ4.frozen
                  have HWl : w.heap.size + 1 < wn.heap.size := Ft.FileAt.lt HG.out.2.2
                  clear HS4 g4 gf4 hR4 hU hb2 HS2 g2 gf2 HS0 g3 gf q0 q1 q2 q3 hF4 hZ4 HIH HC1 HSw HCW HS5 HSt HG HS
                  go_wp2_with fail
                  generalize Ft.setN T.kids x (Ft.withR V r fl) = SN at *
                  rw [← hl]
                  have hne : w.heap.size + 1 ≠ w.heap.size := by omega
                  have K1 : Ft.FileAt (w4.setCell ⟨w.heap.size, 3, none⟩ (.slice a4 SN.length c4)) (w.heap.size + 1) Ft.zF none 0 := (heap_setCell_other w4 ⟨w.heap.size, 3, none⟩ (w.heap.size + 1) _ hne).trans HZ4.out
                  have K0 : Below w.heap.size w4 (w4.setCell ⟨w.heap.size, 3, none⟩ (.slice a4 SN.length c4)) := (Below.refl _ _).setCell (p := ⟨w.heap.size, 3, none⟩) (Nat.le_refl _) _
                  have K2 : Below w.heap.size w (Ft.putF (w4.setCell ⟨w.heap.size, 3, none⟩ (.slice a4 SN.length c4)) (w.heap.size + 1) (.mk T.nm T.k T.d SN) a4 c4) := Ft.putF_below (HB4.out.trans K0) (by omega)
                  have K3 : w4.heap.size ≤ (Ft.putF (w4.setCell ⟨w.heap.size, 3, none⟩ (.slice a4 SN.length c4)) (w.heap.size + 1) (.mk T.nm T.k T.d SN) a4 c4).heap.size := (Ft.putF_below K0 (by omega)).size
                  refine bodyPost_ret (results_cell_row rfl _ _ (w.heap.size + 1) _ _ _ _ rfl (Ft.FileAt.putF K1 (.mk T.nm T.k T.d SN) a4 c4) Tryz.underlying25 rfl (by kernel_rfl)) rfl ?_
                  rw [HT.out]
                  refine ⟨a4, c4, rfl, Ft.Fd.same (HR4.out.tree T.nm T.k T.d) (fun k hk => ?_) (fun k hk => ?_), K2⟩
                  · have hk2 : k ≠ w.heap.size ∧ k ≠ w.heap.size + 1 := by
                      rcases hk with hk | hk
                      · have := HF.out.2.2.2.2.1 k hk; omega
                      · omega
                    exact (Ft.putF_other (T := .mk T.nm T.k T.d SN) (a := a4) (cap := c4) hk2.2).trans (heap_setCell_other w4 ⟨w.heap.size, 3, none⟩ k _ hk2.1)
                  · rcases hk with hk | hk
                    · exact .inl hk
                    · exact .inr ⟨by omega, Nat.lt_of_lt_of_le hk.2 K3⟩
                exact AllReadyH.nil
              exact AllReadyH.nil
            exact AllReadyH.nil
          exact AllReadyH.nil
        exact AllReadyH.nil
      exact AllReadyH.nil
end Go.Proofs.YtfbhofomcenabaaGreatDoor
