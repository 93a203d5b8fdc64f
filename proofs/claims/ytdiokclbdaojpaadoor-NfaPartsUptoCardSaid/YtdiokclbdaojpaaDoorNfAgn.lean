/- What (*layout).again does: a round copied. -/
import Derived.Test.YtdiokclbdaojpaaDoorNfAlt
import Derived.Test.YtdiokclbdaojpaaDoorNfOk
namespace Go.Proofs.YtdiokclbdaojpaaDoor
open Go.RowKit

namespace Nt
/-- Of a kind of instruction: whether it uses a field. -/
def fb (k j : Nat) : Bool := fldL.getD (k * 6 + j) false
theorem Tabs.at {w : World} (h : Tabs w) {k j : Nat} (hk : k ≤ 12) (hj : j < 6) : w.cell? ⟨0, k * 6 + j, none⟩ = some (.bool (fb k j)) := by
  rw [h.fld _ (by omega), fb]
  have hl : fldL.length = 78 := rfl
  rw [List.getD_eq_getElem?_getD, List.getElem?_eq_getElem (by omega)]; rfl
theorem fb_to : ∀ k, k ≤ 12 → fb k 2 = (k == 2 || k == 3) := by decide
theorem fb_slot : ∀ k, k ≤ 12 → fb k 5 = (k == 7 || k == 8) := by decide
theorem Tabs.bz {w w' : World} {g h : Nat} (x : Tabs w) (hb : Bz g h w w') (hg : 2 ≤ g) (hh : 2 ≤ h) : Tabs w' := x.below (hb.below (B := 2) hg hh x.big) (Nat.le_refl _)
theorem insC_at : ∀ (L : List Ins) (i : Nat) (h : i < L.length) (j : Nat), j < 9 → (insC L)[i * 9 + j]? = (insL (L[i]))[j]?
  | x :: L, 0, _, j, hj => by
    rw [insC, List.flatMap_cons, List.getElem?_append_left (by simp [insL]; omega)]; simp
  | x :: L, i + 1, h, j, hj => by
    rw [insC, List.flatMap_cons, List.getElem?_append_right (by simp [insL]; omega)]
    have e : (i + 1) * 9 + j - (insL x).length = i * 9 + j := by simp [insL]; omega
    rw [e]
    have := insC_at L i (by simpa using h) j hj
    rw [insC] at this
    rw [this]; rfl
/-- The i-th instruction's cells. -/
theorem Ly.ins {w : World} {lb rb cap : Nat} {L : List Ins} {f : Nat} (h : Ly w lb rb cap L f) {i j : Nat} (hi : i < L.length) (hj : j < 9) : w.cell? ⟨rb, i * 9 + j, none⟩ = (insL (L[i]))[j]? := by
  rw [h.row.cellAt (i * 9 + j) (by omega)]
  exact insC_at L i hi j hj
end Nt
set_option maxRecDepth 100000 in
set_option maxHeartbeats 8000000 in
theorem again_any (lb rb cap f fr to : Nat) (A C B : List Nt.Ins) (w : World) (hL : Nt.Ly w lb rb cap (A ++ C ++ B) f) (hT : Nt.Tabs w) (hlb : 2 ≤ lb) (hrb : 2 ≤ rb) (hfr : fr ≤ f) (hok : ∀ x ∈ C, Nt.Ok 16385 16384 x) (hroom : (A ++ C ++ B).length + C.length ≤ cap) (hcap : cap ≤ 16385) (hf : f ≤ 16384) (hC : 0 < C.length) (hto : to = A.length + C.length) :
    Calls Tryd.prog 86 #[.pointer (some ⟨lb, 0, none⟩), .agg #[.bool true, .int .i64 (A.length : Nat), .int .i64 (to : Nat), .int .i64 (fr : Nat)]] w fun e w' => (∃ v, e = .returned v) ∧ Nt.Ly w' lb rb cap (A ++ C ++ B ++ C.map (Nt.shf (C.length + B.length) (f - fr))) f ∧ Nt.Bz lb rb w w' := by
  have X0 : (w.alloc (.cells #[.bool true, .int .i64 (A.length : Nat), .int .i64 (to : Nat), .int .i64 (fr : Nat)] 130)).heap[w.heap.size]? = some (.cells #[.bool true, .int .i64 (A.length : Nat), .int .i64 (to : Nat), .int .i64 (fr : Nat)] 130 (0, 0)) := heap_alloc_new w _
  have hB0 : Below w.heap.size w (w.alloc (.cells #[.bool true, .int .i64 (A.length : Nat), .int .i64 (to : Nat), .int .i64 (fr : Nat)] 130)) := (Below.refl w.heap.size w).alloc (Nat.le_refl _) _
  have h0 := hL.under hB0
  have hlen : (A ++ C ++ B).length = A.length + (C.length + B.length) := by simp
  have Hto : Hid _ := hto
  obtain ⟨LL, hLL⟩ : ∃ LL, A ++ C ++ B = LL := ⟨_, rfl⟩
  rw [hLL] at h0 hroom hlen ⊢
  have HLL : Hid _ := hLL
  have Hlen : Hid _ := hlen
  obtain ⟨D, hD⟩ : ∃ D, C.length + B.length = D := ⟨_, rfl⟩
  have HDc : Hid ((D : Int) = (LL.length : Int) - (A.length : Int)) := by show _ = _; omega
  rw [hD]
  clear hD
  obtain ⟨W, hW⟩ : ∃ W, W = w.alloc (.cells #[.bool true, .int .i64 (A.length : Nat), .int .i64 (to : Nat), .int .i64 (fr : Nat)] 130) := ⟨_, rfl⟩
  rw [← hW] at X0 hB0 h0
  have x1 : W.cell? ⟨w.heap.size, 1, none⟩ = some (.int .i64 (A.length : Nat)) := cell_of_row _ _ _ _ _ _ X0
  have x2 : W.cell? ⟨w.heap.size, 2, none⟩ = some (.int .i64 (to : Nat)) := cell_of_row _ _ _ _ _ _ X0
  have x3 : W.cell? ⟨w.heap.size, 3, none⟩ = some (.int .i64 (fr : Nat)) := cell_of_row _ _ _ _ _ _ X0
  have l10 : W.cell? ⟨lb, 10, none⟩ = some (.slice (some ⟨rb, 0, none⟩) LL.length cap) := h0.cell 10
  have l11 : W.cell? ⟨lb, 11, none⟩ = some (.int .i64 (f : Int)) := h0.cell 11
  have HHE : Hid (∀ n, Calls Tryd.prog 77 #[.pointer (some ⟨lb, 0, none⟩)] (W.drewN n) fun e w' => e = .returned (.int .i64 (LL.length : Nat)) ∧ w' = W.drewN n) := fun n => here_any lb rb cap f LL _ ⟨h0.blk, h0.row, h0.ne⟩
  have H0 : Hid _ := h0
  have HT0 : Hid _ := hT
  have Hzr : Hid (∀ wr, Nt.Bz lb rb w wr → Below 2 w wr) := fun wr hz => hz.below hlb hrb hT.big
  have HB0 : Hid _ := hB0
  have HOK : Hid _ := hok
  have b1 : to ≤ LL.length := by omega
  have b4 : A.length ≤ to := by omega
  have b5 : A.length ≤ LL.length := by omega
  have b2 : LL.length ≤ 16385 := by omega
  have b3 : ¬ cap = A.length := by omega
  clear X0 hL h0 hB0 hT hok hLL hlen hto
  go_enter Tryd.func86, Tryd.ntmps86
  go_wp2_with fail
  rw [← hW]
  clear hW
  go_quiet ((go_at_call 77; exact Calls.quiet_of_same (HHE.out _)))
  go_wp2_with fail
  go_quiet (fail)
  go_wp2_with fail
  have hM : to - A.length = C.length := by have := Hto.out; omega
  rw [hM]
  clear hM b1 b4
  have HEc : Hid (((f - fr : Nat) : Int) = (f : Int) - (fr : Int)) := by show _ = _; omega
  have hC16 : C.length ≤ 16385 := by have := Hlen.out; omega
  have hD16 : (LL.length : Int) - (A.length : Int) ≤ 16385 := by omega
  go_loopw [31] (fun iv wr => ∃ i : Nat, i ≤ C.length ∧ iv = .int .i64 (i : Int) ∧ Nt.Ly wr lb rb cap (LL ++ (C.take i).map (Nt.shf D (f - fr))) f ∧ Nt.Bz lb rb w wr) (fun iv _ => C.length - (intOf iv).toNat)
  case atStart => exact ⟨0, by omega, rfl, by rw [List.take_zero, List.map_nil, List.append_nil]; exact ⟨H0.out.blk, H0.out.row, H0.out.ne⟩, Nt.Bz.of_below (drewB (drewB HB0.out _) _)⟩
  case round =>
    clear x1 x2 x3 l10 l11 HHE H0 HB0
    obtain ⟨i, hi, rfl, hLi, hzi⟩ := hrel
    have HLi : Hid _ := hLi
    have Hzi : Hid _ := hzi
    clear hLi hzi
    by_cases hlt : i < C.length
    · obtain ⟨x, hx⟩ : ∃ x, C[i] = x := ⟨_, rfl⟩
      have hxm : x ∈ C := hx ▸ List.getElem_mem hlt
      obtain ⟨ok1, ok2, ok3, ok4, ok5, ok6⟩ := HOK.out x hxm
      have HTk : Hid (C.take (i + 1) = C.take i ++ [x]) := by show _ = _; rw [List.take_succ_eq_append_getElem hlt, hx]
      have hil : A.length + i < (LL ++ (C.take i).map (Nt.shf D (f - fr))).length := by rw [List.length_append]; have := Hlen.out; omega
      have hxe : (LL ++ (C.take i).map (Nt.shf D (f - fr)))[A.length + i] = x := by
        have h1 : A.length + i < LL.length := by have := Hlen.out; omega
        rw [List.getElem_append_left h1]
        have : LL[A.length + i]? = some x := by
          rw [← HLL.out, List.append_assoc, List.getElem?_append_right (by omega), List.getElem?_append_left (by omega), Nat.add_sub_cancel_left, List.getElem?_eq_getElem hlt, hx]
        rw [List.getElem?_eq_getElem h1] at this
        exact Option.some.inj this
      have hcell : ∀ j, j < 9 → wr.cell? ⟨rb, A.length * 9 + i * 9 + j, none⟩ = (Nt.insL x)[j]? := fun j hj => by
        have := HLi.out.ins hil hj
        rw [hxe, Nat.add_mul] at this
        exact this
      have c0 : wr.cell? ⟨rb, A.length * 9 + i * 9, none⟩ = some (.int .u8 (x.k : Int)) := hcell 0 (by omega)
      have c1 : wr.cell? ⟨rb, A.length * 9 + i * 9 + 1, none⟩ = some (.int .u64 (St.wd x.s 0 : Nat)) := hcell 1 (by omega)
      have c2 : wr.cell? ⟨rb, A.length * 9 + i * 9 + 2, none⟩ = some (.int .u64 (St.wd x.s 1 : Nat)) := hcell 2 (by omega)
      have c3 : wr.cell? ⟨rb, A.length * 9 + i * 9 + 3, none⟩ = some (.int .u64 (St.wd x.s 2 : Nat)) := hcell 3 (by omega)
      have c4 : wr.cell? ⟨rb, A.length * 9 + i * 9 + 4, none⟩ = some (.int .u64 (St.wd x.s 3 : Nat)) := hcell 4 (by omega)
      have c5 : wr.cell? ⟨rb, A.length * 9 + i * 9 + 5, none⟩ = some (.int .i64 x.to) := hcell 5 (by omega)
      have c6 : wr.cell? ⟨rb, A.length * 9 + i * 9 + 6, none⟩ = some (.int .i64 x.gr) := hcell 6 (by omega)
      have c7 : wr.cell? ⟨rb, A.length * 9 + i * 9 + 7, none⟩ = some (.int .i64 x.la) := hcell 7 (by omega)
      have c8 : wr.cell? ⟨rb, A.length * 9 + i * 9 + 8, none⟩ = some (.int .i64 x.sl) := hcell 8 (by omega)
      have hTr : Nt.Tabs wr := HT0.out.below (Hzr.out wr Hzi.out) (Nat.le_refl _)
      have e0 : wr.cell? ⟨0, x.k * 6, none⟩ = some (.bool (Nt.fb x.k 0)) := hTr.at (j := 0) ok2 (by omega)
      have e1 : wr.cell? ⟨0, x.k * 6 + 1, none⟩ = some (.bool (Nt.fb x.k 1)) := hTr.at (j := 1) ok2 (by omega)
      have e2 : wr.cell? ⟨0, x.k * 6 + 2, none⟩ = some (.bool (Nt.fb x.k 2)) := hTr.at (j := 2) ok2 (by omega)
      have e3 : wr.cell? ⟨0, x.k * 6 + 3, none⟩ = some (.bool (Nt.fb x.k 3)) := hTr.at (j := 3) ok2 (by omega)
      have e4 : wr.cell? ⟨0, x.k * 6 + 4, none⟩ = some (.bool (Nt.fb x.k 4)) := hTr.at (j := 4) ok2 (by omega)
      have e5 : wr.cell? ⟨0, x.k * 6 + 5, none⟩ = some (.bool (Nt.fb x.k 5)) := hTr.at (j := 5) ok2 (by omega)
      have hbigr := hTr.big
      have hrbl : rb < wr.heap.size := HLi.out.lt.2
      have HRm : Hid ((LL ++ (C.take i).map (Nt.shf D (f - fr))).length + 1 ≤ cap) := by
        show _ ≤ _
        rw [List.length_append, List.length_map, List.length_take]; omega
      have hto' := Nt.fb_to x.k ok2
      have hsl' := Nt.fb_slot x.k ok2
      generalize Nt.fb x.k 0 = v0 at e0
      generalize Nt.fb x.k 1 = v1 at e1
      generalize Nt.fb x.k 3 = v3 at e3
      generalize Nt.fb x.k 4 = v4 at e4
      clear hcell hxe hil hx hTr hxm
      cases h2 : Nt.fb x.k 2
      · cases h5 : Nt.fb x.k 5
        · skip
          have HE : Hid (Nt.insV (Nt.shf D (f - fr) x) = .agg #[.int .u8 (x.k : Int), .int .u64 (St.wd x.s 0 : Nat), .int .u64 (St.wd x.s 1 : Nat), .int .u64 (St.wd x.s 2 : Nat), .int .u64 (St.wd x.s 3 : Nat), .int .i64 x.to, .int .i64 x.gr, .int .i64 x.la, .int .i64 x.sl]) := by
            show _ = _
            have g1 := hto'.symm.trans h2
            have g2 := hsl'.symm.trans h5
            simp only [Nt.insV, Nt.insA, Nt.shf, g1, g2, if_false, Bool.false_eq_true]
            skip
            skip
          have HPU : Hid (∀ wx, Below wr.heap.size wr wx → Calls Tryd.prog 35 #[.pointer (some ⟨lb, 0, none⟩), .agg #[.int .u8 (x.k : Int), .int .u64 (St.wd x.s 0 : Nat), .int .u64 (St.wd x.s 1 : Nat), .int .u64 (St.wd x.s 2 : Nat), .int .u64 (St.wd x.s 3 : Nat), .int .i64 x.to, .int .i64 x.gr, .int .i64 x.la, .int .i64 x.sl]] wx fun e w' => (∃ v, e = .returned v) ∧ Nt.Ly w' lb rb cap (LL ++ (C.take i).map (Nt.shf D (f - fr)) ++ [Nt.shf D (f - fr) x]) f ∧ Nt.Bz lb rb wx w') := fun wx hbx => by
            have := put_any lb rb cap f (LL ++ (C.take i).map (Nt.shf D (f - fr))) (Nt.shf D (f - fr) x) wx (HLi.out.under hbx) HRm.out
            rw [HE.out] at this
            exact this
          clear HE
          rw [h2] at e2
          rw [h5] at e5
          clear h2 h5 hto' hsl'
          have hA : Below wr.heap.size wr (wr.alloc (.cells #[.int .u8 (x.k : Int), .int .u64 (St.wd x.s 0 : Nat), .int .u64 (St.wd x.s 1 : Nat), .int .u64 (St.wd x.s 2 : Nat), .int .u64 (St.wd x.s 3 : Nat), .int .i64 x.to, .int .i64 x.gr, .int .i64 x.la, .int .i64 x.sl] 64)) := (Below.refl _ wr).alloc (Nat.le_refl _) _
          have d0 := (hA.cell (p := ⟨0, x.k * 6, none⟩) (by simp; omega)).trans e0
          have d1 := (hA.cell (p := ⟨0, x.k * 6 + 1, none⟩) (by simp; omega)).trans e1
          have d2 := (hA.cell (p := ⟨0, x.k * 6 + 2, none⟩) (by simp; omega)).trans e2
          have d3 := (hA.cell (p := ⟨0, x.k * 6 + 3, none⟩) (by simp; omega)).trans e3
          have d4 := (hA.cell (p := ⟨0, x.k * 6 + 4, none⟩) (by simp; omega)).trans e4
          have d5 := (hA.cell (p := ⟨0, x.k * 6 + 5, none⟩) (by simp; omega)).trans e5
          clear hA
          go_wp2_with fail
          refine Calls.mono (HPU.out _ ?ax) ?_
          case ax => exact (((Below.refl _ wr).alloc (Nat.le_refl _) _).alloc (by simp) _)
          rintro e w2 ⟨⟨v, rfl⟩, hL2, hz2⟩
          have hL3 : Nt.Ly w2 lb rb cap (LL ++ (C.take (i + 1)).map (Nt.shf D (f - fr))) f := by
            rw [HTk.out, List.map_append, ← List.append_assoc]; exact hL2
          have hz3 : Nt.Bz lb rb w w2 := Hzi.out.trans (Nt.Bz.trans (Nt.Bz.of_below (((Below.refl _ wr).alloc (Nat.le_refl _) _).alloc (by simp) _)) hz2)
          clear HPU hL2 hz2 d0 d1 d2 d3 d4 d5 e0 e1 e2 e3 e4 e5 c0 c1 c2 c3 c4 c5 c6 c7 c8
          go_wp2_with fail
          refine ⟨⟨i + 1, by omega, by simp, hL3, hz3⟩, by simp only [intOf]; omega⟩
        · skip
          have HE : Hid (Nt.insV (Nt.shf D (f - fr) x) = .agg #[.int .u8 (x.k : Int), .int .u64 (St.wd x.s 0 : Nat), .int .u64 (St.wd x.s 1 : Nat), .int .u64 (St.wd x.s 2 : Nat), .int .u64 (St.wd x.s 3 : Nat), .int .i64 x.to, .int .i64 x.gr, .int .i64 x.la, .int .i64 (x.sl + ((f : Int) - (fr : Int)))]) := by
            show _ = _
            have g1 := hto'.symm.trans h2
            have g2 := hsl'.symm.trans h5
            simp only [Nt.insV, Nt.insA, Nt.shf, g1, g2, if_true, if_false, Bool.false_eq_true]
            skip
            rw [HEc.out]
          have HPU : Hid (∀ wx, Below wr.heap.size wr wx → Calls Tryd.prog 35 #[.pointer (some ⟨lb, 0, none⟩), .agg #[.int .u8 (x.k : Int), .int .u64 (St.wd x.s 0 : Nat), .int .u64 (St.wd x.s 1 : Nat), .int .u64 (St.wd x.s 2 : Nat), .int .u64 (St.wd x.s 3 : Nat), .int .i64 x.to, .int .i64 x.gr, .int .i64 x.la, .int .i64 (x.sl + ((f : Int) - (fr : Int)))]] wx fun e w' => (∃ v, e = .returned v) ∧ Nt.Ly w' lb rb cap (LL ++ (C.take i).map (Nt.shf D (f - fr)) ++ [Nt.shf D (f - fr) x]) f ∧ Nt.Bz lb rb wx w') := fun wx hbx => by
            have := put_any lb rb cap f (LL ++ (C.take i).map (Nt.shf D (f - fr))) (Nt.shf D (f - fr) x) wx (HLi.out.under hbx) HRm.out
            rw [HE.out] at this
            exact this
          clear HE
          rw [h2] at e2
          rw [h5] at e5
          clear h2 h5 hto' hsl'
          have hA : Below wr.heap.size wr (wr.alloc (.cells #[.int .u8 (x.k : Int), .int .u64 (St.wd x.s 0 : Nat), .int .u64 (St.wd x.s 1 : Nat), .int .u64 (St.wd x.s 2 : Nat), .int .u64 (St.wd x.s 3 : Nat), .int .i64 x.to, .int .i64 x.gr, .int .i64 x.la, .int .i64 x.sl] 64)) := (Below.refl _ wr).alloc (Nat.le_refl _) _
          have d0 := (hA.cell (p := ⟨0, x.k * 6, none⟩) (by simp; omega)).trans e0
          have d1 := (hA.cell (p := ⟨0, x.k * 6 + 1, none⟩) (by simp; omega)).trans e1
          have d2 := (hA.cell (p := ⟨0, x.k * 6 + 2, none⟩) (by simp; omega)).trans e2
          have d3 := (hA.cell (p := ⟨0, x.k * 6 + 3, none⟩) (by simp; omega)).trans e3
          have d4 := (hA.cell (p := ⟨0, x.k * 6 + 4, none⟩) (by simp; omega)).trans e4
          have d5 := (hA.cell (p := ⟨0, x.k * 6 + 5, none⟩) (by simp; omega)).trans e5
          clear hA
          go_wp2_with fail
          refine Calls.mono (HPU.out _ ?ay) ?_
          case ay => exact (((Below.refl _ wr).alloc (Nat.le_refl _) _).alloc (by simp) _)
          rintro e w2 ⟨⟨v, rfl⟩, hL2, hz2⟩
          have hL3 : Nt.Ly w2 lb rb cap (LL ++ (C.take (i + 1)).map (Nt.shf D (f - fr))) f := by
            rw [HTk.out, List.map_append, ← List.append_assoc]; exact hL2
          have hz3 : Nt.Bz lb rb w w2 := Hzi.out.trans (Nt.Bz.trans (Nt.Bz.of_below (((Below.refl _ wr).alloc (Nat.le_refl _) _).alloc (by simp) _)) hz2)
          clear HPU hL2 hz2 d0 d1 d2 d3 d4 d5 e0 e1 e2 e3 e4 e5 c0 c1 c2 c3 c4 c5 c6 c7 c8
          go_wp2_with fail
          refine ⟨⟨i + 1, by omega, by simp, hL3, hz3⟩, by simp only [intOf]; omega⟩
      · cases h5 : Nt.fb x.k 5
        · skip
          have HE : Hid (Nt.insV (Nt.shf D (f - fr) x) = .agg #[.int .u8 (x.k : Int), .int .u64 (St.wd x.s 0 : Nat), .int .u64 (St.wd x.s 1 : Nat), .int .u64 (St.wd x.s 2 : Nat), .int .u64 (St.wd x.s 3 : Nat), .int .i64 (x.to + ((LL.length : Int) - (A.length : Int))), .int .i64 x.gr, .int .i64 x.la, .int .i64 x.sl]) := by
            show _ = _
            have g1 := hto'.symm.trans h2
            have g2 := hsl'.symm.trans h5
            simp only [Nt.insV, Nt.insA, Nt.shf, g1, g2, if_true, if_false, Bool.false_eq_true]
            rw [HDc.out]
            skip
          have HPU : Hid (∀ wx, Below wr.heap.size wr wx → Calls Tryd.prog 35 #[.pointer (some ⟨lb, 0, none⟩), .agg #[.int .u8 (x.k : Int), .int .u64 (St.wd x.s 0 : Nat), .int .u64 (St.wd x.s 1 : Nat), .int .u64 (St.wd x.s 2 : Nat), .int .u64 (St.wd x.s 3 : Nat), .int .i64 (x.to + ((LL.length : Int) - (A.length : Int))), .int .i64 x.gr, .int .i64 x.la, .int .i64 x.sl]] wx fun e w' => (∃ v, e = .returned v) ∧ Nt.Ly w' lb rb cap (LL ++ (C.take i).map (Nt.shf D (f - fr)) ++ [Nt.shf D (f - fr) x]) f ∧ Nt.Bz lb rb wx w') := fun wx hbx => by
            have := put_any lb rb cap f (LL ++ (C.take i).map (Nt.shf D (f - fr))) (Nt.shf D (f - fr) x) wx (HLi.out.under hbx) HRm.out
            rw [HE.out] at this
            exact this
          clear HE
          rw [h2] at e2
          rw [h5] at e5
          clear h2 h5 hto' hsl'
          have hA : Below wr.heap.size wr (wr.alloc (.cells #[.int .u8 (x.k : Int), .int .u64 (St.wd x.s 0 : Nat), .int .u64 (St.wd x.s 1 : Nat), .int .u64 (St.wd x.s 2 : Nat), .int .u64 (St.wd x.s 3 : Nat), .int .i64 x.to, .int .i64 x.gr, .int .i64 x.la, .int .i64 x.sl] 64)) := (Below.refl _ wr).alloc (Nat.le_refl _) _
          have d0 := (hA.cell (p := ⟨0, x.k * 6, none⟩) (by simp; omega)).trans e0
          have d1 := (hA.cell (p := ⟨0, x.k * 6 + 1, none⟩) (by simp; omega)).trans e1
          have d2 := (hA.cell (p := ⟨0, x.k * 6 + 2, none⟩) (by simp; omega)).trans e2
          have d3 := (hA.cell (p := ⟨0, x.k * 6 + 3, none⟩) (by simp; omega)).trans e3
          have d4 := (hA.cell (p := ⟨0, x.k * 6 + 4, none⟩) (by simp; omega)).trans e4
          have d5 := (hA.cell (p := ⟨0, x.k * 6 + 5, none⟩) (by simp; omega)).trans e5
          clear hA
          go_wp2_with fail
          refine Calls.mono (HPU.out _ ?bx) ?_
          case bx => exact (((Below.refl _ wr).alloc (Nat.le_refl _) _).alloc (by simp) _)
          rintro e w2 ⟨⟨v, rfl⟩, hL2, hz2⟩
          have hL3 : Nt.Ly w2 lb rb cap (LL ++ (C.take (i + 1)).map (Nt.shf D (f - fr))) f := by
            rw [HTk.out, List.map_append, ← List.append_assoc]; exact hL2
          have hz3 : Nt.Bz lb rb w w2 := Hzi.out.trans (Nt.Bz.trans (Nt.Bz.of_below (((Below.refl _ wr).alloc (Nat.le_refl _) _).alloc (by simp) _)) hz2)
          clear HPU hL2 hz2 d0 d1 d2 d3 d4 d5 e0 e1 e2 e3 e4 e5 c0 c1 c2 c3 c4 c5 c6 c7 c8
          go_wp2_with fail
          refine ⟨⟨i + 1, by omega, by simp, hL3, hz3⟩, by simp only [intOf]; omega⟩
        · exfalso
          rw [h2] at hto'
          rw [h5] at hsl'
          simp at hto' hsl'
          omega
    · obtain rfl : i = C.length := by omega
      go_wp2_with fail
      go_end0
      exact ⟨⟨_, rfl⟩, by have := HLi.out; rw [List.take_length] at this; exact this, Hzi.out⟩
end Go.Proofs.YtdiokclbdaojpaaDoor
