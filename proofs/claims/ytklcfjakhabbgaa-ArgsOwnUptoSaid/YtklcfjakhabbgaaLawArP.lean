/- ArgsPrints: Right, Print and Same of any command lines are the document's. -/
import Derived.Test.YtklcfjakhabbgaaArPs
import Derived.Deep.RegionHeld3
namespace Go.Proofs.Ytklcfjakhabbgaa
open Go.RowKit

/-- The block g holds a command line. -/
structure AvAt (w : World) (g : Nat) (x : Ar.Av) (a : Option Addr) (c : Nat) (b : Option Addr) (d : Nat) : Prop where
  bk : w.heap[g]? = some (.cells (avA x a c b d) 28)
  r : AvR w x a c b d
theorem AvAt.under {w w' : World} {g : Nat} {x : Ar.Av} {a b : Option Addr} {c d : Nat} (h : AvAt w g x a c b d) (hb : Below w.heap.size w w') : AvAt w' g x a c b d :=
  ⟨by rw [hb.block _ (lt_of_block h.bk)]; exact h.bk, h.r.below hb⟩
theorem avAt_new (w : World) {x : Ar.Av} {a b : Option Addr} {c d : Nat} (h : AvR w x a c b d) : AvAt (w.alloc (.cells (avA x a c b d) 28)) w.heap.size x a c b d := ⟨heap_alloc_new _ _, h.alloc _⟩
theorem AvAt.cells {w : World} {g : Nat} {x : Ar.Av} {a b : Option Addr} {c d : Nat} (h : AvAt w g x a c b d) : (w.cell? ⟨g, 0, none⟩ = some (.bool x.q) ∧ w.cell? ⟨g, 1, none⟩ = some (.bool x.e) ∧ w.cell? ⟨g, 2, none⟩ = some (.bool x.s) ∧ w.cell? ⟨g, 3, none⟩ = some (.bool x.i) ∧ w.cell? ⟨g, 4, none⟩ = some (.string x.sf) ∧ w.cell? ⟨g, 5, none⟩ = some (.slice a x.sc.length c) ∧ w.cell? ⟨g, 6, none⟩ = some (.slice b x.nm.length d)) :=
  ⟨cell_of_row _ _ _ _ _ _ h.bk, cell_of_row _ _ _ _ _ _ h.bk, cell_of_row _ _ _ _ _ _ h.bk, cell_of_row _ _ _ _ _ _ h.bk, cell_of_row _ _ _ _ _ _ h.bk, cell_of_row _ _ _ _ _ _ h.bk, cell_of_row _ _ _ _ _ _ h.bk⟩

set_option maxRecDepth 100000 in
set_option maxHeartbeats 4000000 in
theorem law_prints (x y : Ar.Av) (a b a' b' : Option Addr) (c d c' d' : Nat) (w : World) (hx : AvR w x a c b d) (hy : AvR w y a' c' b' d') :
    Calls Try.prog 4 #[.agg (avA x a c b d), .agg (avA y a' c' b' d')] w fun e w' => e = .returned (.bool true) ∧ Below w.heap.size w w' := by
  obtain ⟨wa, hwa⟩ : ∃ wa, wa = (w.alloc (.cells (avA x a c b d) 28)).alloc (.cells (avA y a' c' b' d') 28) := ⟨_, rfl⟩
  have hB : Below w.heap.size w wa := by rw [hwa]; exact ((Below.refl _ _).alloc (Nat.le_refl _) _).alloc (by simp) _
  have hP1 : AvAt wa w.heap.size x a c b d := by rw [hwa]; exact (avAt_new w hx).under (alloc_below _ _)
  have hP2 : AvAt wa (w.heap.size + 1) y a' c' b' d' := by
    rw [hwa, show w.heap.size + 1 = (w.alloc (.cells (avA x a c b d) 28)).heap.size from by simp]
    exact avAt_new _ (hy.below (alloc_below _ _))
  have HW : Hid (wa = (w.alloc (.cells (avA x a c b d) 28)).alloc (.cells (avA y a' c' b' d') 28)) := hwa
  have C1 : Hid (Calls Try.prog 14 #[.agg (avA x a c b d)] wa _) := rcopy_any x a b c d wa hP1.r
  have hz1 := hx.sc.len
  have hz2 := hx.nm.len
  have hz3 := hy.sc.len
  have hz4 := hy.nm.len
  have HA : Hid (Below w.heap.size w wa ∧ AvAt wa w.heap.size x a c b d ∧ AvAt wa (w.heap.size + 1) y a' c' b' d') := ⟨hB, hP1, hP2⟩
  have HX : Hid (AvR w x a c b d) := hx
  clear hwa hB hP1 hP2 hx hy
  simp only [avA] at HW C1 ⊢
  go_enter Try.func4, Try.ntmps4
  go_wp2_with fail
  rw [← HW.out]
  refine Calls.mono C1.out ?_
  rintro e w1 ⟨ag, cg, bg, dg, rfl, q1, b1⟩
  obtain ⟨wb, hwb⟩ : ∃ wb, wb = w1.alloc (.cells (avA x ag cg bg dg) 28) := ⟨_, rfl⟩
  have hb1 : Below wa.heap.size wa wb := by rw [hwb]; exact b1.alloc b1.size _
  have hP3 : AvAt wb w1.heap.size x ag cg bg dg := by rw [hwb]; exact avAt_new w1 (q1.reads HX.out)
  have C2 : Hid (Calls Try.prog 15 #[.agg (avA x ag cg bg dg)] wb _) := print_any x ag bg cg dg wb hP3.r
  have HWb : Hid (wb = w1.alloc (.cells (avA x ag cg bg dg) 28)) := hwb
  have HA1 : Hid (Below wa.heap.size wa wb ∧ AvAt wb w1.heap.size x ag cg bg dg) := ⟨hb1, hP3⟩
  clear hwb hb1 hP3 q1 b1 C1 HW
  simp only [avA] at HWb C2
  go_upto_region 2 with fail
  rw [← HWb.out]
  obtain ⟨d00, d01, d02, d03, d04, d05, d06⟩ := HA1.out.2.cells
  go_wp2_with fail
  refine Calls.mono C2.out ?_
  rintro e w2 ⟨v1, rfl, p1, b2⟩
  obtain ⟨al, cl, rfl, s1⟩ := p1.reads HX.out
  have hPx := (HA.out.2.1.under HA1.out.1).under b2
  have C3 : Hid (Calls Try.prog 16 #[.agg (avA x a c b d)] w2 _) := rprint_any x a b c d w2 hPx.r
  have HA2 : Hid (Below wb.heap.size wb w2 ∧ Strs w2 al cl (Ar.prR x)) := ⟨b2, s1⟩
  clear d00 d01 d02 d03 d04 d05 d06
  obtain ⟨d00, d01, d02, d03, d04, d05, d06⟩ := hPx.cells
  clear p1 b2 s1 hPx C2 HWb
  simp only [avA] at C3
  go_upto_region 3 with fail
  go_wp2_with fail
  refine Calls.mono C3.out ?_
  rintro e we ⟨v2, rfl, p2, b3⟩
  obtain ⟨am, cm, rfl, s2⟩ := p2.reads HX.out
  have Hz : Hid (Below w.heap.size w we ∧ AvAt we w.heap.size x a c b d ∧ AvAt we (w.heap.size + 1) y a' c' b' d' ∧ AvAt we w1.heap.size x ag cg bg dg ∧ Strs we al cl (Ar.prR x) ∧ Strs we am cm (Ar.prR x)) := by
    have b4 : Below w.heap.size w we := below_up (below_up (below_up HA.out.1 HA1.out.1 (Nat.le_refl _)) HA2.out.1 (Nat.le_refl _)) b3 (Nat.le_refl _)
    exact ⟨b4, ((HA.out.2.1.under HA1.out.1).under HA2.out.1).under b3, ((HA.out.2.2.under HA1.out.1).under HA2.out.1).under b3, (HA1.out.2.under HA2.out.1).under b3, HA2.out.2.below b3, s2⟩
  clear d00 d01 d02 d03 d04 d05 d06 p2 b3 s2 C3 HA HA1 HA2
  go_upto_region 4 with fail
  have HC1 : Hid (∀ V, Below we.heap.size we V → Calls Try.prog 17 #[.agg (avA x ag cg bg dg)] V fun e w' => e = .returned (.bool (Ar.rightB x)) ∧ Below we.heap.size we w') := fun V hV => (right_any x ag bg cg dg V (by have := HX.out.sf; unfold maxLen; omega) hz1).mono fun e w' h => ⟨h.1, below_tr hV (h.2.mono hV.size)⟩
  have HC2 : Hid (∀ V, Below we.heap.size we V → Calls Try.prog 18 #[.agg (avA x a c b d)] V fun e w' => e = .returned (.bool (Ar.rightB x)) ∧ Below we.heap.size we w') := fun V hV => (rright_any x a b c d V (by have := HX.out.sf; unfold maxLen; omega) hz1).mono fun e w' h => ⟨h.1, below_tr hV (h.2.mono hV.size)⟩
  have HC3 : Hid (∀ V, Below we.heap.size we V → Calls Try.prog 13 #[.slice al (Ar.prR x).length cl, .slice am (Ar.prR x).length cm] V fun e w' => e = .returned (.bool (true)) ∧ Below we.heap.size we w') := fun V hV => (texts_any al am cl cm (Ar.prR x) (Ar.prR x) V (Hz.out.2.2.2.2.1.below hV) (Hz.out.2.2.2.2.2.below hV)).mono fun e w' h => ⟨by rw [h.1]; simp, below_tr hV (h.2.mono hV.size)⟩
  have HS1 : Hid (∀ V, Below we.heap.size we V → Calls Try.prog 19 #[.agg (avA x ag cg bg dg), .agg (avA y a' c' b' d')] V fun e w' => e = .returned (.bool (Ar.sameA x y)) ∧ Below we.heap.size we w') := fun V hV => (same_any x y ag bg a' b' cg dg c' d' V (Hz.out.2.2.2.1.r.below hV) (Hz.out.2.2.1.r.below hV)).mono fun e w' h => ⟨h.1, below_tr hV (h.2.mono hV.size)⟩
  have HS2 : Hid (∀ V, Below we.heap.size we V → Calls Try.prog 12 #[.agg (avA x a c b d), .agg (avA y a' c' b' d')] V fun e w' => e = .returned (.bool (Ar.sameA x y)) ∧ Below we.heap.size we w') := fun V hV => (rsame_any x y a b a' b' c d c' d' V (Hz.out.2.1.r.below hV) (Hz.out.2.2.1.r.below hV)).mono fun e w' h => ⟨h.1, below_tr hV (h.2.mono hV.size)⟩
  have HS3 : Hid (∀ V, Below we.heap.size we V → Calls Try.prog 19 #[.agg (avA x ag cg bg dg), .agg (avA x a c b d)] V fun e w' => e = .returned (.bool (true)) ∧ Below we.heap.size we w') := fun V hV => (same_any x x ag bg a b cg dg c d V (Hz.out.2.2.2.1.r.below hV) (Hz.out.2.1.r.below hV)).mono fun e w' h => ⟨by rw [h.1, Ar.sameA_refl x], below_tr hV (h.2.mono hV.size)⟩
  have HS4 : Hid (∀ V, Below we.heap.size we V → Calls Try.prog 12 #[.agg (avA x ag cg bg dg), .agg (avA x a c b d)] V fun e w' => e = .returned (.bool (true)) ∧ Below we.heap.size we w') := fun V hV => (rsame_any x x ag bg a b cg dg c d V (Hz.out.2.2.2.1.r.below hV) (Hz.out.2.1.r.below hV)).mono fun e w' h => ⟨by rw [h.1, Ar.sameA_refl x], below_tr hV (h.2.mono hV.size)⟩
  have HF : Hid (∀ V, Below we.heap.size we V → Below w.heap.size w V) := fun V hV => below_up Hz.out.1 hV (Nat.le_refl _)
  have hPe : -9223372036854775808 ≤ Ar.printE x ∧ Ar.printE x ≤ 9223372036854775807 := by
    unfold Ar.printE; split
    · decide
    · split <;> decide
  simp only [avA] at HC1 HC2 HS1 HS2 HS3 HS4
  generalize Ar.rightB x = RB at *
  generalize Ar.sameA x y = SB at *
  generalize Ar.printE x = PE at *
  generalize hpr : (Ar.prR x).length = PL at *
  have hPL : PL ≤ 65536 := by rw [← hpr]; exact Ar.prR_len x
  clear hpr
  generalize hg0 : w.heap.size = g at *
  have HG : Hid (w.heap.size = g) := hg0
  clear hg0
  generalize w1.heap.size = i at *
  generalize hh0 : g + 1 = h at *
  clear hh0
  have HS : Hid (∀ V, Below we.heap.size we V → Below we.heap.size we V ∧ (V.cell? ⟨g, 0, none⟩ = some (.bool x.q) ∧ V.cell? ⟨g, 1, none⟩ = some (.bool x.e) ∧ V.cell? ⟨g, 2, none⟩ = some (.bool x.s) ∧ V.cell? ⟨g, 3, none⟩ = some (.bool x.i) ∧ V.cell? ⟨g, 4, none⟩ = some (.string x.sf) ∧ V.cell? ⟨g, 5, none⟩ = some (.slice a x.sc.length c) ∧ V.cell? ⟨g, 6, none⟩ = some (.slice b x.nm.length d)) ∧ (V.cell? ⟨h, 0, none⟩ = some (.bool y.q) ∧ V.cell? ⟨h, 1, none⟩ = some (.bool y.e) ∧ V.cell? ⟨h, 2, none⟩ = some (.bool y.s) ∧ V.cell? ⟨h, 3, none⟩ = some (.bool y.i) ∧ V.cell? ⟨h, 4, none⟩ = some (.string y.sf) ∧ V.cell? ⟨h, 5, none⟩ = some (.slice a' y.sc.length c') ∧ V.cell? ⟨h, 6, none⟩ = some (.slice b' y.nm.length d')) ∧ (V.cell? ⟨i, 0, none⟩ = some (.bool x.q) ∧ V.cell? ⟨i, 1, none⟩ = some (.bool x.e) ∧ V.cell? ⟨i, 2, none⟩ = some (.bool x.s) ∧ V.cell? ⟨i, 3, none⟩ = some (.bool x.i) ∧ V.cell? ⟨i, 4, none⟩ = some (.string x.sf) ∧ V.cell? ⟨i, 5, none⟩ = some (.slice ag x.sc.length cg) ∧ V.cell? ⟨i, 6, none⟩ = some (.slice bg x.nm.length dg))) := fun V hV =>
    ⟨hV, (Hz.out.2.1.under hV).cells, (Hz.out.2.2.1.under hV).cells, (Hz.out.2.2.2.1.under hV).cells⟩
  have b0 : Below we.heap.size we we.drew := (Below.refl _ we).drew
  have s0 := HS.out we.drew b0
  clear Hz HX
  go_region_held3 (fun w' => Below we.heap.size we w' ∧ (w'.cell? ⟨g, 0, none⟩ = some (.bool x.q) ∧ w'.cell? ⟨g, 1, none⟩ = some (.bool x.e) ∧ w'.cell? ⟨g, 2, none⟩ = some (.bool x.s) ∧ w'.cell? ⟨g, 3, none⟩ = some (.bool x.i) ∧ w'.cell? ⟨g, 4, none⟩ = some (.string x.sf) ∧ w'.cell? ⟨g, 5, none⟩ = some (.slice a x.sc.length c) ∧ w'.cell? ⟨g, 6, none⟩ = some (.slice b x.nm.length d)) ∧ (w'.cell? ⟨h, 0, none⟩ = some (.bool y.q) ∧ w'.cell? ⟨h, 1, none⟩ = some (.bool y.e) ∧ w'.cell? ⟨h, 2, none⟩ = some (.bool y.s) ∧ w'.cell? ⟨h, 3, none⟩ = some (.bool y.i) ∧ w'.cell? ⟨h, 4, none⟩ = some (.string y.sf) ∧ w'.cell? ⟨h, 5, none⟩ = some (.slice a' y.sc.length c') ∧ w'.cell? ⟨h, 6, none⟩ = some (.slice b' y.nm.length d')) ∧ (w'.cell? ⟨i, 0, none⟩ = some (.bool x.q) ∧ w'.cell? ⟨i, 1, none⟩ = some (.bool x.e) ∧ w'.cell? ⟨i, 2, none⟩ = some (.bool x.s) ∧ w'.cell? ⟨i, 3, none⟩ = some (.bool x.i) ∧ w'.cell? ⟨i, 4, none⟩ = some (.string x.sf) ∧ w'.cell? ⟨i, 5, none⟩ = some (.slice ag x.sc.length cg) ∧ w'.cell? ⟨i, 6, none⟩ = some (.slice bg x.nm.length dg))) ((first | exact s0 | exact HS.out _ l9)) (first
    | (go_at_call 17; refine Calls.mono (HC1.out _ (by first | exact l9 | exact b0)) ?_; rintro e wn ⟨rfl, l9⟩)
    | (go_at_call 18; refine Calls.mono (HC2.out _ (by first | exact l9 | exact b0)) ?_; rintro e wn ⟨rfl, l9⟩)
    | (go_at_call 13; refine Calls.mono (HC3.out _ (by first | exact l9 | exact b0)) ?_; rintro e wn ⟨rfl, l9⟩)
    | (go_at_call_of 19 (a'); refine Calls.mono (HS1.out _ (by first | exact l9 | exact b0)) ?_; rintro e wn ⟨rfl, l9⟩)
    | (go_at_call_of 19 (a); refine Calls.mono (HS3.out _ (by first | exact l9 | exact b0)) ?_; rintro e wn ⟨rfl, l9⟩)
    | (go_at_call_of 12 (ag); refine Calls.mono (HS4.out _ (by first | exact l9 | exact b0)) ?_; rintro e wn ⟨rfl, l9⟩)
    | (go_at_call_of 12 (a'); refine Calls.mono (HS2.out _ (by first | exact l9 | exact b0)) ?_; rintro e wn ⟨rfl, l9⟩))
  all_goals
    go_wp2_with fail
    go_ret
    exact ⟨by simp, by rw [HG.out]; exact HF.out _ l9⟩
end Go.Proofs.Ytklcfjakhabbgaa
