/- What the reference's Copy of a command line answers: new memory that reads as the same. -/
import Derived.Test.YtklcfjakhabbgaaArSm
import Derived.Deep.RegionLaw
import Derived.BigRegion
namespace Go.Proofs.Ytklcfjakhabbgaa
open Go.RowKit

theorem put7 {w : World} {g : Nat} {t : TypeId} {x0 x1 x2 x3 x4 x5 x6 : Value} (h : w.heap[g]? = some (.cells #[x0, x1, x2, x3, x4, x5, x6] t (0, 0))) (y0 y1 y2 y3 y4 y5 y6 : Value) :
    (((((((w.setCell ⟨g, 0, none⟩ y0).setCell ⟨g, 1, none⟩ y1).setCell ⟨g, 2, none⟩ y2).setCell ⟨g, 3, none⟩ y3).setCell ⟨g, 4, none⟩ y4).setCell ⟨g, 5, none⟩ y5).setCell ⟨g, 6, none⟩ y6).heap[g]? = some (.cells #[y0, y1, y2, y3, y4, y5, y6] t (0, 0)) := by
  have h0 : (w.setCell ⟨g, 0, none⟩ y0).heap[g]? = some (.cells #[y0, x1, x2, x3, x4, x5, x6] t (0, 0)) := heap_setCell_same _ g 0 _ _ y0 h
  have h1 : ((w.setCell ⟨g, 0, none⟩ y0).setCell ⟨g, 1, none⟩ y1).heap[g]? = some (.cells #[y0, y1, x2, x3, x4, x5, x6] t (0, 0)) := heap_setCell_same _ g 1 _ _ y1 h0
  have h2 : (((w.setCell ⟨g, 0, none⟩ y0).setCell ⟨g, 1, none⟩ y1).setCell ⟨g, 2, none⟩ y2).heap[g]? = some (.cells #[y0, y1, y2, x3, x4, x5, x6] t (0, 0)) := heap_setCell_same _ g 2 _ _ y2 h1
  have h3 : ((((w.setCell ⟨g, 0, none⟩ y0).setCell ⟨g, 1, none⟩ y1).setCell ⟨g, 2, none⟩ y2).setCell ⟨g, 3, none⟩ y3).heap[g]? = some (.cells #[y0, y1, y2, y3, x4, x5, x6] t (0, 0)) := heap_setCell_same _ g 3 _ _ y3 h2
  have h4 : (((((w.setCell ⟨g, 0, none⟩ y0).setCell ⟨g, 1, none⟩ y1).setCell ⟨g, 2, none⟩ y2).setCell ⟨g, 3, none⟩ y3).setCell ⟨g, 4, none⟩ y4).heap[g]? = some (.cells #[y0, y1, y2, y3, y4, x5, x6] t (0, 0)) := heap_setCell_same _ g 4 _ _ y4 h3
  have h5 : ((((((w.setCell ⟨g, 0, none⟩ y0).setCell ⟨g, 1, none⟩ y1).setCell ⟨g, 2, none⟩ y2).setCell ⟨g, 3, none⟩ y3).setCell ⟨g, 4, none⟩ y4).setCell ⟨g, 5, none⟩ y5).heap[g]? = some (.cells #[y0, y1, y2, y3, y4, y5, x6] t (0, 0)) := heap_setCell_same _ g 5 _ _ y5 h4
  exact heap_setCell_same _ g 6 _ _ y6 h5
theorem own_lo {w : World} {base base' : Nat} {e : TypeId} {size : Nat} {v : Value} {n : Nat} {xs : List Value} (h : w.ownsRow base e size v n xs) (hb : base' ≤ base) : w.ownsRow base' e size v n xs := by
  refine ⟨h.1, ?_⟩
  rcases h.2 with q | ⟨g, cap, cur, q1, q2, q⟩
  · exact .inl q
  · exact .inr ⟨g, cap, cur, q1, by omega, q⟩
theorem own_set {w : World} {base : Nat} {e : TypeId} {size : Nat} {v : Value} {n : Nat} {xs : List Value} (h : w.ownsRow base e size v n xs) (g j : Nat) (u : Value) (hg : blk v ≠ some g) : (w.setCell ⟨g, j, none⟩ u).ownsRow base e size v n xs :=
  own_keep h (fun b hb => heap_setCell_other w ⟨g, j, none⟩ b u (fun e => hg (by rw [hb, e])))
def av0 : Array Value := #[.bool false, .bool false, .bool false, .bool false, .string ⟨#[]⟩, .slice none 0 0, .slice none 0 0]
def opA (x : Ar.Av) (vs vn : Value) : Array Value := #[.bool x.q, .bool x.e, .bool x.s, .bool x.i, .string x.sf, vs, vn]
/-- The memory of Copy within its loops. -/
structure Cpy (w : World) (x : Ar.Av) (a : Option Addr) (c : Nat) (b : Option Addr) (d : Nat) (k j : Nat) (vs vn : Value) (W : World) : Prop where
  below : Below w.heap.size w W
  p0 : W.heap[w.heap.size]? = some (.cells (avA x a c b d) 28 (0, 0))
  p1 : W.heap[w.heap.size + 1]? = some (.cells av0 28 (0, 0))
  p2 : W.heap[w.heap.size + 2]? = some (.cells (opA x vs vn) 28 (0, 0))
  rs : W.ownsRow (w.heap.size + 3) 45 2 vs k (pcells (x.sc.take k))
  rn : W.ownsRow (w.heap.size + 3) 9 1 vn j ((x.nm.take j).map Value.string)
  ne : ∀ g, blk vs = some g → blk vn ≠ some g
theorem Cpy.stepS {w W w3 : World} {x : Ar.Av} {a b : Option Addr} {c d k j : Nat} {vs vn v3 : Value} (h : Cpy w x a c b d k j vs vn W) (hk : k < x.sc.length) (hg : W.grownBy w3 vs.ownBlock) (ho : w3.ownsRow (w.heap.size + 3) 45 2 v3 (k + 1) (pcells (x.sc.take k) ++ [.bool (x.sc[k]).1, .string (x.sc[k]).2])) (hat : ∀ g, blk v3 = some g → blk vs = some g ∨ W.heap.size ≤ g) :
    Cpy w x a c b d (k + 1) j v3 vn (w3.setCell ⟨w.heap.size + 2, 5, none⟩ v3) := by
  have l2 := lt_of_block h.p2
  have same : ∀ i, i < w.heap.size + 3 → w3.heap[i]? = W.heap[i]? := fun i hi => hg.block i (by omega) (fun e => by have := (h.rs.lt i e.symm).1; omega)
  have hB3 : Below w.heap.size w w3 := ⟨hg.os.trans h.below.os, hg.tape.trans h.below.tape, hg.output.trans h.below.output, Nat.le_trans h.below.size hg.size, fun i hi => (same i (by omega)).trans (h.below.block i hi)⟩
  have hn : ∀ g, blk vn = some g → w3.heap[g]? = W.heap[g]? := fun g e => hg.block g (h.rn.lt g e).2 (fun e2 => h.ne g e2.symm e)
  refine ⟨hB3.setCell (p := ⟨w.heap.size + 2, 5, none⟩) (by show w.heap.size ≤ w.heap.size + 2; omega) _, ?_, ?_, ?_, ?_, ?_, ?_⟩
  · rw [heap_setCell_other w3 ⟨w.heap.size + 2, 5, none⟩ _ _ (by show w.heap.size ≠ w.heap.size + 2; omega)]; exact (same _ (by omega)).trans h.p0
  · rw [heap_setCell_other w3 ⟨w.heap.size + 2, 5, none⟩ _ _ (by show w.heap.size + 1 ≠ w.heap.size + 2; omega)]; exact (same _ (by omega)).trans h.p1
  · exact row_set ((same _ (by omega)).trans h.p2) 5 v3
  · have e : pcells (x.sc.take (k + 1)) = pcells (x.sc.take k) ++ [.bool (x.sc[k]).1, .string (x.sc[k]).2] := by rw [List.take_succ_eq_append_getElem hk, pcells_append]; rfl
    rw [e]
    exact own_set ho _ _ _ (fun e => by have := (ho.lt _ e).1; omega)
  · exact own_set (own_keep h.rn hn) _ _ _ (fun e => by have := (h.rn.lt _ e).1; omega)
  · intro g e e2
    rcases hat g e with h1 | h1
    · exact h.ne g h1 e2
    · have := (h.rn.lt g e2).2; omega
theorem Cpy.stepN {w W w3 : World} {x : Ar.Av} {a b : Option Addr} {c d k j : Nat} {vs vn v3 : Value} (h : Cpy w x a c b d k j vs vn W) (hj : j < x.nm.length) (hg : W.grownBy w3 vn.ownBlock) (ho : w3.ownsRow (w.heap.size + 3) 9 1 v3 (j + 1) ((x.nm.take j).map Value.string ++ [.string (x.nm[j])])) (hat : ∀ g, blk v3 = some g → blk vn = some g ∨ W.heap.size ≤ g) :
    Cpy w x a c b d k (j + 1) vs v3 (w3.setCell ⟨w.heap.size + 2, 6, none⟩ v3) := by
  have l2 := lt_of_block h.p2
  have same : ∀ i, i < w.heap.size + 3 → w3.heap[i]? = W.heap[i]? := fun i hi => hg.block i (by omega) (fun e => by have := (h.rn.lt i e.symm).1; omega)
  have hB3 : Below w.heap.size w w3 := ⟨hg.os.trans h.below.os, hg.tape.trans h.below.tape, hg.output.trans h.below.output, Nat.le_trans h.below.size hg.size, fun i hi => (same i (by omega)).trans (h.below.block i hi)⟩
  have hs : ∀ g, blk vs = some g → w3.heap[g]? = W.heap[g]? := fun g e => hg.block g (h.rs.lt g e).2 (fun e2 => h.ne g e e2.symm)
  refine ⟨hB3.setCell (p := ⟨w.heap.size + 2, 6, none⟩) (by show w.heap.size ≤ w.heap.size + 2; omega) _, ?_, ?_, ?_, ?_, ?_, ?_⟩
  · rw [heap_setCell_other w3 ⟨w.heap.size + 2, 6, none⟩ _ _ (by show w.heap.size ≠ w.heap.size + 2; omega)]; exact (same _ (by omega)).trans h.p0
  · rw [heap_setCell_other w3 ⟨w.heap.size + 2, 6, none⟩ _ _ (by show w.heap.size + 1 ≠ w.heap.size + 2; omega)]; exact (same _ (by omega)).trans h.p1
  · exact row_set ((same _ (by omega)).trans h.p2) 6 v3
  · exact own_set (own_keep h.rs hs) _ _ _ (fun e => by have := (h.rs.lt _ e).1; omega)
  · have e : (x.nm.take (j + 1)).map Value.string = (x.nm.take j).map Value.string ++ [.string (x.nm[j])] := by rw [List.take_succ_eq_append_getElem hj, List.map_append]; rfl
    rw [e]
    exact own_set ho _ _ _ (fun e => by have := (ho.lt _ e).1; omega)
  · intro g e e2
    rcases hat g e2 with h1 | h1
    · exact h.ne g e h1
    · have := (h.rs.lt g e).2; omega
theorem pc_new (w : World) (x : Ar.Pc) (t : TypeId) : ∀ j u, [Value.bool x.1, Value.string x.2][j]? = some u → (w.alloc (.cells #[.bool x.1, .string x.2] t)).cell? ((⟨w.heap.size, 0, none⟩ : Addr).add j) = some u := cell_two_new w _ _ t
theorem pc_one (x : Ar.Pc) : ∀ u ∈ [Value.bool x.1, Value.string x.2], u.oneCell' = true := by
  intro u hu
  simp only [List.mem_cons, List.not_mem_nil, or_false] at hu
  rcases hu with rfl | rfl <;> rfl

/-- What Copy leaves: two rows of its own, apart, that read as the lists. -/
structure Cop (n : Nat) (x : Ar.Av) (a : Option Addr) (c : Nat) (b : Option Addr) (d : Nat) (w : World) : Prop where
  rs : w.ownsRow n 45 2 (.slice a x.sc.length c) x.sc.length (pcells x.sc)
  rn : w.ownsRow n 9 1 (.slice b x.nm.length d) x.nm.length (x.nm.map Value.string)
  ne : ∀ g, blk (.slice a x.sc.length c) = some g → blk (.slice b x.nm.length d) ≠ some g

set_option maxRecDepth 100000 in
set_option maxHeartbeats 8000000 in
theorem rcopy_any (x : Ar.Av) (a b : Option Addr) (c d : Nat) (w : World) (h : AvR w x a c b d) :
    Calls Try.prog 14 #[.agg (avA x a c b d)] w fun e w' => ∃ a' c' b' d', e = .returned (.agg (avA x a' c' b' d')) ∧ Cop w.heap.size x a' c' b' d' w' ∧ Below w.heap.size w w' := by
  obtain ⟨i0, hi0, hz0, hz1, hz2⟩ := info_parts Try.infoPc
  obtain ⟨i1, hi1, hy0, hy1, hy2⟩ := info_parts Try.infoStr
  obtain ⟨W, hW⟩ : ∃ W, W = ((w.alloc (.cells (avA x a c b d) 28)).alloc (.cells av0 28)).alloc (.cells (opA x (.slice none 0 0) (.slice none 0 0)) 28) := ⟨_, rfl⟩
  have HW : Hid (Cpy w x a c b d 0 0 (.slice none 0 0) (.slice none 0 0) W) := by
    refine ⟨?_, ?_, ?_, ?_, World.ownsRow_nil _ _ _ _, World.ownsRow_nil _ _ _ _, fun g e => by cases e⟩
    · rw [hW]; exact (((Below.refl w.heap.size w).alloc (Nat.le_refl _) _).alloc (by simp) _).alloc (by simp; omega) _
    · rw [hW, heap_alloc_old _ _ (by simp; omega), heap_alloc_old _ _ (by simp)]; exact heap_alloc_new _ _
    · rw [hW, heap_alloc_old _ _ (by simp), show w.heap.size + 1 = (w.alloc (.cells (avA x a c b d) 28)).heap.size by simp]; exact heap_alloc_new _ _
    · rw [hW, show w.heap.size + 2 = ((w.alloc (.cells (avA x a c b d) 28)).alloc (.cells av0 28)).heap.size by simp]; exact heap_alloc_new _ _
  have HC : Hid _ := h
  have n1 := h.sc.len
  have n2 := h.nm.len
  clear h
  obtain ⟨L, hL⟩ : ∃ L, L = x.sc := ⟨_, rfl⟩
  obtain ⟨M, hM⟩ : ∃ M, M = x.nm := ⟨_, rfl⟩
  have HL : Hid _ := hL
  have HM : Hid _ := hM
  simp only [avA, av0, opA, ← hL, ← hM] at hW n1 n2 ⊢
  clear hL hM
  go_enter Try.func14, Try.ntmps14
  go_wp2_with fail
  rw [← hW]
  clear hW
  go_loopw [4] (fun iv wr => ∃ i : Nat, i ≤ L.length ∧ iv = .int .i64 (i : Int) ∧ ∃ v, Cpy w x a c b d i 0 v (.slice none 0 0) wr) (fun iv _ => L.length - (intOf iv).toNat)
  case atStart => exact ⟨0, by omega, rfl, _, HW.out⟩
  case round =>
    clear HW
    obtain ⟨i, hi, rfl, v, hI⟩ := hrel
    have a2 : wr.cell? ⟨w.heap.size, 5, none⟩ = some (.slice a L.length c) := by rw [HL.out]; exact cell_of_row _ _ _ _ _ _ hI.p0
    have b2 : wr.cell? ⟨w.heap.size + 1 + 1, 5, none⟩ = some v := cell_of_row _ _ _ _ _ _ hI.p2
    by_cases hlt : i < L.length
    · have hlx : i < x.sc.length := by rw [← HL.out]; exact hlt
      obtain ⟨bb, off, rfl, hb, e1, e2⟩ := HC.out.sc.cells i hlx
      obtain ⟨p, hp⟩ : ∃ p, x.sc[i] = p := ⟨_, rfl⟩
      rw [hp] at e1 e2
      have x0 : wr.cell? ⟨bb, off + i * 2, none⟩ = some (.bool p.1) := (hI.below.cell (p := ⟨bb, off + i * 2, none⟩) hb).trans e1
      have x1 : wr.cell? ⟨bb, off + i * 2 + 1, none⟩ = some (.string p.2) := (hI.below.cell (p := ⟨bb, off + i * 2 + 1, none⟩) hb).trans e2
      have f2 : wr.frozen? ⟨w.heap.size + 1 + 1, 5, none⟩ = false := frozen_of_row wr _ 5 _ _ hI.p2
      have hsz := lt_of_block hI.p2
      have HI : Hid _ := hI
      have HX : Hid _ := hp
      have Hb : Hid (∀ (o : Obj) (w3 : World) (g c3 : Nat), (wr.drew.alloc o).grownBy w3 v.ownBlock → w3.ownsRow (w.heap.size + 3) 45 2 (.slice (some ⟨g, 0, none⟩) (i + 1) c3) (i + 1) (pcells (x.sc.take i) ++ [.bool p.1, .string p.2]) → (v.ownBlock = some g ∨ g = wr.heap.size + 1) → Cpy w x (some ⟨bb, off, none⟩) c b d (i + 1) 0 (.slice (some ⟨g, 0, none⟩) (i + 1) c3) (.slice none 0 0) (w3.setCell ⟨w.heap.size + 2, 5, none⟩ (.slice (some ⟨g, 0, none⟩) (i + 1) c3)) ∧ w3.cell? ⟨w.heap.size + 1 + 1, 5, none⟩ = some v ∧ w3.frozen? ⟨w.heap.size + 1 + 1, 5, none⟩ = false) := fun o w3 g c3 hg ho hat => by
        rw [← HX.out] at ho
        have hs3 := hg.size
        have hg2 : wr.grownBy w3 v.ownBlock := ⟨hg.os, hg.tape, hg.output, by simp at hs3; omega, fun k hk hn => (hg.block k (by simp; omega) hn).trans (heap_alloc_old wr.drew o hk)⟩
        have h3 : w3.heap[w.heap.size + 1 + 1]? = _ := (hg2.block _ hsz (fun e => by have := (World.ownsRow.lt HI.out.rs _ e.symm).1; omega)).trans HI.out.p2
        refine ⟨HI.out.stepS hlx hg2 ho (fun g' e => ?_), cell_of_row _ _ _ _ _ _ h3, frozen_of_row _ _ _ _ _ h3⟩
        cases e
        rcases hat with q | q
        · exact .inl q
        · right; show wr.heap.size ≤ g; omega
      clear hp hI e1 e2
      go_wp2_with fail
      go_region_law (refine step_append_lies _ rfl (.tmp 17) (.tmp 23) 26 rfl (w.heap.size + 3) 45 i0 _ 2 24 Try.underlying26 hi0 hz0 hz1 hz2 rfl (by decide) v i (pcells (x.sc.take i)) (by simp [Act.eval]) (HI.out.rs.drew.alloc _) ⟨wr.drew.heap.size, 0, none⟩ 1 1 [.bool p.1, .string p.2] (by simp [Act.eval]) rfl (pc_new _ p _) (pc_one p) (by decide) (by unfold maxLen; omega) (by omega) (by simp; omega) _ rfl ?_; intro g c3 w3 ho hg hat hlt3; obtain ⟨c3, s2, g2⟩ := Hb.out _ w3 g _ hg ho (by simpa using hat); have HC3 : Hid _ := c3; clear c3 ho hg hat)
      go_wp2_with fail
      all_goals
        go_roundw
        case rel => exact ⟨i + 1, by omega, by go_num, _, HC3.out⟩
        case measure => simp [intOf]; omega
    · obtain rfl : i = L.length := by omega
      have HI : Hid _ := hI
      clear hI hi hlt
      go_wp2_with fail
      go_loopw [5] (fun jv wr => ∃ j : Nat, j ≤ M.length ∧ jv = .int .i64 (j : Int) ∧ ∃ vn, Cpy w x a c b d L.length j v vn wr) (fun jv _ => M.length - (intOf jv).toNat)
      case atStart => exact ⟨0, by omega, rfl, _, HI.out⟩
      case round =>
        clear HI
        obtain ⟨j, hj, rfl, vn, hJ⟩ := hrel
        rename World => K
        have a3 : K.cell? ⟨w.heap.size, 6, none⟩ = some (.slice b M.length d) := by rw [HM.out]; exact cell_of_row _ _ _ _ _ _ hJ.p0
        have b3 : K.cell? ⟨w.heap.size + 1 + 1, 6, none⟩ = some vn := cell_of_row _ _ _ _ _ _ hJ.p2
        by_cases hlt : j < M.length
        · have hlx : j < x.nm.length := by rw [← HM.out]; exact hlt
          obtain ⟨bb, off, rfl, hb, e1⟩ := HC.out.nm.cells j hlx
          obtain ⟨p, hp⟩ : ∃ p, x.nm[j] = p := ⟨_, rfl⟩
          rw [hp] at e1
          have x0 : K.cell? ⟨bb, off + j, none⟩ = some (.string p) := (hJ.below.cell (p := ⟨bb, off + j, none⟩) hb).trans e1
          have f2 : K.frozen? ⟨w.heap.size + 1 + 1, 6, none⟩ = false := frozen_of_row K _ 6 _ _ hJ.p2
          have hsz := lt_of_block hJ.p2
          have HI : Hid _ := hJ
          have HX : Hid _ := hp
          have Hb : Hid (∀ (o : Obj) (w3 : World) (g c3 : Nat), (K.drew.alloc o).grownBy w3 vn.ownBlock → w3.ownsRow (w.heap.size + 3) 9 1 (.slice (some ⟨g, 0, none⟩) (j + 1) c3) (j + 1) ((x.nm.take j).map Value.string ++ [.string p]) → (vn.ownBlock = some g ∨ g = K.heap.size + 1) → Cpy w x a c (some ⟨bb, off, none⟩) d L.length (j + 1) v (.slice (some ⟨g, 0, none⟩) (j + 1) c3) (w3.setCell ⟨w.heap.size + 2, 6, none⟩ (.slice (some ⟨g, 0, none⟩) (j + 1) c3)) ∧ w3.cell? ⟨w.heap.size + 1 + 1, 6, none⟩ = some vn ∧ w3.frozen? ⟨w.heap.size + 1 + 1, 6, none⟩ = false) := fun o w3 g c3 hg ho hat => by
            rw [← HX.out] at ho
            have hs3 := hg.size
            have hg2 : K.grownBy w3 vn.ownBlock := ⟨hg.os, hg.tape, hg.output, by simp at hs3; omega, fun k hk hn => (hg.block k (by simp; omega) hn).trans (heap_alloc_old K.drew o hk)⟩
            have h3 : w3.heap[w.heap.size + 1 + 1]? = _ := (hg2.block _ hsz (fun e => by have := (World.ownsRow.lt HI.out.rn _ e.symm).1; omega)).trans HI.out.p2
            refine ⟨HI.out.stepN hlx hg2 ho (fun g' e => ?_), cell_of_row _ _ _ _ _ _ h3, frozen_of_row _ _ _ _ _ h3⟩
            cases e
            rcases hat with q | q
            · exact .inl q
            · right; show K.heap.size ≤ g; omega
          clear hp hJ e1
          go_wp2_with fail
          go_region_law (refine step_append_lies _ rfl (.tmp 34) (.tmp 40) 22 rfl (w.heap.size + 3) 9 i1 _ 1 16 Try.underlying22 hi1 hy0 hy1 hy2 rfl (by decide) vn j ((x.nm.take j).map Value.string) (by simp [Act.eval]) (HI.out.rn.drew.alloc _) ⟨K.drew.heap.size, 0, none⟩ 1 1 [.string p] (by simp [Act.eval]) rfl (cell_one_new _ _ _) (fun u hu => by simp only [List.mem_singleton] at hu; subst hu; rfl) (by decide) (by unfold maxLen; omega) (by omega) (by simp; omega) _ rfl ?_; intro g c3 w3 ho hg hat hlt3; obtain ⟨c3, s2, g2⟩ := Hb.out _ w3 g _ hg ho (by simpa using hat); have HC3 : Hid _ := c3; clear c3 ho hg hat)
          go_wp2_with fail
          all_goals
            go_roundw
            case rel => exact ⟨j + 1, by omega, by go_num, _, HC3.out⟩
            case measure => simp [intOf]; omega
        · obtain rfl : j = M.length := by omega
          obtain ⟨va, ca, rfl⟩ := own_slice hJ.rs
          obtain ⟨vb, cb, rfl⟩ := own_slice hJ.rn
          have d0 : ∀ j, K.cell? ⟨w.heap.size + 1 + 1, j, none⟩ = (opA x (.slice va L.length ca) (.slice vb M.length cb))[j]? := fun j => cell_of_row _ _ _ _ _ _ hJ.p2
          have q0 : K.cell? ⟨w.heap.size + 1 + 1, 0, none⟩ = some (.bool x.q) := d0 0
          have q1 : K.cell? ⟨w.heap.size + 1 + 1, 1, none⟩ = some (.bool x.e) := d0 1
          have q2 : K.cell? ⟨w.heap.size + 1 + 1, 2, none⟩ = some (.bool x.s) := d0 2
          have q3 : K.cell? ⟨w.heap.size + 1 + 1, 3, none⟩ = some (.bool x.i) := d0 3
          have q4 : K.cell? ⟨w.heap.size + 1 + 1, 4, none⟩ = some (.string x.sf) := d0 4
          have q5 : K.cell? ⟨w.heap.size + 1 + 1, 5, none⟩ = some (.slice va L.length ca) := d0 5
          have q6 : K.cell? ⟨w.heap.size + 1 + 1, 6, none⟩ = some (.slice vb M.length cb) := d0 6
          have c0 : ∀ j, K.cell? ⟨w.heap.size + 1, j, none⟩ = av0[j]? := fun j => cell_of_row _ _ _ _ _ _ hJ.p1
          have r0 : K.cell? ⟨w.heap.size + 1, 0, none⟩ = some (.bool false) := c0 0
          have r1 : K.cell? ⟨w.heap.size + 1, 1, none⟩ = some (.bool false) := c0 1
          have r2 : K.cell? ⟨w.heap.size + 1, 2, none⟩ = some (.bool false) := c0 2
          have r3 : K.cell? ⟨w.heap.size + 1, 3, none⟩ = some (.bool false) := c0 3
          have r4 : K.cell? ⟨w.heap.size + 1, 4, none⟩ = some (.string ⟨#[]⟩) := c0 4
          have r5 : K.cell? ⟨w.heap.size + 1, 5, none⟩ = some (.slice none 0 0) := c0 5
          have r6 : K.cell? ⟨w.heap.size + 1, 6, none⟩ = some (.slice none 0 0) := c0 6
          have fz : ∀ j, K.frozen? ⟨w.heap.size + 1, j, none⟩ = false := fun j => frozen_of_row K _ j _ _ hJ.p1
          have f0 := fz 0
          have f1 := fz 1
          have f2 := fz 2
          have f3 := fz 3
          have f4 := fz 4
          have f5 := fz 5
          have f6 := fz 6
          have HI : Hid _ := hJ
          clear hJ d0 c0 fz hj hlt
          go_wp2_with fail
          refine bodyPost_ret (results_cell_row rfl _ _ (w.heap.size + 1) _ _ _ _ rfl (put7 HI.out.p1 (.bool x.q) (.bool x.e) (.bool x.s) (.bool x.i) (.string x.sf) (.slice va L.length ca) (.slice vb M.length cb)) Try.underlying28 rfl (by kernel_rfl)) rfl ?_
          have key : ∀ (e : TypeId) (sz : Nat) (v : Value) (n : Nat) (xs : List Value), K.ownsRow (w.heap.size + 3) e sz v n xs → (((((((K.setCell ⟨w.heap.size + 1, 0, none⟩ (.bool x.q)).setCell ⟨w.heap.size + 1, 1, none⟩ (.bool x.e)).setCell ⟨w.heap.size + 1, 2, none⟩ (.bool x.s)).setCell ⟨w.heap.size + 1, 3, none⟩ (.bool x.i)).setCell ⟨w.heap.size + 1, 4, none⟩ (.string x.sf)).setCell ⟨w.heap.size + 1, 5, none⟩ (.slice va L.length ca)).setCell ⟨w.heap.size + 1, 6, none⟩ (.slice vb M.length cb)).ownsRow w.heap.size e sz v n xs := fun e sz v n xs ho => by
            have hne : blk v ≠ some (w.heap.size + 1) := fun q => by have := (ho.lt _ q).1; omega
            exact own_lo (own_set (own_set (own_set (own_set (own_set (own_set (own_set ho _ _ _ hne) _ _ _ hne) _ _ _ hne) _ _ _ hne) _ _ _ hne) _ _ _ hne) _ _ _ hne) (by omega)
          refine ⟨va, ca, vb, cb, rfl, ⟨?_, ?_, ?_⟩, ?_⟩
          · have h1 := key _ _ _ _ _ HI.out.rs
            rw [show x.sc.take L.length = x.sc by rw [HL.out]; exact List.take_length] at h1
            rw [← HL.out] at h1 ⊢
            exact h1
          · have h1 := key _ _ _ _ _ HI.out.rn
            rw [show x.nm.take M.length = x.nm by rw [HM.out]; exact List.take_length] at h1
            rw [← HM.out] at h1 ⊢
            exact h1
          · have h1 := HI.out.ne
            rw [← HL.out, ← HM.out]
            exact h1
          · exact ((((((HI.out.below.setCell (p := ⟨w.heap.size + 1, 0, none⟩) (by simp) _).setCell (p := ⟨w.heap.size + 1, 1, none⟩) (by simp) _).setCell (p := ⟨w.heap.size + 1, 2, none⟩) (by simp) _).setCell (p := ⟨w.heap.size + 1, 3, none⟩) (by simp) _).setCell (p := ⟨w.heap.size + 1, 4, none⟩) (by simp) _).setCell (p := ⟨w.heap.size + 1, 5, none⟩) (by simp) _).setCell (p := ⟨w.heap.size + 1, 6, none⟩) (by simp) _

theorem Cop.reads {n : Nat} {x : Ar.Av} {a b : Option Addr} {c d : Nat} {w w0 : World} {a0 b0 : Option Addr} {c0 d0 : Nat} (h : Cop n x a c b d w) (h0 : AvR w0 x a0 c0 b0 d0) : AvR w x a c b d := by
  obtain ⟨a1, c1, e1, h1, _⟩ := own_pcs h.rs h0.sc.len h0.sc.size
  obtain ⟨b1, d1, e2, h2, _⟩ := own_strs h.rn h0.nm.len (fun s hs => by obtain ⟨i, hi, rfl⟩ := List.getElem_of_mem hs; exact h0.nm.size i hi)
  cases e1
  cases e2
  exact ⟨h1, h2, h0.sf⟩
end Go.Proofs.Ytklcfjakhabbgaa
