/- What the reference's done answers where an item is put. -/
import Derived.Test.YtngmaijfahjfcaaSpX2
namespace Go.Proofs.Ytngmaijfahjfcaa
open Go.RowKit

/-- The three variables of done. -/
structure Dv (W : World) (n : Nat) (p h : ByteArray) (qv : Value) (quota : Nat) (t : ByteArray) (i : Nat) (x : ByteArray) : Prop where
  b0 : W.heap[n]? = some (.cells #[.string p, .string h, qv, .int .i64 (quota : Nat)] 29)
  b1 : W.heap[n + 1]? = some (.cells #[.int .i64 8, .string t, .int .u8 (i : Int), .string x] 35)
  b2 : W.heap[n + 1 + 1]? = some (.cells #[.string ⟨#[]⟩, .string ⟨#[]⟩, .slice none 0 0, .int .i64 0] 29)
theorem Dv.tu {O : Nat → Prop} {W w' : World} {n : Nat} {p h : ByteArray} {qv : Value} {quota : Nat} {t : ByteArray} {i : Nat} {x : ByteArray} (d : Dv W n p h qv quota t i x) (ht : Tu O W w') (hO : ∀ k, k ≤ n + 1 + 1 → ¬ O k) : Dv w' n p h qv quota t i x :=
  ⟨by rw [ht.block n (lt_of_block d.b0) (hO n (by omega))]; exact d.b0, by rw [ht.block (n + 1) (lt_of_block d.b1) (hO _ (by omega))]; exact d.b1, by rw [ht.block (n + 1 + 1) (lt_of_block d.b2) (hO _ (by omega))]; exact d.b2⟩
theorem Dv.cells {W : World} {n : Nat} {p h : ByteArray} {qv : Value} {quota : Nat} {t : ByteArray} {i : Nat} {x : ByteArray} (d : Dv W n p h qv quota t i x) :
    (W.cell? ⟨n, 0, none⟩ = some (.string p) ∧ W.cell? ⟨n, 1, none⟩ = some (.string h) ∧ W.cell? ⟨n, 2, none⟩ = some qv ∧ W.cell? ⟨n, 3, none⟩ = some (.int .i64 (quota : Nat)) ∧ W.frozen? ⟨n, 2, none⟩ = false) ∧ (W.cell? ⟨n + 1, 2, none⟩ = some (.int .u8 (i : Int)) ∧ W.cell? ⟨n + 1, 3, none⟩ = some (.string x)) ∧ (W.cell? ⟨n + 1 + 1, 0, none⟩ = some (.string ⟨#[]⟩) ∧ W.cell? ⟨n + 1 + 1, 1, none⟩ = some (.string ⟨#[]⟩) ∧ W.cell? ⟨n + 1 + 1, 2, none⟩ = some (.slice none 0 0) ∧ W.cell? ⟨n + 1 + 1, 3, none⟩ = some (.int .i64 0) ∧ W.frozen? ⟨n + 1 + 1, 0, none⟩ = false ∧ W.frozen? ⟨n + 1 + 1, 1, none⟩ = false ∧ W.frozen? ⟨n + 1 + 1, 2, none⟩ = false ∧ W.frozen? ⟨n + 1 + 1, 3, none⟩ = false) := by
  refine ⟨⟨?_, ?_, ?_, ?_, row_free d.b0 2⟩, ⟨?_, ?_⟩, ?_, ?_, ?_, ?_, row_free d.b2 0, row_free d.b2 1, row_free d.b2 2, row_free d.b2 3⟩
  · rw [cell_of_row _ _ _ _ _ _ d.b0]; rfl
  · rw [cell_of_row _ _ _ _ _ _ d.b0]; rfl
  · rw [cell_of_row _ _ _ _ _ _ d.b0]; rfl
  · rw [cell_of_row _ _ _ _ _ _ d.b0]; rfl
  · rw [cell_of_row _ _ _ _ _ _ d.b1]; rfl
  · rw [cell_of_row _ _ _ _ _ _ d.b1]; rfl
  · rw [cell_of_row _ _ _ _ _ _ d.b2]; rfl
  · rw [cell_of_row _ _ _ _ _ _ d.b2]; rfl
  · rw [cell_of_row _ _ _ _ _ _ d.b2]; rfl
  · rw [cell_of_row _ _ _ _ _ _ d.b2]; rfl
theorem it_new' {V w' : World} {B : Nat} (k : Nat) (x : ByteArray) (ht : Tu (fun _ => False) V w') (hV : V.heap[B]? = some (.cells #[.int .u8 (k : Int), .string x] 33)) : ∀ j u, (qcells [(k, x)])[j]? = some u → w'.cell? ((⟨B, 0, none⟩ : Addr).add j) = some u := by
  intro j u hu
  rw [add_at, (kept ht hV (fun e => e)).1, cell_of_row _ _ _ _ _ _ hV]
  match j, hu with
  | 0, hu => simpa [qcells] using hu
  | 1, hu => simpa [qcells] using hu
  | j + 2, hu => simp [qcells] at hu
theorem dv_end {w W0 w7 : World} {p h : ByteArray} {qv v7 : Value} {quota : Nat} {t : ByteArray} {i : Nat} {x : ByteArray} {Q' : List Sc.It} (hb : Below w.heap.size w W0) (hs : W0.heap.size = w.heap.size + 1 + 1 + 1) (d : Dv w7 w.heap.size p h qv quota t i x) (h7 : Below W0.heap.size W0 w7) (ho : w7.ownsRow W0.heap.size 33 2 v7 Q'.length (qcells Q')) :
    ((((((w7.setCell ⟨w.heap.size, 2, none⟩ v7).setCell ⟨w.heap.size + 1 + 1, 0, none⟩ (.string p)).setCell ⟨w.heap.size + 1 + 1, 1, none⟩ (.string h)).setCell ⟨w.heap.size + 1 + 1, 2, none⟩ v7).setCell ⟨w.heap.size + 1 + 1, 3, none⟩ (.int .i64 (quota : Nat))).heap[w.heap.size + 1 + 1]? = some (.cells #[.string p, .string h, v7, .int .i64 (quota : Nat)] 29)) ∧ ((((((w7.setCell ⟨w.heap.size, 2, none⟩ v7).setCell ⟨w.heap.size + 1 + 1, 0, none⟩ (.string p)).setCell ⟨w.heap.size + 1 + 1, 1, none⟩ (.string h)).setCell ⟨w.heap.size + 1 + 1, 2, none⟩ v7).setCell ⟨w.heap.size + 1 + 1, 3, none⟩ (.int .i64 (quota : Nat))).ownsRow w.heap.size 33 2 v7 Q'.length (qcells Q')) ∧ Below w.heap.size w (((((w7.setCell ⟨w.heap.size, 2, none⟩ v7).setCell ⟨w.heap.size + 1 + 1, 0, none⟩ (.string p)).setCell ⟨w.heap.size + 1 + 1, 1, none⟩ (.string h)).setCell ⟨w.heap.size + 1 + 1, 2, none⟩ v7).setCell ⟨w.heap.size + 1 + 1, 3, none⟩ (.int .i64 (quota : Nat))) := by
  have t9 : Tu (fun k => k = w.heap.size ∨ k = w.heap.size + 1 + 1) w7 (((((w7.setCell ⟨w.heap.size, 2, none⟩ v7).setCell ⟨w.heap.size + 1 + 1, 0, none⟩ (.string p)).setCell ⟨w.heap.size + 1 + 1, 1, none⟩ (.string h)).setCell ⟨w.heap.size + 1 + 1, 2, none⟩ v7).setCell ⟨w.heap.size + 1 + 1, 3, none⟩ (.int .i64 (quota : Nat))) :=
    Tu.setCell (p := ⟨w.heap.size + 1 + 1, 3, none⟩) (Tu.setCell (p := ⟨w.heap.size + 1 + 1, 2, none⟩) (Tu.setCell (p := ⟨w.heap.size + 1 + 1, 1, none⟩) (Tu.setCell (p := ⟨w.heap.size + 1 + 1, 0, none⟩) (Tu.setCell (O := fun k => k = w.heap.size ∨ k = w.heap.size + 1 + 1) (p := ⟨w.heap.size, 2, none⟩) (Tu.refl _ _) (fun _ => .inl rfl) _) (fun _ => .inr rfl) _) (fun _ => .inr rfl) _) (fun _ => .inr rfl) _) (fun _ => .inr rfl) _
  have hsz := h7.size
  refine ⟨?_, ?_, ?_⟩
  · have e : (w7.setCell ⟨w.heap.size, 2, none⟩ v7).heap[w.heap.size + 1 + 1]? = _ := (heap_setCell_other w7 _ _ v7 (show w.heap.size + 1 + 1 ≠ w.heap.size by omega)).trans d.b2
    rw [row_set (row_set (row_set (row_set e _ _) _ _) _ _) _ _]
    rfl
  · have q := own_keep ho (fun b e => t9.block b (own_lt ho e) (fun q => by have := (ho.lt b e).1; omega))
    refine ⟨q.1, ?_⟩
    rcases q.2 with q | ⟨x1, x2, x3, x4, x5, x6⟩
    · exact .inl q
    · exact .inr ⟨x1, x2, x3, x4, by omega, x6⟩
  · exact (hb.trans (h7.mono (by omega))).trans (t9.below (by omega) (fun k e => by omega))
set_option maxRecDepth 100000 in
set_option maxHeartbeats 4000000 in
theorem done8 (p h : ByteArray) (a : Option Addr) (Q : List Sc.It) (c quota : Nat) (t : ByteArray) (i : Nat) (x : ByteArray) (w : World) (hQ : Its w (.slice a Q.length c) Q) (hl : (Q.length + 1) * 24 ≤ 140737488355328) :
    Calls Try.prog 33 #[rsV p h (.slice a Q.length c) quota, stV 8 t i x] w fun e w' => ∃ v', e = .returned (rsV p h v' quota) ∧ w'.ownsRow w.heap.size 33 2 v' (Q ++ [(i, x)]).length (qcells (Q ++ [(i, x)])) ∧ Below w.heap.size w w' := by
  obtain ⟨i0, hi, hz0, hz1, hz2⟩ := info_parts Try.infoItem
  have HI : Hid (i0.zero = some (.agg #[.int .u8 0, .string ⟨#[]⟩]) ∧ i0.size = 2 ∧ i0.bytes = 24) := ⟨hz0, hz1, hz2⟩
  generalize hW0 : ((w.alloc (.cells #[.string p, .string h, .slice a Q.length c, .int .i64 (quota : Nat)] 29)).alloc (.cells #[.int .i64 8, .string t, .int .u8 (i : Int), .string x] 35)).alloc (.cells #[.string ⟨#[]⟩, .string ⟨#[]⟩, .slice none 0 0, .int .i64 0] 29) = W0
  have hb0 : Below w.heap.size w W0 := by rw [← hW0]; exact below3 w _ _ _
  have hs0 : W0.heap.size = w.heap.size + 1 + 1 + 1 := by rw [← hW0]; simp
  have hd0 : Dv W0 w.heap.size p h (.slice a Q.length c) quota t i x := by
    rw [← hW0]
    refine ⟨?_, ?_, alloc3 w _ _ _⟩
    · rw [alloc_keep _ (by simp; omega), alloc_keep _ (by simp)]
      exact heap_alloc_new w _
    · rw [alloc_keep _ (by simp)]
      have := heap_alloc_new (w.alloc (.cells #[.string p, .string h, .slice a Q.length c, .int .i64 (quota : Nat)] 29)) (.cells #[.int .i64 8, .string t, .int .u8 (i : Int), .string x] 35)
      rw [show (w.alloc (.cells #[.string p, .string h, .slice a Q.length c, .int .i64 (quota : Nat)] 29)).heap.size = w.heap.size + 1 by simp] at this
      exact this
  have HW0 : Hid (((w.alloc (.cells #[.string p, .string h, .slice a Q.length c, .int .i64 (quota : Nat)] 29)).alloc (.cells #[.int .i64 8, .string t, .int .u8 (i : Int), .string x] 35)).alloc (.cells #[.string ⟨#[]⟩, .string ⟨#[]⟩, .slice none 0 0, .int .i64 0] 29) = W0) := hW0
  have HC : Hid (∀ W, Tu (fun _ => False) W0 W → Calls Try.prog 59 #[.slice a Q.length c] W fun e w' => ∃ v', e = .returned v' ∧ (w'.ownsRow W0.heap.size 33 2 v' Q.length (qcells Q) ∧ Tu (fun _ => False) W0 w' ∧ Dv w' w.heap.size p h (.slice a Q.length c) quota t i x ∧ Tu (fun _ => False) W w')) := fun W hT => by
    refine (rcopy_any a c Q W (hQ.tu ((Tu.of_below hb0).trans hT (fun _ _ e => e)) (fun _ _ e => e)) (by omega)).mono ?_
    rintro e w' ⟨v', rfl, q1, q2⟩
    have q3 : Tu (fun _ => False) W0 w' := hT.trans (Tu.of_below q2) (fun _ _ e => e)
    refine ⟨v', rfl, ⟨q1.1, ?_⟩, q3, hd0.tu q3 (fun _ _ e => e), Tu.of_below q2⟩
    rcases q1.2 with q | ⟨x1, x2, x3, x4, x5, x6⟩
    · exact .inl q
    · exact .inr ⟨x1, x2, x3, x4, Nat.le_trans hT.size x5, x6⟩
  have HE : Hid (∀ (V : World) (v5 : Value) (w7 : World), V.ownsRow W0.heap.size 33 2 v5 Q.length (qcells Q) → Tu (fun _ => False) W0 V → V.grownBy w7 v5.ownBlock → Dv w7 w.heap.size p h (.slice a Q.length c) quota t i x ∧ Below W0.heap.size W0 w7) := fun V v5 w7 ho ht hg => by
    have t7 : Tu (fun k => v5.ownBlock = some k) V w7 := Tu.of_grown hg (fun _ e => e)
    have hO : ∀ k, v5.ownBlock = some k → W0.heap.size ≤ k := fun k e => (ho.lt k e).1
    exact ⟨(hd0.tu ht (fun _ _ e => e)).tu t7 (fun k hk e => by have := hO k e; omega), (ht.below (Nat.le_refl _) (fun _ e => e.elim)).trans (t7.below ht.size hO)⟩
  have HD0 : Hid (Dv W0 w.heap.size p h (.slice a Q.length c) quota t i x ∧ Below w.heap.size w W0 ∧ W0.heap.size = w.heap.size + 1 + 1 + 1) := ⟨hd0, hb0, hs0⟩
  clear hz0 hz1 hz2 hQ hb0 hs0 hd0 hW0
  go_enter Try.func33, Try.ntmps33
  go_wp2
  rw [HW0.out]
  obtain ⟨⟨c0, c1, c2, c3, f2⟩, ⟨x2, x3⟩, z0, z1, z2, z3, y0, y1, y2, y3⟩ := HD0.out.1.cells
  have ca : ∀ o, (W0.alloc o).cell? ⟨w.heap.size, 2, none⟩ = some (.slice a Q.length c) := fun o => cell_alloc c2
  go_region_law (first
    | (refine step_call1 rfl 59 (.tmp 81) _ rfl rfl copy_e _ (by simp [Act.eval]) _ (HC.out _ (by first | exact (Tu.refl _ _).drew | exact ((Tu.refl _ _).alloc _).drew | exact (Tu.refl _ _).drew.alloc _)) ?_; intro v5 w5 hP; obtain ⟨⟨c50, c51, c52, c53, f52⟩, ⟨x52, x53⟩, _⟩ := hP.2.2.1.cells; have H5 : Hid _ := hP; clear hP)
    | (refine step_append_lies _ rfl (.tmp 82) (.tmp 85) 27 rfl W0.heap.size 33 i0 _ 2 24 Try.underlying27 hi HI.out.1 HI.out.2.1 HI.out.2.2 rfl (by decide) v5 Q.length (qcells Q) (by simp [Act.eval]) (World.ownsRow.alloc H5.out.1 _) ⟨w5.heap.size, 0, none⟩ 1 1 (qcells [(i, x)]) (by simp [Act.eval]) rfl (it_new _ i x) (qcells_one _) (by decide) (by unfold maxLen; omega) (by omega) (by have := H5.out.2.1.size; simp; omega) _ rfl ?_; intro g7 n7 w7 ho hg hat hlt7; have he := HE.out _ v5 w7 (World.ownsRow.alloc H5.out.1 _) (H5.out.2.1.alloc _) hg; obtain ⟨⟨d0, d1, d2, d3, d4⟩, _, d5, d6, d7, d8, d9, d10, d11, d12⟩ := he.1.cells; have H7 : Hid (w7.ownsRow W0.heap.size 33 2 (.slice (some ⟨g7, 0, none⟩) (Q.length + 1) n7) (Q.length + 1) (qcells Q ++ qcells [(i, x)]) ∧ Dv w7 w.heap.size p h (.slice a Q.length c) quota t i x ∧ Below W0.heap.size W0 w7) := ⟨ho, he.1, he.2⟩; clear ho hg hat he)
    | (refine step_append_lies _ rfl (.tmp 82) (.tmp 85) 27 rfl W0.heap.size 33 i0 _ 2 24 Try.underlying27 hi HI.out.1 HI.out.2.1 HI.out.2.2 rfl (by decide) v5 Q.length (qcells Q) (by simp [Act.eval]) H5.out.1 ⟨W0.heap.size, 0, none⟩ 1 1 (qcells [(i, x)]) (by simp [Act.eval]) rfl (it_new' i x H5.out.2.2.2 (heap_alloc_new W0 _)) (qcells_one _) (by decide) (by unfold maxLen; omega) (by omega) (by have := H5.out.2.1.size; omega) _ rfl ?_; intro g7 n7 w7 ho hg hat hlt7; have he := HE.out _ v5 w7 H5.out.1 H5.out.2.1 hg; obtain ⟨⟨d0, d1, d2, d3, d4⟩, _, d5, d6, d7, d8, d9, d10, d11, d12⟩ := he.1.cells; have H7 : Hid (w7.ownsRow W0.heap.size 33 2 (.slice (some ⟨g7, 0, none⟩) (Q.length + 1) n7) (Q.length + 1) (qcells Q ++ qcells [(i, x)]) ∧ Dv w7 w.heap.size p h (.slice a Q.length c) quota t i x ∧ Below W0.heap.size W0 w7) := ⟨ho, he.1, he.2⟩; clear ho hg hat he))
  all_goals
    have HF : Hid ((((((w7.setCell ⟨w.heap.size, 2, none⟩ (.slice (some ⟨g7, 0, none⟩) (Q.length + 1) n7)).setCell ⟨w.heap.size + 1 + 1, 0, none⟩ (.string p)).setCell ⟨w.heap.size + 1 + 1, 1, none⟩ (.string h)).setCell ⟨w.heap.size + 1 + 1, 2, none⟩ (.slice (some ⟨g7, 0, none⟩) (Q.length + 1) n7)).setCell ⟨w.heap.size + 1 + 1, 3, none⟩ (.int .i64 (quota : Nat))).heap[w.heap.size + 1 + 1]? = some (.cells #[.string p, .string h, .slice (some ⟨g7, 0, none⟩) (Q.length + 1) n7, .int .i64 (quota : Nat)] 29) ∧ ((((((w7.setCell ⟨w.heap.size, 2, none⟩ (.slice (some ⟨g7, 0, none⟩) (Q.length + 1) n7)).setCell ⟨w.heap.size + 1 + 1, 0, none⟩ (.string p)).setCell ⟨w.heap.size + 1 + 1, 1, none⟩ (.string h)).setCell ⟨w.heap.size + 1 + 1, 2, none⟩ (.slice (some ⟨g7, 0, none⟩) (Q.length + 1) n7)).setCell ⟨w.heap.size + 1 + 1, 3, none⟩ (.int .i64 (quota : Nat))).ownsRow w.heap.size 33 2 (.slice (some ⟨g7, 0, none⟩) (Q.length + 1) n7) (Q ++ [(i, x)]).length (qcells (Q ++ [(i, x)]))) ∧ Below w.heap.size w (((((w7.setCell ⟨w.heap.size, 2, none⟩ (.slice (some ⟨g7, 0, none⟩) (Q.length + 1) n7)).setCell ⟨w.heap.size + 1 + 1, 0, none⟩ (.string p)).setCell ⟨w.heap.size + 1 + 1, 1, none⟩ (.string h)).setCell ⟨w.heap.size + 1 + 1, 2, none⟩ (.slice (some ⟨g7, 0, none⟩) (Q.length + 1) n7)).setCell ⟨w.heap.size + 1 + 1, 3, none⟩ (.int .i64 (quota : Nat)))) := dv_end HD0.out.2.1 HD0.out.2.2 H7.out.2.1 H7.out.2.2 (by simpa [qcells_append] using H7.out.1)
    clear HC HE HD0 H7 H5
    go_wp2
    refine bodyPost_ret (results_cell_row rfl _ _ (w.heap.size + 1 + 1) _ _ _ _ rfl HF.out.1 Try.underlying29 rfl (by kernel_rfl)) rfl ?_
    exact ⟨_, rfl, HF.out.2.1, HF.out.2.2⟩
end Go.Proofs.Ytngmaijfahjfcaa
