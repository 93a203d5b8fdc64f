/- What (*Space).Push does. -/
import Derived.Test.YtngmaijfahjfcaaSpI
import Derived.Test.YtngmaijfahjfcaaSpV2
import Derived.BigRegion
import Derived.Deep.RegionLaw
import Derived.Deep.AppendLies
namespace Go.Proofs.Ytngmaijfahjfcaa
open Go.RowKit

set_option maxRecDepth 100000 in
set_option maxHeartbeats 1000000 in
theorem push1_any (g xb sb _k : Nat) (x : ByteArray) (w : World) (hx : w.cell? ⟨xb, 1, none⟩ = some (.string x)) :
    Calls Try.prog 56 #[.pointer (some ⟨g, 0, none⟩), .pointer (some ⟨xb, 0, none⟩), .pointer (some ⟨sb, 0, none⟩)] w fun e w1 => e = .returned (.tuple #[.int .i64 (x.size : Int), .func (.func 57) #[] #[.pointer (some ⟨xb, 0, none⟩), .pointer (some ⟨sb, 0, none⟩)]]) ∧ w = w1 := by
  go_enter Try.func56, Try.ntmps56
  go_wp2
  go_ret2
  exact ⟨rfl, rfl⟩
theorem Aft.on {W w w' : World} {S : Nat → Prop} {g : Nat} {s : Sc.St} {quota : Nat} (h : Aft W S g s quota w) (ht : Tu (fun _ => False) w w') : Aft W S g s quota w' := by
  obtain ⟨S', ⟨pv, hv, qv, h1⟩, h2, h3⟩ := h
  exact ⟨S', ⟨pv, hv, qv, h1.tu ht (fun _ _ e => e)⟩, h2.trans ht (fun _ _ e => e.elim), h3⟩
/-- Another queue is stored, and the bytes of its texts. -/
theorem SpV.setQ {W w1 : World} {S : Nat → Prop} {g : Nat} {s : Sc.St} {quota : Nat} {pv hv qv v : Value} {Q : List Sc.It} (h : SpV W S g s quota pv hv qv) (ht : Tu (fun k => blk qv = some k) W w1) (hl : w1.ownsRow 0 33 2 v Q.length (qcells Q)) (hb : ∀ b, blk v = some b → blk qv = some b ∨ W.heap.size ≤ b) (hu : (Sc.St.mk s.p s.h Q).used ≤ quota) :
    Aft W S g ⟨s.p, s.h, Q⟩ quota ((w1.setCell ⟨g, 2, none⟩ v).setCell ⟨g, 3, none⟩ (.int .i64 (Sc.txts Q : Nat))) := by
  have hg : w1.heap[g]? = _ := (ht.block g h.gl (fun e => (h.qS g e).2.1 rfl)).trans h.cell
  have hgl := h.gl
  have hsz := ht.size
  have hp : ∀ b, b ≠ g → ((w1.setCell ⟨g, 2, none⟩ v).setCell ⟨g, 3, none⟩ (.int .i64 (Sc.txts Q : Nat))).heap[b]? = w1.heap[b]? := fun b e => (heap_setCell_other _ _ b _ e).trans (heap_setCell_other w1 _ b v e)
  refine ⟨fun k => S k ∨ (W.heap.size ≤ k ∧ blk v = some k), ⟨pv, hv, v, ?_⟩, ?_, ?_⟩
  · refine ⟨by rw [row_set (row_set hg _ _)]; rfl, ?_, ?_, own_keep hl (fun b e => hp b ?_), .inl h.gS, fun b e => ⟨.inl (h.pS b e).1, (h.pS b e).2⟩, fun b e => ⟨.inl (h.hS b e).1, (h.hS b e).2⟩, fun b e => ?_, hu, h.quo⟩
    · exact (h.p.keep (fun b e => ht.block b (h.p.lt e) (fun q => (h.qS b q).2.2.1 e))).keep (fun b e => hp b (h.pS b e).2)
    · exact (h.h.keep (fun b e => ht.block b (h.h.lt e) (fun q => (h.qS b q).2.2.2 e))).keep (fun b e => hp b (h.hS b e).2.1)
    · rcases hb b e with q | q
      · exact (h.qS b q).2.1
      · omega
    · rcases hb b e with q | q
      · exact ⟨.inl (h.qS b q).1, (h.qS b q).2⟩
      · exact ⟨.inr ⟨q, e⟩, by omega, fun e' => by have := h.p.lt e'; omega, fun e' => by have := h.h.lt e'; omega⟩
  · exact ((ht.mono (fun k _ e => (h.qS k e).1)).setCell (fun _ => h.gS) v).setCell (fun _ => h.gS) _
  · rintro k (q | q)
    · exact .inl q
    · exact .inr q.1
/-- A block that is no space's block has turned. -/
theorem SpV.other {w w' : World} {S : Nat → Prop} {g : Nat} {s : Sc.St} {quota : Nat} {pv hv qv : Value} (h : SpV w S g s quota pv hv qv) {b : Nat} (ht : Tu (fun k => k = b) w w') (n1 : b ≠ g) (n2 : blk pv ≠ some b) (n3 : blk hv ≠ some b) (n4 : blk qv ≠ some b) : SpV w' S g s quota pv hv qv :=
  { h with
    cell := by rw [ht.block g h.gl (fun e => n1 e.symm)]; exact h.cell
    p := h.p.tu ht (fun k e e' => n2 (by rw [e, e']))
    h := h.h.tu ht (fun k e e' => n3 (by rw [e, e']))
    q := own_keep h.q (fun k e => ht.block k (own_lt h.q e) (fun e' => n4 (by rw [e, e']))) }
theorem own_ne {w : World} {base : Nat} {v : Value} {n : Nat} {xs : List Value} {tb : Nat} {cs : Array Value} {t : TypeId} {fr : Nat × Nat} (h : w.ownsRow base 33 2 v n xs) (hb : w.heap[tb]? = some (.cells cs t fr)) (ht : t ≠ 33) : blk v ≠ some tb := by
  intro e
  rcases h.2 with ⟨rfl, _⟩ | ⟨g, cap, cur, rfl, _, h2, _⟩
  · cases e
  · cases e
    rw [hb] at h2
    cases h2
    exact ht rfl
theorem Aft.before2 {O : Nat → Prop} {V W w : World} {S : Nat → Prop} {g : Nat} {s : Sc.St} {quota : Nat} (h : Aft W S g s quota w) (ht : Tu O V W) (hO : ∀ k, O k → S k) : Aft V S g s quota w := by
  obtain ⟨S', h1, h2, h3⟩ := h
  exact ⟨S', h1, (ht.mono (fun k _ e => hO k e)).trans h2 (fun _ _ e => e), fun k hk => by
    have := ht.size
    rcases h3 k hk with q | q
    · exact .inl q
    · exact .inr (by omega)⟩
theorem it_new (w : World) (k : Nat) (x : ByteArray) : ∀ j u, (qcells [(k, x)])[j]? = some u → (w.alloc (.cells #[.int .u8 (k : Int), .string x] 33)).cell? ((⟨w.heap.size, 0, none⟩ : Addr).add j) = some u := by
  intro j u hu
  rw [add_at, cell_of_row _ _ _ _ _ _ (heap_alloc_new w _)]
  match j, hu with
  | 0, hu => simpa [qcells] using hu
  | 1, hu => simpa [qcells] using hu
  | j + 2, hu => simp [qcells] at hu
set_option maxRecDepth 100000 in
set_option maxHeartbeats 2000000 in
theorem push11_any (S : Nat → Prop) (g xb sb k : Nat) (s : Sc.St) (quota : Nat) (x : ByteArray) (w : World) (h : Sp w S g s quota) (hx : w.heap[xb]? = some (.cells #[.int .u8 (k : Int), .string x] 33)) (hs : w.heap[sb]? = some (.cells #[.pointer (some ⟨g, 0, none⟩)] 23)) (hS : S xb) (hxq : ∀ qv, w.cell? ⟨g, 2, none⟩ = some qv → blk qv ≠ some xb) (hu : (Sc.St.mk s.p s.h (s.q ++ [(k, x)])).used ≤ quota) (hQ : (s.q.length + 1) * 24 ≤ 140737488355328) :
    Calls Try.prog 57 #[.pointer (some ⟨xb, 0, none⟩), .pointer (some ⟨sb, 0, none⟩)] w fun e w2 => e = .returned (.tuple #[]) ∧ Aft w S g ⟨s.p, s.h, s.q ++ [(k, x)]⟩ quota w2 := by
  obtain ⟨pv, hv, qv, h⟩ := h
  have hgl := h.gl
  obtain ⟨c0, c1, c2, c3, c4⟩ := h.cells
  have f2 := h.free 2
  have f3 := h.free 3
  have x0 : w.cell? ⟨xb, 0, none⟩ = some (.int .u8 (k : Int)) := by rw [cell_of_row w xb 0 _ _ _ hx]; rfl
  have x1 : w.cell? ⟨xb, 1, none⟩ = some (.string x) := by rw [cell_of_row w xb 1 _ _ _ hx]; rfl
  have s0 : w.cell? ⟨sb, 0, none⟩ = some (.pointer (some ⟨g, 0, none⟩)) := by rw [cell_of_row w sb 0 _ _ _ hs]; rfl
  have hxl := lt_of_block hx
  have hsl := lt_of_block hs
  have fx : w.frozen? ⟨xb, 1, none⟩ = false := by unfold World.frozen?; simp [hx]
  have hz : x.size ≤ 281474976710656 := by have := h.quo; unfold Sc.St.used at hu; simp only [Sc.txts_append, Sc.txts] at hu; omega
  have HC : Hid (Calls Try.prog 58 #[.string x] w fun e w' => e = .returned (.string x) ∧ Below w.heap.size w w') := sclone_any x w hz
  have HX : Hid (∀ w1 : World, Below w.heap.size w w1 → SpV (w1.setCell ⟨xb, 1, none⟩ (.string x)) S g s quota pv hv qv ∧ Tu (fun k => k = xb) w (w1.setCell ⟨xb, 1, none⟩ (.string x)) ∧ (w1.setCell ⟨xb, 1, none⟩ (.string x)).heap[xb]? = some (.cells #[.int .u8 (k : Int), .string x] 33) ∧ (w1.setCell ⟨xb, 1, none⟩ (.string x)).heap[sb]? = some (.cells #[.pointer (some ⟨g, 0, none⟩)] 23)) := fun w1 h1 => by
    have n1 : xb ≠ g := fun e => by have := h.cell; rw [← e, hx] at this; cases this
    have n2 : sb ≠ xb := fun e => by rw [e, hx] at hs; cases hs
    have ht : Tu (fun k => k = xb) w (w1.setCell ⟨xb, 1, none⟩ (.string x)) := Tu.setCell (O := fun k => k = xb) (p := ⟨xb, 1, none⟩) (Tu.of_below h1) (fun _ => rfl) _
    have h2 : w1.heap[xb]? = _ := (h1.block xb hxl).trans hx
    refine ⟨h.other ht n1 (byt_ne h.p hx (by decide)) (byt_ne h.h hx (by decide)) (hxq qv c2), ht, ?_, ?_⟩
    · rw [row_set h2]
      rfl
    · rw [ht.block sb hsl n2]
      exact hs
  have HQ : Hid (blk qv ≠ some xb) := hxq qv c2
  have HU : Hid ((Sc.St.mk s.p s.h (s.q ++ [(k, x)])).used ≤ quota) := hu
  have hq3 : Sc.txts s.q ≤ 1073741824 ∧ x.size ≤ 1073741824 := by have := h.quo; unfold Sc.St.used at hu; simp only [Sc.txts_append, Sc.txts] at hu; omega
  clear h hx hs hxq hu
  go_enter Try.func57, Try.ntmps57
  go_wp2_with (first | (go_at_call 58; refine HC.out.mono ?_; rintro e w1 ⟨rfl, hw⟩; obtain ⟨hc, hf⟩ := bcell hw; have HW : Hid (Below w.heap.size w w1) := hw; clear hw))
  obtain ⟨h, hT, hx, hs⟩ := HX.out w1 HW.out
  clear hc hf c0 c1 c2 c3 c4 f2 f3 x0 x1 s0 fx HX
  generalize w1.setCell ⟨xb, 1, none⟩ (.string x) = W at *
  obtain ⟨c0, c1, c2, c3, c4⟩ := h.cells
  have f2 := h.free 2
  have f3 := h.free 3
  have x0 : W.cell? ⟨xb, 0, none⟩ = some (.int .u8 (k : Int)) := by rw [cell_of_row W xb 0 _ _ _ hx]; rfl
  have x1 : W.cell? ⟨xb, 1, none⟩ = some (.string x) := by rw [cell_of_row W xb 1 _ _ _ hx]; rfl
  have s0 : W.cell? ⟨sb, 0, none⟩ = some (.pointer (some ⟨g, 0, none⟩)) := by rw [cell_of_row W sb 0 _ _ _ hs]; rfl
  obtain ⟨i0, hi, hz0, hz1, hz2⟩ := info_parts Try.infoItem
  have HH : Hid (SpV W S g s quota pv hv qv ∧ Tu (fun k => k = xb) w W) := ⟨h, hT⟩
  have HI : Hid (i0.zero = some (.agg #[.int .u8 0, .string ⟨#[]⟩]) ∧ i0.size = 2 ∧ i0.bytes = 24) := ⟨hz0, hz1, hz2⟩
  have HK : Hid (∀ w3, (W.drew.alloc (.cells #[.int .u8 (k : Int), .string x] 33)).grownBy w3 qv.ownBlock → (w3.cell? ⟨g, 2, none⟩ = some qv ∧ w3.cell? ⟨g, 3, none⟩ = some (.int .i64 (Sc.txts s.q : Nat)) ∧ w3.cell? ⟨xb, 1, none⟩ = some (.string x) ∧ w3.cell? ⟨sb, 0, none⟩ = some (.pointer (some ⟨g, 0, none⟩)) ∧ w3.frozen? ⟨g, 2, none⟩ = false ∧ w3.frozen? ⟨g, 3, none⟩ = false) ∧ Tu (fun k => blk qv = some k) W w3) := fun w3 hg => by
    have t3 : Tu (fun k => blk qv = some k) W w3 := ((Tu.refl (fun k => blk qv = some k) W).drew.alloc _).trans (Tu.of_grown (O := fun k => blk qv = some k) hg (fun _ e => e)) (fun _ _ e => e)
    have k1 := kept t3 h.cell (fun e => (h.qS g e).2.1 rfl)
    have k2 := kept t3 hx HQ.out
    have k3 := kept t3 hs (own_ne h.q hs (by decide))
    exact ⟨⟨by rw [k1.1]; exact c2, by rw [k1.1]; exact c3, by rw [k2.1]; exact x1, by rw [k3.1]; exact s0, by rw [k1.2]; exact f2, by rw [k1.2]; exact f3⟩, t3⟩
  have hgl' := h.gl
  have hxl' := lt_of_block hx
  have hsl' := lt_of_block hs
  have m1 : xb ≠ g := fun e => by have := h.cell; rw [← e, hx] at this; cases this
  have m2 : sb ≠ g := fun e => by have := h.cell; rw [← e, hs] at this; cases this
  have m3 := m1.symm
  have m4 := m2.symm
  have e1 : IntKind.i64.wrap ((Sc.txts s.q : Int) + (x.size : Int)) = (Sc.txts s.q : Int) + (x.size : Int) := by rw [IntKind.wrap_i64]; omega
  clear h hT hx hs hz0 hz1 hz2
  go_region_law (refine step_append_lies _ rfl (.tmp 10) (.tmp 12) 27 rfl 0 33 i0 _ 2 24 Try.underlying27 hi HI.out.1 HI.out.2.1 HI.out.2.2 rfl (by decide) qv s.q.length (qcells s.q) (by simp [Act.eval]) (World.ownsRow.alloc (World.ownsRow.drew HH.out.1.q) _) ⟨W.drew.heap.size, 0, none⟩ 1 1 (qcells [(k, x)]) (by simp [Act.eval]) rfl (it_new _ k x) (qcells_one _) (by decide) (by unfold maxLen; omega) (by omega) (by simp) _ rfl ?_; intro g3 n3 w3 ho hg hat hlt3; obtain ⟨⟨y2, y3, y4, y5, y6, y7⟩, t3⟩ := HK.out w3 hg; have HT3 : Hid (Tu (fun k => blk qv = some k) W w3) := t3; have HG : Hid (w3.ownsRow 0 33 2 (.slice (some ⟨g3, 0, none⟩) (s.q.length + 1) n3) (s.q.length + 1) (qcells s.q ++ qcells [(k, x)]) ∧ (W.drew.alloc (.cells #[.int .u8 (k : Int), .string x] 33)).grownBy w3 qv.ownBlock ∧ (qv.ownBlock = some g3 ∨ g3 = (W.drew.alloc (.cells #[.int .u8 (k : Int), .string x] 33)).heap.size)) := ⟨ho, hg, hat⟩; clear ho hg hat t3)
  all_goals
    have HF : Hid (Aft w S g ⟨s.p, s.h, s.q ++ [(k, x)]⟩ quota ((w3.setCell ⟨g, 2, none⟩ (.slice (some ⟨g3, 0, none⟩) (s.q.length + 1) n3)).setCell ⟨g, 3, none⟩ (.int .i64 ((Sc.txts s.q : Int) + (x.size : Int))))) := by
      have e : ((Sc.txts s.q : Int) + (x.size : Int)) = ((Sc.txts (s.q ++ [(k, x)]) : Nat) : Int) := by rw [Sc.txts_append]; simp [Sc.txts]
      rw [e]
      refine Aft.before2 (HH.out.1.setQ (Q := s.q ++ [(k, x)]) HT3.out (by simpa [qcells_append] using HG.out.1) (fun b hb => ?_) HU.out) HH.out.2 (fun k e => by rw [e]; exact hS)
      cases hb
      rcases HG.out.2.2 with q | q
      · exact .inl q
      · exact .inr (by simp at q; show W.heap.size ≤ g3; omega)
    clear HG HT3 HK
    go_wp2
    go_region
    go_end0
    exact ⟨rfl, HF.out.on (Tu.refl _ _).drew⟩
end Go.Proofs.Ytngmaijfahjfcaa
