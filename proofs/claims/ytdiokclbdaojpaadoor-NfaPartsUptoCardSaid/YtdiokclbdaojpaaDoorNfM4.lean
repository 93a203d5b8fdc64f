/- A layout that is laid out: how it lies in memory; what (*layout).put and (*layout).here do. What (*layout).put does with each kind of instruction, its cells told; the closures that lay out leaves. What (*layout).cat and (*layout).group do, over what lay does with a kid. An instruction held against itself. -/
import Derived.Test.YtdiokclbdaojpaaDoorNfM1
import Derived.Test.YtdiokclbdaojpaaDoorNfMsr
import Derived.Deep.RegionLaw
import Derived.BigRegion
import Derived.Laws.StructEq
namespace Go.Proofs.YtdiokclbdaojpaaDoor
open Go Go.RowKit

/-- append within the capacity onto a row of the call's own, as one step of a region that draws. -/
theorem step_append_fits {P : Program} {ops : Array Oper} {o : Oper} {a : Act} {w : World} {K : Act → World → Prop} {Q : Exit → Act → World → Prop} {E : Prop}
    (hg : o.guard = none) (s x : Operand) (t : TypeId) (hop : o.op = Op.call { callee := Callee.builtin Builtin.append, args := #[s, x], argTypes := #[t, t] })
    (base : Nat) (e : TypeId) (i : TypeInfo) (size : Nat) (h1 : P.underlying t = some (.slice e)) (h2 : P.info? e = some i) (h4 : i.size = size)
    (g n cap : Nat) (xs : List Value) (hs : a.eval s = .slice (some ⟨g, 0, none⟩) n cap) (hown : w.ownsRow base e size (.slice (some ⟨g, 0, none⟩) n cap) n xs)
    (ad : Addr) (m c : Nat) (news : List Value) (hx : a.eval x = .slice (some ad) m c) (hn : news.length = m * size) (hc : ∀ j u, news[j]? = some u → w.cell? (ad.add j) = some u) (h1c : ∀ u ∈ news, u.oneCell' = true)
    (hroom : n + m ≤ cap) (hK : ∀ w', w'.ownsRow base e size (.slice (some ⟨g, 0, none⟩) (n + m) cap) (n + m) (xs ++ news) → w.grownBy w' (some g) → K (a.put o.dst (.slice (some ⟨g, 0, none⟩) (n + m) cap)) w') :
    if Region.wanted o (yielded ops a.tmps) = true then Oper.wp P o a w K Q else E := by
  have hw : Region.wanted o (yielded ops a.tmps) = true := by simp [Region.wanted, hg]
  rw [if_pos hw]
  obtain ⟨w2, hrun, ho, hgr⟩ := run_append_fits (P := P) w base t o.type e i size h1 h2 h4 g n cap xs hown ad m c news hn hc h1c hroom
  unfold Oper.wp
  simp [execOp, hop, resolve, invoke, builtin, hs, hx, hrun, Result.andThen]
  exact hK w2 ho hgr

theorem Tryd.infoInst : (Tryd.prog.info? 64).map (fun i => (i.zero, i.size, i.bytes)) = some (some (.agg #[.int .u8 0, .int .u64 0, .int .u64 0, .int .u64 0, .int .u64 0, .int .i64 0, .int .i64 0, .int .i64 0, .int .i64 0]), 9, 72) := by kernel_rfl

namespace Nt
/-- An instruction's nine cells. -/
def insL (x : Ins) : List Value := [.int .u8 (x.k : Int), .int .u64 (St.wd x.s 0 : Nat), .int .u64 (St.wd x.s 1 : Nat), .int .u64 (St.wd x.s 2 : Nat), .int .u64 (St.wd x.s 3 : Nat), .int .i64 x.to, .int .i64 x.gr, .int .i64 x.la, .int .i64 x.sl]
def insA (x : Ins) : Array Value := #[.int .u8 (x.k : Int), .int .u64 (St.wd x.s 0 : Nat), .int .u64 (St.wd x.s 1 : Nat), .int .u64 (St.wd x.s 2 : Nat), .int .u64 (St.wd x.s 3 : Nat), .int .i64 x.to, .int .i64 x.gr, .int .i64 x.la, .int .i64 x.sl]
def insV (x : Ins) : Value := .agg (insA x)
def insC (L : List Ins) : List Value := L.flatMap insL
theorem insC_snoc (L : List Ins) (x : Ins) : insC (L ++ [x]) = insC L ++ insL x := by simp [insC]
theorem ins_new (w : World) (x : Ins) (t : TypeId) : ∀ j u, (insL x)[j]? = some u → (w.alloc (.cells (insA x) t)).cell? ((⟨w.heap.size, 0, none⟩ : Addr).add j) = some u := by
  intro j u hu
  rw [add_at, cell_of_row _ _ _ _ _ _ (heap_alloc_new w _)]
  match j, hu with
  | 0, hu | 1, hu | 2, hu | 3, hu | 4, hu | 5, hu | 6, hu | 7, hu | 8, hu => exact hu
  | j + 9, hu => cases hu
theorem ins_one (x : Ins) : ∀ u ∈ insL x, u.oneCell' = true := by
  intro u hu
  simp only [insL, List.mem_cons, List.not_mem_nil, or_false] at hu
  rcases hu with rfl | rfl | rfl | rfl | rfl | rfl | rfl | rfl | rfl <;> rfl
/-- The table of what lays out each kind. -/
def tblA : Array Value := #[Value.nilFunc, .func (.func 54) #[] #[], .func (.func 55) #[] #[], .func (.func 56) #[] #[], .func (.func 57) #[] #[], .func (.func 58) #[] #[], .func (.func 59) #[] #[], .func (.func 60) #[] #[], .func (.func 61) #[] #[], .func (.func 62) #[] #[]]
def lyA (rb n cap f : Nat) : Array Value := #[Value.nilFunc, .func (.func 54) #[] #[], .func (.func 55) #[] #[], .func (.func 56) #[] #[], .func (.func 57) #[] #[], .func (.func 58) #[] #[], .func (.func 59) #[] #[], .func (.func 60) #[] #[], .func (.func 61) #[] #[], .func (.func 62) #[] #[], .slice (some ⟨rb, 0, none⟩) n cap, .int .i64 (f : Int)]
/-- The block lb holds a layout with the code L, in the block rb; so many free rounds are around. -/
structure Ly (w : World) (lb rb cap : Nat) (L : List Ins) (f : Nat) : Prop where
  blk : w.heap[lb]? = some (.cells (lyA rb L.length cap f) 78 (0, 0))
  row : w.ownsRow 0 64 9 (.slice (some ⟨rb, 0, none⟩) L.length cap) L.length (insC L)
  ne : lb ≠ rb
/-- No block but two has turned. -/
structure Bz (g h : Nat) (w w' : World) : Prop where
  os : w'.os = w.os
  tape : w'.tape = w.tape
  output : w'.output = w.output
  size : w.heap.size ≤ w'.heap.size
  block : ∀ k, k < w.heap.size → k ≠ g → k ≠ h → w'.heap[k]? = w.heap[k]?
theorem Bz.refl (g h : Nat) (w : World) : Bz g h w w := ⟨rfl, rfl, rfl, Nat.le_refl _, fun _ _ _ _ => rfl⟩
theorem Bz.trans {g h : Nat} {a b c : World} (x : Bz g h a b) (y : Bz g h b c) : Bz g h a c :=
  ⟨y.os.trans x.os, y.tape.trans x.tape, y.output.trans x.output, Nat.le_trans x.size y.size, fun i hi hg hh => (y.block i (Nat.lt_of_lt_of_le hi x.size) hg hh).trans (x.block i hi hg hh)⟩
theorem Bz.of_below {g h : Nat} {a b : World} (x : Below a.heap.size a b) : Bz g h a b := ⟨x.os, x.tape, x.output, x.size, fun k hk _ _ => x.block k hk⟩
theorem Bz.below {g h B : Nat} {a b : World} (x : Bz g h a b) (hg : B ≤ g) (hh : B ≤ h) (hs : B ≤ a.heap.size) : Below B a b := ⟨x.os, x.tape, x.output, x.size, fun k hk => x.block k (by omega) (by omega) (by omega)⟩
theorem Bz.grown {g h : Nat} {a b c : World} (x : Bz g h a b) (y : b.grownBy c (some h)) : Bz g h a c :=
  ⟨y.os.trans x.os, y.tape.trans x.tape, y.output.trans x.output, Nat.le_trans x.size y.size, fun k hk h1 h2 => (y.block k (Nat.lt_of_lt_of_le hk x.size) (fun e => h2 (by injection e))).trans (x.block k hk h1 h2)⟩
theorem Bz.set {g h : Nat} {a b : World} (x : Bz g h a b) (j : Nat) (v : Value) : Bz g h a (b.setCell ⟨g, j, none⟩ v) := by
  have y := (Below.refl 0 b).setCell (p := ⟨g, j, none⟩) (Nat.zero_le _) v
  exact ⟨y.os.trans x.os, y.tape.trans x.tape, y.output.trans x.output, Nat.le_trans x.size y.size, fun k hk h1 h2 => (heap_setCell_other b ⟨g, j, none⟩ k v (by simpa using h1)).trans (x.block k hk h1 h2)⟩
theorem Bz.drew {g h : Nat} {a b : World} (x : Bz g h a b) : Bz g h a b.drew := ⟨x.os, x.tape, x.output, x.size, x.block⟩
theorem Ly.lt {w : World} {lb rb cap : Nat} {L : List Ins} {f : Nat} (h : Ly w lb rb cap L f) : lb < w.heap.size ∧ rb < w.heap.size := by
  refine ⟨lt_of_block h.blk, (h.row.lt rb rfl).2⟩
theorem Ly.under {w w' : World} {lb rb cap : Nat} {L : List Ins} {f : Nat} (h : Ly w lb rb cap L f) (hb : Below w.heap.size w w') : Ly w' lb rb cap L f :=
  ⟨by rw [hb.block lb h.lt.1]; exact h.blk, own_below h.row hb, h.ne⟩
theorem Ly.cell {w : World} {lb rb cap : Nat} {L : List Ins} {f : Nat} (h : Ly w lb rb cap L f) (j : Nat) : w.cell? ⟨lb, j, none⟩ = (lyA rb L.length cap f)[j]? := cell_of_row w lb _ _ _ _ h.blk
theorem Ly.frozen {w : World} {lb rb cap : Nat} {L : List Ins} {f : Nat} (h : Ly w lb rb cap L f) (j : Nat) : w.frozen? ⟨lb, j, none⟩ = false := frozen_of_row w lb j _ _ h.blk
theorem own_block {w w' : World} {base : Nat} {e : TypeId} {size rb n cap : Nat} {xs : List Value} (h : w.ownsRow base e size (.slice (some ⟨rb, 0, none⟩) n cap) n xs) (hb : w'.heap[rb]? = w.heap[rb]?) : w'.ownsRow base e size (.slice (some ⟨rb, 0, none⟩) n cap) n xs := by
  refine ⟨h.1, ?_⟩
  rcases h.2 with ⟨hv, _⟩ | ⟨g, c, cur, hv, hbg, hg, r⟩
  · cases hv
  · simp only [Value.slice.injEq, Option.some.injEq, Addr.mk.injEq, and_true, true_and] at hv
    obtain ⟨rfl, rfl⟩ := hv
    exact .inr ⟨rb, cap, cur, rfl, hbg, by rw [hb]; exact hg, r⟩
end Nt

set_option maxRecDepth 100000 in
set_option maxHeartbeats 4000000 in
theorem put_any (lb rb cap f : Nat) (L : List Nt.Ins) (x : Nt.Ins) (w : World) (h : Nt.Ly w lb rb cap L f) (hroom : L.length + 1 ≤ cap) :
    Calls Tryd.prog 35 #[.pointer (some ⟨lb, 0, none⟩), Nt.insV x] w fun e w' => (∃ v, e = .returned v) ∧ Nt.Ly w' lb rb cap (L ++ [x]) f ∧ Nt.Bz lb rb w w' := by
  obtain ⟨i0, hi0, hz0, hz1, hz2⟩ := info_parts Tryd.infoInst
  have hlt := h.lt
  have X0 : (w.alloc (.cells (Nt.insA x) 64)).heap[w.heap.size]? = some (.cells (Nt.insA x) 64 (0, 0)) := heap_alloc_new w _
  have hB0 : Below w.heap.size w (w.alloc (.cells (Nt.insA x) 64)) := (Below.refl w.heap.size w).alloc (Nat.le_refl _) _
  have h0 := h.under hB0
  have hs0 : (w.alloc (.cells (Nt.insA x) 64)).heap.size = w.heap.size + 1 := by simp
  simp only [Nt.insV, Nt.insA] at X0 hB0 h0 hs0 ⊢
  obtain ⟨W, hW⟩ : ∃ W, W = w.alloc (.cells #[.int .u8 (x.k : Int), .int .u64 (St.wd x.s 0 : Nat), .int .u64 (St.wd x.s 1 : Nat), .int .u64 (St.wd x.s 2 : Nat), .int .u64 (St.wd x.s 3 : Nat), .int .i64 x.to, .int .i64 x.gr, .int .i64 x.la, .int .i64 x.sl] 64) := ⟨_, rfl⟩
  rw [← hW] at X0 hB0 h0 hs0
  have x0 : W.cell? ⟨w.heap.size, 0, none⟩ = some (.int .u8 (x.k : Int)) := cell_of_row _ _ _ _ _ _ X0
  have x1 : W.cell? ⟨w.heap.size, 1, none⟩ = some (.int .u64 (St.wd x.s 0 : Nat)) := cell_of_row _ _ _ _ _ _ X0
  have x2 : W.cell? ⟨w.heap.size, 2, none⟩ = some (.int .u64 (St.wd x.s 1 : Nat)) := cell_of_row _ _ _ _ _ _ X0
  have x3 : W.cell? ⟨w.heap.size, 3, none⟩ = some (.int .u64 (St.wd x.s 2 : Nat)) := cell_of_row _ _ _ _ _ _ X0
  have x4 : W.cell? ⟨w.heap.size, 4, none⟩ = some (.int .u64 (St.wd x.s 3 : Nat)) := cell_of_row _ _ _ _ _ _ X0
  have x5 : W.cell? ⟨w.heap.size, 5, none⟩ = some (.int .i64 x.to) := cell_of_row _ _ _ _ _ _ X0
  have x6 : W.cell? ⟨w.heap.size, 6, none⟩ = some (.int .i64 x.gr) := cell_of_row _ _ _ _ _ _ X0
  have x7 : W.cell? ⟨w.heap.size, 7, none⟩ = some (.int .i64 x.la) := cell_of_row _ _ _ _ _ _ X0
  have x8 : W.cell? ⟨w.heap.size, 8, none⟩ = some (.int .i64 x.sl) := cell_of_row _ _ _ _ _ _ X0
  have l10 : W.cell? ⟨lb, 10, none⟩ = some (.slice (some ⟨rb, 0, none⟩) L.length cap) := h0.cell 10
  have f10 := h0.frozen 10
  have H0 : Hid _ := h0
  have HB0 : Hid _ := hB0
  clear X0 h h0 hB0
  go_enter Tryd.func35, Tryd.ntmps35
  go_wp2_with fail
  rw [← hW]
  clear hW
  have hblk : ∀ (o : Obj) (w3 : World), (W.drew.alloc o).grownBy w3 (some rb) → w3.heap[lb]? = some (.cells (Nt.lyA rb L.length cap f) 78 (0, 0)) := fun o w3 hg => by
    rw [hg.block lb (by have := H0.out.lt.1; simp; omega) (fun e => H0.out.ne (by injection e)), heap_alloc_old W.drew o (by exact H0.out.lt.1)]
    exact H0.out.blk
  have Hblk : Hid _ := hblk
  clear hblk
  go_region_law (refine step_append_fits rfl (.tmp 8) (.tmp 10) 33 rfl 0 64 i0 9 Tryd.underlying33 hi0 hz1 rb L.length cap (Nt.insC L) (by simp [Act.eval]) (H0.out.row.drew.alloc _) ⟨W.drew.heap.size, 0, none⟩ 1 1 (Nt.insL x) (by simp [Act.eval]) rfl (Nt.ins_new _ x _) (Nt.ins_one x) hroom ?_; intro w3 ho hg; have b3 := Hblk.out _ w3 hg; have s10 : w3.cell? ⟨lb, 10, none⟩ = some (.slice (some ⟨rb, 0, none⟩) L.length cap) := cell_of_row _ _ _ _ _ _ b3; have g10 : w3.frozen? ⟨lb, 10, none⟩ = false := frozen_of_row w3 lb 10 _ _ b3)
  go_wp2_with fail
  all_goals
    go_end0
    refine ⟨⟨_, rfl⟩, ⟨?_, ?_, H0.out.ne⟩, ?_⟩
    · rw [List.length_append]
      exact heap_setCell_same w3 lb 10 _ _ (.slice (some ⟨rb, 0, none⟩) (L.length + 1) cap) b3
    · rw [Nt.insC_snoc, List.length_append]
      exact Nt.own_block ho (heap_setCell_other w3 ⟨lb, 10, none⟩ rb _ (fun e => H0.out.ne e.symm))
    · exact ((((Nt.Bz.of_below HB0.out).drew).trans (Nt.Bz.of_below ((Below.refl _ W.drew).alloc (Nat.le_refl _) _))).grown hg).set 10 _

set_option maxRecDepth 100000 in
set_option maxHeartbeats 1000000 in
theorem here_any (lb rb cap f : Nat) (L : List Nt.Ins) (w : World) (h : Nt.Ly w lb rb cap L f) :
    Calls Tryd.prog 77 #[.pointer (some ⟨lb, 0, none⟩)] w fun e w' => e = .returned (.int .i64 (L.length : Nat)) ∧ w' = w := by
  have l10 : w.cell? ⟨lb, 10, none⟩ = some (.slice (some ⟨rb, 0, none⟩) L.length cap) := h.cell 10
  clear h
  go_enter Tryd.func77, Tryd.ntmps77
  go_wp2_with fail
  go_ret
  exact ⟨rfl, rfl⟩
end Go.Proofs.YtdiokclbdaojpaaDoor
namespace Go.Proofs.YtdiokclbdaojpaaDoor
open Go.RowKit

theorem put_set (lb rb cap f : Nat) (L : List Nt.Ins) (s : Nat → Bool) (w : World) (h : Nt.Ly w lb rb cap L f) (hroom : L.length + 1 ≤ cap) :
    Calls Tryd.prog 35 #[.pointer (some ⟨lb, 0, none⟩), .agg #[.int .u8 1, .int .u64 (St.wd s 0 : Nat), .int .u64 (St.wd s 1 : Nat), .int .u64 (St.wd s 2 : Nat), .int .u64 (St.wd s 3 : Nat), .int .i64 0, .int .i64 0, .int .i64 0, .int .i64 0]] w fun e w' => (∃ v, e = .returned v) ∧ Nt.Ly w' lb rb cap (L ++ [Nt.iSet s]) f ∧ Nt.Bz lb rb w w' := by
  have h := put_any lb rb cap f L (Nt.iSet s) w h hroom
  simp only [Nt.insV, Nt.insA, Nt.iSet] at h
  exact h
theorem put_split (lb rb cap f : Nat) (L : List Nt.Ins) (t : Nat) (w : World) (h : Nt.Ly w lb rb cap L f) (hroom : L.length + 1 ≤ cap) :
    Calls Tryd.prog 35 #[.pointer (some ⟨lb, 0, none⟩), .agg #[.int .u8 2, .int .u64 0, .int .u64 0, .int .u64 0, .int .u64 0, .int .i64 (t : Int), .int .i64 0, .int .i64 0, .int .i64 0]] w fun e w' => (∃ v, e = .returned v) ∧ Nt.Ly w' lb rb cap (L ++ [Nt.iSplit t]) f ∧ Nt.Bz lb rb w w' := by
  have h := put_any lb rb cap f L (Nt.iSplit t) w h hroom
  simp only [Nt.insV, Nt.insA, Nt.iSplit, Nt.wd_no] at h
  exact h
theorem put_jump (lb rb cap f : Nat) (L : List Nt.Ins) (t : Nat) (w : World) (h : Nt.Ly w lb rb cap L f) (hroom : L.length + 1 ≤ cap) :
    Calls Tryd.prog 35 #[.pointer (some ⟨lb, 0, none⟩), .agg #[.int .u8 3, .int .u64 0, .int .u64 0, .int .u64 0, .int .u64 0, .int .i64 (t : Int), .int .i64 0, .int .i64 0, .int .i64 0]] w fun e w' => (∃ v, e = .returned v) ∧ Nt.Ly w' lb rb cap (L ++ [Nt.iJump t]) f ∧ Nt.Bz lb rb w w' := by
  have h := put_any lb rb cap f L (Nt.iJump t) w h hroom
  simp only [Nt.insV, Nt.insA, Nt.iJump, Nt.wd_no] at h
  exact h
theorem put_open (lb rb cap f : Nat) (L : List Nt.Ins) (g : Int) (w : World) (h : Nt.Ly w lb rb cap L f) (hroom : L.length + 1 ≤ cap) :
    Calls Tryd.prog 35 #[.pointer (some ⟨lb, 0, none⟩), .agg #[.int .u8 4, .int .u64 0, .int .u64 0, .int .u64 0, .int .u64 0, .int .i64 0, .int .i64 g, .int .i64 0, .int .i64 0]] w fun e w' => (∃ v, e = .returned v) ∧ Nt.Ly w' lb rb cap (L ++ [Nt.iOpen g]) f ∧ Nt.Bz lb rb w w' := by
  have h := put_any lb rb cap f L (Nt.iOpen g) w h hroom
  simp only [Nt.insV, Nt.insA, Nt.iOpen, Nt.wd_no] at h
  exact h
theorem put_close (lb rb cap f : Nat) (L : List Nt.Ins) (g : Int) (w : World) (h : Nt.Ly w lb rb cap L f) (hroom : L.length + 1 ≤ cap) :
    Calls Tryd.prog 35 #[.pointer (some ⟨lb, 0, none⟩), .agg #[.int .u8 5, .int .u64 0, .int .u64 0, .int .u64 0, .int .u64 0, .int .i64 0, .int .i64 g, .int .i64 0, .int .i64 0]] w fun e w' => (∃ v, e = .returned v) ∧ Nt.Ly w' lb rb cap (L ++ [Nt.iClose g]) f ∧ Nt.Bz lb rb w w' := by
  have h := put_any lb rb cap f L (Nt.iClose g) w h hroom
  simp only [Nt.insV, Nt.insA, Nt.iClose, Nt.wd_no] at h
  exact h
theorem put_clear (lb rb cap f : Nat) (L : List Nt.Ins) (lo hi : Int) (w : World) (h : Nt.Ly w lb rb cap L f) (hroom : L.length + 1 ≤ cap) :
    Calls Tryd.prog 35 #[.pointer (some ⟨lb, 0, none⟩), .agg #[.int .u8 6, .int .u64 0, .int .u64 0, .int .u64 0, .int .u64 0, .int .i64 0, .int .i64 lo, .int .i64 hi, .int .i64 0]] w fun e w' => (∃ v, e = .returned v) ∧ Nt.Ly w' lb rb cap (L ++ [Nt.iClear lo hi]) f ∧ Nt.Bz lb rb w w' := by
  have h := put_any lb rb cap f L (Nt.iClear lo hi) w h hroom
  simp only [Nt.insV, Nt.insA, Nt.iClear, Nt.wd_no] at h
  exact h
theorem put_mark (lb rb cap f : Nat) (L : List Nt.Ins) (n : Nat) (w : World) (h : Nt.Ly w lb rb cap L f) (hroom : L.length + 1 ≤ cap) :
    Calls Tryd.prog 35 #[.pointer (some ⟨lb, 0, none⟩), .agg #[.int .u8 7, .int .u64 0, .int .u64 0, .int .u64 0, .int .u64 0, .int .i64 0, .int .i64 0, .int .i64 0, .int .i64 (n : Int)]] w fun e w' => (∃ v, e = .returned v) ∧ Nt.Ly w' lb rb cap (L ++ [Nt.iMark n]) f ∧ Nt.Bz lb rb w w' := by
  have h := put_any lb rb cap f L (Nt.iMark n) w h hroom
  simp only [Nt.insV, Nt.insA, Nt.iMark, Nt.wd_no] at h
  exact h
theorem put_moved (lb rb cap f : Nat) (L : List Nt.Ins) (n : Nat) (w : World) (h : Nt.Ly w lb rb cap L f) (hroom : L.length + 1 ≤ cap) :
    Calls Tryd.prog 35 #[.pointer (some ⟨lb, 0, none⟩), .agg #[.int .u8 8, .int .u64 0, .int .u64 0, .int .u64 0, .int .u64 0, .int .i64 0, .int .i64 0, .int .i64 0, .int .i64 (n : Int)]] w fun e w' => (∃ v, e = .returned v) ∧ Nt.Ly w' lb rb cap (L ++ [Nt.iMoved n]) f ∧ Nt.Bz lb rb w w' := by
  have h := put_any lb rb cap f L (Nt.iMoved n) w h hroom
  simp only [Nt.insV, Nt.insA, Nt.iMoved, Nt.wd_no] at h
  exact h
theorem put_back (lb rb cap f : Nat) (L : List Nt.Ins) (g : Int) (w : World) (h : Nt.Ly w lb rb cap L f) (hroom : L.length + 1 ≤ cap) :
    Calls Tryd.prog 35 #[.pointer (some ⟨lb, 0, none⟩), .agg #[.int .u8 9, .int .u64 0, .int .u64 0, .int .u64 0, .int .u64 0, .int .i64 0, .int .i64 g, .int .i64 0, .int .i64 0]] w fun e w' => (∃ v, e = .returned v) ∧ Nt.Ly w' lb rb cap (L ++ [Nt.iBack g]) f ∧ Nt.Bz lb rb w w' := by
  have h := put_any lb rb cap f L (Nt.iBack g) w h hroom
  simp only [Nt.insV, Nt.insA, Nt.iBack, Nt.wd_no] at h
  exact h
theorem put_begin (lb rb cap f : Nat) (L : List Nt.Ins)  (w : World) (h : Nt.Ly w lb rb cap L f) (hroom : L.length + 1 ≤ cap) :
    Calls Tryd.prog 35 #[.pointer (some ⟨lb, 0, none⟩), .agg #[.int .u8 10, .int .u64 0, .int .u64 0, .int .u64 0, .int .u64 0, .int .i64 0, .int .i64 0, .int .i64 0, .int .i64 0]] w fun e w' => (∃ v, e = .returned v) ∧ Nt.Ly w' lb rb cap (L ++ [Nt.iBegin]) f ∧ Nt.Bz lb rb w w' := by
  have h := put_any lb rb cap f L (Nt.iBegin) w h hroom
  simp only [Nt.insV, Nt.insA, Nt.iBegin, Nt.wd_no] at h
  exact h
theorem put_end (lb rb cap f : Nat) (L : List Nt.Ins)  (w : World) (h : Nt.Ly w lb rb cap L f) (hroom : L.length + 1 ≤ cap) :
    Calls Tryd.prog 35 #[.pointer (some ⟨lb, 0, none⟩), .agg #[.int .u8 11, .int .u64 0, .int .u64 0, .int .u64 0, .int .u64 0, .int .i64 0, .int .i64 0, .int .i64 0, .int .i64 0]] w fun e w' => (∃ v, e = .returned v) ∧ Nt.Ly w' lb rb cap (L ++ [Nt.iEnd]) f ∧ Nt.Bz lb rb w w' := by
  have h := put_any lb rb cap f L (Nt.iEnd) w h hroom
  simp only [Nt.insV, Nt.insA, Nt.iEnd, Nt.wd_no] at h
  exact h
theorem put_match (lb rb cap f : Nat) (L : List Nt.Ins)  (w : World) (h : Nt.Ly w lb rb cap L f) (hroom : L.length + 1 ≤ cap) :
    Calls Tryd.prog 35 #[.pointer (some ⟨lb, 0, none⟩), .agg #[.int .u8 12, .int .u64 0, .int .u64 0, .int .u64 0, .int .u64 0, .int .i64 0, .int .i64 0, .int .i64 0, .int .i64 0]] w fun e w' => (∃ v, e = .returned v) ∧ Nt.Ly w' lb rb cap (L ++ [Nt.iMatch]) f ∧ Nt.Bz lb rb w w' := by
  have h := put_any lb rb cap f L (Nt.iMatch) w h hroom
  simp only [Nt.insV, Nt.insA, Nt.iMatch, Nt.wd_no] at h
  exact h

namespace Nt
theorem fit_none {T : NT} (h : fitP T = true) (hk : T.k = 1) : T.kids = [] := by
  rw [fitP, hk] at h
  simp only [Bool.and_eq_true] at h
  obtain ⟨_, _, _, _, _, h6⟩ := h
  simpa using h6
/-- The tables lie below a layout's two blocks. -/
structure Tz (lb rb : Nat) (w : World) : Prop where
  tab : Tabs w
  lb2 : 2 ≤ lb
  rb2 : 2 ≤ rb
theorem Tz.bz {w w' : World} {lb rb : Nat} (x : Tz lb rb w) (hb : Bz lb rb w w') : Tz lb rb w' := ⟨x.tab.below (hb.below (B := 2) x.lb2 x.rb2 x.tab.big) (Nat.le_refl _), x.lb2, x.rb2⟩
theorem Tz.under {w w' : World} {lb rb : Nat} (x : Tz lb rb w) (hb : Below w.heap.size w w') : Tz lb rb w' := ⟨x.tab.under hb, x.lb2, x.rb2⟩
theorem Tz.drewN {w : World} {lb rb : Nat} (x : Tz lb rb w) (n : Nat) : Tz lb rb (w.drewN n) := ⟨⟨x.tab.big, x.tab.shp, x.tab.fld⟩, x.lb2, x.rb2⟩
/-- What laying out a tree with a function does. -/
def LayC (fn : Nat) (T : NT) : Prop := ∀ (lb rb cap f b : Nat) (L : List Ins) (P : Nat → Prop) (w : World), Ly w lb rb cap L f → (∀ x, P x → x < w.heap.size ∧ x ≠ lb ∧ x ≠ rb) → Pc w P T b → L.length + sz T ≤ cap → cap ≤ 16385 → f + cnt T ≤ 16384 → Tz lb rb w →
  Calls Tryd.prog fn #[.pointer (some ⟨lb, 0, none⟩), .pointer (some ⟨b, 0, none⟩)] w fun e w' => (∃ v, e = .returned v) ∧ Ly w' lb rb cap (L ++ code T L.length f) f ∧ Bz lb rb w w'
end Nt
set_option maxRecDepth 100000 in
set_option maxHeartbeats 1000000 in
theorem lay_set (T : Nt.NT) (hk : T.k = 2) : Nt.LayC 55 T := by
  intro lb rb cap f b L P w hL hP hpc hroom0 _ _ _
  have hc : Nt.code T L.length f = [Nt.iSet T.s] := by rw [Nt.code_eq, hk]; rfl
  have hroom : L.length + 1 ≤ cap := by
    have : Nt.sz T = 1 := by rw [← Nt.code_len T L.length f, hc]; rfl
    omega
  have HP : Hid _ := put_set lb rb cap f L T.s w hL hroom
  rw [hc]
  cases hpc with
  | mk nb off a cap' ka kc bs hb blk hn node len room most kids sub =>
  obtain ⟨p0, p1, p2, p3, p4⟩ := blk.cells
  obtain ⟨q0, q1, q2, q3, q4, q5, q6, q7, q8⟩ := node
  clear hL blk kids sub hP hroom0
  go_enter Tryd.func55, Tryd.ntmps55
  go_wp2_with fail
  refine Calls.mono HP.out ?_
  rintro e w1 ⟨⟨v, rfl⟩, hL1, hz⟩
  go_wp2_with fail
  go_end0
  exact ⟨⟨_, rfl⟩, hL1, hz⟩
set_option maxRecDepth 100000 in
set_option maxHeartbeats 1000000 in
theorem lay_back (T : Nt.NT) (hk : T.k = 7) : Nt.LayC 60 T := by
  intro lb rb cap f b L P w hL hP hpc hroom0 _ _ _
  have hc : Nt.code T L.length f = [Nt.iBack T.gr] := by rw [Nt.code_eq, hk]; rfl
  have hroom : L.length + 1 ≤ cap := by
    have : Nt.sz T = 1 := by rw [← Nt.code_len T L.length f, hc]; rfl
    omega
  have HP : Hid _ := put_back lb rb cap f L T.gr w hL hroom
  rw [hc]
  cases hpc with
  | mk nb off a cap' ka kc bs hb blk hn node len room most kids sub =>
  obtain ⟨p0, p1, p2, p3, p4⟩ := blk.cells
  obtain ⟨q0, q1, q2, q3, q4, q5, q6, q7, q8⟩ := node
  clear hL blk kids sub hP hroom0
  go_enter Tryd.func60, Tryd.ntmps60
  go_wp2_with fail
  refine Calls.mono HP.out ?_
  rintro e w1 ⟨⟨v, rfl⟩, hL1, hz⟩
  go_wp2_with fail
  go_end0
  exact ⟨⟨_, rfl⟩, hL1, hz⟩
set_option maxRecDepth 100000 in
set_option maxHeartbeats 1000000 in
theorem lay_begin (T : Nt.NT) (hk : T.k = 8) : Nt.LayC 61 T := by
  intro lb rb cap f b L P w hL hP hpc hroom0 _ _ _
  have hc : Nt.code T L.length f = [Nt.iBegin] := by rw [Nt.code_eq, hk]; rfl
  have hroom : L.length + 1 ≤ cap := by
    have : Nt.sz T = 1 := by rw [← Nt.code_len T L.length f, hc]; rfl
    omega
  have HP : Hid _ := put_begin lb rb cap f L w hL hroom
  rw [hc]
  cases hpc with
  | mk nb off a cap' ka kc bs hb blk hn node len room most kids sub =>
  obtain ⟨p0, p1, p2, p3, p4⟩ := blk.cells
  obtain ⟨q0, q1, q2, q3, q4, q5, q6, q7, q8⟩ := node
  clear hL blk kids sub hP hroom0
  go_enter Tryd.func61, Tryd.ntmps61
  go_wp2_with fail
  refine Calls.mono HP.out ?_
  rintro e w1 ⟨⟨v, rfl⟩, hL1, hz⟩
  go_wp2_with fail
  go_end0
  exact ⟨⟨_, rfl⟩, hL1, hz⟩
set_option maxRecDepth 100000 in
set_option maxHeartbeats 1000000 in
theorem lay_end (T : Nt.NT) (hk : T.k = 9) : Nt.LayC 62 T := by
  intro lb rb cap f b L P w hL hP hpc hroom0 _ _ _
  have hc : Nt.code T L.length f = [Nt.iEnd] := by rw [Nt.code_eq, hk]; rfl
  have hroom : L.length + 1 ≤ cap := by
    have : Nt.sz T = 1 := by rw [← Nt.code_len T L.length f, hc]; rfl
    omega
  have HP : Hid _ := put_end lb rb cap f L w hL hroom
  rw [hc]
  cases hpc with
  | mk nb off a cap' ka kc bs hb blk hn node len room most kids sub =>
  obtain ⟨p0, p1, p2, p3, p4⟩ := blk.cells
  obtain ⟨q0, q1, q2, q3, q4, q5, q6, q7, q8⟩ := node
  clear hL blk kids sub hP hroom0
  go_enter Tryd.func62, Tryd.ntmps62
  go_wp2_with fail
  refine Calls.mono HP.out ?_
  rintro e w1 ⟨⟨v, rfl⟩, hL1, hz⟩
  go_wp2_with fail
  go_end0
  exact ⟨⟨_, rfl⟩, hL1, hz⟩
set_option maxRecDepth 100000 in
theorem lay_empty (T : Nt.NT) (hk : T.k = 1) (hfit : Nt.fitP T = true) : Nt.LayC 54 T := by
  intro lb rb cap f b L P w hL hP hpc hroom0 _ _ _
  have hc : Nt.code T L.length f = [] := by rw [Nt.code_eq, hk, Nt.fit_none hfit hk]; rfl
  rw [hc, List.append_nil]
  go_enter Tryd.func54, Tryd.ntmps54
  go_wp2_with fail
  go_end0
  exact ⟨⟨_, rfl⟩, hL, Nt.Bz.refl _ _ _⟩
end Go.Proofs.YtdiokclbdaojpaaDoor
namespace Go.Proofs.YtdiokclbdaojpaaDoor
open Go.RowKit

namespace Nt
theorem Pc.bz {w w' : World} {lb rb : Nat} {P : Nat → Prop} {T : NT} {b : Nat} (h : Pc w P T b) (hz : Bz lb rb w w') (hP : ∀ x, P x → x < w.heap.size ∧ x ≠ lb ∧ x ≠ rb) : Pc w' P T b :=
  h.same (fun x hx => hz.block x (hP x hx).1 (hP x hx).2.1 (hP x hx).2.2) (fun _ h => h)
theorem codeL_snoc (l : List NT) (x : NT) : ∀ p f, codeL (l ++ [x]) p f = codeL l p f ++ code x (p + sz.szL l) f := by
  induction l with
  | nil => intro p f; rw [List.nil_append, codeL, codeL, codeL, sz.szL]; simp
  | cons y l ih => intro p f; rw [List.cons_append, codeL, codeL, ih, sz.szL, List.append_assoc, Nat.add_assoc]
theorem codeL_take {l : List NT} {i : Nat} (h : i < l.length) (p f : Nat) : codeL (l.take (i + 1)) p f = codeL (l.take i) p f ++ code (l[i]) (p + sz.szL (l.take i)) f := by rw [List.take_succ_eq_append_getElem h, codeL_snoc]
theorem codeL_length (l : List NT) (p f : Nat) : (codeL l p f).length = sz.szL l := codeL_len l (fun x _ => code_len x) p f
theorem szL_take {l : List NT} {i : Nat} (h : i < l.length) : sz.szL (l.take (i + 1)) = sz.szL (l.take i) + sz (l[i]) := by rw [List.take_succ_eq_append_getElem h, szL_snoc]
theorem szL_mono (l : List NT) (i : Nat) : sz.szL (l.take i) ≤ sz.szL l := by
  induction l generalizing i with
  | nil => simp
  | cons x l ih =>
    cases i with
    | zero => simp [sz.szL]
    | succ i => simp only [List.take_succ_cons, sz.szL]; have := ih i; omega
theorem codeL_one : ∀ (l : List NT) (_h : l.length = 1) (h0 : 0 < l.length) (p f : Nat), codeL l p f = code (l[0]) p f
  | [x], _, _, p, f => by rw [codeL, codeL, List.append_nil]; rfl
end Nt
set_option maxRecDepth 100000 in
set_option maxHeartbeats 4000000 in
theorem lay_cat (T : Nt.NT) (hk : T.k = 3) (HK : ∀ i (h : i < T.kids.length), Nt.LayC 34 (T.kids[i])) : Nt.LayC 56 T := by
  intro lb rb cap f b L P w hL hP hpc hroom hcap hf ht
  have HTz : Hid _ := ht
  clear ht
  have hc : Nt.code T L.length f = Nt.codeL T.kids L.length f := by rw [Nt.code_eq, hk]; rfl
  have hz : Nt.sz T = Nt.sz.szL T.kids := by rw [Nt.sz_eq, hk]; rfl
  rw [hc]
  rw [hz] at hroom
  have HK : Hid _ := HK
  have HL : Hid _ := hL
  have HP : Hid _ := hP
  have HPC : Hid _ := hpc
  have Hroom : Hid _ := hroom
  have Hf : Hid _ := hf
  cases hpc with
  | mk nb off a cap' ka kc bs hb blk hn node len room most kids sub =>
  obtain ⟨p0, p1, p2, p3, p4⟩ := blk.cells
  have HKi : Hid _ := kids
  have HS : Hid _ := sub
  clear hL hP blk kids sub node hroom hf hc hz
  go_enter Tryd.func56, Tryd.ntmps56
  go_wp2_with fail
  go_loopw [11] (fun iv wr => ∃ i : Nat, i ≤ T.kids.length ∧ iv = .int .i64 (i : Int) ∧ Nt.Ly wr lb rb cap (L ++ Nt.codeL (T.kids.take i) L.length f) f ∧ Nt.Bz lb rb w wr) (fun iv _ => T.kids.length - (intOf iv).toNat)
  case atStart => exact ⟨0, by omega, rfl, by rw [List.take_zero, Nt.codeL, List.append_nil]; exact HL.out, Nt.Bz.refl _ _ _⟩
  case round =>
    clear HL p0 p1 p2 p3 p4
    obtain ⟨i, hi, rfl, hLi, hz⟩ := hrel
    have HLi : Hid _ := hLi
    have Hz : Hid _ := hz
    clear hLi hz
    by_cases hlt : i < T.kids.length
    · obtain ⟨kb, ko, rfl, hkb, hkc⟩ := HKi.out i hlt
      have hkc' := (World.cell?_of_block (Hz.out.block kb (HP.out kb hkb).1 (HP.out kb hkb).2.1 (HP.out kb hkb).2.2)).trans hkc
      have hlen : (L ++ Nt.codeL (T.kids.take i) L.length f).length = L.length + Nt.sz.szL (T.kids.take i) := by rw [List.length_append, Nt.codeL_length]
      have HI : Hid _ := HK.out i hlt lb rb cap f (bs i) (L ++ Nt.codeL (T.kids.take i) L.length f) P wr HLi.out (fun x hx => ⟨Nat.lt_of_lt_of_le (HP.out x hx).1 Hz.out.size, (HP.out x hx).2⟩) (Nt.Pc.bz (HS.out i hlt) Hz.out HP.out) (by rw [hlen]; have h1 := Nt.szL_take hlt; have h2 := Nt.szL_mono T.kids (i + 1); have h3 := Hroom.out; omega) hcap (by have h1 := Nt.cntL_kid hlt; have h2 := Hf.out; omega) (HTz.out.bz Hz.out)
      have HT : Hid _ := Nt.codeL_take hlt L.length f
      have Hlen : Hid _ := hlen
      clear hkc hlen
      go_wp2_with fail
      refine Calls.mono HI.out ?_
      rintro e w2 ⟨⟨v, rfl⟩, hL2, hz2⟩
      have hL3 : Nt.Ly w2 lb rb cap (L ++ Nt.codeL (T.kids.take (i + 1)) L.length f) f := by
        rw [HT.out, ← List.append_assoc, ← Hlen.out]; exact hL2
      have hz3 := Hz.out.trans hz2
      clear HI hL2 hz2 hkc'
      go_wp2_with fail
      go_roundw
      case rel => exact ⟨i + 1, by omega, by go_num, hL3, hz3⟩
      case measure => simp [intOf]; omega
    · obtain rfl : i = T.kids.length := by omega
      go_wp2_with fail
      go_end0
      exact ⟨⟨_, rfl⟩, by have := HLi.out; rw [List.take_length] at this; exact this, Hz.out⟩

set_option maxRecDepth 100000 in
set_option maxHeartbeats 4000000 in
theorem lay_group (T : Nt.NT) (hk : T.k = 6) (h1 : T.kids.length = 1) (HK : ∀ i (h : i < T.kids.length), Nt.LayC 34 (T.kids[i])) : Nt.LayC 59 T := by
  intro lb rb cap f b L P w hL hP hpc hroom hcap hf ht
  have HTz : Hid _ := ht
  clear ht
  have hlt : 0 < T.kids.length := by omega
  have hc : Nt.code T L.length f = Nt.iOpen T.gr :: Nt.code (T.kids[0]) (L.length + 1) f ++ [Nt.iClose T.gr] := by
    rw [Nt.code_eq, hk]
    show Nt.iOpen T.gr :: Nt.codeL T.kids (L.length + 1) f ++ [Nt.iClose T.gr] = _
    rw [Nt.codeL_one T.kids h1 hlt]
  have hz : Nt.sz T = Nt.sz (T.kids[0]) + 2 := by
    rw [← Nt.code_len T L.length f, hc]
    simp [Nt.code_len]
  rw [hc]
  rw [hz] at hroom
  have HK : Hid _ := HK
  have HP : Hid _ := hP
  have Hroom : Hid _ := hroom
  have Hf : Hid _ := hf
  have HO : Hid _ := put_open lb rb cap f L T.gr w hL (by omega)
  cases hpc with
  | mk nb off a cap' ka kc bs hb blk hn node len room most kids sub =>
  obtain ⟨kb, ko, rfl, hkb, hkc⟩ := kids 0 hlt
  rw [h1] at blk
  have HB : Hid _ := blk
  have HN : Hid _ := node
  have Hhb : Hid _ := hb
  have Hhn : Hid _ := hn
  have HS : Hid _ := sub 0 hlt
  have HKC : Hid _ := hkc
  obtain ⟨p0, p1, p2, p3, p4⟩ := blk.cells
  obtain ⟨q0, q1, q2, q3, q4, q5, q6, q7, q8⟩ := node
  clear hL hP blk kids sub hroom hf hc hz hb hn len room hkc h1
  go_enter Tryd.func59, Tryd.ntmps59
  go_wp2_with fail
  refine Calls.mono HO.out ?_
  rintro e w1 ⟨⟨v, rfl⟩, hL1, hz1⟩
  have hst : ∀ (x : Nat) (w' : World), P x → Nt.Bz lb rb w w' → w'.heap[x]? = w.heap[x]? := fun x w' hx hz => hz.block x (HP.out x hx).1 (HP.out x hx).2.1 (HP.out x hx).2.2
  have Hst : Hid _ := hst
  have blk1 := Nt.PcB.same HB.out (Hst.out b w1 Hhb.out hz1)
  obtain ⟨s0, s1, s2, s3, s4⟩ := blk1.cells
  have t0 : w1.cell? ⟨kb, ko, none⟩ = some (.pointer (some ⟨bs 0, 0, none⟩)) := (World.cell?_of_block (Hst.out kb w1 hkb hz1)).trans HKC.out
  have HI : Hid _ := HK.out 0 hlt lb rb cap f (bs 0) (L ++ [Nt.iOpen T.gr]) P w1 hL1 (fun x hx => ⟨Nat.lt_of_lt_of_le (HP.out x hx).1 hz1.size, (HP.out x hx).2⟩) (Nt.Pc.bz HS.out hz1 HP.out) (by have := Hroom.out; simp; omega) hcap (by have h1 := Nt.cntL_kid hlt; have h2 := Hf.out; omega) (HTz.out.bz hz1)
  have Hz1 : Hid _ := hz1
  clear HO p0 p1 p2 p3 p4 q0 q1 q2 q3 q4 q5 q6 q7 q8 blk1 hst hz1 hL1
  go_wp2_with fail
  refine Calls.mono HI.out ?_
  rintro e w2 ⟨⟨v, rfl⟩, hL2, hz2⟩
  have hz2' := Hz1.out.trans hz2
  have blk2 := Nt.PcB.same HB.out (Hst.out b w2 Hhb.out hz2')
  obtain ⟨u0, u1, u2, u3, u4⟩ := blk2.cells
  obtain ⟨y0, y1, y2, y3, y4, y5, y6, y7, y8⟩ := HN.out.same (Hst.out nb w2 Hhn.out hz2')
  have hlen : (L ++ [Nt.iOpen T.gr]).length = L.length + 1 := by simp
  rw [hlen] at hL2
  have HCl : Hid _ := put_close lb rb cap f _ T.gr w2 hL2 (by have := Hroom.out; simp [Nt.code_len]; omega)
  have Hz2 : Hid _ := hz2'
  clear HI s0 s1 s2 s3 s4 t0 blk2 hz2 hz2' hL2 hlen
  go_wp2_with fail
  refine Calls.mono HCl.out ?_
  rintro e w3 ⟨⟨v, rfl⟩, hL3, hz3⟩
  have hz3' := Hz2.out.trans hz3
  have hL4 : Nt.Ly w3 lb rb cap (L ++ (Nt.iOpen T.gr :: Nt.code (T.kids[0]) (L.length + 1) f ++ [Nt.iClose T.gr])) f := by
    have e : L ++ (Nt.iOpen T.gr :: Nt.code (T.kids[0]) (L.length + 1) f ++ [Nt.iClose T.gr]) = L ++ [Nt.iOpen T.gr] ++ Nt.code (T.kids[0]) (L.length + 1) f ++ [Nt.iClose T.gr] := by simp
    rw [e]; exact hL3
  clear HCl hL3 hz3
  go_wp2_with fail
  go_end0
  exact ⟨⟨_, rfl⟩, hL4, hz3'⟩
end Go.Proofs.YtdiokclbdaojpaaDoor
namespace Go.Proofs.YtdiokclbdaojpaaDoor
open Go Go.RowKit

theorem eq_set_self (n : Nat) (a0 a1 a2 a3 : Int) (w : World) :
    (Op.equalIn (n + 2) 25 (.agg #[.int .u64 a0, .int .u64 a1, .int .u64 a2, .int .u64 a3]) (.agg #[.int .u64 a0, .int .u64 a1, .int .u64 a2, .int .u64 a3])).run Tryd.prog w = .ok true w := by
  have p0 : ∀ wx, (part 23 #[.int .u64 a0, .int .u64 a1, .int .u64 a2, .int .u64 a3] 0).run Tryd.prog wx = .ok (.int .u64 a0) wx := fun wx => by kernel_rfl
  have p1 : ∀ wx, (part 23 #[.int .u64 a0, .int .u64 a1, .int .u64 a2, .int .u64 a3] 1).run Tryd.prog wx = .ok (.int .u64 a1) wx := fun wx => by kernel_rfl
  have p2 : ∀ wx, (part 23 #[.int .u64 a0, .int .u64 a1, .int .u64 a2, .int .u64 a3] 2).run Tryd.prog wx = .ok (.int .u64 a2) wx := fun wx => by kernel_rfl
  have p3 : ∀ wx, (part 23 #[.int .u64 a0, .int .u64 a1, .int .u64 a2, .int .u64 a3] 3).run Tryd.prog wx = .ok (.int .u64 a3) wx := fun wx => by kernel_rfl
  have hz : ∀ wx, (sizeOf 23).run Tryd.prog wx = .ok 1 wx := fun wx => by kernel_rfl
  have he : ∀ (a b : Int) wx, (Op.equalIn (n + 1) 23 (.int .u64 a) (.int .u64 b)).run Tryd.prog wx = .ok (a == b) wx := fun a b wx => run_equalIn_int wx n 23 .u64 .u64 a b Tryd.underlying23
  show (Op.equalIn (n + 1 + 1) 25 _ _).run Tryd.prog w = _
  rw [Op.equalIn]
  simp only [Sem.run_bind, run_underlying Tryd.underlying25, Result.andThen_ok, hz]
  simp only [Std.Legacy.Range.forIn_eq_forIn_range', Std.Legacy.Range.size]
  rw [show List.range' 0 ((4 - 0 + 1 - 1) / 1) = [0, 1, 2, 3] from rfl]
  simp only [Nat.mul_one]
  simp [List.forIn_cons, p0, p1, p2, p3, he]

theorem fields_self {P : Program} (d : Nat) (xs : Array Value) : ∀ (fs : List Field) (w : World), (∀ f ∈ fs, ∃ v, ∀ w : World, (part f.type xs f.offset).run P w = .ok v w ∧ (Op.equalIn d f.type v v).run P w = .ok true w) → (Op.eqFields d xs xs fs).run P w = .ok true w
  | [], w, _ => by simp [Op.eqFields]
  | f :: fs, w, h => by
    obtain ⟨v, hv⟩ := h f (by simp)
    have ih := fields_self d xs fs w (fun g hg => h g (by simp [hg]))
    simp only [Op.eqFields, Sem.run_bind, Sem.run_ite]
    split
    · simp [(hv w).1, (hv w).2, ih]
    · exact ih

theorem ins_flds : ((Tryd.prog.fieldsOf 64).toList.all fun f => (f.type == 62 && f.offset == 0) || (f.type == 25 && f.offset == 1) || (f.type == 3 && (f.offset == 5 || f.offset == 6 || f.offset == 7 || f.offset == 8))) = true := by kernel_rfl

set_option maxRecDepth 100000 in
theorem ins_neq (x : Nt.Ins) (w : World) : (binOp .neq 64 (.agg #[.int .u8 (x.k : Int), .int .u64 (St.wd x.s 0 : Nat), .int .u64 (St.wd x.s 1 : Nat), .int .u64 (St.wd x.s 2 : Nat), .int .u64 (St.wd x.s 3 : Nat), .int .i64 x.to, .int .i64 x.gr, .int .i64 x.la, .int .i64 x.sl]) (.agg #[.int .u8 (x.k : Int), .int .u64 (St.wd x.s 0 : Nat), .int .u64 (St.wd x.s 1 : Nat), .int .u64 (St.wd x.s 2 : Nat), .int .u64 (St.wd x.s 3 : Nat), .int .i64 x.to, .int .i64 x.gr, .int .i64 x.la, .int .i64 x.sl])).run Tryd.prog w = .ok (.bool false) w := by
  generalize (x.k : Int) = k
  generalize ((St.wd x.s 0 : Nat) : Int) = a0
  generalize ((St.wd x.s 1 : Nat) : Int) = a1
  generalize ((St.wd x.s 2 : Nat) : Int) = a2
  generalize ((St.wd x.s 3 : Nat) : Int) = a3
  generalize x.to = b5
  generalize x.gr = b6
  generalize x.la = b7
  generalize x.sl = b8
  rw [run_neq_struct]
  have h : (Op.equalIn 10000 64 (.agg #[.int .u8 k, .int .u64 a0, .int .u64 a1, .int .u64 a2, .int .u64 a3, .int .i64 b5, .int .i64 b6, .int .i64 b7, .int .i64 b8]) (.agg #[.int .u8 k, .int .u64 a0, .int .u64 a1, .int .u64 a2, .int .u64 a3, .int .i64 b5, .int .i64 b6, .int .i64 b7, .int .i64 b8])).run Tryd.prog w = .ok true w := by
    show (Op.equalIn (9999 + 1) 64 _ _).run Tryd.prog w = _
    rw [run_equalIn_struct w 9999 64 _ _ Tryd.underlying64 (by kernel_rfl)]
    refine fields_self 9999 _ _ w (fun f hf => ?_)
    have hb := List.all_eq_true.1 ins_flds f hf
    simp only [Bool.or_eq_true, Bool.and_eq_true, beq_iff_eq] at hb
    rcases hb with (⟨h1, h2⟩ | ⟨h1, h2⟩) | ⟨h1, ((h2 | h2) | h2) | h2⟩
    · exact ⟨.int .u8 k, fun w => ⟨by rw [h1, h2]; kernel_rfl, by rw [h1]; exact (run_equalIn_int w 9998 62 .u8 .u8 k k Tryd.underlying62).trans (by simp)⟩⟩
    · exact ⟨.agg #[.int .u64 a0, .int .u64 a1, .int .u64 a2, .int .u64 a3], fun w => ⟨by rw [h1, h2]; kernel_rfl, by rw [h1]; exact eq_set_self 9997 a0 a1 a2 a3 w⟩⟩
    · exact ⟨.int .i64 b5, fun w => ⟨by rw [h1, h2]; kernel_rfl, by rw [h1]; exact (run_equalIn_int w 9998 3 .i64 .i64 b5 b5 Tryd.underlying3).trans (by simp)⟩⟩
    · exact ⟨.int .i64 b6, fun w => ⟨by rw [h1, h2]; kernel_rfl, by rw [h1]; exact (run_equalIn_int w 9998 3 .i64 .i64 b6 b6 Tryd.underlying3).trans (by simp)⟩⟩
    · exact ⟨.int .i64 b7, fun w => ⟨by rw [h1, h2]; kernel_rfl, by rw [h1]; exact (run_equalIn_int w 9998 3 .i64 .i64 b7 b7 Tryd.underlying3).trans (by simp)⟩⟩
    · exact ⟨.int .i64 b8, fun w => ⟨by rw [h1, h2]; kernel_rfl, by rw [h1]; exact (run_equalIn_int w 9998 3 .i64 .i64 b8 b8 Tryd.underlying3).trans (by simp)⟩⟩
  rw [h]; rfl
end Go.Proofs.YtdiokclbdaojpaaDoor
