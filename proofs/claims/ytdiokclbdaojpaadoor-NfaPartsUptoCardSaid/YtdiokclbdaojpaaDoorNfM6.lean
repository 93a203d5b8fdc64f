/- A run of a program: how it lies in memory; what (*run).goOn does. What nfa.Right answers of any program. What nfa.runnable answers of any program. A new run of a program. What (*run).over does. The states that are come to without a byte, plain. What (*run).states and (*run).ends hand back: their iterators, with what they have captured. -/
import Derived.Test.YtdiokclbdaojpaaDoorNfRJr
import Derived.Test.YtdiokclbdaojpaaDoorNfIn
import Derived.Deep.AppendLies
import Derived.Deep.RegionLaw
import Derived.BigRegion
import Derived.Deep.RegionWith
import Derived.Deep.DeepCutAuto
import Derived.Laws.Rows
import Derived.Laws.ShiftsVarLaws
import Derived.Laws.BitsAllLaws
namespace Go.Proofs.YtdiokclbdaojpaaDoor
open Go Go.RowKit

namespace Nt
/-- The block rb holds a run: its code, text, marks, and what is left. -/
def Rn (w : World) (rb : Nat) (cv : Value) (s : ByteArray) (mv lv : Value) : Prop := w.heap[rb]? = some (.cells #[cv, .string s, mv, lv] 116 (0, 0))
theorem Rn.cells {w : World} {rb : Nat} {cv : Value} {s : ByteArray} {mv lv : Value} (h : Rn w rb cv s mv lv) : w.cell? ⟨rb, 0, none⟩ = some cv ∧ w.cell? ⟨rb, 1, none⟩ = some (.string s) ∧ w.cell? ⟨rb, 2, none⟩ = some mv ∧ w.cell? ⟨rb, 3, none⟩ = some lv :=
  ⟨cell_of_row _ _ _ _ _ _ h, cell_of_row _ _ _ _ _ _ h, cell_of_row _ _ _ _ _ _ h, cell_of_row _ _ _ _ _ _ h⟩
theorem Rn.frozen {w : World} {rb : Nat} {cv : Value} {s : ByteArray} {mv lv : Value} (h : Rn w rb cv s mv lv) (j : Nat) : w.frozen? ⟨rb, j, none⟩ = false := frozen_of_row w rb j _ _ h
theorem Rn.lt {w : World} {rb : Nat} {cv : Value} {s : ByteArray} {mv lv : Value} (h : Rn w rb cv s mv lv) : rb < w.heap.size := lt_of_block h
/-- What is left, in a row of the call's own behind rb. -/
def Lf (w : World) (rb : Nat) (lv : Value) (l : List Nat) : Prop := w.ownsRow (rb + 1) 3 1 lv l.length (icellsN l)
/-- What comes behind an instruction that takes no byte. -/
def nxt (x : Ins) (i at' n : Nat) : List Nat :=
  if x.k == 2 then [x.to.toNat, i + 1] else if x.k == 3 then [x.to.toNat] else if x.k == 10 then (if at' == 0 then [i + 1] else []) else if x.k == 11 then (if at' == n then [i + 1] else []) else [i + 1]
theorem two_new (w : World) (u v : Value) (t : TypeId) : ∀ j x, [u, v][j]? = some x → (w.alloc (.cells #[u, v] t)).cell? ((⟨w.heap.size, 0, none⟩ : Addr).add j) = some x := by
  intro j x hx
  rw [add_at, cell_of_row _ _ _ _ _ _ (heap_alloc_new w _)]
  match j, hx with
  | 0, hx | 1, hx => exact hx
  | j + 2, hx => cases hx
/-- The run's block behind the row's growing. -/
theorem left_blk {w w3 : World} {rb : Nat} {cv : Value} {s : ByteArray} {mv lv : Value} {l : List Nat} (hR : Rn w rb cv s mv lv) (hl : Lf w rb lv l) {W0 : World} (hW : Below w.heap.size w W0) (hg : W0.grownBy w3 lv.ownBlock) : Rn w3 rb cv s mv lv := by
  have := hR.lt
  have h0 := hW.size
  unfold Rn
  rw [hg.block rb (by omega) (fun e => by have := (World.ownsRow.lt hl rb e.symm).1; omega), hW.block rb this]
  exact hR
theorem left_put {w w3 : World} {rb g c : Nat} {cv : Value} {s : ByteArray} {mv lv : Value} {l news : List Nat} (hR : Rn w rb cv s mv lv) (hl : Lf w rb lv l) {W0 : World} (hW : Below w.heap.size w W0) (hg : W0.grownBy w3 lv.ownBlock)
    (hown : w3.ownsRow (rb + 1) 3 1 (.slice (some ⟨g, 0, none⟩) (l.length + news.length) c) (l.length + news.length) (icellsN l ++ icellsN news)) (hat : lv.ownBlock = some g ∨ W0.heap.size ≤ g) :
    Rn (w3.setCell ⟨rb, 3, none⟩ (.slice (some ⟨g, 0, none⟩) (l.length + news.length) c)) rb cv s mv (.slice (some ⟨g, 0, none⟩) (l.length + news.length) c) ∧ Lf (w3.setCell ⟨rb, 3, none⟩ (.slice (some ⟨g, 0, none⟩) (l.length + news.length) c)) rb (.slice (some ⟨g, 0, none⟩) (l.length + news.length) c) (l ++ news) ∧ Rz rb lv (.slice (some ⟨g, 0, none⟩) (l.length + news.length) c) w (w3.setCell ⟨rb, 3, none⟩ (.slice (some ⟨g, 0, none⟩) (l.length + news.length) c)) := by
  have h3 := left_blk hR hl hW hg
  have h0 := hW.size
  have hs := hg.size
  have y := (Below.refl 0 w3).setCell (p := ⟨rb, 3, none⟩) (Nat.zero_le _) (.slice (some ⟨g, 0, none⟩) (l.length + news.length) c)
  refine ⟨heap_setCell_same w3 rb 3 _ _ _ h3, ?_, ⟨y.os.trans (hg.os.trans hW.os), y.tape.trans (hg.tape.trans hW.tape), y.output.trans (hg.output.trans hW.output), Nat.le_trans (by omega) y.size, fun k hk h1 h2 => ?_, fun g' hg' => ?_⟩⟩
  · unfold Lf
    have e : icellsN (l ++ news) = icellsN l ++ icellsN news := by simp [icellsN]
    rw [List.length_append, e]
    exact ownsRow_setCell_below hown (Nat.lt_succ_self rb) _
  · rw [heap_setCell_other w3 ⟨rb, 3, none⟩ k _ h1, hg.block k (by omega) h2]
    exact hW.block k hk
  · obtain rfl : g = g' := by injection hg'
    rcases hat with h | h
    · exact .inl h
    · exact .inr (by omega)
end Nt
set_option maxRecDepth 100000 in
set_option maxHeartbeats 4000000 in
theorem goOn_any (rb : Nat) (ca : Option Addr) (cc : Nat) (L : List Nt.Ins) (s : ByteArray) (mv lv : Value) (l : List Nat) (i at' : Nat) (w : World) (hR : Nt.Rn w rb (.slice ca L.length cc) s mv lv) (hC : Nt.Cds w rb ca cc L) (hl : Nt.Lf w rb lv l) (hi : i < L.length) (hlen : l.length ≤ 1048576) (_hat : at' ≤ s.size) (hto : 0 ≤ (L[i]).to ∧ (L[i]).to ≤ 1048576) :
    Calls Tryd.prog 83 #[.pointer (some ⟨rb, 0, none⟩), .int .i64 (i : Int), .int .i64 (at' : Int)] w fun e w' => (∃ u, e = .returned u) ∧ ∃ lv', Nt.Rn w' rb (.slice ca L.length cc) s mv lv' ∧ Nt.Lf w' rb lv' (l ++ Nt.nxt (L[i]) i at' s.size) ∧ Nt.Rz rb lv lv' w w' := by
  obtain ⟨i1, hi1, hy0, hy1, hy2⟩ := info_parts Tryd.infoInt
  obtain ⟨l0, l1, l2, l3⟩ := hR.cells
  have f3 := hR.frozen 3
  have hlt := hR.lt
  have hcl := hC.len
  obtain ⟨b, off, rfl, hb, hcell⟩ := hC.lies i hi
  obtain ⟨x, hx⟩ : ∃ x, L[i] = x := ⟨_, rfl⟩
  rw [hx] at hcell hto ⊢
  have x0 : w.cell? ⟨b, off + i * 9, none⟩ = some (.int .u8 (x.k : Int)) := hcell 0 (by omega)
  have x5 : w.cell? ⟨b, off + i * 9 + 5, none⟩ = some (.int .i64 x.to) := hcell 5 (by omega)
  obtain ⟨t1, t2⟩ := hto
  obtain ⟨t, ht⟩ : ∃ t : Nat, x.to = (t : Int) := ⟨x.to.toNat, by omega⟩
  rw [ht] at x5 t1 t2
  have HR : Hid _ := hR
  have HL : Hid _ := hl
  have HT : Hid (x.to.toNat = t) := by show _ = _; omega
  have hi' : i ≤ 1048576 := by omega
  have Hwi : Hid (IntKind.i64.wrap ((i : Int) + 1) = ((i + 1 : Nat) : Int)) := iw_nat (i + 1) (by omega)
  have HB : Hid (∀ o : Obj, Below w.heap.size w (w.alloc o).drew) := fun o => ((Below.refl w.heap.size w).alloc (Nat.le_refl _) o).drew
  have HBa : Hid (∀ o : Obj, Below w.heap.size w (w.alloc o)) := fun o => (Below.refl w.heap.size w).alloc (Nat.le_refl _) o
  clear hR hC hl hcell hx ht
  by_cases k2 : x.k = 2
  · have HX : Hid (Nt.nxt x i at' s.size = [t, i + 1]) := by show _ = _; rw [Nt.nxt, k2, HT.out]; rfl
    rw [k2] at x0
    go_enter Tryd.func83, Tryd.ntmps83
    go_wp2_with fail
    go_region_law (refine step_append_lies _ rfl (.tmp 34) (.tmp 41) 45 rfl (rb + 1) 3 i1 _ 1 8 Tryd.underlying45 hi1 hy0 hy1 hy2 rfl (by decide) lv l.length (Nt.icellsN l) (by simp [Act.eval]) (World.ownsRow.drew (World.ownsRow.alloc HL.out _)) ⟨w.heap.size, 0, none⟩ 2 2 [.int .i64 (t : Int), .int .i64 (IntKind.i64.wrap ((i : Int) + 1))] (by simp [Act.eval]) rfl (Nt.two_new w _ _ _) (fun u hu => by simp only [List.mem_cons, List.not_mem_nil, or_false] at hu; rcases hu with rfl | rfl <;> rfl) (by decide) (by unfold maxLen; omega) (by omega) (by simp; omega) _ rfl ?_; intro g c w3 ho hg hat hlt3; rw [Hwi.out] at ho; have b3 := Nt.left_blk HR.out HL.out (HB.out _) hg; have c3 := b3.cells.2.2.2; have g3 := b3.frozen 3; have HP : Hid _ := Nt.left_put (news := [t, i + 1]) HR.out HL.out (HB.out _) hg ho (hat.imp id (fun h => Nat.le_of_eq h.symm)); clear ho hg hat b3)
    go_wp2_with fail
    all_goals
      go_end0
      obtain ⟨h1, h2, h3⟩ := HP.out
      refine ⟨⟨_, rfl⟩, _, h1, ?_, h3⟩
      rw [HX.out]
      exact h2
  by_cases k3 : x.k = 3
  · have HX : Hid (Nt.nxt x i at' s.size = [t]) := by show _ = _; rw [Nt.nxt, k3, HT.out]; rfl
    rw [k3] at x0
    go_enter Tryd.func83, Tryd.ntmps83
    go_wp2_with fail
    go_region_law (refine step_append_lies _ rfl (.tmp 51) (.tmp 56) 45 rfl (rb + 1) 3 i1 _ 1 8 Tryd.underlying45 hi1 hy0 hy1 hy2 rfl (by decide) lv l.length (Nt.icellsN l) (by simp [Act.eval]) (World.ownsRow.drew (World.ownsRow.alloc HL.out _)) ⟨w.heap.size, 0, none⟩ 1 1 [.int .i64 (t : Int)] (by simp [Act.eval]) rfl (Nt.one_new w _ _) (fun u hu => by simp only [List.mem_singleton] at hu; subst hu; rfl) (by decide) (by unfold maxLen; omega) (by omega) (by simp; omega) _ rfl ?_; intro g c w3 ho hg hat hlt3; have b3 := Nt.left_blk HR.out HL.out (HB.out _) hg; have c3 := b3.cells.2.2.2; have g3 := b3.frozen 3; have HP : Hid _ := Nt.left_put (news := [t]) HR.out HL.out (HB.out _) hg ho (hat.imp id (fun h => Nat.le_of_eq h.symm)); clear ho hg hat b3)
    go_wp2_with fail
    all_goals
      go_end0
      obtain ⟨h1, h2, h3⟩ := HP.out
      refine ⟨⟨_, rfl⟩, _, h1, ?_, h3⟩
      rw [HX.out]
      exact h2
  have d2 : ((x.k : Int) == 2) = false := by simp; omega
  have d3 : ((x.k : Int) == 3) = false := by simp; omega
  by_cases k10 : x.k = 10
  · have d10 : ((x.k : Int) == 10) = true := by simp; omega
    by_cases h0 : at' = 0
    · have HX : Hid (Nt.nxt x i at' s.size = [i + 1]) := by show _ = _; rw [Nt.nxt, k10, h0]; rfl
      have d0 : ((at' : Int) == 0) = true := by simp; omega
      clear k2 k3 k10 h0
      go_enter Tryd.func83, Tryd.ntmps83
      go_wp2_with (at_builtin; refine Nt.wpList_append_far _ rfl _ _ 45 rfl (rb + 1) 3 i1 (.int .i64 0) 1 8 Tryd.underlying45 hi1 hy0 hy1 hy2 rfl (by decide) lv l.length (Nt.icellsN l) rfl (World.ownsRow.alloc HL.out _) ⟨w.heap.size, 0, none⟩ 1 1 [.int .i64 ((i : Int) + 1)] rfl ?c1 ?c2 ?c3 ?c4 ?c5 ?c6 ?_)
      case c1 => rfl
      case c2 => exact Nt.one_new _ _ _
      case c3 => exact fun u hu => by simp only [List.mem_singleton] at hu; subst hu; rfl
      case c4 => unfold maxLen; omega
      case c5 => omega
      case c6 => simp; omega
      intro v3 w3 ho hg _ hat
      obtain ⟨g, c, rfl, _, _⟩ := ho.form (by omega)
      have b3 := Nt.left_blk HR.out HL.out (HBa.out _) hg
      have c3 := b3.cells.2.2.2
      have g3 := b3.frozen 3
      have HP : Hid _ := Nt.left_put (news := [i + 1]) HR.out HL.out (HBa.out _) hg ho (hat.elim (fun h => .inl h.symm) (fun h => .inr (by have h4 : some g = some _ := h; injection h4 with h4; simp; omega)))
      clear ho hg hat b3
      go_wp2_with fail
      go_end0
      obtain ⟨h1, h2, h3⟩ := HP.out
      refine ⟨⟨_, rfl⟩, _, h1, ?_, h3⟩
      rw [HX.out]
      exact h2
    · have HX : Hid (Nt.nxt x i at' s.size = []) := by
        show _ = _
        have : (at' == 0) = false := by simpa using h0
        rw [Nt.nxt, k10, this]; rfl
      have d0 : ((at' : Int) == 0) = false := by simp; omega
      clear k2 k3 k10 h0
      go_enter Tryd.func83, Tryd.ntmps83
      go_wp2_with fail
      go_end0
      exact ⟨⟨_, rfl⟩, lv, HR.out, by rw [HX.out, List.append_nil]; exact HL.out, Nt.Rz.refl _ _ _⟩
  have d10 : ((x.k : Int) == 10) = false := by simp; omega
  by_cases k11 : x.k = 11
  · have d11 : ((x.k : Int) == 11) = true := by simp; omega
    by_cases h0 : at' = s.size
    · have HX : Hid (Nt.nxt x i at' s.size = [i + 1]) := by show _ = _; rw [Nt.nxt, k11, h0]; simp
      have d0 : ((at' : Int) == (s.size : Int)) = true := by simp; omega
      clear k2 k3 k10 k11 h0
      go_enter Tryd.func83, Tryd.ntmps83
      go_wp2_with (at_builtin; refine Nt.wpList_append_far _ rfl _ _ 45 rfl (rb + 1) 3 i1 (.int .i64 0) 1 8 Tryd.underlying45 hi1 hy0 hy1 hy2 rfl (by decide) lv l.length (Nt.icellsN l) rfl (World.ownsRow.alloc HL.out _) ⟨w.heap.size, 0, none⟩ 1 1 [.int .i64 ((i : Int) + 1)] rfl ?c1 ?c2 ?c3 ?c4 ?c5 ?c6 ?_)
      case c1 => rfl
      case c2 => exact Nt.one_new _ _ _
      case c3 => exact fun u hu => by simp only [List.mem_singleton] at hu; subst hu; rfl
      case c4 => unfold maxLen; omega
      case c5 => omega
      case c6 => simp; omega
      intro v3 w3 ho hg _ hat
      obtain ⟨g, c, rfl, _, _⟩ := ho.form (by omega)
      have b3 := Nt.left_blk HR.out HL.out (HBa.out _) hg
      have c3 := b3.cells.2.2.2
      have g3 := b3.frozen 3
      have HP : Hid _ := Nt.left_put (news := [i + 1]) HR.out HL.out (HBa.out _) hg ho (hat.elim (fun h => .inl h.symm) (fun h => .inr (by have h4 : some g = some _ := h; injection h4 with h4; simp; omega)))
      clear ho hg hat b3
      go_wp2_with fail
      go_end0
      obtain ⟨h1, h2, h3⟩ := HP.out
      refine ⟨⟨_, rfl⟩, _, h1, ?_, h3⟩
      rw [HX.out]
      exact h2
    · have HX : Hid (Nt.nxt x i at' s.size = []) := by
        show _ = _
        have : (at' == s.size) = false := by simpa using h0
        rw [Nt.nxt, k11, this]; rfl
      have d0 : ((at' : Int) == (s.size : Int)) = false := by simp; omega
      clear k2 k3 k10 k11 h0
      go_enter Tryd.func83, Tryd.ntmps83
      go_wp2_with fail
      go_end0
      exact ⟨⟨_, rfl⟩, lv, HR.out, by rw [HX.out, List.append_nil]; exact HL.out, Nt.Rz.refl _ _ _⟩
  have d11 : ((x.k : Int) == 11) = false := by simp; omega
  have HX : Hid (Nt.nxt x i at' s.size = [i + 1]) := by
    show _ = _
    have e2 : (x.k == 2) = false := by simpa using k2
    have e3 : (x.k == 3) = false := by simpa using k3
    have e10 : (x.k == 10) = false := by simpa using k10
    have e11 : (x.k == 11) = false := by simpa using k11
    rw [Nt.nxt, e2, e3, e10, e11]; rfl
  clear k2 k3 k10 k11
  go_enter Tryd.func83, Tryd.ntmps83
  go_wp2_with (at_builtin; refine Nt.wpList_append_far _ rfl _ _ 45 rfl (rb + 1) 3 i1 (.int .i64 0) 1 8 Tryd.underlying45 hi1 hy0 hy1 hy2 rfl (by decide) lv l.length (Nt.icellsN l) rfl (World.ownsRow.alloc HL.out _) ⟨w.heap.size, 0, none⟩ 1 1 [.int .i64 ((i : Int) + 1)] rfl ?c1 ?c2 ?c3 ?c4 ?c5 ?c6 ?_)
  case c1 => rfl
  case c2 => exact Nt.one_new _ _ _
  case c3 => exact fun u hu => by simp only [List.mem_singleton] at hu; subst hu; rfl
  case c4 => unfold maxLen; omega
  case c5 => omega
  case c6 => simp; omega
  intro v3 w3 ho hg _ hat
  obtain ⟨g, c, rfl, _, _⟩ := ho.form (by omega)
  have b3 := Nt.left_blk HR.out HL.out (HBa.out _) hg
  have c3 := b3.cells.2.2.2
  have g3 := b3.frozen 3
  have HP : Hid _ := Nt.left_put (news := [i + 1]) HR.out HL.out (HBa.out _) hg ho (hat.elim (fun h => .inl h.symm) (fun h => .inr (by have h4 : some g = some _ := h; injection h4 with h4; simp; omega)))
  clear ho hg hat b3
  go_wp2_with fail
  go_end0
  obtain ⟨h1, h2, h3⟩ := HP.out
  refine ⟨⟨_, rfl⟩, _, h1, ?_, h3⟩
  rw [HX.out]
  exact h2
end Go.Proofs.YtdiokclbdaojpaaDoor
namespace Go.Proofs.YtdiokclbdaojpaaDoor
open Go Go.RowKit

namespace Nt
/-- The i-th instruction is right where it stands. -/
def rowP (gr sl : Int) (L : List Ins) (i : Nat) : Bool := (((L.getD i iEnd).k == 12) == (i == L.length - 1)) && fitI gr sl L.length (L.getD i iEnd)
def rowsP (gr sl : Int) (L : List Ins) (i : Nat) : Bool := (List.range i).all (rowP gr sl L)
theorem rowsP_succ (gr sl : Int) (L : List Ins) (i : Nat) : rowsP gr sl L (i + 1) = (rowsP gr sl L i && rowP gr sl L i) := by
  rw [rowsP, List.range_succ, List.all_append]; simp [rowsP]
theorem rowsP_le {gr sl : Int} {L : List Ins} {i j : Nat} (h : rowsP gr sl L j = true) (hij : i < j) : rowP gr sl L i = true := by
  rw [rowsP, List.all_eq_true] at h
  exact h i (List.mem_range.2 hij)
/-- A program may be. -/
def rightP (gr sl : Int) (L : List Ins) : Bool := (decide (0 ≤ gr) && (decide (gr ≤ 99) && (decide (0 ≤ sl) && (decide (sl ≤ 16384) && (decide (1 ≤ L.length) && decide (L.length ≤ 16384)))))) && rowsP gr sl L L.length
end Nt
set_option maxRecDepth 100000 in
set_option maxHeartbeats 4000000 in
theorem iright_any (gr sl : Int) (a : Option Addr) (cap : Nat) (L : List Nt.Ins) (w : World) (hc : Nt.Cds w w.heap.size a cap L) (hT : Nt.Tabs w) (hk : ∀ x ∈ L, x.k ≤ 255) :
    Calls Tryd.prog 17 #[.agg #[.int .i64 gr, .int .i64 sl, .slice a L.length cap]] w fun e w' => e = .returned (.bool (Nt.rightP gr sl L)) ∧ Below w.heap.size w w' := by
  have hB0 : Below w.heap.size w (w.alloc (.cells #[.int .i64 gr, .int .i64 sl, .slice a L.length cap] 35)) := (Below.refl w.heap.size w).alloc (Nat.le_refl _) _
  have P0 : (w.alloc (.cells #[.int .i64 gr, .int .i64 sl, .slice a L.length cap] 35)).heap[w.heap.size]? = some (.cells #[.int .i64 gr, .int .i64 sl, .slice a L.length cap] 35 (0, 0)) := heap_alloc_new w _
  have hs0 : (w.alloc (.cells #[.int .i64 gr, .int .i64 sl, .slice a L.length cap] 35)).heap.size = w.heap.size + 1 := by simp
  obtain ⟨W, hW⟩ : ∃ W, W = w.alloc (.cells #[.int .i64 gr, .int .i64 sl, .slice a L.length cap] 35) := ⟨_, rfl⟩
  rw [← hW] at hB0 P0 hs0
  obtain ⟨R, hR⟩ : ∃ R, Nt.rightP gr sl L = R := ⟨_, rfl⟩
  rw [hR]
  have HR : Hid _ := hR
  have hlm := hc.len
  have HC : Hid _ := hc
  have HT : Hid _ := hT
  have HK : Hid _ := hk
  have HB0 : Hid _ := hB0
  have HP0 : Hid _ := P0
  clear hR hc hT hk P0
  have dead : ∀ (b : Bool), (decide (0 ≤ gr) && (decide (gr ≤ 99) && (decide (0 ≤ sl) && (decide (sl ≤ 16384) && (decide (1 ≤ L.length) && decide (L.length ≤ 16384)))))) = b → b = false → R = false := fun b h1 h2 => by rw [← HR.out, Nt.rightP, h1, h2]; rfl
  have HD : Hid _ := dead
  clear dead
  by_cases g1 : gr < 0
  · have HF : Hid (R = false) := HD.out _ rfl (by simp; omega)
    go_enter Tryd.func17, Tryd.ntmps17
    go_wp2_with fail
    go_ret
    exact ⟨by rw [HF.out]; rfl, by rw [← hW]; exact hB0⟩
  by_cases g2 : 99 < gr
  · have HF : Hid (R = false) := HD.out _ rfl (by simp; omega)
    go_enter Tryd.func17, Tryd.ntmps17
    go_wp2_with fail
    go_ret
    exact ⟨by rw [HF.out]; rfl, by rw [← hW]; exact hB0⟩
  by_cases g3 : sl < 0
  · have HF : Hid (R = false) := HD.out _ rfl (by simp; omega)
    go_enter Tryd.func17, Tryd.ntmps17
    go_wp2_with fail
    go_ret
    exact ⟨by rw [HF.out]; rfl, by rw [← hW]; exact hB0⟩
  by_cases g4 : 16384 < sl
  · have HF : Hid (R = false) := HD.out _ rfl (by simp; omega)
    go_enter Tryd.func17, Tryd.ntmps17
    go_wp2_with fail
    go_ret
    exact ⟨by rw [HF.out]; rfl, by rw [← hW]; exact hB0⟩
  by_cases g5 : L.length = 0
  · have HF : Hid (R = false) := HD.out _ rfl (by simp; omega)
    have hd : decide ((L.length : Int) - 1 < 0) = true := by simp; omega
    rw [g5] at hW hd ⊢
    go_enter Tryd.func17, Tryd.ntmps17
    go_wp2_with fail
    go_ret
    exact ⟨by rw [HF.out]; rfl, by rw [← hW]; exact hB0⟩
  by_cases g6 : 16384 < L.length
  · have HF : Hid (R = false) := HD.out _ rfl (by simp; omega)
    go_enter Tryd.func17, Tryd.ntmps17
    go_wp2_with fail
    go_ret
    exact ⟨by rw [HF.out]; rfl, by rw [← hW]; exact hB0⟩
  have HRR : Hid (R = Nt.rowsP gr sl L L.length) := by
    show _ = _
    have h1 : (decide (0 ≤ gr) && (decide (gr ≤ 99) && (decide (0 ≤ sl) && (decide (sl ≤ 16384) && (decide (1 ≤ L.length) && decide (L.length ≤ 16384)))))) = true := by simp; omega
    rw [← HR.out, Nt.rightP, h1, Bool.true_and]
  clear HD HR
  go_enter Tryd.func17, Tryd.ntmps17
  go_wp2_with fail
  rw [← hW]
  clear hW
  go_loopw [39] (fun iv wr => ∃ i : Nat, i ≤ L.length ∧ iv = .int .i64 (i : Int) ∧ Below w.heap.size w wr ∧ wr.heap[w.heap.size]? = some (.cells #[.int .i64 gr, .int .i64 sl, .slice a L.length cap] 35 (0, 0)) ∧ Nt.rowsP gr sl L i = true) (fun iv _ => L.length - (intOf iv).toNat)
  case atStart => exact ⟨0, by omega, rfl, HB0.out, HP0.out, rfl⟩
  case round =>
    clear HB0 HP0
    obtain ⟨i, hi, rfl, hB, PB, hrows⟩ := hrel
    have a0 : wr.cell? ⟨w.heap.size, 0, none⟩ = some (.int .i64 gr) := cell_of_row _ _ _ _ _ _ PB
    have a1 : wr.cell? ⟨w.heap.size, 1, none⟩ = some (.int .i64 sl) := cell_of_row _ _ _ _ _ _ PB
    have a2 : wr.cell? ⟨w.heap.size, 2, none⟩ = some (.slice a L.length cap) := cell_of_row _ _ _ _ _ _ PB
    have hsz : w.heap.size < wr.heap.size := lt_of_block PB
    by_cases hlt : i < L.length
    · obtain ⟨b, off, rfl, hb, hcell⟩ := HC.out.lies i hlt
      obtain ⟨x, hx⟩ : ∃ x, L[i] = x := ⟨_, rfl⟩
      rw [hx] at hcell
      have hcw : ∀ j, j < 9 → wr.cell? ⟨b, off + i * 9 + j, none⟩ = (Nt.insL x)[j]? := fun j hj => (hB.cell (p := ⟨b, off + i * 9 + j, none⟩) hb).trans (hcell j hj)
      have x0 : wr.cell? ⟨b, off + i * 9, none⟩ = some (.int .u8 (x.k : Int)) := hcw 0 (by omega)
      have hgx : L.getD i Nt.iEnd = x := by rw [List.getD_eq_getElem?_getD, List.getElem?_eq_getElem hlt]; exact hx
      have HQ : Hid (Nt.rowP gr sl L i = ((((x.k : Int) == 12) == ((i : Int) == (L.length : Int) - 1)) && Nt.fitI gr sl L.length x)) := by
        show _ = _
        have e1 : (x.k == 12) = ((x.k : Int) == 12) := by rw [Bool.eq_iff_iff]; simp; omega
        have e2 : (i == L.length - 1) = ((i : Int) == (L.length : Int) - 1) := by rw [Bool.eq_iff_iff]; simp; omega
        rw [Nt.rowP, hgx, e1, e2]
      have HN : Hid (Nt.rowP gr sl L i = false → R = false) := fun h => by
        rw [HRR.out]
        cases hr : Nt.rowsP gr sl L L.length
        · rfl
        · exact absurd (Nt.rowsP_le hr hlt) (by rw [h]; simp)
      have HY : Hid (Nt.rowP gr sl L i = true → Nt.rowsP gr sl L (i + 1) = true) := fun h => by rw [Nt.rowsP_succ, hrows, h]; rfl
      have HFt : Hid _ := ifits_any x b (off + i * 9) gr sl (some ⟨b, off, none⟩) L.length cap wr hcw (by have := hB.size; omega) (HT.out.under hB) (by omega) ⟨by omega, by omega⟩ ⟨by omega, by omega⟩ (HK.out x (hx ▸ List.getElem_mem hlt))
      have HB1 : Hid _ := hB
      have HPB : Hid _ := PB
      clear hcell hcw hx hgx hB PB hrows
      cases m : ((x.k : Int) == 12) <;> cases e : ((i : Int) == (L.length : Int) - 1)
      · rw [m, e] at HQ
        cases ft : Nt.fitI gr sl L.length x
        · rw [ft] at HQ HFt
          have HF : Hid (R = false) := HN.out HQ.out
          clear ft HQ HN HY
          go_wp2_with fail
          refine Calls.mono HFt.out ?_
          rintro e2 w2 ⟨rfl, hb2⟩
          have HB2 : Hid _ := HB1.out.trans (hb2.mono (Nat.le_of_lt hsz))
          clear HFt hb2
          go_wp2_with fail
          go_ret
          exact ⟨by rw [HF.out]; rfl, HB2.out⟩
        · rw [ft] at HQ HFt
          have HY2 : Hid _ := HY.out HQ.out
          clear ft HQ HN HY
          go_wp2_with fail
          refine Calls.mono HFt.out ?_
          rintro e2 w2 ⟨rfl, hb2⟩
          have HB2 : Hid _ := HB1.out.trans (hb2.mono (Nat.le_of_lt hsz))
          have HP2 : Hid (w2.heap[w.heap.size]? = some (.cells #[.int .i64 gr, .int .i64 sl, .slice (some ⟨b, off, none⟩) L.length cap] 35 (0, 0))) := by show _ = _; rw [hb2.block _ hsz]; exact HPB.out
          clear HFt hb2
          go_wp2_with fail
          go_roundw
          case rel => exact ⟨i + 1, by omega, by go_num, HB2.out, HP2.out, HY2.out⟩
          case measure => simp [intOf]; omega
      · rw [m, e] at HQ
        have HF : Hid (R = false) := HN.out HQ.out
        clear HQ HN HY
        go_wp2_with fail
        go_ret
        exact ⟨by rw [HF.out]; rfl, HB1.out⟩
      · rw [m, e] at HQ
        have HF : Hid (R = false) := HN.out HQ.out
        clear HQ HN HY
        go_wp2_with fail
        go_ret
        exact ⟨by rw [HF.out]; rfl, HB1.out⟩
      · rw [m, e] at HQ
        cases ft : Nt.fitI gr sl L.length x
        · rw [ft] at HQ HFt
          have HF : Hid (R = false) := HN.out HQ.out
          clear ft HQ HN HY
          go_wp2_with fail
          refine Calls.mono HFt.out ?_
          rintro e2 w2 ⟨rfl, hb2⟩
          have HB2 : Hid _ := HB1.out.trans (hb2.mono (Nat.le_of_lt hsz))
          clear HFt hb2
          go_wp2_with fail
          go_ret
          exact ⟨by rw [HF.out]; rfl, HB2.out⟩
        · rw [ft] at HQ HFt
          have HY2 : Hid _ := HY.out HQ.out
          clear ft HQ HN HY
          go_wp2_with fail
          refine Calls.mono HFt.out ?_
          rintro e2 w2 ⟨rfl, hb2⟩
          have HB2 : Hid _ := HB1.out.trans (hb2.mono (Nat.le_of_lt hsz))
          have HP2 : Hid (w2.heap[w.heap.size]? = some (.cells #[.int .i64 gr, .int .i64 sl, .slice (some ⟨b, off, none⟩) L.length cap] 35 (0, 0))) := by show _ = _; rw [hb2.block _ hsz]; exact HPB.out
          clear HFt hb2
          go_wp2_with fail
          go_roundw
          case rel => exact ⟨i + 1, by omega, by go_num, HB2.out, HP2.out, HY2.out⟩
          case measure => simp [intOf]; omega
    · obtain rfl : i = L.length := by omega
      have HF : Hid (R = true) := by show _ = _; rw [HRR.out]; exact hrows
      go_wp2_with fail
      go_ret
      exact ⟨by rw [HF.out]; rfl, hB⟩
end Go.Proofs.YtdiokclbdaojpaaDoor
namespace Go.Proofs.YtdiokclbdaojpaaDoor
open Go Go.RowKit

namespace Nt
/-- Why a program cannot be run: it is wrong, or it looks back. -/
def rbE (gr sl : Int) (L : List Ins) : Int := if rightP gr sl L then (if L.any (fun x => x.k == 9) then 101 else 0) else 100
theorem Cds.under {w w' : World} {B B' : Nat} {a : Option Addr} {cap : Nat} {L : List Ins} (h : Cds w B a cap L) (hB : Below B w w') (hb : B ≤ B') : Cds w' B' a cap L :=
  ⟨h.len, h.room, h.most, h.nil, fun i hi => by
    obtain ⟨b, off, e, h1, h2⟩ := h.lies i hi
    exact ⟨b, off, e, by omega, fun j hj => (hB.cell (p := ⟨b, off + i * 9 + j, none⟩) h1).trans (h2 j hj)⟩⟩
end Nt
set_option maxRecDepth 100000 in
set_option maxHeartbeats 4000000 in
theorem runnable_any (gr sl : Int) (a : Option Addr) (cap : Nat) (L : List Nt.Ins) (w : World) (hc : Nt.Cds w w.heap.size a cap L) (hT : Nt.Tabs w) (hk : ∀ x ∈ L, x.k ≤ 255) :
    Calls Tryd.prog 43 #[.agg #[.int .i64 gr, .int .i64 sl, .slice a L.length cap]] w fun e w' => e = .returned (.int .i64 (Nt.rbE gr sl L)) ∧ Below w.heap.size w w' := by
  have hB0 : Below w.heap.size w (w.alloc (.cells #[.int .i64 gr, .int .i64 sl, .slice a L.length cap] 35)) := (Below.refl w.heap.size w).alloc (Nat.le_refl _) _
  have P0 : (w.alloc (.cells #[.int .i64 gr, .int .i64 sl, .slice a L.length cap] 35)).heap[w.heap.size]? = some (.cells #[.int .i64 gr, .int .i64 sl, .slice a L.length cap] 35 (0, 0)) := heap_alloc_new w _
  have hs0 : (w.alloc (.cells #[.int .i64 gr, .int .i64 sl, .slice a L.length cap] 35)).heap.size = w.heap.size + 1 := by simp
  obtain ⟨W, hW⟩ : ∃ W, W = w.alloc (.cells #[.int .i64 gr, .int .i64 sl, .slice a L.length cap] 35) := ⟨_, rfl⟩
  rw [← hW] at hB0 P0 hs0
  have HR : Hid _ := iright_any gr sl a cap L W (hc.under hB0 (by omega)) (hT.under hB0) hk
  have a0 : W.cell? ⟨w.heap.size, 0, none⟩ = some (.int .i64 gr) := cell_of_row _ _ _ _ _ _ P0
  have a1 : W.cell? ⟨w.heap.size, 1, none⟩ = some (.int .i64 sl) := cell_of_row _ _ _ _ _ _ P0
  have a2 : W.cell? ⟨w.heap.size, 2, none⟩ = some (.slice a L.length cap) := cell_of_row _ _ _ _ _ _ P0
  have hlm := hc.len
  have HC : Hid _ := hc
  have HB0 : Hid _ := hB0
  have HP0 : Hid _ := P0
  clear hc hT hk hB0 P0
  cases hr : Nt.rightP gr sl L
  · have HE : Hid (Nt.rbE gr sl L = 100) := by show _ = _; rw [Nt.rbE, hr]; rfl
    rw [hr] at HR
    go_enter Tryd.func43, Tryd.ntmps43
    go_wp2_with fail
    rw [← hW]
    clear hW
    go_wp2_with fail
    refine Calls.mono HR.out ?_
    rintro e2 w2 ⟨rfl, hb2⟩
    have HB : Hid (Below w.heap.size w w2) := HB0.out.trans (hb2.mono (by omega))
    have HP : Hid (w2.heap[w.heap.size]? = some (.cells #[.int .i64 gr, .int .i64 sl, .slice a L.length cap] 35 (0, 0))) := by show _ = _; rw [hb2.block _ (by omega)]; exact HP0.out
    have b2 : w2.cell? ⟨w.heap.size, 2, none⟩ = some (.slice a L.length cap) := cell_of_row _ _ _ _ _ _ HP.out
    clear HR hb2 a0 a1 a2
    go_wp2_with fail
    go_ret
    exact ⟨by rw [HE.out]; rfl, HB.out⟩
  · have HE : Hid (Nt.rbE gr sl L = if L.any (fun x => x.k == 9) then 101 else 0) := by show _ = _; rw [Nt.rbE, hr]; rfl
    rw [hr] at HR
    go_enter Tryd.func43, Tryd.ntmps43
    go_wp2_with fail
    rw [← hW]
    clear hW
    go_wp2_with fail
    refine Calls.mono HR.out ?_
    rintro e2 w2 ⟨rfl, hb2⟩
    have HB : Hid (Below w.heap.size w w2) := HB0.out.trans (hb2.mono (by omega))
    have HP : Hid (w2.heap[w.heap.size]? = some (.cells #[.int .i64 gr, .int .i64 sl, .slice a L.length cap] 35 (0, 0))) := by show _ = _; rw [hb2.block _ (by omega)]; exact HP0.out
    have b2 : w2.cell? ⟨w.heap.size, 2, none⟩ = some (.slice a L.length cap) := cell_of_row _ _ _ _ _ _ HP.out
    clear HR hb2 a0 a1 a2
    go_wp2_with fail
    go_loopw [10] (fun iv wr => ∃ i : Nat, i ≤ L.length ∧ iv = .int .i64 (i : Int) ∧ wr = w2 ∧ (L.take i).any (fun x => x.k == 9) = false) (fun iv _ => L.length - (intOf iv).toNat)
    case atStart => exact ⟨0, by omega, rfl, rfl, rfl⟩
    case round =>
      obtain ⟨i, hi, rfl, rfl, hno⟩ := hrel
      by_cases hlt : i < L.length
      · obtain ⟨b, off, rfl, hb, hcell⟩ := HC.out.lies i hlt
        obtain ⟨x, hx⟩ : ∃ x, L[i] = x := ⟨_, rfl⟩
        rw [hx] at hcell
        have x0 : wr.cell? ⟨b, off + i * 9, none⟩ = some (.int .u8 (x.k : Int)) := (HB.out.cell (p := ⟨b, off + i * 9, none⟩) hb).trans (hcell 0 (by omega))
        have HS : Hid ((L.take (i + 1)).any (fun x => x.k == 9) = (x.k == 9)) := by show _ = _; rw [List.take_succ_eq_append_getElem hlt, List.any_append, hno, hx]; simp
        have HY : Hid (x.k = 9 → L.any (fun x => x.k == 9) = true) := fun h => List.any_eq_true.2 ⟨x, hx ▸ List.getElem_mem hlt, by simp [h]⟩
        clear hcell hx hno
        cases m : ((x.k : Int) == 9)
        · have hm : ¬ (x.k : Int) = 9 := by simpa using m
          have HM : Hid ((x.k == 9) = false) := beq_eq_false_iff_ne.2 (by omega)
          go_wp2_with fail
          go_roundw
          case rel => exact ⟨i + 1, by omega, by go_num, trivial, by rw [HS.out, HM.out]⟩
          case measure => simp [intOf]; omega
        · have hm : (x.k : Int) = 9 := by simpa using m
          have HM : Hid _ := HY.out (by omega)
          go_wp2_with fail
          go_ret
          exact ⟨by rw [HE.out, HM.out]; rfl, HB.out⟩
      · obtain rfl : i = L.length := by omega
        have HM : Hid (L.any (fun x => x.k == 9) = false) := by show _ = _; rw [← hno, List.take_length]
        go_wp2_with fail
        go_ret
        exact ⟨by rw [HE.out, HM.out]; rfl, HB.out⟩
end Go.Proofs.YtdiokclbdaojpaaDoor
namespace Go.Proofs.YtdiokclbdaojpaaDoor
open Go Go.RowKit

namespace Nt
/-- The block g holds, of each instruction, where it was come to last, and 1. -/
def Mt (w : World) (g : Nat) (m : List Nat) : Prop := w.heap[g]? = some (.cells (icellsN m).toArray 3 (0, 0))
theorem run_new (w : World) (o : Obj) (n : Nat) (cv mv : Value) (s : ByteArray) :
    Rn (((w.alloc o).alloc (.cells (madeCells #[.int .i64 0] n) 3)).alloc (.cells #[cv, .string s, mv, .slice none 0 0] 116)).drew (w.heap.size + 1 + 1) cv s mv (.slice none 0 0) ∧ Mt (((w.alloc o).alloc (.cells (madeCells #[.int .i64 0] n) 3)).alloc (.cells #[cv, .string s, mv, .slice none 0 0] 116)).drew (w.heap.size + 1) (List.replicate n 0) ∧ Below w.heap.size w (((w.alloc o).alloc (.cells (madeCells #[.int .i64 0] n) 3)).alloc (.cells #[cv, .string s, mv, .slice none 0 0] 116)).drew := by
  have e0 : (w.alloc o).heap.size = w.heap.size + 1 := by simp
  have e1 : ((w.alloc o).alloc (.cells (madeCells #[.int .i64 0] n) 3)).heap.size = w.heap.size + 1 + 1 := by simp
  refine ⟨?_, ?_, ?_⟩
  · have := heap_alloc_new ((w.alloc o).alloc (.cells (madeCells #[.int .i64 0] n) 3)) (.cells #[cv, .string s, mv, .slice none 0 0] 116)
    rw [e1] at this
    exact this
  · have h1 := heap_alloc_new (w.alloc o) (.cells (madeCells #[.int .i64 0] n) 3)
    rw [e0] at h1
    have hb : Below (w.heap.size + 1 + 1) _ _ := (Below.refl (w.heap.size + 1 + 1) ((w.alloc o).alloc (.cells (madeCells #[.int .i64 0] n) 3))).alloc (by omega) (.cells #[cv, .string s, mv, .slice none 0 0] 116)
    have h2 := (hb.block (w.heap.size + 1) (by omega)).trans h1
    have e : (icellsN (List.replicate n 0)).toArray = madeCells #[.int .i64 0] n := by
      apply Array.toList_inj.1
      rw [toList_madeCells_one]
      simp [icellsN]
    unfold Mt
    rw [e]
    exact h2
  · exact ((((Below.refl w.heap.size w).alloc (Nat.le_refl _) _).alloc (by omega) _).alloc (by omega) _).drew
end Nt
set_option maxRecDepth 100000 in
set_option maxHeartbeats 4000000 in
theorem newRun_any (gr sl : Int) (a : Option Addr) (cap : Nat) (L : List Nt.Ins) (s : ByteArray) (w : World) (hl : 1 ≤ L.length) (hlm : L.length ≤ 1048576) :
    Calls Tryd.prog 44 #[.agg #[.int .i64 gr, .int .i64 sl, .slice a L.length cap], .string s] w fun e w' => ∃ rb g, e = .returned (.pointer (some ⟨rb, 0, none⟩)) ∧ w.heap.size ≤ g ∧ g < rb ∧ Nt.Rn w' rb (.slice a L.length cap) s (.slice (some ⟨g, 0, none⟩) L.length L.length) (.slice none 0 0) ∧ Nt.Mt w' g (List.replicate L.length 0) ∧ Below w.heap.size w w' := by
  obtain ⟨i1, hi1, hy0, hy1, hy2⟩ := info_parts Tryd.infoInt
  have HMK : Hid (∀ W : World, (Instr.makeSlice 45 (.int .i64 (L.length : Int)) (.int .i64 (L.length : Int))).run Tryd.prog W = .ok (.slice (some ⟨W.heap.size, 0, none⟩) L.length L.length) (W.alloc (.cells (madeCells #[.int .i64 0] (L.length * 1)) 3))) := fun W => by
    have := run_make (P := Tryd.prog) W 45 3 i1 _ Tryd.underlying45 hi1 hy0 .i64 .i64 (L.length : Int) (L.length : Int) (by omega) (by omega) (by rw [hy2]; omega) (by omega)
    rw [hy1] at this
    exact this
  go_enter Tryd.func44, Tryd.ntmps44
  go_wp2_with fail
  go_region_with (rw [HMK.out])
  all_goals go_wp2_with fail
  all_goals go_ret
  all_goals exact ⟨w.heap.size + 1 + 1, w.heap.size + 1, rfl, by omega, by omega, Nt.run_new w _ L.length _ _ s⟩
end Go.Proofs.YtdiokclbdaojpaaDoor
namespace Go.Proofs.YtdiokclbdaojpaaDoor
open Go Go.RowKit

theorem Tryd.infoWay : (Tryd.prog.info? 120).map (fun i => (i.zero, i.size, i.bytes)) = some (some (.agg #[.int .i64 0, .int .i64 0]), 2, 16) := by kernel_rfl
namespace Nt
theorem not_bit (p : Nat → Bool) {i c : Nat} (h : c / 64 = i) : (bits .and .u64 ((St.wd p i : Int) / 2 ^ (c % 64)) 1 == 0) = !p c := by
  have e : ((St.wd p i : Int) / 2 ^ (c % 64)) = ((St.wd p i / 2 ^ (c % 64) : Nat) : Int) := by
    rw [Int.natCast_ediv, Int.natCast_pow]; rfl
  have hl : St.wd p i / 2 ^ (c % 64) < 18446744073709551616 := Nat.lt_of_le_of_lt (Nat.div_le_self _ _) (St.wd_lt p i)
  rw [e, show (1 : Int) = ((1 : Nat) : Int) from rfl, u64_and_nat _ _ hl (by decide), nat_mask1, St.wd_has p (show c = 64 * i + c % 64 by omega) (Nat.mod_lt _ (by decide))]
  cases p c <;> rfl
/-- The cells of ways: where each stands, and where it began. -/
def wayC (l : List (Nat × Nat)) : List Value := l.flatMap fun x => [.int .i64 (x.1 : Int), .int .i64 (x.2 : Int)]
theorem wayC_snoc (l : List (Nat × Nat)) (i b : Nat) : wayC (l ++ [(i, b)]) = wayC l ++ [.int .i64 (i : Int), .int .i64 (b : Int)] := by simp [wayC]
/-- Ways in a row of the call's own. -/
def Wy (w : World) (B : Nat) (v : Value) (l : List (Nat × Nat)) : Prop := w.ownsRow B 120 2 v l.length (wayC l)
/-- Whether the byte at a place is had by a set. -/
def hasAt (s : ByteArray) (at' : Nat) (x : Ins) : Bool := if h : at' < s.size then x.s (s[at']).toNat else false
end Nt
set_option maxRecDepth 100000 in
set_option maxHeartbeats 4000000 in
theorem over_any (rb B : Nat) (ca : Option Addr) (cc : Nat) (L : List Nt.Ins) (s : ByteArray) (mv lv tv : Value) (l : List (Nat × Nat)) (i bg at' : Nat) (w : World) (hR : Nt.Rn w rb (.slice ca L.length cc) s mv lv) (hC : Nt.Cds w rb ca cc L) (hl : Nt.Wy w B tv l) (hi : i < L.length) (hlen : l.length ≤ 1048576) (hat : at' ≤ s.size) (_hs : s.size ≤ 1048576) (_hbg : bg ≤ 1048576) (hBw : B ≤ w.heap.size) :
    Calls Tryd.prog 68 #[.pointer (some ⟨rb, 0, none⟩), tv, .agg #[.int .i64 (i : Int), .int .i64 (bg : Int)], .int .i64 (at' : Int)] w fun e w' => ∃ tv', e = .returned tv' ∧ Nt.Wy w' B tv' (if Nt.hasAt s at' (L[i]) then l ++ [(i + 1, bg)] else l) ∧ w.grownBy w' tv.ownBlock ∧ (tv'.ownBlock = tv.ownBlock ∨ ∃ g, tv'.ownBlock = some g ∧ w.heap.size ≤ g) := by
  obtain ⟨i1, hi1, hy0, hy1, hy2⟩ := info_parts Tryd.infoWay
  obtain ⟨l0, l1, l2, l3⟩ := hR.cells
  have hlt := hR.lt
  have hcl := hC.len
  obtain ⟨b, off, rfl, hb, hcell⟩ := hC.lies i hi
  obtain ⟨x, hx⟩ : ∃ x, L[i] = x := ⟨_, rfl⟩
  rw [hx] at hcell ⊢
  have HX : Hid (∀ c, c < 4 → w.cell? ⟨b, off + i * 9 + 1 + c, none⟩ = some (.int .u64 (St.wd x.s c : Nat))) := fun c hc => by
    rw [Nat.add_assoc]
    refine (hcell (1 + c) (by omega)).trans ?_
    match c, hc with
    | 0, _ | 1, _ | 2, _ | 3, _ => rfl
  have HL : Hid _ := hl
  have Hwi : Hid (IntKind.i64.wrap ((i : Int) + 1) = ((i + 1 : Nat) : Int)) := iw_nat (i + 1) (by omega)
  have hi' : i < 1048576 := by omega
  obtain ⟨R, hRr⟩ : ∃ R, (if Nt.hasAt s at' x then l ++ [(i + 1, bg)] else l) = R := ⟨_, rfl⟩
  rw [hRr]
  have HRR : Hid _ := hRr
  clear hR hC hl hcell hx hRr
  by_cases he : at' = s.size
  · have HN : Hid (Nt.hasAt s at' x = false) := by show _ = _; rw [Nt.hasAt, dif_neg (by omega)]
    have d : ((at' : Int) == (s.size : Int)) = true := by simp; omega
    clear he
    go_enter Tryd.func68, Tryd.ntmps68
    go_wp2_with fail
    go_ret
    exact ⟨tv, rfl, by rw [← HRR.out, HN.out]; exact World.ownsRow.alloc HL.out _, World.grownBy_alloc w _ _, .inl rfl⟩
  have hat2 : at' < s.size := by omega
  have d : ((at' : Int) == (s.size : Int)) = false := by simp; omega
  have HN : Hid (Nt.hasAt s at' x = x.s (s[at']).toNat) := by show _ = _; rw [Nt.hasAt, dif_pos hat2]
  clear he
  have hc := UInt8.toNat_lt (s[at'])
  have hx := HX.out ((s[at']).toNat / 64) (by omega)
  have hq := Nt.not_bit x.s (c := (s[at']).toNat) rfl
  have P0 : (w.alloc (.cells #[.int .i64 (i : Int), .int .i64 (bg : Int)] 120)).heap[w.heap.size]? = some (.cells #[.int .i64 (i : Int), .int .i64 (bg : Int)] 120 (0, 0)) := heap_alloc_new w _
  have hB : Below w.heap.size w (w.alloc (.cells #[.int .i64 (i : Int), .int .i64 (bg : Int)] 120)) := (Below.refl _ _).alloc (Nat.le_refl _) _
  have hO : Nt.Wy (w.alloc (.cells #[.int .i64 (i : Int), .int .i64 (bg : Int)] 120)) B tv l := World.ownsRow.alloc HL.out _
  have hG : w.grownBy (w.alloc (.cells #[.int .i64 (i : Int), .int .i64 (bg : Int)] 120)) tv.ownBlock := World.grownBy_alloc w _ _
  have hsW : (w.alloc (.cells #[.int .i64 (i : Int), .int .i64 (bg : Int)] 120)).heap.size = w.heap.size + 1 := by simp
  obtain ⟨W, hW⟩ : ∃ W, W = w.alloc (.cells #[.int .i64 (i : Int), .int .i64 (bg : Int)] 120) := ⟨_, rfl⟩
  rw [← hW] at P0 hB hO hG hsW
  have p0 : W.cell? ⟨w.heap.size, 0, none⟩ = some (.int .i64 (i : Int)) := cell_of_row _ _ _ _ _ _ P0
  have p1 : W.cell? ⟨w.heap.size, 1, none⟩ = some (.int .i64 (bg : Int)) := cell_of_row _ _ _ _ _ _ P0
  have q0 : W.cell? ⟨rb, 0, none⟩ = _ := (hB.cell (p := ⟨rb, 0, none⟩) hlt).trans l0
  have q1 : W.cell? ⟨rb, 1, none⟩ = _ := (hB.cell (p := ⟨rb, 1, none⟩) hlt).trans l1
  have qx : W.cell? ⟨b, off + i * 9 + 1 + (s[at']).toNat / 64, none⟩ = _ := (hB.cell (p := ⟨b, off + i * 9 + 1 + (s[at']).toNat / 64, none⟩) (show b < _ by omega)).trans hx
  have HO : Hid _ := hO
  have HG : Hid _ := hG
  clear P0 hB hO hG hx l2 l3 HX HL
  cases hp : x.s (s[at']).toNat
  · rw [hp] at hq HN
    go_enter Tryd.func68, Tryd.ntmps68
    go_wp2_with fail
    rw [← hW]
    clear hW l0 l1
    generalize hce : (s[at']).toNat = c at *
    go_region
    go_wp2_with fail
    go_ret
    exact ⟨tv, rfl, by rw [← HRR.out, HN.out]; exact HO.out.drew, ⟨HG.out.os, HG.out.tape, HG.out.output, HG.out.size, HG.out.block⟩, .inl rfl⟩
  · rw [hp] at hq HN
    go_enter Tryd.func68, Tryd.ntmps68
    go_wp2_with fail
    rw [← hW]
    clear hW l0 l1
    generalize hce : (s[at']).toNat = c at *
    go_region
    go_wp2_with (at_builtin; refine Nt.wpList_append_far _ rfl _ _ 118 rfl B 120 i1 _ 2 16 Tryd.underlying118 hi1 hy0 hy1 hy2 rfl (by decide) tv l.length (Nt.wayC l) rfl (World.ownsRow.drew (World.ownsRow.alloc HO.out _)) ⟨w.heap.size + 1, 0, none⟩ 1 1 [.int .i64 ((i : Int) + 1), .int .i64 (bg : Int)] rfl ?c1 ?c2 ?c3 ?c4 ?c5 ?c6 ?_)
    case c1 => rfl
    case c2 => exact fun j u hu => by have := Nt.two_new W _ _ 120 j u hu; rw [hsW] at this; exact this
    case c3 => exact fun u hu => by simp only [List.mem_cons, List.not_mem_nil, or_false] at hu; rcases hu with rfl | rfl <;> rfl
    case c4 => unfold maxLen; omega
    case c5 => omega
    case c6 => simp; omega
    intro v3 w3 ho hg _ hat3
    have HO3 : Hid _ := ho
    have HG3 : Hid _ := hg
    have HA3 : Hid _ := hat3
    clear ho hg hat3
    go_wp2_with fail
    go_ret
    refine ⟨v3, rfl, ?_, ?_, ?_⟩
    · rw [← HRR.out, HN.out]
      have e : (l ++ [(i + 1, bg)]).length = l.length + 1 := by simp
      show World.ownsRow _ _ _ _ _ _ _
      rw [if_pos rfl, e, Nt.wayC_snoc]
      exact HO3.out
    · exact ⟨HG3.out.os.trans HG.out.os, HG3.out.tape.trans HG.out.tape, HG3.out.output.trans HG.out.output, Nat.le_trans (by simp; omega) HG3.out.size, fun k hk h1 => (HG3.out.block k (by simp; omega) h1).trans (((World.grownBy_alloc W _ tv.ownBlock).block k (by omega) h1).trans (HG.out.block k hk h1))⟩
    · rcases HA3.out with h | h
      · exact .inl h
      · exact .inr ⟨_, h, by omega⟩
end Go.Proofs.YtdiokclbdaojpaaDoor
namespace Go.Proofs.YtdiokclbdaojpaaDoor
namespace Nt
/-- How many instructions were not come to at a place. -/
def opn (m : List Nat) (t : Nat) : Nat := (m.filter (fun x => x != t)).length
theorem opn_set (m : List Nat) (t i : Nat) (hi : i < m.length) (h : m[i] ≠ t) : opn (m.set i t) t + 1 = opn m t := by
  induction m generalizing i with
  | nil => cases hi
  | cons x m ih =>
    cases i with
    | zero =>
      have hx : (x != t) = true := by simpa using h
      simp only [opn, List.set_cons_zero, List.filter_cons, hx]
      simp
    | succ i =>
      have := ih i (by simpa using hi) (by simpa using h)
      simp only [opn, List.set_cons_succ, List.filter_cons] at this ⊢
      split <;> (try simp only [List.length_cons]) <;> omega
theorem opn_le (m : List Nat) (t : Nat) : opn m t ≤ m.length := List.length_filter_le _ _
/-- What is left to be done: it falls with each that is taken. -/
def mu (l m : List Nat) (t : Nat) : Nat := l.length + 2 * opn m t
theorem nxt_len (x : Ins) (i a n : Nat) : (nxt x i a n).length ≤ 2 := by
  unfold nxt
  repeat' split
  all_goals simp
theorem mu_pop (l m : List Nat) (i t : Nat) : mu l m t + 1 = mu (l ++ [i]) m t := by simp [mu]; omega
theorem mu_set {l m : List Nat} {i t : Nat} (hi : i < m.length) (h : m[i] ≠ t) : mu l (m.set i t) t + 3 = mu (l ++ [i]) m t := by
  have := opn_set m t i hi h
  simp only [mu, List.length_append, List.length_singleton]
  omega
theorem mu_go {l m : List Nat} {i t : Nat} (x : Ins) (a n : Nat) (hi : i < m.length) (h : m[i] ≠ t) : mu (l ++ nxt x i a n) (m.set i t) t < mu (l ++ [i]) m t := by
  have := opn_set m t i hi h
  have := nxt_len x i a n
  simp only [mu, List.length_append, List.length_singleton]
  omega
/-- The states come to, given what is left and what was come to, and what was come to behind them. -/
def stF (L : List Ins) (n a : Nat) : Nat → List Nat → List Nat → List Nat × List Nat
  | 0, _, m => ([], m)
  | k + 1, l, m => match l.getLast? with
    | none => ([], m)
    | some i => if m.getD i 0 == a + 1 then stF L n a k l.dropLast m
      else if (L.getD i iEnd).k == 1 || (L.getD i iEnd).k == 12 then (i :: (stF L n a k l.dropLast (m.set i (a + 1))).1, (stF L n a k l.dropLast (m.set i (a + 1))).2)
      else stF L n a k (l.dropLast ++ nxt (L.getD i iEnd) i a n) (m.set i (a + 1))
theorem stF_nil (L : List Ins) (n a k : Nat) (m : List Nat) : stF L n a k [] m = ([], m) := by
  cases k <;> rfl
theorem stF_snoc (L : List Ins) (n a k i : Nat) (l m : List Nat) : stF L n a (k + 1) (l ++ [i]) m = if m.getD i 0 == a + 1 then stF L n a k l m
      else if (L.getD i iEnd).k == 1 || (L.getD i iEnd).k == 12 then (i :: (stF L n a k l (m.set i (a + 1))).1, (stF L n a k l (m.set i (a + 1))).2)
      else stF L n a k (l ++ nxt (L.getD i iEnd) i a n) (m.set i (a + 1)) := by
  rw [stF]
  simp only [List.getLast?_append, List.getLast?_singleton, Option.some_or, List.dropLast_concat]
/-- Where a program leads stays within it. -/
def Leads (L : List Ins) : Prop := ∀ i, i < L.length → ∀ a n, (L.getD i iEnd).k ≠ 12 → ∀ j ∈ nxt (L.getD i iEnd) i a n, j < L.length
/-- Enough fuel is enough. -/
theorem stF_fuel (L : List Ins) (hL : Leads L) (n a : Nat) : ∀ k k' l m, m.length = L.length → (∀ i ∈ l, i < L.length) → mu l m (a + 1) ≤ k → mu l m (a + 1) ≤ k' → stF L n a k l m = stF L n a k' l m := by
  intro k
  induction k with
  | zero =>
    intro k' l m _ _ h _
    have : l = [] := by cases l with
      | nil => rfl
      | cons x l => simp [mu] at h
    subst this
    rw [stF_nil, stF_nil]
  | succ k ih =>
    intro k' l m hm hl h1 h2
    rcases List.eq_nil_or_concat l with rfl | ⟨l, i, rfl⟩
    · rw [stF_nil, stF_nil]
    rw [List.concat_eq_append] at *
    have hi : i < L.length := hl i (by simp)
    have hl2 : ∀ j ∈ l, j < L.length := fun j hj => hl j (by simp [hj])
    have hp := mu_pop l m i (a + 1)
    obtain ⟨k2, rfl⟩ : ∃ k2, k' = k2 + 1 := ⟨k' - 1, by omega⟩
    rw [stF_snoc, stF_snoc]
    have him : i < m.length := by omega
    have hg : m.getD i 0 = m[i] := by rw [List.getD_eq_getElem?_getD, List.getElem?_eq_getElem him]; rfl
    split
    · exact ih k2 l m hm hl2 (by omega) (by omega)
    · rename_i hne
      have hne2 : m[i] ≠ a + 1 := by rw [← hg]; simpa using hne
      have hs := mu_set (l := l) him hne2
      split
      · rw [ih k2 l _ (by simpa using hm) hl2 (by omega) (by omega)]
      · rename_i hk
        have hgo := mu_go (l := l) (L.getD i iEnd) a n him hne2
        refine ih k2 _ _ (by simpa using hm) ?_ (by omega) (by omega)
        intro j hj
        rcases List.mem_append.1 hj with hj | hj
        · exact hl2 j hj
        · exact hL i hi a n (by simp at hk; exact hk.2) j hj
end Nt
end Go.Proofs.YtdiokclbdaojpaaDoor
namespace Go.Proofs.YtdiokclbdaojpaaDoor
open Go Go.RowKit

set_option maxRecDepth 100000 in
set_option maxHeartbeats 4000000 in
theorem states_any (rb : Nat) (x y : Int) (w : World) :
    Calls Tryd.prog 67 #[.pointer (some ⟨rb, 0, none⟩), .int .i64 x, .int .i64 y] w fun e w' => e = .returned (.func (.func 82) #[] #[.pointer (some ⟨w.heap.size, 0, none⟩), .pointer (some ⟨w.heap.size + 1, 0, none⟩), .pointer (some ⟨w.heap.size + 1 + 1, 0, none⟩)]) ∧ w' = ((w.alloc (.cells #[.pointer (some ⟨rb, 0, none⟩)] 95)).alloc (.cells #[.int .i64 x] 3)).alloc (.cells #[.int .i64 y] 3) := by
  go_enter Tryd.func67, Tryd.ntmps67
  go_wp2_with fail
  go_ret
  exact ⟨rfl, rfl⟩

set_option maxRecDepth 100000 in
set_option maxHeartbeats 4000000 in
theorem ends_any (rb : Nat) (x y z : Int) (w : World) :
    Calls Tryd.prog 45 #[.pointer (some ⟨rb, 0, none⟩), .int .i64 x, .int .i64 y, .int .i64 z] w fun e w' => e = .returned (.func (.func 66) #[] #[.pointer (some ⟨w.heap.size + 1 + 1, 0, none⟩), .pointer (some ⟨w.heap.size + 1, 0, none⟩), .pointer (some ⟨w.heap.size + 1 + 1 + 1, 0, none⟩), .pointer (some ⟨w.heap.size, 0, none⟩)]) ∧ w' = (((w.alloc (.cells #[.pointer (some ⟨rb, 0, none⟩)] 95)).alloc (.cells #[.int .i64 x] 3)).alloc (.cells #[.int .i64 y] 3)).alloc (.cells #[.int .i64 z] 3) := by
  go_enter Tryd.func45, Tryd.ntmps45
  go_wp2_with fail
  go_ret
  exact ⟨rfl, rfl⟩
end Go.Proofs.YtdiokclbdaojpaaDoor
