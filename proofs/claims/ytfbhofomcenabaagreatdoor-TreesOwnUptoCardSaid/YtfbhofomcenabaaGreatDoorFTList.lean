/- What trees.List answers. -/
import Derived.Test.YtfbhofomcenabaaGreatDoorTR
import Derived.Test.YtfbhofomcenabaaGreatDoorTU
import Derived.Test.YtfbhofomcenabaaGreatDoorFRnd
import Derived.Test.YtfbhofomcenabaaGreatDoorTH
namespace Go.Proofs.YtfbhofomcenabaaGreatDoor
open Go Go.RowKit

attribute [local go_sem] Oper.semAt_some

namespace Ft
def kpI (x : It) : Kp := (x.1, x.2.2.k, x.2.2.d.size)
theorem kp_wk (T : FT) : ∀ b p, (wkT.wkL b p T.kids).map kpI = listT.listL T.kids p := by
  induction T using FT.ind with
  | h T ih =>
  have key : ∀ (l : List FT), (∀ i (hi : i < l.length) b p, (wkT.wkL b p (l[i]).kids).map kpI = listT.listL (l[i]).kids p) → ∀ b p, (wkT.wkL b p l).map kpI = listT.listL l p := by
    intro l
    induction l with
    | nil => intro _ b p; rw [wkT.wkL, listT.listL]; rfl
    | cons x r ihr =>
      intro h b p
      have h0 := h 0 (by simp) none (p ++ [x.nm])
      simp only [List.getElem_cons_zero] at h0
      rw [wkT.wkL, listT.listL, wk_eq, listT_eq, List.map_append, List.map_cons, h0, ihr (fun i hi => h (i + 1) (by simpa using hi))]
      rfl
  exact key T.kids ih
theorem kp_list (T : FT) : ((wkT none [] T).filter inB).map kpI = listT T [] := by
  rw [listT_eq, ← kp_wk T none [], wk_eq, List.filter_cons_of_neg (by simp [inB]), List.filter_eq_self.2 (fun x hx => by have := wk_long T none [] x hx; simp [inB] at this ⊢; intro e; rw [e] at this; simp at this)]
/-- A row of texts that may be written over. -/
def PthW (w : World) (a : Option Addr) (c : Nat) : Prop := (a = none ∧ c = 0) ∨ ∃ g cur, a = some ⟨g, 0, none⟩ ∧ w.heap[g]? = some (.cells cur 9 (0, 0)) ∧ cur.size = c
/-- A path in a row of its own. -/
def StrW (w : World) (a : Option Addr) (c : Nat) (l : List ByteArray) : Prop := Strs w a c l ∧ PthW w a c
theorem strw_keep {w w' : World} {a : Option Addr} {c : Nat} {l : List ByteArray} (h : StrW w a c l) (hk : True → ∀ ad, a = some ad → w'.heap[ad.block]? = w.heap[ad.block]?) (hs : w.heap.size ≤ w'.heap.size) : StrW w' a c l := by
  refine ⟨strs_keep h.1 (fun _ => hk trivial) hs, ?_⟩
  rcases h.2 with q | ⟨g, cur, e, h1, h2⟩
  · exact .inl q
  · exact .inr ⟨g, cur, e, (hk trivial _ e).trans h1, h2⟩
theorem own_pthw {w : World} {base n c : Nat} {a : Option Addr} {xs : List Value} (h : w.ownsRow base 9 1 (.slice a n c) n xs) : PthW w a c := by
  rcases h.2 with ⟨hv, _⟩ | ⟨g, cap, cur, hv, _, hg, _, _, hs, _⟩
  · injection hv with h1 h2 h3
    exact .inl ⟨h1, h3⟩
  · injection hv with h1 h2 h3
    exact .inr ⟨g, cur, h1, hg, by rw [hs, h3]; omega⟩
/-- The rows of the paths are apart. -/
def AptL (L : List (Kp × Option Addr × Nat)) : Prop := L.Pairwise (fun x y => ∀ ad ad', x.2.1 = some ad → y.2.1 = some ad' → ad.block ≠ ad'.block)
/-- A row of the call's own that reads as a list, each path in a row of its own. -/
def KRowX (w : World) (base : Nat) (v : Value) (l : List Kp) : Prop :=
  ∃ L : List (Kp × Option Addr × Nat), L.map (·.1) = l ∧ w.ownsRow base 47 3 v L.length (kcells L) ∧ (∀ y ∈ L, StrW w y.2.1 y.2.2 y.1.1 ∧ ∀ ad, y.2.1 = some ad → base ≤ ad.block ∧ some ad.block ≠ v.ownBlock) ∧ AptL L
theorem KRowX.row {w : World} {base : Nat} {v : Value} {l : List Kp} (h : KRowX w base v l) : KRow w base v l := by
  obtain ⟨L, h1, h2, h3⟩ := h
  exact ⟨L, h1, h2, fun y hy => ⟨(h3.1 y hy).1.1, fun _ => (h3.1 y hy).2⟩⟩
theorem KRowX.empty (w : World) (base : Nat) : KRowX w base (.slice none 0 0) [] := ⟨[], rfl, World.ownsRow_nil _ _ _ _, fun x h => (by cases h), List.Pairwise.nil⟩
/-- What holds between two rounds of List. -/
def LsI (w : World) (n : Nat) (O : Nat → Prop) (pre : List Wy) (W : World) : Prop :=
  ∃ v L, W.heap[n]? = some (.cells #[v] 43 (0, 0)) ∧ L.map (·.1) = pre.map (fun x => kpI x.it) ∧ W.ownsRow (n + 2) 47 3 v L.length (kcells L) ∧
    ((∀ y ∈ L, StrW W y.2.1 y.2.2 y.1.1 ∧ (∀ ad, y.2.1 = some ad → n + 2 ≤ ad.block ∧ ad.block < W.heap.size ∧ some ad.block ≠ v.ownBlock ∧ ¬ O ad.block)) ∧ AptL L) ∧ (∀ k, v.ownBlock = some k → ¬ O k) ∧
    Below w.heap.size w W ∧ w.heap.size ≤ n ∧ n + 2 ≤ W.heap.size ∧ ∀ k, O k → n + 2 ≤ k ∧ k < W.heap.size
theorem ls_abi (w : World) (n : Nat) : Abi (LsI w n) := by
  rintro O O' pre A B ⟨v, L, h0, h1, h2, h3, hv, h4, hn, h5, h6⟩ hT hO
  have hs := hT.size
  have hk : ∀ k, k < A.heap.size → ¬ O k → B.heap[k]? = A.heap[k]? := fun k hk hno => hT.block k hk hno
  have hnO : ¬ O n := fun e => by have := h6 n e; omega
  refine ⟨v, L, (hk n (by omega) hnO).trans h0, h1, own_kept h2 (fun k e => hk k (h2.lt k e).2 (hv k e)), ⟨fun y hy => ?_, h3.2⟩, fun k e hk' => ?_, ⟨hT.os.trans h4.os, hT.tape.trans h4.tape, hT.output.trans h4.output, by omega, fun k hk2 => (hk k (by omega) (fun e => by have := h6 k e; omega)).trans (h4.block k hk2)⟩, hn, by omega, fun k hk' => ⟨(hO k hk').1.elim (fun e => (h6 k e).1) (fun e => by omega), (hO k hk').2⟩⟩
  · obtain ⟨y1, y2⟩ := h3.1 y hy
    refine ⟨strw_keep y1 (fun _ ad e => hk _ (y2 ad e).2.1 (y2 ad e).2.2.2) hs, fun ad e => ⟨(y2 ad e).1, by have := (y2 ad e).2.1; omega, (y2 ad e).2.2.1, fun q => ?_⟩⟩
    rcases (hO _ q).1 with h | h
    · exact (y2 ad e).2.2.2 h
    · have := (y2 ad e).2.1; omega
  · rcases (hO k hk').1 with h | h
    · exact hv k e h
    · have := (h2.lt k e).2; omega
/-- What a round of List leaves. -/
theorem ls_close {w V w2 w4 : World} {n : Nat} {O : Nat → Prop} {pre : List Wy} {x : Wy} {v : Value} {L : List (Kp × Option Addr × Nat)} {qa : Option Addr} {qc g c : Nat} {o : Obj}
    (h0 : V.heap[n]? = some (.cells #[v] 43 (0, 0))) (hL : L.map (·.1) = pre.map (fun x => kpI x.it)) (hr : V.ownsRow (n + 2) 47 3 v L.length (kcells L))
    (hy : ∀ y ∈ L, StrW V y.2.1 y.2.2 y.1.1 ∧ (∀ ad, y.2.1 = some ad → n + 2 ≤ ad.block ∧ ad.block < V.heap.size ∧ some ad.block ≠ v.ownBlock ∧ ¬ O ad.block)) (hpw : AptL L) (hv : ∀ k, v.ownBlock = some k → ¬ O k)
    (h4 : Below w.heap.size w V) (hn : w.heap.size + 1 ≤ n) (h5 : n + 2 ≤ V.heap.size) (h6 : ∀ k, O k → n + 2 ≤ k ∧ k < V.heap.size)
    (b2 : Below V.heap.size V w2) (hq : StrW w2 qa qc x.p) (hqa : ∀ ad, qa = some ad → V.heap.size ≤ ad.block ∧ ad.block < w2.heap.size)
    (own : w4.ownsRow (n + 2) 47 3 (.slice (some ⟨g, 0, none⟩) (L.length + 1) c) (L.length + 1) (kcells L ++ kpL ((x.p, x.T.k, x.T.d.size), qa, qc)))
    (gr : (w2.alloc o).grownBy w4 v.ownBlock) (hat : v.ownBlock = some g ∨ g = w2.heap.size + 1) (_hg : g < w4.heap.size) :
    Ke (fun k => O k ∨ k < w.heap.size + 1) V (w4.setCell ⟨n, 0, none⟩ (.slice (some ⟨g, 0, none⟩) (L.length + 1) c)) ∧ LsI w n O (pre ++ [x]) (w4.setCell ⟨n, 0, none⟩ (.slice (some ⟨g, 0, none⟩) (L.length + 1) c)) := by
  have s2 := b2.size
  have s4 : w2.heap.size + 1 ≤ w4.heap.size := by have := gr.size; simpa using this
  have s5 : (w4.setCell ⟨n, 0, none⟩ (.slice (some ⟨g, 0, none⟩) (L.length + 1) c)).heap.size = w4.heap.size := by simp
  have hob : ∀ k, v.ownBlock = some k → n + 2 ≤ k ∧ k < V.heap.size := fun k e => ⟨own_base hr e, (hr.lt k e).2⟩
  have hblk2 : ∀ k, k < w2.heap.size → v.ownBlock ≠ some k → w4.heap[k]? = w2.heap[k]? := fun k hk hne => by
    rw [gr.block k (by simp; omega) (fun e => hne e.symm), heap_alloc_old _ _ hk]
  have hblk4 : ∀ k, k < V.heap.size → v.ownBlock ≠ some k → w4.heap[k]? = V.heap[k]? := fun k hk hne => (hblk2 k (by omega) hne).trans (b2.block k hk)
  have hset : ∀ k, k ≠ n → (w4.setCell ⟨n, 0, none⟩ (.slice (some ⟨g, 0, none⟩) (L.length + 1) c)).heap[k]? = w4.heap[k]? := fun k hk => heap_setCell_other w4 ⟨n, 0, none⟩ k _ hk
  have hn4 : w4.heap[n]? = some (.cells #[v] 43 (0, 0)) := (hblk4 n (by omega) (fun e => by have := hob n e; omega)).trans h0
  have hB : Below w.heap.size w w4 := ((h4.trans (b2.mono (by omega))).alloc (by omega) o).grown gr (by simp; omega) (fun k e => by have := hob k e; omega)
  refine ⟨⟨by omega, fun k hk => ?_⟩, .slice (some ⟨g, 0, none⟩) (L.length + 1) c, L ++ [((x.p, x.T.k, x.T.d.size), qa, qc)], ?_, ?_, ?_, ⟨fun y hy' => ?_, List.pairwise_append.2 ⟨hpw, List.pairwise_singleton _ _, fun y hy' z hz ad ad' e e' => by
    rw [List.mem_singleton.1 hz] at e'
    have h8 := ((hy y hy').2 ad e).2.1
    have h9 := (hqa ad' e').1
    omega⟩⟩, fun k e hO => ?_, hB.setCell (p := ⟨n, 0, none⟩) (by show _ ≤ n; omega) _, by omega, by omega, fun k hk => ⟨(h6 k hk).1, by have := h6 k hk; omega⟩⟩
  · rcases hk with hk | hk
    · rw [hset k (by have := h6 k hk; omega)]; exact hblk4 k (h6 k hk).2 (fun e => hv k e hk)
    · rw [hset k (by omega)]; exact hblk4 k (by omega) (fun e => by have := hob k e; omega)
  · rw [heap_setCell_same w4 n 0 _ _ _ hn4]; rfl
  · rw [List.map_append, List.map_append, hL]; rfl
  · rw [List.length_append, kcells_app]
    have h := ownsRow_setCell_below (a := ⟨n, 0, none⟩) own (show n < n + 2 by omega) (.slice (some ⟨g, 0, none⟩) (L.length + 1) c)
    simpa [kcells] using h
  · have hgO : ∀ ad : Addr, (n + 2 ≤ ad.block ∧ ad.block < w2.heap.size ∧ some ad.block ≠ v.ownBlock) → some ad.block ≠ some g := fun ad h e => by
      have e : ad.block = g := Option.some.inj e
      rcases hat with q | q
      · exact h.2.2 (by rw [q, e])
      · omega
    rcases List.mem_append.1 hy' with hy' | hy'
    · obtain ⟨y1, y2⟩ := hy y hy'
      refine ⟨strw_keep y1 (fun _ ad e => ?_) (by omega), fun ad e => ?_⟩
      · obtain ⟨z1, z2, z3, z4⟩ := y2 ad e
        rw [hset _ (by omega)]; exact hblk4 _ z2 (fun q => z3 q.symm)
      · obtain ⟨z1, z2, z3, z4⟩ := y2 ad e
        exact ⟨z1, by omega, hgO ad ⟨z1, by omega, z3⟩, z4⟩
    · rw [List.mem_singleton.1 hy']
      refine ⟨strw_keep hq (fun _ ad e => ?_) (by omega), fun ad e => ?_⟩
      · obtain ⟨z1, z2⟩ := hqa ad e
        rw [hset _ (by omega)]; exact hblk2 _ z2 (fun q => by have := hob _ q; omega)
      · obtain ⟨z1, z2⟩ := hqa ad e
        exact ⟨by omega, by omega, hgO ad ⟨by omega, z2, fun q => by have := hob _ q.symm; omega⟩, fun q => by have := h6 _ q; omega⟩
  · have e : some g = some k := e
    have e : g = k := Option.some.inj e
    rcases hat with q | q
    · exact hv g q (e ▸ hO)
    · have := h6 k hO; omega
end Ft

set_option maxRecDepth 100000 in
set_option maxHeartbeats 4000000 in
theorem tlist_in (T : Ft.FT) (a : Option Addr) (cap : Nat) (w : World) (hN : Ft.Fd w (· < w.heap.size) T a cap) (hz : Ft.szT T = true) (hc : (Ft.listT T []).length ≤ 1048576) :
    CallsIn Fence.wide 4 Tryz.prog 20 #[Ft.fdV T a cap] w fun e w' => ∃ v, e = .returned (.tuple #[v, .int .i64 (Ft.lstC T)]) ∧ Ft.KRowX w' w.heap.size v (Ft.lstR T) ∧ Below w.heap.size w w' := by
  obtain ⟨i0, hi0, hz0, hz1, hz2⟩ := info_parts Tryz.infoKept
  obtain ⟨W1, hW1⟩ : ∃ W1, W1 = w.alloc (.cells (Ft.fdA T a cap) 25) := ⟨_, rfl⟩
  have hB1 : Below w.heap.size w W1 := by rw [hW1]; exact (Below.refl _ _).alloc (Nat.le_refl _) _
  have hF1 : Ft.FileAt W1 w.heap.size T a cap := by rw [hW1]; exact Ft.file_new w T a cap
  have hs1 : W1.heap.size = w.heap.size + 1 := by rw [hW1]; simp
  have C1 := tchk T a cap W1 ((hN.under hB1).mono (fun b (h : b < _) => by omega)) hz
  obtain ⟨q0, q1, q2, q3⟩ := hF1.four
  have HW1 : Hid (W1 = w.alloc (.cells #[.string T.nm, .int .u8 (T.k : Int), .string T.d, .slice a T.kids.length cap] 25)) := hW1
  have HCn : Hid _ := hc
  have HN : Hid _ := hN
  have HZ : Hid _ := hz
  have HF1 : Hid _ := hF1
  have HB1 : Hid _ := hB1
  have hk := hN.room.1
  clear hW1 hN hz hF1 hB1 hc
  simp only [Ft.fdV, Ft.fdA] at C1 ⊢
  refine callsIn_of_wp_marks Tryz.func20 rfl trivial ?_ rfl
  simp only [Tryz.ntmps20, List.size_toArray, List.length_cons, List.length_nil, Nat.reduceAdd, Nat.reduceSub, Array.replicate_succ, Array.replicate_zero, List.push_toArray, List.append_toArray, List.nil_append, List.cons_append]
  gi_wp2_with fail
  rw [← HW1.out]
  refine ⟨trivial, ?_⟩
  refine CallsIn.mono (callsIn_wide.2 C1) ?_
  clear C1
  rintro e w1 ⟨⟨v0, rfl⟩, b1⟩
  have hF2 := Ft.FileAt.under HF1.out b1
  have hB2 : Below w.heap.size w w1 := HB1.out.trans (b1.mono (by omega))
  have hs2 := b1.size
  obtain ⟨r0, r1, r2, r3⟩ := hF2.four
  cases hr : Ft.rightT T
  · have HE : Hid (Ft.lstR T = [] ∧ Ft.lstC T = 30) := by unfold Hid Ft.lstR Ft.lstC; rw [hr]; exact ⟨rfl, rfl⟩
    have HB2 : Hid _ := hB2
    rw [HE.out.2]
    clear b1 hF2 hB2 hr
    gi_wp2_with fail
    refine ⟨_, results_tmp2 rfl _ _ _, .slice none 0 0, ?_, ?_, HB2.out⟩
    · rw [HE.out.2]; rfl
    · rw [HE.out.1]; exact Ft.KRowX.empty _ _
  · have HE : Hid (Ft.lstR T = Ft.listT T [] ∧ Ft.lstC T = 0) := by unfold Hid Ft.lstR Ft.lstC; rw [hr]; exact ⟨rfl, rfl⟩
    rw [HE.out.2]
    obtain ⟨W0, hW0⟩ : ∃ W0, W0 = (w1.alloc (.cells #[.slice none 0 0] 43)).alloc (.cells #[.pointer (some ⟨w.heap.size, 0, none⟩)] 69) := ⟨_, rfl⟩
    have hB0 : Below w1.heap.size w1 W0 := by rw [hW0]; exact ((Below.refl _ _).alloc (Nat.le_refl _) _).alloc (by simp) _
    have hs0 : W0.heap.size = w1.heap.size + 2 := by rw [hW0]; simp
    have hrow : W0.heap[w1.heap.size]? = some (.cells #[.slice none 0 0] 43 (0, 0)) := by rw [hW0]; exact (Below.heap_alloc _ _ _ (by simp)).trans (heap_alloc_new w1 _)
    have f3 : W0.cell? ⟨w1.heap.size + 1, 0, none⟩ = some (.pointer (some ⟨w.heap.size, 0, none⟩)) := by
      rw [hW0]
      have h := heap_alloc_new (w1.alloc (.cells #[.slice none 0 0] 43)) (.cells #[.pointer (some ⟨w.heap.size, 0, none⟩)] 69)
      rw [World.size_alloc] at h
      rw [cell_of_row _ _ _ _ _ _ h]
      rfl
    have hF0 := hF2.under hB0
    have hN0 : Ft.Fd W0 (· < w.heap.size + 1) T a cap := HN.out.same (fun b (h : b < _) => (hB0.block b (by omega)).trans (hB2.block b h)) (fun b (h : b < _) => by show _ < _; omega)
    have HW0 : Hid (W0 = (w1.alloc (.cells #[.slice none 0 0] 43)).alloc (.cells #[.pointer (some ⟨w.heap.size, 0, none⟩)] 69)) := hW0
    have hSq := inside1_seq 3 (w.heap.size + 1) (w1.heap.size + 1) w.heap.size (· < w.heap.size + 1) T a cap W0 (by omega) f3 (by omega) (by show _ < _; omega) hF0.four hN0 (fun _ h => h) (by omega)
    have HBw : Hid (Below w.heap.size w W0) := hB2.trans (hB0.mono (by omega))
    have HRw : Hid _ := hrow
    have HHr : Hid _ := hr
    have hzs : W1.heap.size ≤ w1.heap.size := hs2
    clear b1 hF2 hB2 hB0 hrow f3 hF0 hN0 hW0 hr
    gi_wp2_with (refine ⟨trivial, ?_⟩; gi_at_call 35; refine (tinside_in Fence.wide 3 trivial rfl _ _).mono ?_; rintro e w' ⟨rfl, rfl⟩)
    rw [← HW0.out]
    refine wpIn_rangeW rfl (by omega) (gf := 71) (lb := #[.pointer (some ⟨w1.heap.size + 1, 0, none⟩)]) rfl trivial (enters_of Tryz.func71 (by kernel_rfl) rfl)
      hSq (fun _ h => h.elim) (fun k (h : k < _) => by omega) (fun _ _ _ _ h _ => h) (fun x O A C h hk => h.kept hk) (fun _ => rfl)
      (Ft.LsI w w1.heap.size) Ft.PrX (Ft.ls_abi w w1.heap.size) Ft.pr_abiX ?init
      (fun _ _ _ => True) (fun _ _ _ _ _ _ => trivial)
      (fun x _ => { tmps := #[.agg #[.string T.nm, .int .u8 (T.k : Int), .string T.d, .slice a T.kids.length cap], .pointer (some ⟨w.heap.size, 0, none⟩), .slice none 0 0, .int .i64 0, .int .i64 0, v0, .pointer (some ⟨w1.heap.size, 0, none⟩), .slice x.ap x.p.length x.cp, .pointer (some ⟨x.b, x.o, none⟩), .tuple #[.int .i64 0, v0], .agg #[.string T.nm, .int .u8 (T.k : Int), .string T.d, .slice a T.kids.length cap], .tuple #[.int .i64 0, v0], .int .i64 0, v0, .int .i64 0, .bool false, undef, .func (.func 71) #[] #[.pointer (some ⟨w1.heap.size + 1, 0, none⟩)], .slice x.ap x.p.length x.cp, .pointer (some ⟨x.b, x.o, none⟩), undef, undef, undef, undef, undef, undef, undef, undef, undef, undef, undef, undef, undef, undef, undef, undef], defers := [] }) ?assign ?body ?done ?stop
    case init =>
      intro O W hT hO
      have hs := hT.size
      have hB0 : Below W0.heap.size W0 W := ⟨hT.os, hT.tape, hT.output, hT.size, fun k h => hT.block k h id⟩
      exact ⟨_, [], (hB0.block _ (by omega)).trans HRw.out, rfl, World.ownsRow_nil _ _ _ _, ⟨fun y h => (by cases h), List.Pairwise.nil⟩, fun k e => (by cases e), HBw.out.trans (hB0.mono (by omega)), by omega, by omega, fun k h => ⟨(hO k h).1.elim (fun e => e.elim) (fun e => by omega), (hO k h).2⟩⟩
    case assign =>
      intro l x V K hK
      simp only [Ft.Wy.two]
      gi_wp2
      exact hK _ (Tu.refl _ V) trivial
    case body =>
      rintro l O pre x g V _ ⟨v, L, h0, hL, hr, ⟨hy, hpw⟩, hv, h4, hn, h5, h6⟩ ⟨O1, hU, hO1⟩ ⟨h65, hx0⟩ hlen2 hPf
      have hmem : x.it ∈ (Ft.wkT none [] T).filter Ft.inB := by
        obtain ⟨r, e⟩ := hPf
        rw [← e]
        simp
      have hmem2 : x.it ∈ Ft.wkT none [] T := (List.mem_filter.1 hmem).1
      obtain ⟨hnm, hne, h64, _, hd⟩ := Ft.wk_in HHr.out HZ.out hmem2 hx0
      have hnm : ∀ s ∈ x.p, Pl.nameB s = true := hnm
      have hd : x.T.d.size ≤ 1048576 := hd
      have h64 : x.p.length ≤ 64 := h64
      have hsz : ∀ s ∈ x.p, s.size ≤ 1048576 := fun s hs => by have := Pl.name_size (hnm s hs); omega
      have hFs : Strs V x.ap x.cp x.p := Ft.wy_strs hU h65 hsz
      have hZl : x.b < w.heap.size + 1 := hU.lies
      have k1 := hU.four.c1
      have k2 := hU.four.c2
      have hLl : L.length + 1 ≤ 1048576 := by
        have e1 := congrArg List.length hL
        have e2 := hPf.length_le
        have e3 := congrArg List.length (Ft.kp_list T)
        have e4 := HCn.out
        rw [List.length_map, List.length_map] at e1
        rw [List.length_map, List.length_append] at e2
        rw [List.length_map] at e3
        simp at e2
        omega
      have c0 : V.cell? ⟨w1.heap.size, 0, none⟩ = some v := by rw [cell_of_row V _ _ _ _ _ h0]; rfl
      have hxb : x.b < V.heap.size := by omega
      have hxn : x.b ≠ w1.heap.size := by omega
      have hbD : Below V.heap.size V V.drew := (Below.refl _ V).drew
      have CF := fresh_any x.ap x.cp x.p V.drew (hFs.below hbD) (by omega)
      have HCF : Hid _ := CF
      have HG : Hid (∀ (vf : Value) (w2 : World), w2.ownsRow V.drew.heap.size 9 1 vf x.p.length (x.p.map Value.string) → Below V.drew.heap.size V.drew w2 → ∃ qa qc, vf = .slice qa x.p.length qc ∧ Ft.StrW w2 qa qc x.p ∧ (∀ ad, qa = some ad → V.heap.size ≤ ad.block ∧ ad.block < w2.heap.size) ∧ w2.cell? ⟨w1.heap.size, 0, none⟩ = some v ∧ w1.heap.size < w2.heap.size ∧ w2.cell? ⟨x.b, x.o + 1, none⟩ = some (.int .u8 (x.T.k : Int)) ∧ w2.cell? ⟨x.b, x.o + 2, none⟩ = some (.string x.T.d) ∧ Below V.heap.size V w2) := by
        intro vf w2 ho b2
        obtain ⟨qa, qc, rfl, hq⟩ := own_strs ho (by omega) (fun s hs => by have := hsz s hs; omega)
        have hb2 : Below V.heap.size V w2 := hbD.trans b2
        have hs2 := hb2.size
        exact ⟨qa, qc, rfl, ⟨hq, Ft.own_pthw ho⟩, fun ad e => by subst e; exact ho.lt ad.block rfl, (hb2.cell (p := ⟨w1.heap.size, 0, none⟩) (by show w1.heap.size < _; omega)).trans c0, by omega, (hb2.cell (p := ⟨x.b, x.o + 1, none⟩) hxb).trans k1, (hb2.cell (p := ⟨x.b, x.o + 2, none⟩) hxb).trans k2, hb2⟩
      have HA : Hid (∀ (w2 : World) (o : Obj), w2.cell? ⟨x.b, x.o + 1, none⟩ = some (.int .u8 (x.T.k : Int)) → w2.cell? ⟨x.b, x.o + 2, none⟩ = some (.string x.T.d) → (w2.alloc o).cell? ⟨x.b, x.o + 1, none⟩ = some (.int .u8 (x.T.k : Int)) ∧ (w2.alloc o).cell? ⟨x.b, x.o + 2, none⟩ = some (.string x.T.d)) := fun w2 o e1 e2 =>
        ⟨(((Below.refl w2.heap.size w2).alloc (Nat.le_refl _) o).cell (p := ⟨x.b, x.o + 1, none⟩) (World.block_lt_of_cell? w2 _ e1)).trans e1, (((Below.refl w2.heap.size w2).alloc (Nat.le_refl _) o).cell (p := ⟨x.b, x.o + 2, none⟩) (World.block_lt_of_cell? w2 _ e2)).trans e2⟩
      have HO : Hid (∀ (w2 : World) (o : Obj), Below V.heap.size V w2 → (w2.alloc o).ownsRow (w1.heap.size + 2) 47 3 v L.length (Ft.kcells L)) := fun w2 o hb => World.ownsRow.alloc (own_below hr hb) o
      have HK1 : Hid (∀ (qa : Option Addr) (qc : Nat), ∀ u ∈ Ft.kpL ((x.p, x.T.k, x.T.d.size), qa, qc), u.oneCell' = true) := fun qa qc u hu => Ft.kcells_one [((x.p, x.T.k, x.T.d.size), qa, qc)] u (by simpa [Ft.kcells] using hu)
      have HE4 : Hid (∀ (w2 : World) (qa : Option Addr) (qc g c : Nat) (w4 : World), Below V.heap.size V w2 → Ft.StrW w2 qa qc x.p → (∀ ad, qa = some ad → V.heap.size ≤ ad.block ∧ ad.block < w2.heap.size) →
          w4.ownsRow (w1.heap.size + 2) 47 3 (.slice (some ⟨g, 0, none⟩) (L.length + 1) c) (L.length + 1) (Ft.kcells L ++ Ft.kpL ((x.p, x.T.k, x.T.d.size), qa, qc)) → (w2.alloc (.cells #[.slice qa x.p.length qc, .int .u8 (x.T.k : Int), .int .i64 x.T.d.size] 47)).grownBy w4 v.ownBlock → (v.ownBlock = some g ∨ g = w2.heap.size + 1) → g < w4.heap.size →
          w4.cell? ⟨w1.heap.size, 0, none⟩ = some v ∧ w4.frozen? ⟨w1.heap.size, 0, none⟩ = false ∧ w4.cell? ⟨x.b, x.o + 1, none⟩ = some (.int .u8 (x.T.k : Int)) ∧ w4.cell? ⟨x.b, x.o + 2, none⟩ = some (.string x.T.d) ∧
          (Ke (fun k => O k ∨ k < w.heap.size + 1) V (w4.setCell ⟨w1.heap.size, 0, none⟩ (.slice (some ⟨g, 0, none⟩) (L.length + 1) c)) ∧ Ft.LsI w w1.heap.size O (pre ++ [x]) (w4.setCell ⟨w1.heap.size, 0, none⟩ (.slice (some ⟨g, 0, none⟩) (L.length + 1) c)))) := by
        intro w2 qa qc g c w4 hb2 hq hqa own gr hat hg
        have hob : ∀ k, v.ownBlock = some k → w1.heap.size + 2 ≤ k := fun k e => own_base hr e
        have hs2 := hb2.size
        have hblk : ∀ k, k < w1.heap.size + 1 → w4.heap[k]? = V.heap[k]? := fun k hk => by
          rw [gr.block k (by simp; omega) (fun e => by have := hob k e.symm; omega), heap_alloc_old _ _ (by omega)]
          exact hb2.block k (by omega)
        have hrow : w4.heap[w1.heap.size]? = some (.cells #[v] 43 (0, 0)) := (hblk _ (by omega)).trans h0
        exact ⟨by rw [cell_of_row w4 _ _ _ _ _ hrow]; rfl, frozen_of_row w4 _ 0 _ _ hrow, (World.cell?_of_block (hblk x.b (by omega))).trans k1, (World.cell?_of_block (hblk x.b (by omega))).trans k2,
          Ft.ls_close h0 hL hr hy hpw hv h4 (by omega) h5 h6 hb2 hq hqa own gr hat hg⟩
      have HB5 : Hid (∀ (w4 : World) (u : Value), w4.cell? ⟨x.b, x.o + 1, none⟩ = some (.int .u8 (x.T.k : Int)) → w4.cell? ⟨x.b, x.o + 2, none⟩ = some (.string x.T.d) → (w4.setCell ⟨w1.heap.size, 0, none⟩ u).cell? ⟨x.b, x.o + 1, none⟩ = some (.int .u8 (x.T.k : Int)) ∧ (w4.setCell ⟨w1.heap.size, 0, none⟩ u).cell? ⟨x.b, x.o + 2, none⟩ = some (.string x.T.d)) := fun w4 u e1 e2 =>
        ⟨(World.cell?_of_block (heap_setCell_other w4 ⟨w1.heap.size, 0, none⟩ x.b u hxn)).trans e1, (World.cell?_of_block (heap_setCell_other w4 ⟨w1.heap.size, 0, none⟩ x.b u hxn)).trans e2⟩
      have HV5 : Hid (w1.heap.size + 2 ≤ V.heap.size) := h5
      clear h0 hL hr hy hpw hv h4 hn h6 hU hO1 hPf hmem hmem2 hnm hne hsz hFs CF hbD
      gi_wp2_with fail
      refine wpIn_region_round (by kernel_rfl) (by kernel_rfl) (fun h => by obtain ⟨_, _, h⟩ := h; exact h) ?_
      refine wpAny_of_held (S := fun W' => W'.cell? ⟨x.b, x.o + 1, none⟩ = some (.int .u8 (x.T.k : Int)) ∧ W'.cell? ⟨x.b, x.o + 2, none⟩ = some (.string x.T.d)) _ _ _ _ ?_
      have HS0 : V.drew.cell? ⟨x.b, x.o + 1, none⟩ = some (.int .u8 (x.T.k : Int)) ∧ V.drew.cell? ⟨x.b, x.o + 2, none⟩ = some (.string x.T.d) := ⟨k1, k2⟩
      have c0d : V.drew.cell? ⟨w1.heap.size, 0, none⟩ = some v := c0
      refine wpAnyH_take (i := 1) (v := .slice x.ap x.p.length x.cp) rfl (by kernel_rfl) (by kernel_rfl) (by kernel_rfl) (fun _ _ _ h => h) (Or.inl ⟨by rfl, ?_⟩) HS0 ?_
      · intro w9 hw9; obtain ⟨s1, s2⟩ := hw9; go_simp
      change wpAnyH Tryz.prog .any _ _ _ _ _ { tmps := #[.agg #[.string T.nm, .int .u8 (T.k : Int), .string T.d, .slice a T.kids.length cap], .pointer (some ⟨w.heap.size, 0, none⟩), .slice none 0 0, .int .i64 0, .int .i64 0, v0, .pointer (some ⟨w1.heap.size, 0, none⟩), .slice x.ap x.p.length x.cp, .pointer (some ⟨x.b, x.o, none⟩), .tuple #[.int .i64 0, v0], .agg #[.string T.nm, .int .u8 (T.k : Int), .string T.d, .slice a T.kids.length cap], .tuple #[.int .i64 0, v0], .int .i64 0, v0, .int .i64 0, .bool false, undef, .func (.func 71) #[] #[.pointer (some ⟨w1.heap.size + 1, 0, none⟩)], .slice x.ap x.p.length x.cp, .pointer (some ⟨x.b, x.o, none⟩), undef, .slice x.ap x.p.length x.cp, undef, undef, undef, undef, undef, undef, undef, undef, undef, undef, undef, undef, undef, undef], defers := [] } V.drew
      refine wpAnyH_take (i := 3) (v := .pointer (some ⟨x.b, x.o, none⟩)) rfl (by kernel_rfl) (by kernel_rfl) (by kernel_rfl) (fun _ _ _ h => h) (Or.inl ⟨by rfl, ?_⟩) HS0 ?_
      · intro w9 hw9; obtain ⟨s1, s2⟩ := hw9; go_simp
      change wpAnyH Tryz.prog .any _ _ _ _ _ { tmps := #[.agg #[.string T.nm, .int .u8 (T.k : Int), .string T.d, .slice a T.kids.length cap], .pointer (some ⟨w.heap.size, 0, none⟩), .slice none 0 0, .int .i64 0, .int .i64 0, v0, .pointer (some ⟨w1.heap.size, 0, none⟩), .slice x.ap x.p.length x.cp, .pointer (some ⟨x.b, x.o, none⟩), .tuple #[.int .i64 0, v0], .agg #[.string T.nm, .int .u8 (T.k : Int), .string T.d, .slice a T.kids.length cap], .tuple #[.int .i64 0, v0], .int .i64 0, v0, .int .i64 0, .bool false, undef, .func (.func 71) #[] #[.pointer (some ⟨w1.heap.size + 1, 0, none⟩)], .slice x.ap x.p.length x.cp, .pointer (some ⟨x.b, x.o, none⟩), undef, .slice x.ap x.p.length x.cp, undef, .pointer (some ⟨x.b, x.o, none⟩), undef, undef, undef, undef, undef, undef, undef, undef, undef, undef, undef, undef], defers := [] } V.drew
      refine wpAnyH_take (i := 4) (v := .pointer (some ⟨x.b, x.o, none⟩)) rfl (by kernel_rfl) (by kernel_rfl) (by kernel_rfl) (fun _ _ _ h => h) (Or.inl ⟨by rfl, ?_⟩) HS0 ?_
      · intro w9 hw9; obtain ⟨s1, s2⟩ := hw9; go_simp
      change wpAnyH Tryz.prog .any _ _ _ _ _ { tmps := #[.agg #[.string T.nm, .int .u8 (T.k : Int), .string T.d, .slice a T.kids.length cap], .pointer (some ⟨w.heap.size, 0, none⟩), .slice none 0 0, .int .i64 0, .int .i64 0, v0, .pointer (some ⟨w1.heap.size, 0, none⟩), .slice x.ap x.p.length x.cp, .pointer (some ⟨x.b, x.o, none⟩), .tuple #[.int .i64 0, v0], .agg #[.string T.nm, .int .u8 (T.k : Int), .string T.d, .slice a T.kids.length cap], .tuple #[.int .i64 0, v0], .int .i64 0, v0, .int .i64 0, .bool false, undef, .func (.func 71) #[] #[.pointer (some ⟨w1.heap.size + 1, 0, none⟩)], .slice x.ap x.p.length x.cp, .pointer (some ⟨x.b, x.o, none⟩), undef, .slice x.ap x.p.length x.cp, undef, .pointer (some ⟨x.b, x.o, none⟩), .pointer (some ⟨x.b, x.o, none⟩), undef, undef, undef, undef, undef, undef, undef, undef, undef, undef, undef], defers := [] } V.drew
      refine wpAnyH_take (i := 5) (v := .pointer (some ⟨x.b, x.o + 1, none⟩)) rfl (by kernel_rfl) (by kernel_rfl) (by kernel_rfl) (fun _ _ _ h => h) (Or.inl ⟨by rfl, ?_⟩) HS0 ?_
      · intro w9 hw9; obtain ⟨s1, s2⟩ := hw9; go_simp
      change wpAnyH Tryz.prog .any _ _ _ _ _ { tmps := #[.agg #[.string T.nm, .int .u8 (T.k : Int), .string T.d, .slice a T.kids.length cap], .pointer (some ⟨w.heap.size, 0, none⟩), .slice none 0 0, .int .i64 0, .int .i64 0, v0, .pointer (some ⟨w1.heap.size, 0, none⟩), .slice x.ap x.p.length x.cp, .pointer (some ⟨x.b, x.o, none⟩), .tuple #[.int .i64 0, v0], .agg #[.string T.nm, .int .u8 (T.k : Int), .string T.d, .slice a T.kids.length cap], .tuple #[.int .i64 0, v0], .int .i64 0, v0, .int .i64 0, .bool false, undef, .func (.func 71) #[] #[.pointer (some ⟨w1.heap.size + 1, 0, none⟩)], .slice x.ap x.p.length x.cp, .pointer (some ⟨x.b, x.o, none⟩), undef, .slice x.ap x.p.length x.cp, undef, .pointer (some ⟨x.b, x.o, none⟩), .pointer (some ⟨x.b, x.o, none⟩), .pointer (some ⟨x.b, x.o + 1, none⟩), undef, undef, undef, undef, undef, undef, undef, undef, undef, undef], defers := [] } V.drew
      refine wpAnyH_take (i := 6) (v := .int .u8 (x.T.k : Int)) rfl (by kernel_rfl) (by kernel_rfl) (by kernel_rfl) (fun _ _ _ h => h) (Or.inl ⟨by rfl, ?_⟩) HS0 ?_
      · intro w9 hw9; obtain ⟨s1, s2⟩ := hw9; go_simp
      change wpAnyH Tryz.prog .any _ _ _ _ _ { tmps := #[.agg #[.string T.nm, .int .u8 (T.k : Int), .string T.d, .slice a T.kids.length cap], .pointer (some ⟨w.heap.size, 0, none⟩), .slice none 0 0, .int .i64 0, .int .i64 0, v0, .pointer (some ⟨w1.heap.size, 0, none⟩), .slice x.ap x.p.length x.cp, .pointer (some ⟨x.b, x.o, none⟩), .tuple #[.int .i64 0, v0], .agg #[.string T.nm, .int .u8 (T.k : Int), .string T.d, .slice a T.kids.length cap], .tuple #[.int .i64 0, v0], .int .i64 0, v0, .int .i64 0, .bool false, undef, .func (.func 71) #[] #[.pointer (some ⟨w1.heap.size + 1, 0, none⟩)], .slice x.ap x.p.length x.cp, .pointer (some ⟨x.b, x.o, none⟩), undef, .slice x.ap x.p.length x.cp, undef, .pointer (some ⟨x.b, x.o, none⟩), .pointer (some ⟨x.b, x.o, none⟩), .pointer (some ⟨x.b, x.o + 1, none⟩), .int .u8 (x.T.k : Int), undef, undef, undef, undef, undef, undef, undef, undef, undef], defers := [] } V.drew
      refine wpAnyH_take (i := 7) (v := .pointer (some ⟨x.b, x.o, none⟩)) rfl (by kernel_rfl) (by kernel_rfl) (by kernel_rfl) (fun _ _ _ h => h) (Or.inl ⟨by rfl, ?_⟩) HS0 ?_
      · intro w9 hw9; obtain ⟨s1, s2⟩ := hw9; go_simp
      change wpAnyH Tryz.prog .any _ _ _ _ _ { tmps := #[.agg #[.string T.nm, .int .u8 (T.k : Int), .string T.d, .slice a T.kids.length cap], .pointer (some ⟨w.heap.size, 0, none⟩), .slice none 0 0, .int .i64 0, .int .i64 0, v0, .pointer (some ⟨w1.heap.size, 0, none⟩), .slice x.ap x.p.length x.cp, .pointer (some ⟨x.b, x.o, none⟩), .tuple #[.int .i64 0, v0], .agg #[.string T.nm, .int .u8 (T.k : Int), .string T.d, .slice a T.kids.length cap], .tuple #[.int .i64 0, v0], .int .i64 0, v0, .int .i64 0, .bool false, undef, .func (.func 71) #[] #[.pointer (some ⟨w1.heap.size + 1, 0, none⟩)], .slice x.ap x.p.length x.cp, .pointer (some ⟨x.b, x.o, none⟩), undef, .slice x.ap x.p.length x.cp, undef, .pointer (some ⟨x.b, x.o, none⟩), .pointer (some ⟨x.b, x.o, none⟩), .pointer (some ⟨x.b, x.o + 1, none⟩), .int .u8 (x.T.k : Int), .pointer (some ⟨x.b, x.o, none⟩), undef, undef, undef, undef, undef, undef, undef, undef], defers := [] } V.drew
      refine wpAnyH_take (i := 8) (v := .pointer (some ⟨x.b, x.o, none⟩)) rfl (by kernel_rfl) (by kernel_rfl) (by kernel_rfl) (fun _ _ _ h => h) (Or.inl ⟨by rfl, ?_⟩) HS0 ?_
      · intro w9 hw9; obtain ⟨s1, s2⟩ := hw9; go_simp
      change wpAnyH Tryz.prog .any _ _ _ _ _ { tmps := #[.agg #[.string T.nm, .int .u8 (T.k : Int), .string T.d, .slice a T.kids.length cap], .pointer (some ⟨w.heap.size, 0, none⟩), .slice none 0 0, .int .i64 0, .int .i64 0, v0, .pointer (some ⟨w1.heap.size, 0, none⟩), .slice x.ap x.p.length x.cp, .pointer (some ⟨x.b, x.o, none⟩), .tuple #[.int .i64 0, v0], .agg #[.string T.nm, .int .u8 (T.k : Int), .string T.d, .slice a T.kids.length cap], .tuple #[.int .i64 0, v0], .int .i64 0, v0, .int .i64 0, .bool false, undef, .func (.func 71) #[] #[.pointer (some ⟨w1.heap.size + 1, 0, none⟩)], .slice x.ap x.p.length x.cp, .pointer (some ⟨x.b, x.o, none⟩), undef, .slice x.ap x.p.length x.cp, undef, .pointer (some ⟨x.b, x.o, none⟩), .pointer (some ⟨x.b, x.o, none⟩), .pointer (some ⟨x.b, x.o + 1, none⟩), .int .u8 (x.T.k : Int), .pointer (some ⟨x.b, x.o, none⟩), .pointer (some ⟨x.b, x.o, none⟩), undef, undef, undef, undef, undef, undef, undef], defers := [] } V.drew
      refine wpAnyH_take (i := 9) (v := .pointer (some ⟨x.b, x.o + 2, none⟩)) rfl (by kernel_rfl) (by kernel_rfl) (by kernel_rfl) (fun _ _ _ h => h) (Or.inl ⟨by rfl, ?_⟩) HS0 ?_
      · intro w9 hw9; obtain ⟨s1, s2⟩ := hw9; go_simp
      change wpAnyH Tryz.prog .any _ _ _ _ _ { tmps := #[.agg #[.string T.nm, .int .u8 (T.k : Int), .string T.d, .slice a T.kids.length cap], .pointer (some ⟨w.heap.size, 0, none⟩), .slice none 0 0, .int .i64 0, .int .i64 0, v0, .pointer (some ⟨w1.heap.size, 0, none⟩), .slice x.ap x.p.length x.cp, .pointer (some ⟨x.b, x.o, none⟩), .tuple #[.int .i64 0, v0], .agg #[.string T.nm, .int .u8 (T.k : Int), .string T.d, .slice a T.kids.length cap], .tuple #[.int .i64 0, v0], .int .i64 0, v0, .int .i64 0, .bool false, undef, .func (.func 71) #[] #[.pointer (some ⟨w1.heap.size + 1, 0, none⟩)], .slice x.ap x.p.length x.cp, .pointer (some ⟨x.b, x.o, none⟩), undef, .slice x.ap x.p.length x.cp, undef, .pointer (some ⟨x.b, x.o, none⟩), .pointer (some ⟨x.b, x.o, none⟩), .pointer (some ⟨x.b, x.o + 1, none⟩), .int .u8 (x.T.k : Int), .pointer (some ⟨x.b, x.o, none⟩), .pointer (some ⟨x.b, x.o, none⟩), .pointer (some ⟨x.b, x.o + 2, none⟩), undef, undef, undef, undef, undef, undef], defers := [] } V.drew
      refine wpAnyH_take (i := 10) (v := .string x.T.d) rfl (by kernel_rfl) (by kernel_rfl) (by kernel_rfl) (fun _ _ _ h => h) (Or.inl ⟨by rfl, ?_⟩) HS0 ?_
      · intro w9 hw9; obtain ⟨s1, s2⟩ := hw9; go_simp
      change wpAnyH Tryz.prog .any _ _ _ _ _ { tmps := #[.agg #[.string T.nm, .int .u8 (T.k : Int), .string T.d, .slice a T.kids.length cap], .pointer (some ⟨w.heap.size, 0, none⟩), .slice none 0 0, .int .i64 0, .int .i64 0, v0, .pointer (some ⟨w1.heap.size, 0, none⟩), .slice x.ap x.p.length x.cp, .pointer (some ⟨x.b, x.o, none⟩), .tuple #[.int .i64 0, v0], .agg #[.string T.nm, .int .u8 (T.k : Int), .string T.d, .slice a T.kids.length cap], .tuple #[.int .i64 0, v0], .int .i64 0, v0, .int .i64 0, .bool false, undef, .func (.func 71) #[] #[.pointer (some ⟨w1.heap.size + 1, 0, none⟩)], .slice x.ap x.p.length x.cp, .pointer (some ⟨x.b, x.o, none⟩), undef, .slice x.ap x.p.length x.cp, undef, .pointer (some ⟨x.b, x.o, none⟩), .pointer (some ⟨x.b, x.o, none⟩), .pointer (some ⟨x.b, x.o + 1, none⟩), .int .u8 (x.T.k : Int), .pointer (some ⟨x.b, x.o, none⟩), .pointer (some ⟨x.b, x.o, none⟩), .pointer (some ⟨x.b, x.o + 2, none⟩), .string x.T.d, undef, undef, undef, undef, undef], defers := [] } V.drew
      refine wpAnyH_take (i := 11) (v := .int .i64 x.T.d.size) rfl (by kernel_rfl) (by kernel_rfl) (by kernel_rfl) (fun _ _ _ h => h) (Or.inl ⟨by rfl, ?_⟩) HS0 ?_
      · intro w9 hw9; obtain ⟨s1, s2⟩ := hw9; go_simp
      change wpAnyH Tryz.prog .any _ _ _ _ _ { tmps := #[.agg #[.string T.nm, .int .u8 (T.k : Int), .string T.d, .slice a T.kids.length cap], .pointer (some ⟨w.heap.size, 0, none⟩), .slice none 0 0, .int .i64 0, .int .i64 0, v0, .pointer (some ⟨w1.heap.size, 0, none⟩), .slice x.ap x.p.length x.cp, .pointer (some ⟨x.b, x.o, none⟩), .tuple #[.int .i64 0, v0], .agg #[.string T.nm, .int .u8 (T.k : Int), .string T.d, .slice a T.kids.length cap], .tuple #[.int .i64 0, v0], .int .i64 0, v0, .int .i64 0, .bool false, undef, .func (.func 71) #[] #[.pointer (some ⟨w1.heap.size + 1, 0, none⟩)], .slice x.ap x.p.length x.cp, .pointer (some ⟨x.b, x.o, none⟩), undef, .slice x.ap x.p.length x.cp, undef, .pointer (some ⟨x.b, x.o, none⟩), .pointer (some ⟨x.b, x.o, none⟩), .pointer (some ⟨x.b, x.o + 1, none⟩), .int .u8 (x.T.k : Int), .pointer (some ⟨x.b, x.o, none⟩), .pointer (some ⟨x.b, x.o, none⟩), .pointer (some ⟨x.b, x.o + 2, none⟩), .string x.T.d, .int .i64 x.T.d.size, undef, undef, undef, undef], defers := [] } V.drew
      refine wpAnyH_ready (rs := [0, 2]) (by kernel_rfl) (by simp) ?_
      refine AllReadyH.cons rfl (fun K hK => ?_) ?_
      · go_simp
        refine hK.out _ _ HS0 (fun _ => ?_)
        change wpAnyH Tryz.prog .any _ _ _ _ _ { tmps := #[.agg #[.string T.nm, .int .u8 (T.k : Int), .string T.d, .slice a T.kids.length cap], .pointer (some ⟨w.heap.size, 0, none⟩), .slice none 0 0, .int .i64 0, .int .i64 0, v0, .pointer (some ⟨w1.heap.size, 0, none⟩), .slice x.ap x.p.length x.cp, .pointer (some ⟨x.b, x.o, none⟩), .tuple #[.int .i64 0, v0], .agg #[.string T.nm, .int .u8 (T.k : Int), .string T.d, .slice a T.kids.length cap], .tuple #[.int .i64 0, v0], .int .i64 0, v0, .int .i64 0, .bool false, undef, .func (.func 71) #[] #[.pointer (some ⟨w1.heap.size + 1, 0, none⟩)], .slice x.ap x.p.length x.cp, .pointer (some ⟨x.b, x.o, none⟩), v, .slice x.ap x.p.length x.cp, undef, .pointer (some ⟨x.b, x.o, none⟩), .pointer (some ⟨x.b, x.o, none⟩), .pointer (some ⟨x.b, x.o + 1, none⟩), .int .u8 (x.T.k : Int), .pointer (some ⟨x.b, x.o, none⟩), .pointer (some ⟨x.b, x.o, none⟩), .pointer (some ⟨x.b, x.o + 2, none⟩), .string x.T.d, .int .i64 x.T.d.size, undef, undef, undef, undef], defers := [] } V.drew
        refine wpAnyH_ready (rs := [2]) (by kernel_rfl) (by simp) ?_
        refine AllReadyH.cons rfl (fun K hK => ?_) ?_
        · go_simp
          refine Calls.mono HCF.out ?_
          rintro e w2 ⟨vf, rfl, ho, b2⟩
          obtain ⟨qa, qc, rfl, hq, hqa, c2, f2, m1, m2, hb2⟩ := HG.out vf w2 ho b2
          refine hK.out _ _ ⟨m1, m2⟩ (fun _ => ?_)
          clear hK K
          have HS2 := And.intro m1 m2
          change wpAnyH Tryz.prog .any _ _ _ _ _ { tmps := #[.agg #[.string T.nm, .int .u8 (T.k : Int), .string T.d, .slice a T.kids.length cap], .pointer (some ⟨w.heap.size, 0, none⟩), .slice none 0 0, .int .i64 0, .int .i64 0, v0, .pointer (some ⟨w1.heap.size, 0, none⟩), .slice x.ap x.p.length x.cp, .pointer (some ⟨x.b, x.o, none⟩), .tuple #[.int .i64 0, v0], .agg #[.string T.nm, .int .u8 (T.k : Int), .string T.d, .slice a T.kids.length cap], .tuple #[.int .i64 0, v0], .int .i64 0, v0, .int .i64 0, .bool false, undef, .func (.func 71) #[] #[.pointer (some ⟨w1.heap.size + 1, 0, none⟩)], .slice x.ap x.p.length x.cp, .pointer (some ⟨x.b, x.o, none⟩), v, .slice x.ap x.p.length x.cp, .slice qa x.p.length qc, .pointer (some ⟨x.b, x.o, none⟩), .pointer (some ⟨x.b, x.o, none⟩), .pointer (some ⟨x.b, x.o + 1, none⟩), .int .u8 (x.T.k : Int), .pointer (some ⟨x.b, x.o, none⟩), .pointer (some ⟨x.b, x.o, none⟩), .pointer (some ⟨x.b, x.o + 2, none⟩), .string x.T.d, .int .i64 x.T.d.size, undef, undef, undef, undef], defers := [] } w2
          refine wpAnyH_take (i := 12) (v := .agg #[.slice qa x.p.length qc, .int .u8 (x.T.k : Int), .int .i64 x.T.d.size]) rfl (by kernel_rfl) (by kernel_rfl) (by kernel_rfl) (fun _ _ _ h => h) (Or.inl ⟨by rfl, ?_⟩) HS2 ?_
          · intro w9 hw9; obtain ⟨s1, s2⟩ := hw9; go_simp
          change wpAnyH Tryz.prog .any _ _ _ _ _ { tmps := #[.agg #[.string T.nm, .int .u8 (T.k : Int), .string T.d, .slice a T.kids.length cap], .pointer (some ⟨w.heap.size, 0, none⟩), .slice none 0 0, .int .i64 0, .int .i64 0, v0, .pointer (some ⟨w1.heap.size, 0, none⟩), .slice x.ap x.p.length x.cp, .pointer (some ⟨x.b, x.o, none⟩), .tuple #[.int .i64 0, v0], .agg #[.string T.nm, .int .u8 (T.k : Int), .string T.d, .slice a T.kids.length cap], .tuple #[.int .i64 0, v0], .int .i64 0, v0, .int .i64 0, .bool false, undef, .func (.func 71) #[] #[.pointer (some ⟨w1.heap.size + 1, 0, none⟩)], .slice x.ap x.p.length x.cp, .pointer (some ⟨x.b, x.o, none⟩), v, .slice x.ap x.p.length x.cp, .slice qa x.p.length qc, .pointer (some ⟨x.b, x.o, none⟩), .pointer (some ⟨x.b, x.o, none⟩), .pointer (some ⟨x.b, x.o + 1, none⟩), .int .u8 (x.T.k : Int), .pointer (some ⟨x.b, x.o, none⟩), .pointer (some ⟨x.b, x.o, none⟩), .pointer (some ⟨x.b, x.o + 2, none⟩), .string x.T.d, .int .i64 x.T.d.size, .agg #[.slice qa x.p.length qc, .int .u8 (x.T.k : Int), .int .i64 x.T.d.size], undef, undef, undef], defers := [] } w2
          refine wpAnyH_ready (rs := [13]) (by kernel_rfl) (by simp) ?_
          refine AllReadyH.cons rfl (fun K hK => ?_) ?_
          · go_simp
            have HS3 := HA.out w2 (.cells #[.slice qa x.p.length qc, .int .u8 (x.T.k : Int), .int .i64 x.T.d.size] 47) m1 m2
            refine hK.out _ _ HS3 (fun _ => ?_)
            clear hK K
            change wpAnyH Tryz.prog .any _ _ _ _ _ { tmps := #[.agg #[.string T.nm, .int .u8 (T.k : Int), .string T.d, .slice a T.kids.length cap], .pointer (some ⟨w.heap.size, 0, none⟩), .slice none 0 0, .int .i64 0, .int .i64 0, v0, .pointer (some ⟨w1.heap.size, 0, none⟩), .slice x.ap x.p.length x.cp, .pointer (some ⟨x.b, x.o, none⟩), .tuple #[.int .i64 0, v0], .agg #[.string T.nm, .int .u8 (T.k : Int), .string T.d, .slice a T.kids.length cap], .tuple #[.int .i64 0, v0], .int .i64 0, v0, .int .i64 0, .bool false, undef, .func (.func 71) #[] #[.pointer (some ⟨w1.heap.size + 1, 0, none⟩)], .slice x.ap x.p.length x.cp, .pointer (some ⟨x.b, x.o, none⟩), v, .slice x.ap x.p.length x.cp, .slice qa x.p.length qc, .pointer (some ⟨x.b, x.o, none⟩), .pointer (some ⟨x.b, x.o, none⟩), .pointer (some ⟨x.b, x.o + 1, none⟩), .int .u8 (x.T.k : Int), .pointer (some ⟨x.b, x.o, none⟩), .pointer (some ⟨x.b, x.o, none⟩), .pointer (some ⟨x.b, x.o + 2, none⟩), .string x.T.d, .int .i64 x.T.d.size, .agg #[.slice qa x.p.length qc, .int .u8 (x.T.k : Int), .int .i64 x.T.d.size], .slice (some ⟨w2.heap.size, 0, none⟩) 1 1, undef, undef], defers := [] } (w2.alloc (.cells #[.slice qa x.p.length qc, .int .u8 (x.T.k : Int), .int .i64 x.T.d.size] 47))
            refine wpAnyH_ready (rs := [14]) (by kernel_rfl) (by simp) ?_
            refine AllReadyH.cons rfl (fun K hK => ?_) ?_
            · refine step_append_stays _ rfl (.tmp 20) (.tmp 33) 43 rfl (w1.heap.size + 2) 47 i0 _ 3 40 Tryz.underlying43 hi0 hz0 hz1 hz2 rfl (by decide) v L.length (Ft.kcells L) (by simp [Act.eval]) (HO.out w2 _ hb2) ⟨w2.heap.size, 0, none⟩ 1 1 (Ft.kpL ((x.p, x.T.k, x.T.d.size), qa, qc)) (by simp [Act.eval]) rfl (Ft.kp_new w2 ((x.p, x.T.k, x.T.d.size), qa, qc)) (HK1.out qa qc) (by decide) (by unfold maxLen; omega) (by omega) (by have := hb2.size; simp; omega) (w2.heap.size + 1) (by simp) ?_
              intro g c w4 own gr hat hg
              obtain ⟨c4, f4, m3, m4, hcl⟩ := HE4.out w2 qa qc g c w4 hb2 hq hqa own gr (hat.imp (fun e => by rw [e]; rfl) (fun e => e.1)) hg
              refine hK.out _ _ ⟨m3, m4⟩ (fun _ => ?_)
              clear hK K
              change wpAnyH Tryz.prog .any _ _ _ _ _ { tmps := #[.agg #[.string T.nm, .int .u8 (T.k : Int), .string T.d, .slice a T.kids.length cap], .pointer (some ⟨w.heap.size, 0, none⟩), .slice none 0 0, .int .i64 0, .int .i64 0, v0, .pointer (some ⟨w1.heap.size, 0, none⟩), .slice x.ap x.p.length x.cp, .pointer (some ⟨x.b, x.o, none⟩), .tuple #[.int .i64 0, v0], .agg #[.string T.nm, .int .u8 (T.k : Int), .string T.d, .slice a T.kids.length cap], .tuple #[.int .i64 0, v0], .int .i64 0, v0, .int .i64 0, .bool false, undef, .func (.func 71) #[] #[.pointer (some ⟨w1.heap.size + 1, 0, none⟩)], .slice x.ap x.p.length x.cp, .pointer (some ⟨x.b, x.o, none⟩), v, .slice x.ap x.p.length x.cp, .slice qa x.p.length qc, .pointer (some ⟨x.b, x.o, none⟩), .pointer (some ⟨x.b, x.o, none⟩), .pointer (some ⟨x.b, x.o + 1, none⟩), .int .u8 (x.T.k : Int), .pointer (some ⟨x.b, x.o, none⟩), .pointer (some ⟨x.b, x.o, none⟩), .pointer (some ⟨x.b, x.o + 2, none⟩), .string x.T.d, .int .i64 x.T.d.size, .agg #[.slice qa x.p.length qc, .int .u8 (x.T.k : Int), .int .i64 x.T.d.size], .slice (some ⟨w2.heap.size, 0, none⟩) 1 1, .slice (some ⟨g, 0, none⟩) (L.length + 1) c, undef], defers := [] } w4
              refine wpAnyH_ready (rs := [15]) (by kernel_rfl) (by simp) ?_
              refine AllReadyH.cons rfl (fun K hK => ?_) ?_
              · go_simp
                refine hK.out _ _ (HB5.out w4 _ m3 m4) (fun _ => ?_)
                refine wpAnyH_done (by kernel_rfl) ?_ _
                exact ⟨hcl.1, hcl.2, h64⟩
              exact AllReadyH.nil
            exact AllReadyH.nil
          exact AllReadyH.nil
        exact AllReadyH.nil
      refine AllReadyH.cons rfl (fun K hK => ?_) ?_
      · go_simp
        refine Calls.mono HCF.out ?_
        rintro e w2 ⟨vf, rfl, ho, b2⟩
        obtain ⟨qa, qc, rfl, hq, hqa, c2, f2, m1, m2, hb2⟩ := HG.out vf w2 ho b2
        refine hK.out _ _ ⟨m1, m2⟩ (fun _ => ?_)
        clear hK K
        have HS2 := And.intro m1 m2
        change wpAnyH Tryz.prog .any _ _ _ _ _ { tmps := #[.agg #[.string T.nm, .int .u8 (T.k : Int), .string T.d, .slice a T.kids.length cap], .pointer (some ⟨w.heap.size, 0, none⟩), .slice none 0 0, .int .i64 0, .int .i64 0, v0, .pointer (some ⟨w1.heap.size, 0, none⟩), .slice x.ap x.p.length x.cp, .pointer (some ⟨x.b, x.o, none⟩), .tuple #[.int .i64 0, v0], .agg #[.string T.nm, .int .u8 (T.k : Int), .string T.d, .slice a T.kids.length cap], .tuple #[.int .i64 0, v0], .int .i64 0, v0, .int .i64 0, .bool false, undef, .func (.func 71) #[] #[.pointer (some ⟨w1.heap.size + 1, 0, none⟩)], .slice x.ap x.p.length x.cp, .pointer (some ⟨x.b, x.o, none⟩), undef, .slice x.ap x.p.length x.cp, .slice qa x.p.length qc, .pointer (some ⟨x.b, x.o, none⟩), .pointer (some ⟨x.b, x.o, none⟩), .pointer (some ⟨x.b, x.o + 1, none⟩), .int .u8 (x.T.k : Int), .pointer (some ⟨x.b, x.o, none⟩), .pointer (some ⟨x.b, x.o, none⟩), .pointer (some ⟨x.b, x.o + 2, none⟩), .string x.T.d, .int .i64 x.T.d.size, undef, undef, undef, undef], defers := [] } w2
        refine wpAnyH_take (i := 12) (v := .agg #[.slice qa x.p.length qc, .int .u8 (x.T.k : Int), .int .i64 x.T.d.size]) rfl (by kernel_rfl) (by kernel_rfl) (by kernel_rfl) (fun _ _ _ h => h) (Or.inl ⟨by rfl, ?_⟩) HS2 ?_
        · intro w9 hw9; obtain ⟨s1, s2⟩ := hw9; go_simp
        change wpAnyH Tryz.prog .any _ _ _ _ _ { tmps := #[.agg #[.string T.nm, .int .u8 (T.k : Int), .string T.d, .slice a T.kids.length cap], .pointer (some ⟨w.heap.size, 0, none⟩), .slice none 0 0, .int .i64 0, .int .i64 0, v0, .pointer (some ⟨w1.heap.size, 0, none⟩), .slice x.ap x.p.length x.cp, .pointer (some ⟨x.b, x.o, none⟩), .tuple #[.int .i64 0, v0], .agg #[.string T.nm, .int .u8 (T.k : Int), .string T.d, .slice a T.kids.length cap], .tuple #[.int .i64 0, v0], .int .i64 0, v0, .int .i64 0, .bool false, undef, .func (.func 71) #[] #[.pointer (some ⟨w1.heap.size + 1, 0, none⟩)], .slice x.ap x.p.length x.cp, .pointer (some ⟨x.b, x.o, none⟩), undef, .slice x.ap x.p.length x.cp, .slice qa x.p.length qc, .pointer (some ⟨x.b, x.o, none⟩), .pointer (some ⟨x.b, x.o, none⟩), .pointer (some ⟨x.b, x.o + 1, none⟩), .int .u8 (x.T.k : Int), .pointer (some ⟨x.b, x.o, none⟩), .pointer (some ⟨x.b, x.o, none⟩), .pointer (some ⟨x.b, x.o + 2, none⟩), .string x.T.d, .int .i64 x.T.d.size, .agg #[.slice qa x.p.length qc, .int .u8 (x.T.k : Int), .int .i64 x.T.d.size], undef, undef, undef], defers := [] } w2
        refine wpAnyH_ready (rs := [0, 13]) (by kernel_rfl) (by simp) ?_
        refine AllReadyH.cons rfl (fun K hK => ?_) ?_
        · go_simp
          refine hK.out _ _ HS2 (fun _ => ?_)
          change wpAnyH Tryz.prog .any _ _ _ _ _ { tmps := #[.agg #[.string T.nm, .int .u8 (T.k : Int), .string T.d, .slice a T.kids.length cap], .pointer (some ⟨w.heap.size, 0, none⟩), .slice none 0 0, .int .i64 0, .int .i64 0, v0, .pointer (some ⟨w1.heap.size, 0, none⟩), .slice x.ap x.p.length x.cp, .pointer (some ⟨x.b, x.o, none⟩), .tuple #[.int .i64 0, v0], .agg #[.string T.nm, .int .u8 (T.k : Int), .string T.d, .slice a T.kids.length cap], .tuple #[.int .i64 0, v0], .int .i64 0, v0, .int .i64 0, .bool false, undef, .func (.func 71) #[] #[.pointer (some ⟨w1.heap.size + 1, 0, none⟩)], .slice x.ap x.p.length x.cp, .pointer (some ⟨x.b, x.o, none⟩), v, .slice x.ap x.p.length x.cp, .slice qa x.p.length qc, .pointer (some ⟨x.b, x.o, none⟩), .pointer (some ⟨x.b, x.o, none⟩), .pointer (some ⟨x.b, x.o + 1, none⟩), .int .u8 (x.T.k : Int), .pointer (some ⟨x.b, x.o, none⟩), .pointer (some ⟨x.b, x.o, none⟩), .pointer (some ⟨x.b, x.o + 2, none⟩), .string x.T.d, .int .i64 x.T.d.size, .agg #[.slice qa x.p.length qc, .int .u8 (x.T.k : Int), .int .i64 x.T.d.size], undef, undef, undef], defers := [] } w2
          refine wpAnyH_ready (rs := [13]) (by kernel_rfl) (by simp) ?_
          refine AllReadyH.cons rfl (fun K hK => ?_) ?_
          · go_simp
            have HS3 := HA.out w2 (.cells #[.slice qa x.p.length qc, .int .u8 (x.T.k : Int), .int .i64 x.T.d.size] 47) m1 m2
            refine hK.out _ _ HS3 (fun _ => ?_)
            clear hK K
            change wpAnyH Tryz.prog .any _ _ _ _ _ { tmps := #[.agg #[.string T.nm, .int .u8 (T.k : Int), .string T.d, .slice a T.kids.length cap], .pointer (some ⟨w.heap.size, 0, none⟩), .slice none 0 0, .int .i64 0, .int .i64 0, v0, .pointer (some ⟨w1.heap.size, 0, none⟩), .slice x.ap x.p.length x.cp, .pointer (some ⟨x.b, x.o, none⟩), .tuple #[.int .i64 0, v0], .agg #[.string T.nm, .int .u8 (T.k : Int), .string T.d, .slice a T.kids.length cap], .tuple #[.int .i64 0, v0], .int .i64 0, v0, .int .i64 0, .bool false, undef, .func (.func 71) #[] #[.pointer (some ⟨w1.heap.size + 1, 0, none⟩)], .slice x.ap x.p.length x.cp, .pointer (some ⟨x.b, x.o, none⟩), v, .slice x.ap x.p.length x.cp, .slice qa x.p.length qc, .pointer (some ⟨x.b, x.o, none⟩), .pointer (some ⟨x.b, x.o, none⟩), .pointer (some ⟨x.b, x.o + 1, none⟩), .int .u8 (x.T.k : Int), .pointer (some ⟨x.b, x.o, none⟩), .pointer (some ⟨x.b, x.o, none⟩), .pointer (some ⟨x.b, x.o + 2, none⟩), .string x.T.d, .int .i64 x.T.d.size, .agg #[.slice qa x.p.length qc, .int .u8 (x.T.k : Int), .int .i64 x.T.d.size], .slice (some ⟨w2.heap.size, 0, none⟩) 1 1, undef, undef], defers := [] } (w2.alloc (.cells #[.slice qa x.p.length qc, .int .u8 (x.T.k : Int), .int .i64 x.T.d.size] 47))
            refine wpAnyH_ready (rs := [14]) (by kernel_rfl) (by simp) ?_
            refine AllReadyH.cons rfl (fun K hK => ?_) ?_
            · refine step_append_stays _ rfl (.tmp 20) (.tmp 33) 43 rfl (w1.heap.size + 2) 47 i0 _ 3 40 Tryz.underlying43 hi0 hz0 hz1 hz2 rfl (by decide) v L.length (Ft.kcells L) (by simp [Act.eval]) (HO.out w2 _ hb2) ⟨w2.heap.size, 0, none⟩ 1 1 (Ft.kpL ((x.p, x.T.k, x.T.d.size), qa, qc)) (by simp [Act.eval]) rfl (Ft.kp_new w2 ((x.p, x.T.k, x.T.d.size), qa, qc)) (HK1.out qa qc) (by decide) (by unfold maxLen; omega) (by omega) (by have := hb2.size; simp; omega) (w2.heap.size + 1) (by simp) ?_
              intro g c w4 own gr hat hg
              obtain ⟨c4, f4, m3, m4, hcl⟩ := HE4.out w2 qa qc g c w4 hb2 hq hqa own gr (hat.imp (fun e => by rw [e]; rfl) (fun e => e.1)) hg
              refine hK.out _ _ ⟨m3, m4⟩ (fun _ => ?_)
              clear hK K
              change wpAnyH Tryz.prog .any _ _ _ _ _ { tmps := #[.agg #[.string T.nm, .int .u8 (T.k : Int), .string T.d, .slice a T.kids.length cap], .pointer (some ⟨w.heap.size, 0, none⟩), .slice none 0 0, .int .i64 0, .int .i64 0, v0, .pointer (some ⟨w1.heap.size, 0, none⟩), .slice x.ap x.p.length x.cp, .pointer (some ⟨x.b, x.o, none⟩), .tuple #[.int .i64 0, v0], .agg #[.string T.nm, .int .u8 (T.k : Int), .string T.d, .slice a T.kids.length cap], .tuple #[.int .i64 0, v0], .int .i64 0, v0, .int .i64 0, .bool false, undef, .func (.func 71) #[] #[.pointer (some ⟨w1.heap.size + 1, 0, none⟩)], .slice x.ap x.p.length x.cp, .pointer (some ⟨x.b, x.o, none⟩), v, .slice x.ap x.p.length x.cp, .slice qa x.p.length qc, .pointer (some ⟨x.b, x.o, none⟩), .pointer (some ⟨x.b, x.o, none⟩), .pointer (some ⟨x.b, x.o + 1, none⟩), .int .u8 (x.T.k : Int), .pointer (some ⟨x.b, x.o, none⟩), .pointer (some ⟨x.b, x.o, none⟩), .pointer (some ⟨x.b, x.o + 2, none⟩), .string x.T.d, .int .i64 x.T.d.size, .agg #[.slice qa x.p.length qc, .int .u8 (x.T.k : Int), .int .i64 x.T.d.size], .slice (some ⟨w2.heap.size, 0, none⟩) 1 1, .slice (some ⟨g, 0, none⟩) (L.length + 1) c, undef], defers := [] } w4
              refine wpAnyH_ready (rs := [15]) (by kernel_rfl) (by simp) ?_
              refine AllReadyH.cons rfl (fun K hK => ?_) ?_
              · go_simp
                refine hK.out _ _ (HB5.out w4 _ m3 m4) (fun _ => ?_)
                refine wpAnyH_done (by kernel_rfl) ?_ _
                exact ⟨hcl.1, hcl.2, h64⟩
              exact AllReadyH.nil
            exact AllReadyH.nil
          exact AllReadyH.nil
        refine AllReadyH.cons rfl (fun K hK => ?_) ?_
        · go_simp
          have HS3 := HA.out w2 (.cells #[.slice qa x.p.length qc, .int .u8 (x.T.k : Int), .int .i64 x.T.d.size] 47) m1 m2
          refine hK.out _ _ HS3 (fun _ => ?_)
          clear hK K
          change wpAnyH Tryz.prog .any _ _ _ _ _ { tmps := #[.agg #[.string T.nm, .int .u8 (T.k : Int), .string T.d, .slice a T.kids.length cap], .pointer (some ⟨w.heap.size, 0, none⟩), .slice none 0 0, .int .i64 0, .int .i64 0, v0, .pointer (some ⟨w1.heap.size, 0, none⟩), .slice x.ap x.p.length x.cp, .pointer (some ⟨x.b, x.o, none⟩), .tuple #[.int .i64 0, v0], .agg #[.string T.nm, .int .u8 (T.k : Int), .string T.d, .slice a T.kids.length cap], .tuple #[.int .i64 0, v0], .int .i64 0, v0, .int .i64 0, .bool false, undef, .func (.func 71) #[] #[.pointer (some ⟨w1.heap.size + 1, 0, none⟩)], .slice x.ap x.p.length x.cp, .pointer (some ⟨x.b, x.o, none⟩), undef, .slice x.ap x.p.length x.cp, .slice qa x.p.length qc, .pointer (some ⟨x.b, x.o, none⟩), .pointer (some ⟨x.b, x.o, none⟩), .pointer (some ⟨x.b, x.o + 1, none⟩), .int .u8 (x.T.k : Int), .pointer (some ⟨x.b, x.o, none⟩), .pointer (some ⟨x.b, x.o, none⟩), .pointer (some ⟨x.b, x.o + 2, none⟩), .string x.T.d, .int .i64 x.T.d.size, .agg #[.slice qa x.p.length qc, .int .u8 (x.T.k : Int), .int .i64 x.T.d.size], .slice (some ⟨w2.heap.size, 0, none⟩) 1 1, undef, undef], defers := [] } (w2.alloc (.cells #[.slice qa x.p.length qc, .int .u8 (x.T.k : Int), .int .i64 x.T.d.size] 47))
          refine wpAnyH_ready (rs := [0]) (by kernel_rfl) (by simp) ?_
          refine AllReadyH.cons rfl (fun K hK => ?_) ?_
          · go_simp
            refine hK.out _ _ HS3 (fun _ => ?_)
            change wpAnyH Tryz.prog .any _ _ _ _ _ { tmps := #[.agg #[.string T.nm, .int .u8 (T.k : Int), .string T.d, .slice a T.kids.length cap], .pointer (some ⟨w.heap.size, 0, none⟩), .slice none 0 0, .int .i64 0, .int .i64 0, v0, .pointer (some ⟨w1.heap.size, 0, none⟩), .slice x.ap x.p.length x.cp, .pointer (some ⟨x.b, x.o, none⟩), .tuple #[.int .i64 0, v0], .agg #[.string T.nm, .int .u8 (T.k : Int), .string T.d, .slice a T.kids.length cap], .tuple #[.int .i64 0, v0], .int .i64 0, v0, .int .i64 0, .bool false, undef, .func (.func 71) #[] #[.pointer (some ⟨w1.heap.size + 1, 0, none⟩)], .slice x.ap x.p.length x.cp, .pointer (some ⟨x.b, x.o, none⟩), v, .slice x.ap x.p.length x.cp, .slice qa x.p.length qc, .pointer (some ⟨x.b, x.o, none⟩), .pointer (some ⟨x.b, x.o, none⟩), .pointer (some ⟨x.b, x.o + 1, none⟩), .int .u8 (x.T.k : Int), .pointer (some ⟨x.b, x.o, none⟩), .pointer (some ⟨x.b, x.o, none⟩), .pointer (some ⟨x.b, x.o + 2, none⟩), .string x.T.d, .int .i64 x.T.d.size, .agg #[.slice qa x.p.length qc, .int .u8 (x.T.k : Int), .int .i64 x.T.d.size], .slice (some ⟨w2.heap.size, 0, none⟩) 1 1, undef, undef], defers := [] } (w2.alloc (.cells #[.slice qa x.p.length qc, .int .u8 (x.T.k : Int), .int .i64 x.T.d.size] 47))
            refine wpAnyH_ready (rs := [14]) (by kernel_rfl) (by simp) ?_
            refine AllReadyH.cons rfl (fun K hK => ?_) ?_
            · refine step_append_stays _ rfl (.tmp 20) (.tmp 33) 43 rfl (w1.heap.size + 2) 47 i0 _ 3 40 Tryz.underlying43 hi0 hz0 hz1 hz2 rfl (by decide) v L.length (Ft.kcells L) (by simp [Act.eval]) (HO.out w2 _ hb2) ⟨w2.heap.size, 0, none⟩ 1 1 (Ft.kpL ((x.p, x.T.k, x.T.d.size), qa, qc)) (by simp [Act.eval]) rfl (Ft.kp_new w2 ((x.p, x.T.k, x.T.d.size), qa, qc)) (HK1.out qa qc) (by decide) (by unfold maxLen; omega) (by omega) (by have := hb2.size; simp; omega) (w2.heap.size + 1) (by simp) ?_
              intro g c w4 own gr hat hg
              obtain ⟨c4, f4, m3, m4, hcl⟩ := HE4.out w2 qa qc g c w4 hb2 hq hqa own gr (hat.imp (fun e => by rw [e]; rfl) (fun e => e.1)) hg
              refine hK.out _ _ ⟨m3, m4⟩ (fun _ => ?_)
              clear hK K
              change wpAnyH Tryz.prog .any _ _ _ _ _ { tmps := #[.agg #[.string T.nm, .int .u8 (T.k : Int), .string T.d, .slice a T.kids.length cap], .pointer (some ⟨w.heap.size, 0, none⟩), .slice none 0 0, .int .i64 0, .int .i64 0, v0, .pointer (some ⟨w1.heap.size, 0, none⟩), .slice x.ap x.p.length x.cp, .pointer (some ⟨x.b, x.o, none⟩), .tuple #[.int .i64 0, v0], .agg #[.string T.nm, .int .u8 (T.k : Int), .string T.d, .slice a T.kids.length cap], .tuple #[.int .i64 0, v0], .int .i64 0, v0, .int .i64 0, .bool false, undef, .func (.func 71) #[] #[.pointer (some ⟨w1.heap.size + 1, 0, none⟩)], .slice x.ap x.p.length x.cp, .pointer (some ⟨x.b, x.o, none⟩), v, .slice x.ap x.p.length x.cp, .slice qa x.p.length qc, .pointer (some ⟨x.b, x.o, none⟩), .pointer (some ⟨x.b, x.o, none⟩), .pointer (some ⟨x.b, x.o + 1, none⟩), .int .u8 (x.T.k : Int), .pointer (some ⟨x.b, x.o, none⟩), .pointer (some ⟨x.b, x.o, none⟩), .pointer (some ⟨x.b, x.o + 2, none⟩), .string x.T.d, .int .i64 x.T.d.size, .agg #[.slice qa x.p.length qc, .int .u8 (x.T.k : Int), .int .i64 x.T.d.size], .slice (some ⟨w2.heap.size, 0, none⟩) 1 1, .slice (some ⟨g, 0, none⟩) (L.length + 1) c, undef], defers := [] } w4
              refine wpAnyH_ready (rs := [15]) (by kernel_rfl) (by simp) ?_
              refine AllReadyH.cons rfl (fun K hK => ?_) ?_
              · go_simp
                refine hK.out _ _ (HB5.out w4 _ m3 m4) (fun _ => ?_)
                refine wpAnyH_done (by kernel_rfl) ?_ _
                exact ⟨hcl.1, hcl.2, h64⟩
              exact AllReadyH.nil
            exact AllReadyH.nil
          exact AllReadyH.nil
        exact AllReadyH.nil
      exact AllReadyH.nil
    case done =>
      rintro D O O' ys W hD hys hOD' hOD hOO ⟨v, L, h0, h1, h2, h3, hv, h4, hn, h5, h6⟩ hK
      have hys2 : L.map (·.1) = Ft.listT T [] := by
        rw [h1, ← Ft.kp_list T, ← (show ys.map Ft.Wy.it = (Ft.wkT none [] T).filter Ft.inB from hys), List.map_map]
        rfl
      have c0 : W.cell? ⟨w1.heap.size, 0, none⟩ = some v := by rw [cell_of_row W _ _ _ _ _ h0]; rfl
      have HB : Hid (Below w.heap.size w W) := h4
      have HK : Hid _ := hK
      have HD : Hid (w1.heap.size + 2 ≤ D) := (h6 D hOD').1
      have HRr : Hid (Ft.KRowX (W.putObj D (.deferred none)) w.heap.size v (Ft.lstR T)) := by
        have hblk : ∀ k, ¬ O' k → (W.putObj D (.deferred none)).heap[k]? = W.heap[k]? := fun k hno => World.putObj_heap_other (fun e => hno (e ▸ hOD'))
        rw [HE.out.1, ← hys2]
        refine ⟨L, rfl, own_mono (own_kept h2 (fun k e => hblk k (hv k e))) (by omega), fun y hy => ?_, h3.2⟩
        obtain ⟨y1, y2⟩ := h3.1 y hy
        exact ⟨Ft.strw_keep y1 (fun _ ad e => hblk _ (y2 ad e).2.2.2) (by simp), fun ad e => ⟨by have := (y2 ad e).1; omega, (y2 ad e).2.2.1⟩⟩
      clear hys hys2 h0 h1 h2 h3 hv h4 h6 hK hOO hOD hOD' hSq
      gi_wp2_with fail
      refine ⟨by simp, .inl ⟨_, _, rfl, run_takeDeferred HK.out, ?_⟩⟩
      refine ⟨_, results_tmp2 rfl _ _ _, v, ?_, HRr.out, HB.out.trans (belowK_b (w := w) (Nat.le_refl _) W D _ _ (by have := HD.out; omega) HK.out rfl rfl)⟩
      rw [HE.out.2]
      rfl
    case stop =>
      rintro D O' c W hD hOD hX hK
      exact hX.elim

theorem tlistx_any (T : Ft.FT) (a : Option Addr) (cap : Nat) (w : World) (hN : Ft.Fd w (· < w.heap.size) T a cap) (hz : Ft.szT T = true) (hc : (Ft.listT T []).length ≤ 1048576) :
    Calls Tryz.prog 20 #[Ft.fdV T a cap] w fun e w' => ∃ v, e = .returned (.tuple #[v, .int .i64 (Ft.lstC T)]) ∧ Ft.KRowX w' w.heap.size v (Ft.lstR T) ∧ Below w.heap.size w w' :=
  callsIn_wide.1 (tlist_in T a cap w hN hz hc)
theorem tlist_any (T : Ft.FT) (a : Option Addr) (cap : Nat) (w : World) (hN : Ft.Fd w (· < w.heap.size) T a cap) (hz : Ft.szT T = true) (hc : (Ft.listT T []).length ≤ 1048576) :
    Calls Tryz.prog 20 #[Ft.fdV T a cap] w fun e w' => ∃ v, e = .returned (.tuple #[v, .int .i64 (Ft.lstC T)]) ∧ Ft.KRow w' w.heap.size v (Ft.lstR T) ∧ Below w.heap.size w w' :=
  (tlistx_any T a cap w hN hz hc).mono fun _ _ ⟨v, h1, h2, h3⟩ => ⟨v, h1, h2.row, h3⟩
end Go.Proofs.YtfbhofomcenabaaGreatDoor
