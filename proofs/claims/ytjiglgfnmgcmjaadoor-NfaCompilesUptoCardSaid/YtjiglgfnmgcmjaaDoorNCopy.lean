/- What the reference's Copy of a tree answers. -/
import Derived.Test.YtjiglgfnmgcmjaaDoorNfM1
namespace Go.Proofs.YtjiglgfnmgcmjaaDoor
open Go.RowKit

namespace Nt
theorem k_mk (k : Nat) (s : Nat → Bool) (mn mx gr : Int) (l : List NT) : (NT.mk k s mn mx gr l).k = k := rfl
theorem s_mk (k : Nat) (s : Nat → Bool) (mn mx gr : Int) (l : List NT) : (NT.mk k s mn mx gr l).s = s := rfl
theorem mn_mk (k : Nat) (s : Nat → Bool) (mn mx gr : Int) (l : List NT) : (NT.mk k s mn mx gr l).mn = mn := rfl
theorem mx_mk (k : Nat) (s : Nat → Bool) (mn mx gr : Int) (l : List NT) : (NT.mk k s mn mx gr l).mx = mx := rfl
theorem gr_mk (k : Nat) (s : Nat → Bool) (mn mx gr : Int) (l : List NT) : (NT.mk k s mn mx gr l).gr = gr := rfl
theorem kids_mk (k : Nat) (s : Nat → Bool) (mn mx gr : Int) (l : List NT) : (NT.mk k s mn mx gr l).kids = l := rfl
/-- The zero node. -/
def zT : NT := .mk 0 noS 0 0 0 []
theorem node_zero (w : World) : NodeAt (w.alloc (.cells #[.int .u8 0, .int .u64 0, .int .u64 0, .int .u64 0, .int .u64 0, .int .i64 0, .int .i64 0, .int .i64 0, .slice none 0 0] 28)) w.heap.size zT none 0 := by
  have := node_new w zT none 0
  unfold ndA at this
  simp only [zT, NT.k, NT.s, NT.mn, NT.mx, NT.gr, NT.kids, wd_no] at this
  exact this
theorem NodeAt.setCell {w : World} {g : Nat} {T : NT} {a : Option Addr} {cap : Nat} (h : NodeAt w g T a cap) {ad : Addr} (v : Value) (hne : g ≠ ad.block) : NodeAt (w.setCell ad v) g T a cap := by
  unfold NodeAt; rw [heap_setCell_other w ad g v hne]; exact h
/-- The world behind a set's being written into a node. -/
abbrev putS (w : World) (g : Nat) (q : Nat → Bool) : World := (((w.setCell ⟨g, 1, none⟩ (.int .u64 (St.wd q 0 : Nat))).setCell ⟨g, 2, none⟩ (.int .u64 (St.wd q 1 : Nat))).setCell ⟨g, 3, none⟩ (.int .u64 (St.wd q 2 : Nat))).setCell ⟨g, 4, none⟩ (.int .u64 (St.wd q 3 : Nat))
theorem NodeAt.putS {w : World} {g : Nat} {T : NT} {a : Option Addr} {cap : Nat} (h : NodeAt w g T a cap) (q : Nat → Bool) : NodeAt (putS w g q) g (.mk T.k q T.mn T.mx T.gr T.kids) a cap := by
  have h0 := heap_setCell_same w g 1 _ _ (.int .u64 (St.wd q 0 : Nat)) h
  have h1 := heap_setCell_same _ g 2 _ _ (.int .u64 (St.wd q 1 : Nat)) h0
  have h2 := heap_setCell_same _ g 3 _ _ (.int .u64 (St.wd q 2 : Nat)) h1
  exact heap_setCell_same _ g 4 _ _ (.int .u64 (St.wd q 3 : Nat)) h2
theorem putS_below {w a : World} {g B : Nat} {q : Nat → Bool} (h : Below B a w) (hB : B ≤ g) : Below B a (putS w g q) := (((h.setCell (p := ⟨g, 1, none⟩) hB _).setCell (p := ⟨g, 2, none⟩) hB _).setCell (p := ⟨g, 3, none⟩) hB _).setCell (p := ⟨g, 4, none⟩) hB _
theorem NodeAt.putK {w : World} {g : Nat} {T : NT} {a : Option Addr} {cap : Nat} (h : NodeAt w g T a cap) (l : List NT) (a' : Option Addr) (cap' : Nat) : NodeAt (w.setCell ⟨g, 8, none⟩ (.slice a' l.length cap')) g (.mk T.k T.s T.mn T.mx T.gr l) a' cap' :=
  heap_setCell_same w g 8 _ _ (.slice a' l.length cap') h
/-- The world behind a node's being written. -/
abbrev putN (w : World) (g : Nat) (T : NT) (a : Option Addr) (cap : Nat) : World :=
  ((((((((w.setCell ⟨g, 0, none⟩ (.int .u8 (T.k : Int))).setCell ⟨g, 1, none⟩ (.int .u64 (St.wd T.s 0 : Nat))).setCell ⟨g, 2, none⟩ (.int .u64 (St.wd T.s 1 : Nat))).setCell ⟨g, 3, none⟩ (.int .u64 (St.wd T.s 2 : Nat))).setCell ⟨g, 4, none⟩ (.int .u64 (St.wd T.s 3 : Nat))).setCell ⟨g, 5, none⟩ (.int .i64 T.mn)).setCell ⟨g, 6, none⟩ (.int .i64 T.mx)).setCell ⟨g, 7, none⟩ (.int .i64 T.gr)).setCell ⟨g, 8, none⟩ (.slice a T.kids.length cap)
theorem put9 {w : World} {g : Nat} {t : TypeId} {x0 x1 x2 x3 x4 x5 x6 x7 x8 y0 y1 y2 y3 y4 y5 y6 y7 y8 : Value} (h : w.heap[g]? = some (.cells #[x0, x1, x2, x3, x4, x5, x6, x7, x8] t (0, 0))) : (((((((((w.setCell ⟨g, 0, none⟩ y0).setCell ⟨g, 1, none⟩ y1).setCell ⟨g, 2, none⟩ y2).setCell ⟨g, 3, none⟩ y3).setCell ⟨g, 4, none⟩ y4).setCell ⟨g, 5, none⟩ y5).setCell ⟨g, 6, none⟩ y6).setCell ⟨g, 7, none⟩ y7).setCell ⟨g, 8, none⟩ y8).heap[g]? = some (.cells #[y0, y1, y2, y3, y4, y5, y6, y7, y8] t (0, 0)) := by
  have h0 : (w.setCell ⟨g, 0, none⟩ y0).heap[g]? = some (.cells #[y0, x1, x2, x3, x4, x5, x6, x7, x8] t (0, 0)) := heap_setCell_same _ g 0 _ _ y0 h
  have h1 : ((w.setCell ⟨g, 0, none⟩ y0).setCell ⟨g, 1, none⟩ y1).heap[g]? = some (.cells #[y0, y1, x2, x3, x4, x5, x6, x7, x8] t (0, 0)) := heap_setCell_same _ g 1 _ _ y1 h0
  have h2 : (((w.setCell ⟨g, 0, none⟩ y0).setCell ⟨g, 1, none⟩ y1).setCell ⟨g, 2, none⟩ y2).heap[g]? = some (.cells #[y0, y1, y2, x3, x4, x5, x6, x7, x8] t (0, 0)) := heap_setCell_same _ g 2 _ _ y2 h1
  have h3 : ((((w.setCell ⟨g, 0, none⟩ y0).setCell ⟨g, 1, none⟩ y1).setCell ⟨g, 2, none⟩ y2).setCell ⟨g, 3, none⟩ y3).heap[g]? = some (.cells #[y0, y1, y2, y3, x4, x5, x6, x7, x8] t (0, 0)) := heap_setCell_same _ g 3 _ _ y3 h2
  have h4 : (((((w.setCell ⟨g, 0, none⟩ y0).setCell ⟨g, 1, none⟩ y1).setCell ⟨g, 2, none⟩ y2).setCell ⟨g, 3, none⟩ y3).setCell ⟨g, 4, none⟩ y4).heap[g]? = some (.cells #[y0, y1, y2, y3, y4, x5, x6, x7, x8] t (0, 0)) := heap_setCell_same _ g 4 _ _ y4 h3
  have h5 : ((((((w.setCell ⟨g, 0, none⟩ y0).setCell ⟨g, 1, none⟩ y1).setCell ⟨g, 2, none⟩ y2).setCell ⟨g, 3, none⟩ y3).setCell ⟨g, 4, none⟩ y4).setCell ⟨g, 5, none⟩ y5).heap[g]? = some (.cells #[y0, y1, y2, y3, y4, y5, x6, x7, x8] t (0, 0)) := heap_setCell_same _ g 5 _ _ y5 h4
  have h6 : (((((((w.setCell ⟨g, 0, none⟩ y0).setCell ⟨g, 1, none⟩ y1).setCell ⟨g, 2, none⟩ y2).setCell ⟨g, 3, none⟩ y3).setCell ⟨g, 4, none⟩ y4).setCell ⟨g, 5, none⟩ y5).setCell ⟨g, 6, none⟩ y6).heap[g]? = some (.cells #[y0, y1, y2, y3, y4, y5, y6, x7, x8] t (0, 0)) := heap_setCell_same _ g 6 _ _ y6 h5
  have h7 : ((((((((w.setCell ⟨g, 0, none⟩ y0).setCell ⟨g, 1, none⟩ y1).setCell ⟨g, 2, none⟩ y2).setCell ⟨g, 3, none⟩ y3).setCell ⟨g, 4, none⟩ y4).setCell ⟨g, 5, none⟩ y5).setCell ⟨g, 6, none⟩ y6).setCell ⟨g, 7, none⟩ y7).heap[g]? = some (.cells #[y0, y1, y2, y3, y4, y5, y6, y7, x8] t (0, 0)) := heap_setCell_same _ g 7 _ _ y7 h6
  have h8 : (((((((((w.setCell ⟨g, 0, none⟩ y0).setCell ⟨g, 1, none⟩ y1).setCell ⟨g, 2, none⟩ y2).setCell ⟨g, 3, none⟩ y3).setCell ⟨g, 4, none⟩ y4).setCell ⟨g, 5, none⟩ y5).setCell ⟨g, 6, none⟩ y6).setCell ⟨g, 7, none⟩ y7).setCell ⟨g, 8, none⟩ y8).heap[g]? = some (.cells #[y0, y1, y2, y3, y4, y5, y6, y7, y8] t (0, 0)) := heap_setCell_same _ g 8 _ _ y8 h7
  exact h8
theorem NodeAt.putN {w : World} {g : Nat} {T0 : NT} {a0 : Option Addr} {c0 : Nat} (h : NodeAt w g T0 a0 c0) (T : NT) (a : Option Addr) (cap : Nat) : NodeAt (putN w g T a cap) g T a cap := put9 h
theorem putN_below {w a0 : World} {g B : Nat} {T : NT} {a : Option Addr} {cap : Nat} (h : Below B a0 w) (hB : B ≤ g) : Below B a0 (putN w g T a cap) :=
  ((((((((h.setCell (p := ⟨g, 0, none⟩) hB _).setCell (p := ⟨g, 1, none⟩) hB _).setCell (p := ⟨g, 2, none⟩) hB _).setCell (p := ⟨g, 3, none⟩) hB _).setCell (p := ⟨g, 4, none⟩) hB _).setCell (p := ⟨g, 5, none⟩) hB _).setCell (p := ⟨g, 6, none⟩) hB _).setCell (p := ⟨g, 7, none⟩) hB _).setCell (p := ⟨g, 8, none⟩) hB _
theorem putN_other {w : World} {g b : Nat} {T : NT} {a : Option Addr} {cap : Nat} (hne : b ≠ g) : (putN w g T a cap).heap[b]? = w.heap[b]? := by
  rw [heap_setCell_other _ ⟨g, 8, none⟩ b _ hne, heap_setCell_other _ ⟨g, 7, none⟩ b _ hne, heap_setCell_other _ ⟨g, 6, none⟩ b _ hne, heap_setCell_other _ ⟨g, 5, none⟩ b _ hne, heap_setCell_other _ ⟨g, 4, none⟩ b _ hne, heap_setCell_other _ ⟨g, 3, none⟩ b _ hne, heap_setCell_other _ ⟨g, 2, none⟩ b _ hne, heap_setCell_other _ ⟨g, 1, none⟩ b _ hne, heap_setCell_other _ ⟨g, 0, none⟩ b _ hne]
theorem nine_new (w : World) (T : NT) (a : Option Addr) (cap : Nat) : ∀ j u, (nineL (T, a, cap))[j]? = some u → (w.alloc (.cells (ndA T a cap) 28)).cell? ((⟨w.heap.size, 0, none⟩ : Addr).add j) = some u := by
  intro j u hu
  have h := (node_new w T a cap).nine
  rw [add_at]
  match j, hu with
  | 0, hu => rw [← hu]; exact h.c0
  | 1, hu => rw [← hu]; exact h.c1
  | 2, hu => rw [← hu]; exact h.c2
  | 3, hu => rw [← hu]; exact h.c3
  | 4, hu => rw [← hu]; exact h.c4
  | 5, hu => rw [← hu]; exact h.c5
  | 6, hu => rw [← hu]; exact h.c6
  | 7, hu => rw [← hu]; exact h.c7
  | 8, hu => rw [← hu]; exact h.c8
  | j + 9, hu => cases hu
theorem nine_one (x : NT × Option Addr × Nat) : ∀ u, u ∈ nineL x → u.oneCell' = true := by
  intro u hu
  simp only [nineL, List.mem_cons, List.not_mem_nil, or_false] at hu
  rcases hu with rfl | rfl | rfl | rfl | rfl | rfl | rfl | rfl | rfl <;> rfl
end Nt

set_option maxRecDepth 100000 in
set_option maxHeartbeats 2000000 in
theorem rcopy_any (T : Nt.NT) :
    ∀ (a : Option Addr) (cap : Nat) (w : World), Nt.Nd w (· < w.heap.size) T a cap →
    Calls Tryd.prog 9 #[Nt.ndV T a cap] w fun e w' => ∃ a' cap', e = .returned (Nt.ndV T a' cap') ∧ Nt.Nd w' (fun b => w.heap.size ≤ b ∧ b < w'.heap.size) T a' cap' ∧ Below w.heap.size w w' := by
  induction T using Nt.NT.ind with
  | h T ih =>
  intro a cap w hN
  have IH : Hid _ := ih
  clear ih
  have hlm := hN.room.1
  obtain ⟨i0, hi0, hz0, hz1, hz2⟩ := info_parts Tryd.infoNode
  have N0 := (Nt.node_new w T a cap).alloc (.cells #[.int .u8 0, .int .u64 0, .int .u64 0, .int .u64 0, .int .u64 0, .int .i64 0, .int .i64 0, .int .i64 0, .slice none 0 0] 28)
  have Z0 := Nt.node_zero (w.alloc (.cells (Nt.ndA T a cap) 28))
  have hB0 : Below w.heap.size w ((w.alloc (.cells (Nt.ndA T a cap) 28)).alloc (.cells #[.int .u8 0, .int .u64 0, .int .u64 0, .int .u64 0, .int .u64 0, .int .i64 0, .int .i64 0, .int .i64 0, .slice none 0 0] 28)) := ((Below.refl w.heap.size w).alloc (Nat.le_refl _) _).alloc (by simp) _
  have hs0 : ((w.alloc (.cells (Nt.ndA T a cap) 28)).alloc (.cells #[.int .u8 0, .int .u64 0, .int .u64 0, .int .u64 0, .int .u64 0, .int .i64 0, .int .i64 0, .int .i64 0, .slice none 0 0] 28)).heap.size = w.heap.size + 2 := by simp
  have hz : (w.alloc (.cells (Nt.ndA T a cap) 28)).heap.size = w.heap.size + 1 := by simp
  rw [hz] at Z0
  clear hz
  simp only [Nt.ndV, Nt.ndA] at N0 Z0 hB0 hs0 ⊢
  obtain ⟨W, hW⟩ : ∃ W, W = (w.alloc (.cells #[.int .u8 (T.k : Int), .int .u64 (St.wd T.s 0 : Nat), .int .u64 (St.wd T.s 1 : Nat), .int .u64 (St.wd T.s 2 : Nat), .int .u64 (St.wd T.s 3 : Nat), .int .i64 T.mn, .int .i64 T.mx, .int .i64 T.gr, .slice a T.kids.length cap] 28)).alloc (.cells #[.int .u8 0, .int .u64 0, .int .u64 0, .int .u64 0, .int .u64 0, .int .i64 0, .int .i64 0, .int .i64 0, .slice none 0 0] 28) := ⟨_, rfl⟩
  rw [← hW] at N0 Z0 hB0 hs0
  have hN1 : Nt.Nd W (· < w.heap.size) T a cap := hN.under hB0
  go_enter Tryd.func9, Tryd.ntmps9
  have n9 := N0.nine
  obtain ⟨q0, q1, q2, q3, q4, q5, q6, q7, q8⟩ := n9
  go_wp2_with fail
  rw [← hW]
  clear hW
  go_loopw [3, 9] (fun v iv wr => ∃ i : Nat, i ≤ T.kids.length ∧ iv = .int .i64 (i : Int) ∧ Nt.NRow wr (w.heap.size + 2) v (T.kids.take i) ∧ Nt.NodeAt wr w.heap.size T a cap ∧ Nt.NodeAt wr (w.heap.size + 1) Nt.zT none 0 ∧ Nt.Nd wr (· < w.heap.size) T a cap ∧ Below w.heap.size w wr ∧ w.heap.size + 2 ≤ wr.heap.size) (fun _ iv _ => T.kids.length - (intOf iv).toNat)
  case atStart => exact ⟨0, by omega, rfl, Nt.NRow.empty _ _, N0, Z0, hN1, hB0, by omega⟩
  case round =>
    clear N0 hN1 hB0 Z0 q0 q1 q2 q3 q4 q5 q6 q7 q8 hs0
    obtain ⟨i, hi, rfl, NR, NA, ZA, ND, hB, hsz⟩ := hrel
    by_cases hlt : i < T.kids.length
    · obtain ⟨b, off, a', cap', rfl, hbB, h9, hk⟩ := ND.kid hlt
      have HK : Hid _ := hk
      have HT : Hid _ := List.take_succ_eq_append_getElem (l := T.kids) (i := i) hlt
      obtain ⟨r0, r1, r2, r3, r4, r5, r6, r7, r8⟩ := h9
      have K1 := Nt.node_new wr (T.kids[i]) a' cap'
      have hA : Below wr.heap.size wr (wr.alloc (.cells (Nt.ndA (T.kids[i]) a' cap') 28)) := (Below.refl _ _).alloc (Nat.le_refl _) _
      have HIH : Hid _ := IH.out i hlt a' cap'
      simp only [Nt.ndV, Nt.ndA] at K1 hA HIH
      obtain ⟨k0, k1, k2, k3, k4, k5, k6, k7, k8⟩ := K1.nine
      go_wp2_with fail
      have hszA : (wr.alloc (.cells #[.int .u8 ((T.kids[i]).k : Int), .int .u64 (St.wd (T.kids[i]).s 0 : Nat), .int .u64 (St.wd (T.kids[i]).s 1 : Nat), .int .u64 (St.wd (T.kids[i]).s 2 : Nat), .int .u64 (St.wd (T.kids[i]).s 3 : Nat), .int .i64 (T.kids[i]).mn, .int .i64 (T.kids[i]).mx, .int .i64 (T.kids[i]).gr, .slice a' (T.kids[i]).kids.length cap'] 28)).heap.size = wr.heap.size + 1 := by simp
      refine (HIH.out _ (HK.out.same (fun b (h : b < _) => hA.block b (by omega)) (fun b (h : b < _) => by omega))).mono ?_
      rintro x w2 ⟨a2, cap2, rfl, hn2, hb2⟩
      have hB2 : Below wr.heap.size wr w2 := hA.trans (hb2.mono hA.size)
      have hs2 := hb2.size
      rw [hszA] at hn2 hs2
      have hro : ∀ k, u3.ownBlock = some k → k < wr.heap.size := by
        obtain ⟨L, _, ox, _⟩ := NR
        exact fun k hk => (ox.lt k hk).2
      have NR2 := NR.below hB2
      have NA2 := Nt.NodeAt.below NA hB2 (by omega)
      have ZA2 := Nt.NodeAt.below ZA hB2 (by omega)
      have ND2 : Nt.Nd w2 (· < w.heap.size) T _ cap := ND.same (fun b (h : b < _) => hB2.block b (by omega)) (fun _ h => h)
      have hBw : Below w.heap.size w w2 := hB.trans (hB2.mono hB.size)
      clear NR NA ZA ND hB hA hb2 HIH HK k0 k1 k2 k3 k4 k5 k6 k7 k8 K1 r0 r1 r2 r3 r4 r5 r6 r7 r8 IH hszA
      obtain ⟨L, hL, ox, ex⟩ := NR2
      have hLn : L.length = i := by
        have := congrArg List.length hL
        simp at this
        omega
      have hx2 : Nt.Nd w2 (fun b => w.heap.size + 2 ≤ b ∧ b < w2.heap.size ∧ some b ≠ u3.ownBlock) (T.kids[i]) a2 cap2 := hn2.mono (fun b hb => ⟨by omega, hb.2, fun e => by have := hro b e.symm; omega⟩)
      clear hn2
      go_wp2_with (at_builtin; refine Nt.wpList_append_far _ rfl _ _ 26 rfl (w.heap.size + 2) 28 i0 (.agg #[.int .u8 0, .int .u64 0, .int .u64 0, .int .u64 0, .int .u64 0, .int .i64 0, .int .i64 0, .int .i64 0, .slice none 0 0]) 9 88 Tryd.underlying26 hi0 hz0 hz1 hz2 rfl (by decide) _ _ _ rfl (ox.alloc _) ⟨w2.heap.size, 0, none⟩ 1 1 (Nt.nineL (T.kids[i], a2, cap2)) rfl rfl ?c1 ?c2 ?c3 ?c4 ?c5 ?_)
      case c1 => exact Nt.nine_new w2 (T.kids[i]) a2 cap2
      case c2 => exact Nt.nine_one _
      case c3 => unfold maxLen; omega
      case c4 => omega
      case c5 => simp; omega
      intro v3 w3 hown3 hgr3 _ hat3
      have hB3 : Below (w.heap.size + 2) w2 w3 := ((Below.refl _ _).alloc (by omega) _).grown hgr3 (by simp; omega) (fun g hg => (ox.lt g hg).1)
      rw [show i + 1 = L.length + 1 by omega] at hown3
      have NR3 := Nt.nrow_snoc ex hx2 hown3 hgr3 hat3 (by simp)
      have NA3 := Nt.NodeAt.below NA2 hB3 (by omega)
      have ZA3 := Nt.NodeAt.below ZA2 hB3 (by omega)
      have ND3 : Nt.Nd w3 (· < w.heap.size) T _ cap := ND2.same (fun b (h : b < _) => hB3.block b (by omega)) (fun _ h => h)
      have hBw3 : Below w.heap.size w w3 := hBw.trans (hB3.mono (by omega))
      have hs3 := hB3.size
      clear hgr3 hown3 hat3 NA2 ZA2 ND2 hBw hB3 ex ox hx2
      go_wp2_with fail
      refine ⟨⟨i + 1, by omega, by simp, ?_, NA3, ZA3, ND3, hBw3, by omega⟩, by simp only [intOf]; omega⟩
      rw [HT.out, ← hL]
      exact NR3
    · obtain rfl : i = T.kids.length := by omega
      obtain ⟨q0, q1, q2, q3, q4, q5, q6, q7, q8⟩ := NA.nine
      obtain ⟨K, hK⟩ : ∃ K, K = T.kids := ⟨_, rfl⟩
      have hkl : Hid (K.length = T.kids.length) := by show _ = _; rw [hK]
      have NR' : Nt.NRow wr (w.heap.size + 2) u3 K := by rw [hK]; rwa [List.take_of_length_le (by simp)] at NR
      have HQ' : Hid (T = .mk T.k T.s T.mn T.mx T.gr K) := by show _ = _; rw [hK]; exact Nt.NT.eta T
      obtain ⟨a3, cap3, hv3, hn3⟩ := Nt.NRow.nd (T := .mk T.k T.s T.mn T.mx T.gr K) NR' (by have := hkl.out; show K.length ≤ _; omega)
      have hv3 : u3 = .slice a3 K.length cap3 := hv3
      subst hv3
      clear hK
      have f8 := NA.frozen 8
      have HNA : Hid _ := NA
      have HZA : Hid _ := ZA
      have HN3 : Hid _ := hn3
      obtain ⟨c0, c1, c2, c3, c4, c5, c6, c7, c8⟩ := (NA.putK K a3 cap3).nine
      obtain ⟨z0, z1, z2, z3, z4, z5, z6, z7, z8⟩ := ZA.nine
      have g0 := ZA.frozen 0
      have g1 := ZA.frozen 1
      have g2 := ZA.frozen 2
      have g3 := ZA.frozen 3
      have g4 := ZA.frozen 4
      have g5 := ZA.frozen 5
      have g6 := ZA.frozen 6
      have g7 := ZA.frozen 7
      have g8 := ZA.frozen 8
      clear NR NR' hn3
      go_wp2_with fail
      refine bodyPost_ret (results_cell_row rfl _ _ (w.heap.size + 1) _ _ _ _ rfl (Nt.NodeAt.putN (Nt.NodeAt.setCell HZA.out _ (show w.heap.size + 1 ≠ w.heap.size by omega)) (.mk T.k T.s T.mn T.mx T.gr K) a3 cap3) Tryd.underlying28 rfl (by kernel_rfl)) rfl ?_
      rw [HQ'.out]
      have hB5 : Below w.heap.size w (Nt.putN (wr.setCell ⟨w.heap.size, 8, none⟩ (.slice a3 K.length cap3)) (w.heap.size + 1) (.mk T.k T.s T.mn T.mx T.gr K) a3 cap3) := Nt.putN_below (hB.setCell (p := ⟨w.heap.size, 8, none⟩) (Nat.le_refl _) _) (by omega)
      have hz5 : wr.heap.size ≤ (Nt.putN (wr.setCell ⟨w.heap.size, 8, none⟩ (.slice a3 K.length cap3)) (w.heap.size + 1) (.mk T.k T.s T.mn T.mx T.gr K) a3 cap3).heap.size := (Nt.putN_below (((Below.refl 0 wr).setCell (p := ⟨w.heap.size, 8, none⟩) (Nat.zero_le _) _)) (Nat.zero_le _)).size
      refine ⟨a3, cap3, rfl, HN3.out.same (fun b hb => ?_) (fun b hb => ⟨by omega, Nat.lt_of_lt_of_le hb.2 hz5⟩), hB5⟩
      refine (Nt.putN_other (w := wr.setCell ⟨w.heap.size, 8, none⟩ (.slice a3 K.length cap3)) (g := w.heap.size + 1) (T := .mk T.k T.s T.mn T.mx T.gr K) (a := a3) (cap := cap3) (by omega)).trans (heap_setCell_other _ ⟨w.heap.size, 8, none⟩ b _ (show b ≠ w.heap.size by omega))
end Go.Proofs.YtjiglgfnmgcmjaaDoor
