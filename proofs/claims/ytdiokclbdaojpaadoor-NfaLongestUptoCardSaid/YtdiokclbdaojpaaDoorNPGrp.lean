/- What posix.Groups answers. -/
import Derived.Test.YtdiokclbdaojpaaDoorNNodes
namespace Go.Proofs.YtdiokclbdaojpaaDoor
open Go.RowKit Go.Shelf

attribute [local go_sem] Oper.semAt_some

namespace Nt
/-- How many of some kinds are 6, a group's. -/
def six (l : List Nat) : Nat := l.countP (· == 6)
theorem six_kinds (T : NT) : six (kinds T) = grps T := by
  induction T using NT.ind with
  | h T ih =>
    have key : ∀ i, i ≤ T.kids.length → six (kinds.kindsL (T.kids.take i)) = grps.grpsL (T.kids.take i) := by
      intro i
      induction i with
      | zero => intro _; simp [six, kinds.kindsL, grps.grpsL]
      | succ i hi =>
        intro hlt
        rw [kindsL_take (by omega), grpsL_take (by omega)]
        have h1 := hi (by omega)
        have h2 := ih i (by omega)
        simp only [six, List.countP_append] at h1 h2 ⊢
        omega
    have h := key T.kids.length (Nat.le_refl _)
    rw [List.take_length] at h
    rw [kinds_eq, grps_eq, ← h]
    simp only [six, List.countP_cons]
    omega
end Nt

set_option maxRecDepth 100000 in
set_option maxHeartbeats 2000000 in
theorem pgroups_in (F : Fence) (hd : F.depth = none) (n : Nat) (hf : F.fn 36) (hf0 : F.fn 48) (hf1 : F.fn 70) (hf2 : F.fn 71) (hro : F.round = none) (hn : 3 ≤ n) (T : Nt.NT) (a : Option Addr) (cap : Nat) (w : World) (hN : Nt.Nd w (· < w.heap.size) T a cap) (hT : Nt.cnt T < 4611686018427387904) :
    CallsIn F n Tryd.prog 36 #[Nt.ndV T a cap] w fun e w' => e = .returned (.int .i64 (Nt.grps T : Nat)) ∧ Below w.heap.size w w' := by
  have h1 : 1 ≤ n := by omega
  have HN : Hid _ := hN
  clear hN
  simp only [Nt.ndV, Nt.ndA]
  refine callsIn_of_wp_marks Tryd.func36 rfl hf ?_ hro
  simp only [Tryd.ntmps36, List.size_toArray, List.length_cons, List.length_nil, Nat.reduceAdd, Nat.reduceSub, Array.replicate_succ, Array.replicate_zero, List.push_toArray, List.append_toArray, List.nil_append, List.cons_append]
  gi_wp2_with (gi_at_call 48; refine (nodes_in F (n - 1) hf0 hro _ _).mono ?_; rintro e w' ⟨rfl, rfl⟩)
  obtain ⟨W0, hW0⟩ : ∃ W0, W0 = ((w.alloc (.cells #[.int .u8 (T.k : Int), .int .u64 (St.wd T.s 0 : Nat), .int .u64 (St.wd T.s 1 : Nat), .int .u64 (St.wd T.s 2 : Nat), .int .u64 (St.wd T.s 3 : Nat), .int .i64 T.mn, .int .i64 T.mx, .int .i64 T.gr, .slice a T.kids.length cap] 28)).alloc (.cells #[.int .i64 0] 3)).alloc (.cells #[.pointer (some ⟨w.heap.size, 0, none⟩)] 69) := ⟨_, rfl⟩
  have N0 := ((Nt.node_new w T a cap).alloc (.cells #[.int .i64 0] 3)).alloc (.cells #[.pointer (some ⟨w.heap.size, 0, none⟩)] 69)
  have c1 := cell_new_k (w.alloc (.cells (Nt.ndA T a cap) 28)) (.int .i64 0) 3
  have c2 := cell_new_k ((w.alloc (.cells (Nt.ndA T a cap) 28)).alloc (.cells #[.int .i64 0] 3)) (.pointer (some ⟨w.heap.size, 0, none⟩)) 69
  have c3 := cell_alloc_k (.cells #[.pointer (some ⟨w.heap.size, 0, none⟩)] 69) c1.1
  have c4 := frozen_alloc_k (.cells #[.pointer (some ⟨w.heap.size, 0, none⟩)] 69) c1.1 c1.2
  have hB0 : Below w.heap.size w (((w.alloc (.cells (Nt.ndA T a cap) 28)).alloc (.cells #[.int .i64 0] 3)).alloc (.cells #[.pointer (some ⟨w.heap.size, 0, none⟩)] 69)) := (((Below.refl _ w).alloc (Nat.le_refl _) _).alloc (by simp) _).alloc (by simp; omega) _
  have hs0 : W0.heap.size = w.heap.size + 3 := by rw [hW0]; simp
  simp only [Nt.ndA, World.size_alloc] at N0 c1 c2 c3 c4 hB0
  rw [← hW0] at N0 c2 c3 c4 hB0 ⊢
  clear hW0 c1
  have HNd : Nt.Nd W0 (· < w.heap.size + 1) T a cap := HN.out.same (fun b (h : b < _) => hB0.block b h) (fun b (h : b < _) => by omega)
  refine wpIn_rangeFunc_ownF hro h1 (gf := 70) (lb := #[.pointer (some ⟨w.heap.size + 1 + 1, 0, none⟩)]) rfl hf1 (enters_of Tryd.func70 (by kernel_rfl) rfl)
    (nodes_stops F hd (n - 1) hf1 hf2 hro (w.heap.size + 1 + 1) (w.heap.size + 1) w.heap.size 0 T a cap W0 (by omega) (by omega) c2.1 (by omega) N0.nine HNd) belowK_t (belowK_b (by omega)) (Below.refl _ _) (fun _ => rfl)
    (fun pre W => ((W.cell? ⟨w.heap.size + 1, 0, none⟩ = some (.int .i64 (Nt.six (pre.map Nt.spk) : Nat)) ∧ W.frozen? ⟨w.heap.size + 1, 0, none⟩ = false) ∧ Below (w.heap.size + 1) W0 W) ∧ Below w.heap.size w W)
    (fun _ _ _ => False)
    (OwnFrom.and (OwnFrom.and (Own.from (fun s A B row hs hg hr => ⟨cell_kept hs.1 hg hr, (frozen_kept hs.1 hg hr).trans hs.2⟩) _) (ownFrom_below (by omega) (by omega))) (ownFrom_below (Nat.le_refl _) (by omega)))
    (fun _ _ _ _ _ hs _ _ => hs)
    ⟨⟨⟨c3, c4⟩, Below.refl _ _⟩, hB0⟩
    (fun x => { tmps := #[.agg #[.int .u8 (T.k : Int), .int .u64 (St.wd T.s 0 : Nat), .int .u64 (St.wd T.s 1 : Nat), .int .u64 (St.wd T.s 2 : Nat), .int .u64 (St.wd T.s 3 : Nat), .int .i64 T.mn, .int .i64 T.mx, .int .i64 T.gr, .slice a T.kids.length cap], .pointer (some ⟨w.heap.size, 0, none⟩), .int .i64 0, .pointer (some ⟨w.heap.size + 1, 0, none⟩), .pointer (some ⟨x.1.1, x.1.2.1, none⟩), .func (.func 70) #[] #[.pointer (some ⟨w.heap.size + 1 + 1, 0, none⟩)], .pointer (some ⟨x.1.1, x.1.2.1, none⟩), undef, undef, undef, undef, undef, undef, undef, undef], defers := [] }) ?assign ?body ?done ?stop
  case assign =>
    intro l x W K hK
    simp only [Nt.spE]
    gi_wp2
    exact hK
  case body =>
    rintro l pre x W ⟨⟨⟨hc, hf⟩, hbW⟩, hB⟩ hlen
    have hx := (hbW.cell (p := ⟨x.1.1, x.1.2.1, none⟩) x.2.1).trans x.2.2
    have HP : Hid (Nt.six ((pre ++ [x]).map Nt.spk) = Nt.six (pre.map Nt.spk) + if ((x.1.2.2 : Int) == 6) then 1 else 0) := by
      show _ = _
      rw [List.map_append, Nt.six, Nt.six, List.countP_append]
      have e : (x.1.2.2 == 6) = ((x.1.2.2 : Int) == 6) := by rw [Bool.eq_iff_iff]; simp; omega
      simp only [List.map_cons, List.map_nil, List.countP_cons, List.countP_nil, Nt.spk, e, Nat.zero_add]
    have hsl : Nt.six (pre.map Nt.spk) ≤ pre.length := by
      have := List.countP_le_length (p := (· == 6)) (l := pre.map Nt.spk)
      simpa [Nt.six] using this
    have HB : Hid _ := hB
    have HbW : Hid _ := hbW
    cases hk : ((x.1.2.2 : Int) == 6)
    · rw [hk] at HP
      gi_wp2
      exact ⟨KeepsOthers.refl _, Below.refl _ _, ⟨⟨by rw [HP.out]; exact hc, hf⟩, hbW⟩, hB⟩
    · rw [hk] at HP
      have hsum : ((Nt.six (pre.map Nt.spk) : Nat) : Int) + 1 ≤ 4611686018427387904 := by omega
      generalize hq : Nt.six (pre.map Nt.spk) = q at *
      gi_wp2
      exact ⟨KeepsOthers.setCell _ _ _, (Below.refl _ W).setCell (p := ⟨w.heap.size + 1, 0, none⟩) (Nat.le_refl _) _, ⟨⟨by rw [HP.out]; exact World.cell?_setCell_same' _ _ _ (by rw [hc]; rfl), by rw [World.frozen?_setCell]; exact hf⟩, hbW.setCell (p := ⟨w.heap.size + 1, 0, none⟩) (Nat.le_refl _) _⟩, hB.setCell (p := ⟨w.heap.size + 1, 0, none⟩) (by simp) _⟩
  case done =>
    rintro D ys W hD hys ⟨⟨⟨hc, _⟩, hbW⟩, hB⟩ hK
    rw [hys, Nt.six_kinds] at hc
    gi_wp2
    refine ⟨by simp, .inl ⟨_, _, rfl, run_takeDeferred hK, ?_⟩⟩
    exact ⟨_, results_tmp rfl _ _ _, rfl, hB.trans (belowK_b (w := w) (Nat.le_refl _) W D _ _ (by omega) hK rfl rfl)⟩
  case stop =>
    rintro D c pre W _ _ h _
    exact h.elim

theorem pgroups_any (T : Nt.NT) (a : Option Addr) (cap : Nat) (w : World) (hN : Nt.Nd w (· < w.heap.size) T a cap) (hT : Nt.cnt T < 4611686018427387904) :
    Calls Tryd.prog 36 #[Nt.ndV T a cap] w fun e w' => e = .returned (.int .i64 (Nt.grps T : Nat)) ∧ Below w.heap.size w w' :=
  (callsIn_wide (n := 3)).1 (pgroups_in Fence.wide rfl 3 trivial trivial trivial trivial rfl (by omega) T a cap w hN hT)
end Go.Proofs.YtdiokclbdaojpaaDoor
