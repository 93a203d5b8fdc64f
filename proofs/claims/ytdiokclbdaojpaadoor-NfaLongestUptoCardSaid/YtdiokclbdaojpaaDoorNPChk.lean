/- What posix.Check answers. -/
import Derived.Test.YtdiokclbdaojpaaDoorNPGrp
import Derived.Test.YtdiokclbdaojpaaDoorNfM3
namespace Go.Proofs.YtdiokclbdaojpaaDoor
open Go.RowKit Go.Shelf

attribute [local go_sem] Oper.semAt_some

namespace Nt
/-- Check's error. -/
def chkP (T : NT) : Int := if 8192 < cnt T then 3 else if (numP T 1 []).isSome then 0 else 90
def tl0 : Tl := ⟨0, fun _ => false⟩
theorem tl_new (w : World) : TlAt (w.alloc (.cells #[.int .i64 0, .bool false, .bool false, .bool false, .bool false, .bool false, .bool false, .bool false, .bool false, .bool false, .bool false] 104)) w.heap.size tl0 := heap_alloc_new w _
theorem inv0 : Inv tl0 1 [] := fun x h1 h2 => by
  show false = _
  rw [decide_eq_false (by omega)]; rfl
end Nt

theorem frozen_of_block {w w' : World} {b o : Nat} (h : w'.heap[b]? = w.heap[b]?) : w'.frozen? ⟨b, o, none⟩ = w.frozen? ⟨b, o, none⟩ := by
  simp only [World.frozen?, h]

set_option maxRecDepth 100000 in
set_option maxHeartbeats 4000000 in
theorem pcheck_in (T : Nt.NT) (a : Option Addr) (cap : Nat) (w : World) (hN : Nt.Nd w (· < w.heap.size) T a cap) (hTb : Nt.Tabs w) :
    CallsIn Fence.wide 3 Tryd.prog 27 #[Nt.ndV T a cap] w fun e w' => e = .returned (.int .i64 (Nt.chkP T)) ∧ Below w.heap.size w w' := by
  have HN : Hid _ := hN
  have HTb : Hid _ := hTb
  have hbig := hTb.big
  clear hN hTb
  simp only [Nt.ndV, Nt.ndA]
  refine callsIn_of_wp_marks Tryd.func27 rfl trivial ?_ rfl
  simp only [Tryd.ntmps27, List.size_toArray, List.length_cons, List.length_nil, Nat.reduceAdd, Nat.reduceSub, Array.replicate_succ, Array.replicate_zero, List.push_toArray, List.append_toArray, List.nil_append, List.cons_append]
  gi_wp2_with (refine ⟨trivial, ?_⟩; gi_at_call 48; refine (nodes_in Fence.wide 2 trivial rfl _ _).mono ?_; rintro e w' ⟨rfl, rfl⟩)
  obtain ⟨W0, hW0⟩ : ∃ W0, W0 = (((w.alloc (.cells #[.int .u8 (T.k : Int), .int .u64 (St.wd T.s 0 : Nat), .int .u64 (St.wd T.s 1 : Nat), .int .u64 (St.wd T.s 2 : Nat), .int .u64 (St.wd T.s 3 : Nat), .int .i64 T.mn, .int .i64 T.mx, .int .i64 T.gr, .slice a T.kids.length cap] 28)).alloc (.cells #[.int .i64 0] 30)).alloc (.cells #[.int .i64 0] 3)).alloc (.cells #[.pointer (some ⟨w.heap.size, 0, none⟩)] 69) := ⟨_, rfl⟩
  have N0 := (((Nt.node_new w T a cap).alloc (.cells #[.int .i64 0] 30)).alloc (.cells #[.int .i64 0] 3)).alloc (.cells #[.pointer (some ⟨w.heap.size, 0, none⟩)] 69)
  have r1 := cell_new_k (w.alloc (.cells (Nt.ndA T a cap) 28)) (.int .i64 0) 30
  have r2 := cell_alloc_k (.cells #[.int .i64 0] 3) r1.1
  have r2f := frozen_alloc_k (.cells #[.int .i64 0] 3) r1.1 r1.2
  have r3 := cell_alloc_k (.cells #[.pointer (some ⟨w.heap.size, 0, none⟩)] 69) r2
  have r3f := frozen_alloc_k (.cells #[.pointer (some ⟨w.heap.size, 0, none⟩)] 69) r2 r2f
  have c1 := cell_new_k ((w.alloc (.cells (Nt.ndA T a cap) 28)).alloc (.cells #[.int .i64 0] 30)) (.int .i64 0) 3
  have c2 := cell_new_k (((w.alloc (.cells (Nt.ndA T a cap) 28)).alloc (.cells #[.int .i64 0] 30)).alloc (.cells #[.int .i64 0] 3)) (.pointer (some ⟨w.heap.size, 0, none⟩)) 69
  have c3 := cell_alloc_k (.cells #[.pointer (some ⟨w.heap.size, 0, none⟩)] 69) c1.1
  have c4 := frozen_alloc_k (.cells #[.pointer (some ⟨w.heap.size, 0, none⟩)] 69) c1.1 c1.2
  have hB0 : Below w.heap.size w ((((w.alloc (.cells (Nt.ndA T a cap) 28)).alloc (.cells #[.int .i64 0] 30)).alloc (.cells #[.int .i64 0] 3)).alloc (.cells #[.pointer (some ⟨w.heap.size, 0, none⟩)] 69)) := ((((Below.refl _ w).alloc (Nat.le_refl _) _).alloc (by simp) _).alloc (by simp; omega) _).alloc (by simp; omega) _
  have hs0 : W0.heap.size = w.heap.size + 4 := by rw [hW0]; simp
  simp only [Nt.ndA, World.size_alloc] at N0 c1 c2 c3 c4 r1 r2 r2f r3 r3f hB0
  rw [← hW0] at N0 c2 c3 c4 r3 r3f hB0 ⊢
  clear hW0 c1 r1 r2 r2f
  have HNd : Nt.Nd W0 (· < w.heap.size + 1) T a cap := HN.out.same (fun b (h : b < _) => hB0.block b h) (fun b (h : b < _) => by omega)
  have HTl : Hid _ := HN.out
  refine wpIn_rangeFunc_ownF rfl (by omega) (gf := 70) (lb := #[.pointer (some ⟨w.heap.size + 1 + 1 + 1, 0, none⟩)]) rfl trivial (enters_of Tryd.func70 (by kernel_rfl) rfl)
    (nodes_stops Fence.wide rfl 2 trivial trivial rfl (w.heap.size + 1 + 1 + 1) (w.heap.size + 1) w.heap.size 0 T a cap W0 (by omega) (by omega) c2.1 (by omega) N0.nine HNd) belowK_t (belowK_b (by omega)) (Below.refl _ _) (fun _ => rfl)
    (fun pre W => (((W.cell? ⟨w.heap.size + 1 + 1, 0, none⟩ = some (.int .i64 (pre.length : Nat)) ∧ W.frozen? ⟨w.heap.size + 1 + 1, 0, none⟩ = false ∧ pre.length ≤ 8192) ∧ (W.cell? ⟨w.heap.size + 1, 0, none⟩ = some (.int .i64 0) ∧ W.frozen? ⟨w.heap.size + 1, 0, none⟩ = false)) ∧ Below (w.heap.size + 1) W0 W) ∧ Below w.heap.size w W)
    (fun c pre W => (c = .ret ∧ pre.length = 8193 ∧ W.cell? ⟨w.heap.size + 1, 0, none⟩ = some (.int .i64 3)) ∧ Below w.heap.size w W)
    (OwnFrom.and (OwnFrom.and (Own.from (fun s A B row hs hg hr => ⟨⟨cell_kept hs.1.1 hg hr, (frozen_kept hs.1.1 hg hr).trans hs.1.2.1, hs.1.2.2⟩, cell_kept hs.2.1 hg hr, (frozen_kept hs.2.1 hg hr).trans hs.2.2⟩) _) (ownFrom_below (by omega) (by omega))) (ownFrom_below (Nat.le_refl _) (by omega)))
    (fun c => OwnFrom.and (Own.from (fun s A B row hs hg hr => ⟨hs.1, hs.2.1, cell_kept hs.2.2 hg hr⟩) _) (ownFrom_below (Nat.le_refl _) (by omega)))
    ⟨⟨⟨⟨c3, c4, by simp⟩, r3, r3f⟩, Below.refl _ _⟩, hB0⟩
    (fun x => { tmps := #[.agg #[.int .u8 (T.k : Int), .int .u64 (St.wd T.s 0 : Nat), .int .u64 (St.wd T.s 1 : Nat), .int .u64 (St.wd T.s 2 : Nat), .int .u64 (St.wd T.s 3 : Nat), .int .i64 T.mn, .int .i64 T.mx, .int .i64 T.gr, .slice a T.kids.length cap], .pointer (some ⟨w.heap.size, 0, none⟩), .pointer (some ⟨w.heap.size + 1, 0, none⟩), .pointer (some ⟨w.heap.size + 1 + 1, 0, none⟩), undef, .func (.func 70) #[] #[.pointer (some ⟨w.heap.size + 1 + 1 + 1, 0, none⟩)], .pointer (some ⟨x.1.1, x.1.2.1, none⟩), undef, undef, undef, undef, undef, undef], defers := [] }) ?assign ?body ?done ?stop
  case assign =>
    intro l x W K hK
    simp only [Nt.spE]
    gi_wp2
    simpa using hK
  case body =>
    rintro l pre x W ⟨⟨⟨⟨hc, hf, hle⟩, hr, hrf⟩, hbW⟩, hB⟩ hlen
    have hc2 : (W.setCell ⟨w.heap.size + 1 + 1, 0, none⟩ (.int .i64 ((pre.length : Int) + 1))).cell? ⟨w.heap.size + 1 + 1, 0, none⟩ = some (.int .i64 ((pre.length : Int) + 1)) := World.cell?_setCell_same' _ _ _ (by rw [hc]; rfl)
    have hr2 : (W.setCell ⟨w.heap.size + 1 + 1, 0, none⟩ (.int .i64 ((pre.length : Int) + 1))).cell? ⟨w.heap.size + 1, 0, none⟩ = some (.int .i64 0) := by rw [World.cell?_setCell_other _ _ _ _ (by simp)]; exact hr
    have hrf2 : (W.setCell ⟨w.heap.size + 1 + 1, 0, none⟩ (.int .i64 ((pre.length : Int) + 1))).frozen? ⟨w.heap.size + 1, 0, none⟩ = false := by rw [World.frozen?_setCell]; exact hrf
    have hB2 := hB.setCell (p := ⟨w.heap.size + 1 + 1, 0, none⟩) (by simp; omega) (.int .i64 ((pre.length : Int) + 1))
    have hbW2 := hbW.setCell (p := ⟨w.heap.size + 1 + 1, 0, none⟩) (by simp) (.int .i64 ((pre.length : Int) + 1))
    have HB2 : Hid _ := hB2
    have HbW2 : Hid _ := hbW2
    have Hlen : Hid _ := hle
    clear hB2 hbW2 hbW hB
    by_cases h8 : pre.length = 8192
    · have e8 : (pre.length : Int) = 8192 := by omega
      rw [e8] at hc hc2 hr2 hrf2 HB2 HbW2
      have hr3 : (W.setCell ⟨w.heap.size + 1 + 1, 0, none⟩ (.int .i64 8193)).cell? ⟨w.heap.size + 1, 0, none⟩ = some (.int .i64 0) := hr2
      clear e8 hle
      gi_wp2
      exact ⟨(KeepsOthers.setCell _ _ _).trans (KeepsOthers.setCell _ _ _), ⟨rfl, by simp [h8], World.cell?_setCell_same' _ _ _ (by rw [hr3]; rfl)⟩, HB2.out.setCell (p := ⟨w.heap.size + 1, 0, none⟩) (by simp) _⟩
    · have hd8 : decide ((8192 : Int) < (pre.length : Int) + 1) = false := by simp; omega
      have hd9 : ((8192 : Int) < (pre.length : Int) + 1) = False := by simp; omega
      have hlt : pre.length < 8192 := by omega
      gi_wp2
      refine ⟨KeepsOthers.setCell _ _ _, (Below.refl _ W).setCell (p := ⟨w.heap.size + 1 + 1, 0, none⟩) (by simp) _, ⟨⟨⟨⟨?_, ?_, ?_⟩, hr2, hrf2⟩, HbW2.out⟩, HB2.out⟩⟩
      · rw [hc2]; simp
      · rw [World.frozen?_setCell]; exact hf
      · simp; omega
  case done =>
    rintro D ys W hD hys ⟨⟨⟨⟨_, _, hle⟩, hr, hrf⟩, hbW⟩, hB⟩ hK
    have hcnt : Nt.cnt T = ys.length := by rw [Nt.cnt, ← hys, List.length_map]
    have Hcnt : Hid (Nt.cnt T ≤ 8192) := by show _ ≤ _; omega
    clear hcnt hys hle
    have hDl : D < W.heap.size := by
      by_cases h : D < W.heap.size
      · exact h
      · rw [Array.getElem?_eq_none (by omega)] at hK; cases hK
    have hsW := hbW.size
    have hTb1 : Nt.Tabs W := HTb.out.under hB
    have hA : Below W.heap.size W (W.alloc (.cells #[.int .i64 0, .bool false, .bool false, .bool false, .bool false, .bool false, .bool false, .bool false, .bool false, .bool false, .bool false] 104)) := (Below.refl _ _).alloc (Nat.le_refl _) _
    have HR0 := right_any T w.heap.size 0 a cap Nt.tl0 1 [] W.heap.size _ ((N0.nine.same (hbW.block _ (by omega))).same (hA.block _ (by omega))) (by have := hA.size; omega) (by omega) (HNd.same (fun b (h : b < _) => (hA.block b (by omega)).trans (hbW.block b h)) (fun b (h : b < _) => ⟨by have := hA.size; omega, by omega⟩)) (Nt.tl_new W) (hTb1.under hA) (by omega) Hcnt.out rfl (by omega) Nt.inv0 (fun y hy => by cases hy)
    have HR : Hid (Calls Tryd.prog 49 #[.pointer (some ⟨W.heap.size, 0, none⟩), .pointer (some ⟨w.heap.size, 0, none⟩)] (W.alloc (.cells #[.int .i64 0, .bool false, .bool false, .bool false, .bool false, .bool false, .bool false, .bool false, .bool false, .bool false, .bool false] 104)) fun e w' => e = .returned (.bool (Nt.numP T 1 []).isSome) ∧ Bx W.heap.size (W.alloc (.cells #[.int .i64 0, .bool false, .bool false, .bool false, .bool false, .bool false, .bool false, .bool false, .bool false, .bool false, .bool false] 104)) w') := by
      refine Calls.mono HR0 ?_
      rintro e w2 ⟨⟨n2, hn2, rfl, _⟩ | ⟨hn2, rfl⟩, hx⟩
      · exact ⟨by rw [hn2]; rfl, hx⟩
      · exact ⟨by rw [hn2]; rfl, hx⟩
    clear HR0
    have hr2 := (hA.cell (p := ⟨w.heap.size + 1, 0, none⟩) (by simp; omega)).trans hr
    have hrf2 := (frozen_of_block (o := 0) (hA.block (w.heap.size + 1) (by omega))).trans hrf
    have HW : Hid _ := hA
    clear hA hTb1
    gi_wp2_with (refine ⟨trivial, ?_⟩; gi_at_call 49; refine (callsIn_wide.2 HR.out).mono ?_; clear HR; rintro e w2 ⟨rfl, hx⟩; have hr3 := (World.cell?_of_block (hx.block (w.heap.size + 1) (by simp; omega) (by omega))).trans hr2; have hf3 := (frozen_of_block (o := 0) (hx.block (w.heap.size + 1) (by simp; omega) (by omega))).trans hrf2)
    all_goals
      have hK2 := (hx.block D (by simp; omega) (by omega)).trans ((HW.out.block D hDl).trans hK)
      have hB2 : Below w.heap.size w w2 := hB.trans ((HW.out.mono hB.size).trans (hx.below (by omega) (by simp; omega)))
    · have hK3 := (KeepsOthers.setCell w2 ⟨w.heap.size + 1, 0, none⟩ (.int .i64 90)).same D _ hK2 rfl
      refine ⟨by simp, .inl ⟨_, _, rfl, run_takeDeferred hK3, ?_⟩⟩
      have hc5 := cell_kept (World.cell?_setCell_same' w2 ⟨w.heap.size + 1, 0, none⟩ (.int .i64 90) (by rw [hr3]; rfl)) (grownBy_putObj' _ D (.deferred none)) (fun r e => by cases e; exact ⟨_, hK3, rfl⟩)
      refine ⟨.int .i64 90, ?_, ?_, (hB2.setCell (p := ⟨w.heap.size + 1, 0, none⟩) (by simp) _).trans (belowK_b (w := w) (Nat.le_refl _) _ D _ _ (by omega) hK3 rfl rfl)⟩
      · simp [results, Tryd.f27, go_sem, hc5]
      · rw [Nt.chkP, if_neg (by have := Hcnt.out; omega)]
        clear hc5 hK3 hB2 hK2 hr3 hf3 HW
        simp_all
    · have hK3 := (KeepsOthers.setCell w2 ⟨w.heap.size + 1, 0, none⟩ (.int .i64 0)).same D _ hK2 rfl
      refine ⟨by simp, .inl ⟨_, _, rfl, run_takeDeferred hK3, ?_⟩⟩
      have hc5 := cell_kept (World.cell?_setCell_same' w2 ⟨w.heap.size + 1, 0, none⟩ (.int .i64 0) (by rw [hr3]; rfl)) (grownBy_putObj' _ D (.deferred none)) (fun r e => by cases e; exact ⟨_, hK3, rfl⟩)
      refine ⟨.int .i64 0, ?_, ?_, (hB2.setCell (p := ⟨w.heap.size + 1, 0, none⟩) (by simp) _).trans (belowK_b (w := w) (Nat.le_refl _) _ D _ _ (by omega) hK3 rfl rfl)⟩
      · simp [results, Tryd.f27, go_sem, hc5]
      · rw [Nt.chkP, if_neg (by have := Hcnt.out; omega)]
        clear hc5 hK3 hB2 hK2 hr3 hf3 HW
        simp_all
  case stop =>
    rintro D c pre W hD hpre ⟨⟨rfl, hlen, hcr⟩, hB⟩ hK
    have hbig : 8192 < Nt.cnt T := by
      have := List.IsPrefix.length_le hpre
      rw [List.length_map, hlen] at this
      rw [Nt.cnt]; omega
    gi_wp2
    refine ⟨by simp, .inl ⟨_, _, rfl, run_takeDeferred hK, ?_⟩⟩
    have hc5 := cell_kept hcr (grownBy_putObj' _ D (.deferred none)) (fun r e => by cases e; exact ⟨_, hK, rfl⟩)
    refine ⟨.int .i64 3, ?_, by rw [Nt.chkP, if_pos hbig], hB.trans (belowK_b (w := w) (Nat.le_refl _) W D _ _ (by omega) hK rfl rfl)⟩
    simp [results, Tryd.f27, go_sem, hc5]

theorem pcheck_any (T : Nt.NT) (a : Option Addr) (cap : Nat) (w : World) (hN : Nt.Nd w (· < w.heap.size) T a cap) (hTb : Nt.Tabs w) :
    Calls Tryd.prog 27 #[Nt.ndV T a cap] w fun e w' => e = .returned (.int .i64 (Nt.chkP T)) ∧ Below w.heap.size w w' :=
  callsIn_wide.1 (pcheck_in T a cap w hN hTb)
end Go.Proofs.YtdiokclbdaojpaaDoor
