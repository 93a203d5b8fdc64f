/- The law SpaceQueue answers true. -/
import Derived.Test.YtngmaijfahjfcaaSpK
namespace Go.Proofs.Ytngmaijfahjfcaa
open Go.RowKit

/-- What Push answers, case by case. -/
theorem push_cases (quota : Nat) (s : Sc.St) (k : Nat) (x : ByteArray) : (Sc.push quota s k x = (2, s)) ∨ (Sc.push quota s k x = (0, ⟨s.p, s.h, s.q ++ [(k, x)]⟩)) ∨ (Sc.push quota s k x = (180, s) ∧ quota < s.used + x.size) := by
  unfold Sc.push Sc.ask
  by_cases c : k = 0 ∨ 4 ≤ k
  · rw [if_pos c]; exact .inl rfl
  · rw [if_neg c]
    by_cases f : (Sc.St.mk s.p s.h (s.q ++ [(k, x)])).used ≤ quota
    · rw [if_pos f]; exact .inr (.inl rfl)
    · rw [if_neg f]
      refine .inr (.inr ⟨rfl, ?_⟩)
      unfold Sc.St.used at *
      simp only [Sc.txts_append, Sc.txts] at f
      omega
set_option maxRecDepth 100000 in
set_option maxHeartbeats 4000000 in
theorem law_queue (a : Option Addr) (cap : Nat) (L : List Sc.It) (w : World) (hL : L ≠ [] → Its w (.slice a L.length cap) L) (hn : L.length * 24 ≤ 140737488351232) (hk : ∀ y ∈ L, y.1 < 256 ∧ y.2.size ≤ 281474976710656) :
    Calls Try.prog 8 #[.slice a L.length cap] w fun e w' => e = .returned (.bool true) ∧ Below w.heap.size w w' := by
  have HL : Hid (L ≠ [] → Its w (.slice a L.length cap) L) := hL
  have HKx : Hid (∀ y ∈ L, y.1 < 256 ∧ y.2.size ≤ 281474976710656) := hk
  have hn' : L.length ≤ 5864062014634 := by omega
  clear hL hk hn
  obtain ⟨i0, hi, hz0, hz1, hz2⟩ := info_parts Try.infoItem
  have HI : Hid (i0.zero = some (.agg #[.int .u8 0, .string ⟨#[]⟩]) ∧ i0.size = 2 ∧ i0.bytes = 24) := ⟨hz0, hz1, hz2⟩
  clear hz0 hz1 hz2
  have HB : Hid (Calls Try.prog 16 #[] w fun e w' => e = .returned (.bool true) ∧ Below w.heap.size w w') := begins_any w
  have HN : Hid (∀ W : World, Calls Try.prog 9 #[.int .i64 1073741824] W fun e w' => e = .returned (.tuple #[.pointer (some ⟨W.heap.size, 0, none⟩), .int .i64 0]) ∧ Qi W W.heap.size W.heap.size .nil 1073741824 (.slice none 0 0) [] [] w') := fun W => by
    refine (new_any 1073741824 W (by decide)).mono ?_
    rintro e w' ⟨rfl, h1, h2, h3⟩
    exact ⟨rfl, _, h1, fun j e => by rw [e]; exact ⟨Nat.le_refl _, h3⟩, h2.below (Nat.le_refl _) (fun _ e => e.elim), ⟨rfl, .inl ⟨rfl, rfl⟩⟩, fun b e => (by cases e), fun p hp => by cases hp⟩
  go_enter Try.func8, Try.ntmps8
  go_wp2_with (first
    | (go_at_call 16; refine HB.out.mono ?_; rintro e w1 ⟨rfl, hw⟩; have K0 : Hid (Below w.heap.size w w1) := hw; clear hw)
    | (go_at_call 9; refine (HN.out _).mono ?_; rintro e w2 ⟨rfl, h1⟩; (generalize hg : w1.heap.size = g at *); have HG : Hid (w1.heap.size = g) := hg; clear hg; have K1 : Hid (Qi w1 g g .nil 1073741824 (.slice none 0 0) [] [] w2) := h1; clear h1))
  clear HB HN
  go_loopw [5, 6] (fun nvv iv wr => ∃ (k : Nat) (IN : List Sc.It), k ≤ L.length ∧ iv = .int .i64 (k : Int) ∧ IN.length ≤ k ∧ Hid (Qi w1 g g ⟨[], [], IN⟩ 1073741824 nvv IN [] wr)) (fun _ iv _ => L.length - (intOf iv).toNat)
  case atStart => exact ⟨0, [], Nat.zero_le _, rfl, Nat.le_refl _, K1⟩
  case round =>
    obtain ⟨k, IN, hk, rfl, hIN, HQ⟩ := hrel
    have HLr : Hid (L ≠ [] → Its wr (.slice a L.length cap) L) := fun hne => (HL.out hne).tu (Tu.of_below (O := fun _ => False) (K0.out.trans (HQ.out.below.mono (by have := HG.out; have := K0.out.size; omega)))) (fun _ _ e => e)
    by_cases hlt : k < L.length
    · have hne : L ≠ [] := fun e => by rw [e] at hlt; simp at hlt
      have HNe : Hid (L ≠ []) := hne
      rcases HLr.out hne with ⟨_, e⟩ | ⟨b, off, cap', e, hb, hc⟩
      · rw [e] at hlt; simp at hlt
      cases e
      obtain ⟨c0, c1⟩ := hc k hlt
      have hx := HKx.out (L[k]'hlt) (List.getElem_mem hlt)
      clear hc hne
      have HR : Hid (∀ W, Its W (.slice (some ⟨b, off, none⟩) L.length cap) L → W.cell? ⟨b, off + k * 2, none⟩ = some (.int .u8 ((L[k]'hlt).1 : Int)) ∧ W.cell? ⟨b, off + k * 2 + 1, none⟩ = some (.string (L[k]'hlt).2)) := fun W q => by
        rcases q with ⟨_, e⟩ | ⟨b', off', cap'', e, _, hc⟩
        · rw [e] at hlt; simp at hlt
        · cases e; exact hc k hlt
      generalize L[k]'hlt = y at *
      obtain ⟨kd, x⟩ := y
      simp only at c0 c1 hx
      have hi1 : (k : Int) < (L.length : Int) := by omega
      have HP : Hid (Calls Try.prog 30 #[.pointer (some ⟨g, 0, none⟩), .agg #[.int .u8 (kd : Int), .string x]] wr fun e w' => e = .returned (.int .i64 (Sc.push 1073741824 ⟨[], [], IN⟩ kd x).1) ∧ Qi w1 g g (Sc.push 1073741824 ⟨[], [], IN⟩ kd x).2 1073741824 u5 IN [] w') := HQ.out.aft (fun S q => push_any S g kd _ _ x _ q hx.1 hx.2 (by simp only []; omega))
      rcases push_cases 1073741824 ⟨[], [], IN⟩ kd x with e | e | ⟨e, he⟩
      · rw [e] at HP
        clear e
        go_wp2_with (first | (go_at_call 30; refine HP.out.mono ?_; rintro e w3 ⟨rfl, h3⟩; have K3 : Hid (Qi w1 g g ⟨[], [], IN⟩ 1073741824 u5 IN [] w3) := h3; clear h3))
        go_quiet (fail)
        go_wp2
        go_roundw
        case rel => exact ⟨k + 1, IN, by omega, by go_num, by omega, K3.out.tu (tu_drewN _ _)⟩
        case measure => simp [intOf]; omega
      · rw [e] at HP
        clear e
        obtain ⟨S0, hS0⟩ := HQ.out
        have HA : Hid (∀ W, Qi w1 g g ⟨[], [], IN ++ [(kd, x)]⟩ 1073741824 u5 IN [] W → (W.alloc (.cells #[.int .u8 (kd : Int), .string x] 33)).ownsRow g 33 2 u5 IN.length (qcells IN) ∧ g ≤ W.heap.size) := fun W ⟨S, q1, q2, _, q4, _⟩ => ⟨q4.alloc _, by obtain ⟨_, _, _, q⟩ := q1; have := q2 g q.gS; omega⟩
        have HE : Hid (∀ W v' w', Qi w1 g g ⟨[], [], IN ++ [(kd, x)]⟩ 1073741824 u5 IN [] W → w'.ownsRow g 33 2 v' (IN.length + 1) (qcells IN ++ qcells [(kd, x)]) → (W.alloc (.cells #[.int .u8 (kd : Int), .string x] 33)).grownBy w' u5.ownBlock → (v'.ownBlock = u5.ownBlock ∨ v'.ownBlock = some (W.alloc (.cells #[.int .u8 (kd : Int), .string x] 33)).heap.size) → Qi w1 g g ⟨[], [], IN ++ [(kd, x)]⟩ 1073741824 v' (IN ++ [(kd, x)]) [] w') := fun W v' w' q ho hg hat => by
          refine q.put (((Tu.refl (fun k => blk u5 = some k) W).alloc _).trans (Tu.of_grown (O := fun k => blk u5 = some k) hg (fun _ e => e)) (fun _ _ e => e)) (by simpa [qcells_append] using ho) (fun b e => ?_)
          rcases hat with p | p
          · exact .inl (show u5.ownBlock = some b by rw [← p]; exact e)
          · right
            have e' : v'.ownBlock = some b := e
            rw [p] at e'
            simp at e'
            omega
        clear hS0 HQ
        go_wp2_with (first
          | (go_at_call 30; refine HP.out.mono ?_; rintro e w3 ⟨rfl, h3⟩; have K3 : Hid (Qi w1 g g ⟨[], [], IN ++ [(kd, x)]⟩ 1073741824 u5 IN [] w3) := h3; clear h3; have r3 : Its w3 (.slice (some ⟨b, off, none⟩) L.length cap) L := (HL.out HNe.out).tu (Tu.of_below (O := fun _ => False) (K0.out.trans (K3.out.below.mono (by have := HG.out; have := K0.out.size; omega)))) (fun _ _ e => e); have c2 := HR.out w3 r3; clear r3)
          | (at_builtin; refine wpList_append_own_at _ rfl _ _ 27 rfl g 33 i0 (.agg #[.int .u8 0, .string ⟨#[]⟩]) 2 24 Try.underlying27 hi HI.out.1 HI.out.2.1 HI.out.2.2 rfl (by decide) u5 IN.length (qcells IN) rfl (HA.out _ K3.out).1 ⟨w3.heap.size, 0, none⟩ 1 1 (qcells [(kd, x)]) rfl rfl (it_new _ kd x) (qcells_one _) (by unfold maxLen; omega) (by omega) (by have := (HA.out _ K3.out).2; simp; omega) ?_; intro v4 w4 p1 p2 p3 p4; have K4 : Hid (Qi w1 g g ⟨[], [], IN ++ [(kd, x)]⟩ 1073741824 v4 (IN ++ [(kd, x)]) [] w4) := HE.out _ _ _ K3.out p1 p2 p4; clear p1 p2 p3 p4))
        go_roundw
        case rel => exact ⟨k + 1, IN ++ [(kd, x)], by omega, by go_num, by simp; omega, K4⟩
        case measure => simp [intOf]; omega
      · rw [e] at HP
        clear e
        have HU : Hid (∀ W n, Qi w1 g g ⟨[], [], IN⟩ 1073741824 u5 IN [] W → Calls Try.prog 20 #[.pointer (some ⟨g, 0, none⟩)] (W.drewN n) fun e w' => e = .returned (.int .i64 ((Sc.St.mk [] [] IN).used : Nat)) ∧ ∃ m, w' = (W.drewN n).drewN m) := fun W n q => (q.tu (tu_drewN W n)).used
        have hus : (Sc.St.mk [] [] IN).used ≤ 1073741824 := by obtain ⟨_, ⟨_, _, _, q⟩, _⟩ := HQ.out; exact q.used
        generalize (Sc.St.mk [] [] IN).used = U at *
        have e1 : IntKind.i64.wrap ((U : Int) + (x.size : Int)) = (U : Int) + (x.size : Int) := by rw [IntKind.wrap_i64]; omega
        have e2 : decide ((U : Int) + (x.size : Int) > 1073741824) = true := by simp; omega
        have e3 : (1073741824 : Int) < (U : Int) + (x.size : Int) := by omega
        clear HQ
        go_wp2_with (first | (go_at_call 30; refine HP.out.mono ?_; rintro e w3 ⟨rfl, h3⟩; have K3 : Hid (Qi w1 g g ⟨[], [], IN⟩ 1073741824 u5 IN [] w3) := h3; clear h3; have r3 : Its w3 (.slice (some ⟨b, off, none⟩) L.length cap) L := (HL.out HNe.out).tu (Tu.of_below (O := fun _ => False) (K0.out.trans (K3.out.below.mono (by have := HG.out; have := K0.out.size; omega)))) (fun _ _ e => e); have c2 := HR.out w3 r3; clear r3))
        go_quiet (first | (go_at_call 20; refine Calls.quiet_of (HU.out _ _ K3.out)))
        go_wp2
        go_roundw
        case rel => exact ⟨k + 1, IN, by omega, by go_num, by omega, K3.out.tu (tu_drewN _ _)⟩
        case measure => simp [intOf]; omega
    · have hINL : IN.length ≤ 5864062014634 := by omega
      obtain ⟨ai, ci, rfl⟩ := HQ.out.its.1.slice
      have HQ1 : Hid (Calls Try.prog 19 #[.pointer (some ⟨g, 0, none⟩)] wr fun e w' => ∃ v', e = .returned v' ∧ Qi w1 g g ⟨[], [], IN⟩ 1073741824 (.slice ai IN.length ci) IN [(v', IN)] w' ∧ w'.ownsRow wr.heap.size 33 2 v' IN.length (qcells IN) ∧ Below wr.heap.size wr w') := HQ.out.queue (by simp only []; omega)
      have HQ2 : Hid (∀ W v', Qi w1 g g ⟨[], [], IN⟩ 1073741824 (.slice ai IN.length ci) IN [(v', IN)] W → Calls Try.prog 19 #[.pointer (some ⟨g, 0, none⟩)] W fun e w' => ∃ v'', e = .returned v'' ∧ Qi w1 g g ⟨[], [], IN⟩ 1073741824 (.slice ai IN.length ci) IN [(v'', IN), (v', IN)] w' ∧ w'.ownsRow W.heap.size 33 2 v'' IN.length (qcells IN) ∧ Below W.heap.size W w') := fun W v' q => q.queue (by simp only []; omega)
      have hgw : g ≤ wr.heap.size := by obtain ⟨_, ⟨_, _, _, q⟩, q2, _⟩ := HQ.out; have := q2 g q.gS; omega
      clear HQ HLr HL HKx hIN
      go_wp2_with (first
        | (go_at_call 19; refine (HQ2.out _ _ K3.out.1).mono ?_; rintro e w4 ⟨v4, rfl, h3, h4, h5⟩; obtain ⟨ab, cb, rfl⟩ := (its_own h4).slice; have K4 : Hid (Qi w1 g g ⟨[], [], IN⟩ 1073741824 (.slice ai IN.length ci) IN [(.slice ab IN.length cb, IN), (.slice aa IN.length ca, IN)] w4 ∧ w4.ownsRow w3.heap.size 33 2 (.slice ab IN.length cb) IN.length (qcells IN) ∧ Below w3.heap.size w3 w4) := ⟨h3, h4, h5⟩; clear h3 h4 h5)
        | (go_at_call 19; refine HQ1.out.mono ?_; rintro e w3 ⟨v3, rfl, h3, h4, h5⟩; obtain ⟨aa, ca, rfl⟩ := (its_own h4).slice; have K3 : Hid (Qi w1 g g ⟨[], [], IN⟩ 1073741824 (.slice ai IN.length ci) IN [(.slice aa IN.length ca, IN)] w3 ∧ w3.ownsRow wr.heap.size 33 2 (.slice aa IN.length ca) IN.length (qcells IN)) := ⟨h3, h4⟩; clear h3 h4 h5))
      have KA : Hid (Qj w1 g g ⟨[], [], IN⟩ 1073741824 (.slice ai IN.length ci) IN [(.slice ab IN.length cb, IN)] (.slice aa IN.length ca) w4 ∧ ∃ xs, w4.ownsRow g 33 2 (.slice aa IN.length ca) IN.length xs) := by
        have o3 := K3.out.2
        refine ⟨K4.out.1.beside (fun b e => ⟨?_, fun e' => ?_⟩), qcells IN, ?_⟩
        · have := (o3.lt b e).1; omega
        · have h1 := (K4.out.2.1.lt b e').1
          have h2 := (o3.lt b e).2
          omega
        · have q := own_keep o3 (fun b e => K4.out.2.2.block b (own_lt o3 e))
          refine ⟨q.1, ?_⟩
          rcases q.2 with q | ⟨x1, x2, x3, x4, x5, x6⟩
          · exact .inl q
          · exact .inr ⟨x1, x2, x3, x4, by omega, x6⟩
      clear K3 K4 HQ1 HQ2 hlt
      go_loopw [10] (fun iv wr => ∃ j : Nat, j ≤ IN.length ∧ iv = .int .i64 (j : Int) ∧ Hid (Qj w1 g g ⟨[], [], IN⟩ 1073741824 (.slice ai IN.length ci) IN [(.slice ab IN.length cb, IN)] (.slice aa IN.length ca) wr ∧ ∃ xs, wr.ownsRow g 33 2 (.slice aa IN.length ca) IN.length xs)) (fun iv _ => IN.length - (intOf iv).toNat)
      case atStart => exact ⟨0, Nat.zero_le _, rfl, KA⟩
      case round =>
        obtain ⟨j, hj, rfl, HJ⟩ := hrel
        by_cases hlt : j < IN.length
        · obtain ⟨hq, xs, ho⟩ := HJ.out
          have ho' := ho.2
          rcases ho' with ⟨_, e⟩ | ⟨ga, cap2, cur, e, _⟩
          · omega
          cases e
          obtain ⟨⟨d0, y0⟩, z0⟩ := own_cell ho (j * 2) (by omega)
          obtain ⟨⟨d1, y1⟩, z1⟩ := own_cell ho (j * 2 + 1) (by omega)
          have HE : Hid (Qj w1 g g ⟨[], [], IN⟩ 1073741824 (.slice ai IN.length ci) IN [(.slice ab IN.length cb, IN)] (.slice (some ⟨ga, 0, none⟩) IN.length ca) ((wr.setCell ⟨ga, j * 2, none⟩ (.int .u8 2)).setCell ⟨ga, j * 2 + 1, none⟩ (.string ⟨#[115, 112, 111, 105, 108, 116]⟩)) ∧ ∃ xs, ((wr.setCell ⟨ga, j * 2, none⟩ (.int .u8 2)).setCell ⟨ga, j * 2 + 1, none⟩ (.string ⟨#[115, 112, 111, 105, 108, 116]⟩)).ownsRow g 33 2 (.slice (some ⟨ga, 0, none⟩) IN.length ca) IN.length xs) := by
            obtain ⟨ys, h1⟩ := own_set ho (j * 2) (.int .u8 2)
            exact ⟨hq.spoil (Tu.setCell (O := fun k => blk (.slice (some ⟨ga, 0, none⟩) IN.length ca) = some k) (p := ⟨ga, j * 2 + 1, none⟩) (Tu.setCell (O := fun k => blk (.slice (some ⟨ga, 0, none⟩) IN.length ca) = some k) (p := ⟨ga, j * 2, none⟩) (Tu.refl _ wr) (fun _ => rfl) _) (fun _ => rfl) _), own_set h1 _ _⟩
          have hi1 : (j : Int) < (IN.length : Int) := by omega
          clear hq ho HJ KA
          go_wp2
          go_roundw
          case rel => exact ⟨j + 1, by omega, by go_num, HE⟩
          case measure => simp [intOf]; omega
        · have HQ3 : Hid (∀ W vals, Qi w1 g g ⟨[], [], IN⟩ 1073741824 (.slice ai IN.length ci) IN vals W → Calls Try.prog 19 #[.pointer (some ⟨g, 0, none⟩)] W fun e w' => ∃ v', e = .returned v' ∧ Qi w1 g g ⟨[], [], IN⟩ 1073741824 (.slice ai IN.length ci) IN ((v', IN) :: vals) w') := fun W vals q => (q.queue (by simp only []; omega)).mono (fun e w' ⟨v', q1, q2, _⟩ => ⟨v', q1, q2⟩)
          have HT1 : Hid (∀ W vals, Qi w1 g g ⟨[], [], IN⟩ 1073741824 (.slice ai IN.length ci) IN vals W → Calls Try.prog 31 #[.pointer (some ⟨g, 0, none⟩)] W fun e w' => ∃ v', e = .returned (.tuple #[v', .int .i64 0]) ∧ Qi w1 g g ⟨[], [], []⟩ 1073741824 (.slice ai IN.length ci) IN ((v', IN) :: vals) w') := fun W vals q => q.take
          have HT2 : Hid (∀ W vals, Qi w1 g g ⟨[], [], []⟩ 1073741824 (.slice ai IN.length ci) IN vals W → Calls Try.prog 31 #[.pointer (some ⟨g, 0, none⟩)] W fun e w' => ∃ v', e = .returned (.tuple #[v', .int .i64 0]) ∧ Qi w1 g g ⟨[], [], []⟩ 1073741824 (.slice ai IN.length ci) IN ((v', []) :: vals) w') := fun W vals q => q.take
          have HU : Hid (∀ W vals, Qi w1 g g ⟨[], [], []⟩ 1073741824 (.slice ai IN.length ci) IN vals W → Calls Try.prog 20 #[.pointer (some ⟨g, 0, none⟩)] W fun e w' => e = .returned (.int .i64 0) ∧ ∃ n, w' = W.drewN n) := fun W vals q => q.used
          have HP : Hid (∀ W vals, Qi w1 g g ⟨[], [], []⟩ 1073741824 (.slice ai IN.length ci) IN vals W → Calls Try.prog 30 #[.pointer (some ⟨g, 0, none⟩), .agg #[.int .u8 1, .string ⟨#[120]⟩]] W fun e w' => e = .returned (.int .i64 0) ∧ Qi w1 g g ⟨[], [], [(1, ⟨#[120]⟩)]⟩ 1073741824 (.slice ai IN.length ci) IN vals w') := fun W vals q => q.aft (fun S q => push_any S g 1 ⟨[], [], []⟩ 1073741824 ⟨#[120]⟩ W q (by decide) (by decide) (by decide))
          obtain ⟨hq, xs, ho⟩ := HJ.out
          have hgw2 : g ≤ wr.heap.size := by obtain ⟨_, ⟨_, _, _, q⟩, q2, _⟩ := hq; have := q2 g q.gS; omega
          have HO : Hid ((wr.alloc (.cells #[.int .u8 0, .string ⟨#[]⟩] 33)).ownsRow g 33 2 (.slice aa IN.length ca) IN.length xs) := ho.alloc _
          have HS : Hid (∀ w', (wr.alloc (.cells #[.int .u8 0, .string ⟨#[]⟩] 33)).grownBy w' (Value.slice aa IN.length ca).ownBlock → Qi w1 g g ⟨[], [], IN⟩ 1073741824 (.slice ai IN.length ci) IN [(.slice ab IN.length cb, IN)] w') := fun w' hg => (hq.spoil (((Tu.refl (fun k => blk (.slice aa IN.length ca) = some k) wr).alloc _).trans (Tu.of_grown (O := fun k => blk (.slice aa IN.length ca) = some k) hg (fun _ e => e)) (fun _ _ e => e))).qi
          clear hq ho HJ KA
          go_wp2_with (first
            | (at_builtin; refine wpList_append_own_at _ rfl _ _ 27 rfl g 33 i0 (.agg #[.int .u8 0, .string ⟨#[]⟩]) 2 24 Try.underlying27 hi HI.out.1 HI.out.2.1 HI.out.2.2 rfl (by decide) _ IN.length xs rfl HO.out ⟨wr.heap.size, 0, none⟩ 1 1 (qcells [(0, ⟨#[]⟩)]) rfl rfl (it_new _ 0 ⟨#[]⟩) (qcells_one _) (by unfold maxLen; omega) (by omega) (by simp; omega) ?_; intro v5 w5 p1 p2 p3 p4; obtain ⟨g5, c5, rfl⟩ : ∃ g5 c5, v5 = .slice (some ⟨g5, 0, none⟩) (IN.length + 1) c5 := (by rcases p1.2 with ⟨_, q⟩ | ⟨x1, x2, x3, x4, _⟩; exact absurd q (by omega); exact ⟨x1, x2, x4⟩); have K5 : Hid (Qi w1 g g ⟨[], [], IN⟩ 1073741824 (.slice ai IN.length ci) IN [(.slice ab IN.length cb, IN)] w5) := HS.out w5 p2; clear p1 p2 p3 p4)
            | (go_at_call 14; refine (same_yes _ _ IN _ (K14.out.its.2 (_, IN) (by simp)) K14.out.its.1 (by omega)).mono ?_; rintro e wx ⟨rfl, n15, rfl⟩)
            | (go_at_call 14; refine (same_yes _ _ IN _ (K13.out.its.2 (_, IN) (by simp)) K13.out.its.1 (by omega)).mono ?_; rintro e wx ⟨rfl, n14, rfl⟩; have K14 : Hid (Qi w1 g g ⟨[], [], [(1, ⟨#[120]⟩)]⟩ 1073741824 (.slice ai IN.length ci) IN [(.slice a10 0 c10, []), (.slice a9 IN.length c9, IN), (.slice a7 IN.length c7, IN), (.slice ab IN.length cb, IN)] (w13.drewN n14)) := K13.out.tu (tu_drewN _ _))
            | (go_at_call 14; refine (same_yes _ _ IN _ (K10.out.its.2 (_, IN) (by simp)) K10.out.its.1 (by omega)).mono ?_; rintro e wx ⟨rfl, n11, rfl⟩; have K11 : Hid (Qi w1 g g ⟨[], [], []⟩ 1073741824 (.slice ai IN.length ci) IN [(.slice a10 0 c10, []), (.slice a9 IN.length c9, IN), (.slice a7 IN.length c7, IN), (.slice ab IN.length cb, IN)] (w10.drewN n11)) := K10.out.tu (tu_drewN _ _))
            | (go_at_call 14; refine (same_yes _ _ IN _ (K7.out.its.2 (_, IN) (by simp)) K7.out.its.1 (by omega)).mono ?_; rintro e wx ⟨rfl, n8, rfl⟩; have K8 : Hid (Qi w1 g g ⟨[], [], IN⟩ 1073741824 (.slice ai IN.length ci) IN [(.slice a7 IN.length c7, IN), (.slice ab IN.length cb, IN)] (w7.drewN n8)) := K7.out.tu (tu_drewN _ _))
            | (go_at_call 14; refine (same_yes _ _ IN _ (K5.out.its.2 (_, IN) (by simp)) K5.out.its.1 (by omega)).mono ?_; rintro e wx ⟨rfl, n6, rfl⟩; have K6 : Hid (Qi w1 g g ⟨[], [], IN⟩ 1073741824 (.slice ai IN.length ci) IN [(.slice ab IN.length cb, IN)] (w5.drewN n6)) := K5.out.tu (tu_drewN _ _))
            | (go_at_call 19; refine (HQ3.out _ _ K6.out).mono ?_; rintro e w7 ⟨v7, rfl, h3⟩; obtain ⟨a7, c7, rfl⟩ := (show Its w7 v7 IN from h3.its.2 (v7, IN) (by simp)).slice; have K7 : Hid (Qi w1 g g ⟨[], [], IN⟩ 1073741824 (.slice ai IN.length ci) IN [(.slice a7 IN.length c7, IN), (.slice ab IN.length cb, IN)] w7) := h3; clear h3)
            | (go_at_call 31; refine (HT2.out _ _ K9.out).mono ?_; rintro e w10 ⟨v10, rfl, h3⟩; obtain ⟨a10, c10, rfl⟩ := (show Its w10 v10 [] from h3.its.2 (v10, []) (by simp)).slice; have K10 : Hid (Qi w1 g g ⟨[], [], []⟩ 1073741824 (.slice ai IN.length ci) IN [(.slice a10 0 c10, []), (.slice a9 IN.length c9, IN), (.slice a7 IN.length c7, IN), (.slice ab IN.length cb, IN)] w10) := h3; clear h3)
            | (go_at_call 31; refine (HT1.out _ _ K8.out).mono ?_; rintro e w9 ⟨v9, rfl, h3⟩; obtain ⟨a9, c9, rfl⟩ := (show Its w9 v9 IN from h3.its.2 (v9, IN) (by simp)).slice; have K9 : Hid (Qi w1 g g ⟨[], [], []⟩ 1073741824 (.slice ai IN.length ci) IN [(.slice a9 IN.length c9, IN), (.slice a7 IN.length c7, IN), (.slice ab IN.length cb, IN)] w9) := h3; clear h3)
            | (go_at_call 20; refine (HU.out _ _ K11.out).mono ?_; rintro e wx ⟨rfl, n12, rfl⟩; have K12 : Hid (Qi w1 g g ⟨[], [], []⟩ 1073741824 (.slice ai IN.length ci) IN [(.slice a10 0 c10, []), (.slice a9 IN.length c9, IN), (.slice a7 IN.length c7, IN), (.slice ab IN.length cb, IN)] (w10.drewN (n11 + n12))) := K10.out.tu (tu_drewN _ _))
            | (go_at_call 30; refine (HP.out _ _ K12.out).mono ?_; rintro e w13 ⟨rfl, h3⟩; have K13 : Hid (Qi w1 g g ⟨[], [], [(1, ⟨#[120]⟩)]⟩ 1073741824 (.slice ai IN.length ci) IN [(.slice a10 0 c10, []), (.slice a9 IN.length c9, IN), (.slice a7 IN.length c7, IN), (.slice ab IN.length cb, IN)] w13) := h3; clear h3))
          go_ret
          exact ⟨rfl, K0.out.trans ((K13.out.tu (tu_drewN _ _)).below.mono (by have := HG.out; have := K0.out.size; omega))⟩
end Go.Proofs.Ytngmaijfahjfcaa
