/- What the reference's Do answers. -/
import Derived.Test.YtngmaijfahjfcaaSpX4
namespace Go.Proofs.Ytngmaijfahjfcaa
open Go.RowKit

/-- Results of which the first lies in a block, the second in a slot. -/
theorem results_cell_two {fn : Func} {p q : Tmp} (h : fn.results = #[.cell p 29, .tmp q]) (tmps : Array Value) (w : World) (g : Nat) (cs : Array Value)
    (hp : tmps.getD p undef = .pointer (some ⟨g, 0, none⟩)) (hg : w.heap[g]? = some (.cells cs 29)) (hi : (Try.prog.info? 29).map (·.size) = some cs.size) :
    (results fn tmps).run Try.prog w = .ok (.tuple #[.agg cs, tmps.getD q undef]) w := by
  have hp' : tmps[p]?.getD undef = .pointer (some ⟨g, 0, none⟩) := by simpa using hp
  have hl := run_loadVar_row (P := Try.prog) w g 29 29 cs (0, 0) _ hg Try.underlying29 rfl hi
  simp [results, h, hp', asAddr, hl]
theorem step_made (quota : Nat) (s : Sc.St) (k : Int) (t : ByteArray) (i : Nat) (x : ByteArray) (hu : s.used ≤ quota) : Sc.step quota s k t i x = if k = 8 ∧ (i = 0 ∨ 4 ≤ i) then (2, s) else if (Sc.made s k t i x).used ≤ quota then (0, Sc.made s k t i x) else (180, s) := by
  by_cases hj : 0 ≤ k ∧ k ≤ 9
  · have : k = 0 ∨ k = 1 ∨ k = 2 ∨ k = 3 ∨ k = 4 ∨ k = 5 ∨ k = 6 ∨ k = 7 ∨ k = 8 ∨ k = 9 := by omega
    rcases this with rfl | rfl | rfl | rfl | rfl | rfl | rfl | rfl | rfl | rfl
    · rfl
    · rfl
    · rfl
    · rfl
    · rfl
    · rfl
    · rfl
    · have : (Sc.made s 7 t i x).used ≤ quota := by
        show (Sc.St.mk (Sc.rst s.p) s.h s.q).used ≤ quota
        have := Sc.rst_len s.p
        unfold Sc.St.used at *
        simp only []
        omega
      rw [if_neg (by omega), if_pos this]
      rfl
    · by_cases c : i = 0 ∨ 4 ≤ i
      · rw [if_pos ⟨rfl, c⟩]
        exact if_pos c
      · rw [if_neg (fun h => c h.2)]
        exact if_neg c
    · have : (Sc.made s 9 t i x).used ≤ quota := by
        show (Sc.St.mk s.p s.h []).used ≤ quota
        unfold Sc.St.used at *
        simp only [Sc.txts]
        omega
      rw [if_neg (by omega), if_pos this]
      rfl
  · have e0 : ∀ n : Int, 0 ≤ n → n ≤ 9 → k ≠ n := fun n a b c => hj (by omega)
    have em : Sc.made s k t i x = s := by
      unfold Sc.made
      simp only [if_neg (e0 0 (by omega) (by omega)), if_neg (e0 1 (by omega) (by omega)), if_neg (e0 2 (by omega) (by omega)), if_neg (e0 3 (by omega) (by omega)), if_neg (e0 4 (by omega) (by omega)), if_neg (e0 5 (by omega) (by omega)), if_neg (e0 6 (by omega) (by omega)), if_neg (e0 7 (by omega) (by omega)), if_neg (e0 8 (by omega) (by omega)), if_neg (e0 9 (by omega) (by omega))]
    rw [if_neg (fun h => e0 8 (by omega) (by omega) h.1), em, if_pos hu]
    unfold Sc.step
    simp only [if_neg (e0 0 (by omega) (by omega)), if_neg (e0 1 (by omega) (by omega)), if_neg (e0 2 (by omega) (by omega)), if_neg (e0 3 (by omega) (by omega)), if_neg (e0 4 (by omega) (by omega)), if_neg (e0 5 (by omega) (by omega)), if_neg (e0 6 (by omega) (by omega)), if_neg (e0 7 (by omega) (by omega)), if_neg (e0 8 (by omega) (by omega)), if_neg (e0 9 (by omega) (by omega))]
set_option maxRecDepth 100000 in
set_option maxHeartbeats 1000000 in
theorem rdo_bad (p h : ByteArray) (a : Option Addr) (n c quota : Nat) (t : ByteArray) (i : Nat) (x : ByteArray) (w : World) (hi : i = 0 ∨ 4 ≤ i) :
    Calls Try.prog 13 #[rsV p h (.slice a n c) quota, stV 8 t i x] w fun e w' => e = .returned (.tuple #[rsV p h (.slice a n c) quota, .int .i64 2]) ∧ Below w.heap.size w w' := by
  rcases hi with rfl | hi
  · go_enter Try.func13, Try.ntmps13
    go_wp2
    refine bodyPost_ret (results_cell_two rfl _ _ (w.heap.size + 1 + 1) _ rfl (alloc3 w _ _ _) (by kernel_rfl)) rfl ?_
    exact ⟨rfl, below3 w _ _ _⟩
  · have h1 : ¬ (i : Int) < 1 := by omega
    have h2 : (3 : Int) < (i : Int) := by omega
    go_enter Try.func13, Try.ntmps13
    go_wp2
    refine bodyPost_ret (results_cell_two rfl _ _ (w.heap.size + 1 + 1) _ rfl (alloc3 w _ _ _) (by kernel_rfl)) rfl ?_
    exact ⟨rfl, below3 w _ _ _⟩
theorem cells4 {W : World} {g : Nat} {v0 v1 v2 v3 : Value} {T : TypeId} (h : W.heap[g]? = some (.cells #[v0, v1, v2, v3] T)) : (W.cell? ⟨g, 0, none⟩ = some v0 ∧ W.cell? ⟨g, 1, none⟩ = some v1 ∧ W.cell? ⟨g, 2, none⟩ = some v2 ∧ W.cell? ⟨g, 3, none⟩ = some v3) ∧ (W.frozen? ⟨g, 0, none⟩ = false ∧ W.frozen? ⟨g, 1, none⟩ = false ∧ W.frozen? ⟨g, 2, none⟩ = false ∧ W.frozen? ⟨g, 3, none⟩ = false) :=
  ⟨⟨by rw [cell_of_row _ _ _ _ _ _ h]; rfl, by rw [cell_of_row _ _ _ _ _ _ h]; rfl, by rw [cell_of_row _ _ _ _ _ _ h]; rfl, by rw [cell_of_row _ _ _ _ _ _ h]; rfl⟩, row_free h 0, row_free h 1, row_free h 2, row_free h 3⟩
theorem set4 {W : World} {g : Nat} {u0 u1 u2 u3 : Value} {T : TypeId} (h : W.heap[g]? = some (.cells #[u0, u1, u2, u3] T)) (v0 v1 v2 v3 : Value) : ((((W.setCell ⟨g, 0, none⟩ v0).setCell ⟨g, 1, none⟩ v1).setCell ⟨g, 2, none⟩ v2).setCell ⟨g, 3, none⟩ v3).heap[g]? = some (.cells #[v0, v1, v2, v3] T) ∧ Tu (fun k => k = g) W ((((W.setCell ⟨g, 0, none⟩ v0).setCell ⟨g, 1, none⟩ v1).setCell ⟨g, 2, none⟩ v2).setCell ⟨g, 3, none⟩ v3) := by
  refine ⟨?_, Tu.setCell (p := ⟨g, 3, none⟩) (Tu.setCell (p := ⟨g, 2, none⟩) (Tu.setCell (p := ⟨g, 1, none⟩) (Tu.setCell (O := fun k => k = g) (p := ⟨g, 0, none⟩) (Tu.refl _ _) (fun _ => rfl) _) (fun _ => rfl) _) (fun _ => rfl) _) (fun _ => rfl) _⟩
  rw [row_set (row_set (row_set (row_set h _ _) _ _) _ _) _ _]
  rfl
/-- What lies below stays, cell by cell. -/
theorem bkept {W w1 : World} (hb : Below W.heap.size W w1) {g : Nat} {o : Obj} (h : W.heap[g]? = some o) : w1.heap[g]? = some o := (hb.block g (lt_of_block h)).trans h
theorem do_keep {W0 w4 w6 : World} {g : Nat} {o o' : Obj} (h : W0.heap[g]? = some o) (hb : Below W0.heap.size W0 w4) (ht : Tu (fun _ => False) (w4.alloc o') w6) : w6.heap[g]? = some o := by
  have h4 := bkept hb h
  rw [ht.block g (by simp; have := lt_of_block h4; omega) (fun e => e), alloc_keep _ (lt_of_block h4)]
  exact h4
theorem do_new {w4 w6 : World} {o : Obj} (ht : Tu (fun _ => False) (w4.alloc o) w6) : w6.heap[w4.heap.size]? = some o := by
  rw [ht.block _ (by simp) (fun e => e)]
  exact heap_alloc_new w4 _
theorem do_end {w W0 w4 w6 : World} {o : Obj} (hb : Below w.heap.size w W0) (hs : W0.heap.size = w.heap.size + 1 + 1 + 1) (h2 : W0.heap[w.heap.size + 1 + 1]? = some (.cells #[.string ⟨#[]⟩, .string ⟨#[]⟩, .slice none 0 0, .int .i64 0] 29)) (h4 : Below W0.heap.size W0 w4) (h6 : Tu (fun _ => False) (w4.alloc o) w6) (v0 v1 v2 v3 : Value) :
    ((((w6.setCell ⟨w.heap.size + 1 + 1, 0, none⟩ v0).setCell ⟨w.heap.size + 1 + 1, 1, none⟩ v1).setCell ⟨w.heap.size + 1 + 1, 2, none⟩ v2).setCell ⟨w.heap.size + 1 + 1, 3, none⟩ v3).heap[w.heap.size + 1 + 1]? = some (.cells #[v0, v1, v2, v3] 29) ∧ Tu (fun k => k = w.heap.size + 1 + 1) w6 ((((w6.setCell ⟨w.heap.size + 1 + 1, 0, none⟩ v0).setCell ⟨w.heap.size + 1 + 1, 1, none⟩ v1).setCell ⟨w.heap.size + 1 + 1, 2, none⟩ v2).setCell ⟨w.heap.size + 1 + 1, 3, none⟩ v3) ∧ Below w.heap.size w ((((w6.setCell ⟨w.heap.size + 1 + 1, 0, none⟩ v0).setCell ⟨w.heap.size + 1 + 1, 1, none⟩ v1).setCell ⟨w.heap.size + 1 + 1, 2, none⟩ v2).setCell ⟨w.heap.size + 1 + 1, 3, none⟩ v3) := by
  have q := set4 (do_keep h2 h4 h6) v0 v1 v2 v3
  have e4 := h4.size
  have e6 : w4.heap.size + 1 ≤ w6.heap.size := by have := h6.size; simpa using this
  refine ⟨q.1, q.2, ((hb.trans (h4.mono (by omega))).trans ?_).trans (q.2.below (by omega) (fun k e => by omega))⟩
  exact (((Tu.refl (fun _ => False) w4).alloc o).trans h6 (fun _ _ e => e)).below (by omega) (fun _ e => e.elim)
set_option maxRecDepth 100000 in
set_option maxHeartbeats 2000000 in
theorem rdo_ok (s m : Sc.St) (qv : Value) (quota : Nat) (k : Int) (t : ByteArray) (i : Nat) (x : ByteArray) (w : World) (hk : ¬ (k = 8 ∧ (i = 0 ∨ 4 ≤ i))) (hQ : Its w qv s.q) (hp : s.p.length ≤ 1073741824) (hh : s.h.length ≤ 1073741824) (_hq : quota ≤ 1073741824) (ht : t.size ≤ 140737488355328) (_hx : x.size ≤ 281474976710656) (hl : (s.q.length + 1) * 24 ≤ 140737488355328) (_htx : Sc.txts s.q ≤ 1073741824) (hm : Sc.made s k t i x = m) (hmz : m.p.length ≤ 1000000000000000 ∧ m.h.length ≤ 1000000000000000 ∧ Sc.txts m.q ≤ 1000000000000000 ∧ m.q.length ≤ s.q.length + 1) :
    Calls Try.prog 13 #[rsV (Sc.bs s.p) (Sc.bs s.h) qv quota, stV k t i x] w fun e w' => (m.used ≤ quota → ∃ v', e = .returned (.tuple #[rsV (Sc.bs m.p) (Sc.bs m.h) v' quota, .int .i64 0]) ∧ Its w' v' m.q ∧ Below w.heap.size w w' ∧ ∀ b, blk v' = some b → blk qv = some b ∨ w.heap.size ≤ b) ∧ (¬ m.used ≤ quota → e = .returned (.tuple #[rsV (Sc.bs s.p) (Sc.bs s.h) qv quota, .int .i64 180]) ∧ Below w.heap.size w w') := by
  obtain ⟨a, c, rfl⟩ := hQ.slice
  generalize hW0 : ((w.alloc (.cells #[.string (Sc.bs s.p), .string (Sc.bs s.h), .slice a s.q.length c, .int .i64 (quota : Nat)] 29)).alloc (.cells #[.int .i64 k, .string t, .int .u8 (i : Int), .string x] 35)).alloc (.cells #[.string ⟨#[]⟩, .string ⟨#[]⟩, .slice none 0 0, .int .i64 0] 29) = W0
  have hb0 : Below w.heap.size w W0 := by rw [← hW0]; exact below3 w _ _ _
  have hs0 : W0.heap.size = w.heap.size + 1 + 1 + 1 := by rw [← hW0]; simp
  have HD : Hid (Calls Try.prog 33 #[rsV (Sc.bs s.p) (Sc.bs s.h) (.slice a s.q.length c) quota, stV k t i x] W0 fun e w' => ∃ v', e = .returned (rsV (Sc.bs m.p) (Sc.bs m.h) v' quota) ∧ Its w' v' m.q ∧ Below W0.heap.size W0 w' ∧ ∀ b, blk v' = some b → blk (.slice a s.q.length c) = some b ∨ W0.heap.size ≤ b) := by
    have := done_any s (.slice a s.q.length c) quota k t i x W0 (hQ.tu (Tu.of_below (O := fun _ => False) hb0) (fun _ _ e => e)) (by omega) (by omega) (by omega) hl
    rw [hm] at this
    exact this
  have h00 : W0.heap[w.heap.size]? = some (.cells #[.string (Sc.bs s.p), .string (Sc.bs s.h), .slice a s.q.length c, .int .i64 (quota : Nat)] 29) := by
    rw [← hW0, alloc_keep _ (by simp; omega), alloc_keep _ (by simp)]
    exact heap_alloc_new w _
  have h02 : W0.heap[w.heap.size + 1 + 1]? = some (.cells #[.string ⟨#[]⟩, .string ⟨#[]⟩, .slice none 0 0, .int .i64 0] 29) := by rw [← hW0]; exact alloc3 w _ _ _
  have HW0 : Hid (((w.alloc (.cells #[.string (Sc.bs s.p), .string (Sc.bs s.h), .slice a s.q.length c, .int .i64 (quota : Nat)] 29)).alloc (.cells #[.int .i64 k, .string t, .int .u8 (i : Int), .string x] 35)).alloc (.cells #[.string ⟨#[]⟩, .string ⟨#[]⟩, .slice none 0 0, .int .i64 0] 29) = W0) := hW0
  have HB : Hid (W0.heap[w.heap.size]? = some (.cells #[.string (Sc.bs s.p), .string (Sc.bs s.h), .slice a s.q.length c, .int .i64 (quota : Nat)] 29) ∧ W0.heap[w.heap.size + 1 + 1]? = some (.cells #[.string ⟨#[]⟩, .string ⟨#[]⟩, .slice none 0 0, .int .i64 0] 29) ∧ Below w.heap.size w W0 ∧ W0.heap.size = w.heap.size + 1 + 1 + 1) := ⟨h00, h02, hb0, hs0⟩
  have HU : Hid (∀ W a2 c2, Its W (.slice a2 m.q.length c2) m.q → Calls Try.prog 32 #[rsV (Sc.bs m.p) (Sc.bs m.h) (.slice a2 m.q.length c2) quota] W fun e w' => e = .returned (.int .i64 (m.used : Nat)) ∧ Tu (fun _ => False) W w') := fun W a2 c2 q => by
    refine (rused_any (Sc.bs m.p) (Sc.bs m.h) a2 c2 m.q quota W q (by rw [Sc.bs_size]; omega) (by rw [Sc.bs_size]; omega) (by omega) (by omega)).mono ?_
    rintro e w' ⟨rfl, q⟩
    refine ⟨ret_int ?_, q⟩
    rw [Sc.bs_size, Sc.bs_size]
    rfl
  have HQL : Hid (∀ b, blk (.slice a s.q.length c) = some b → b < w.heap.size) := fun b e => its_lt hQ e
  generalize m.used = U at *
  have guard : ((k == 8) = false) ∨ ((k == 8) = true ∧ ¬ (i : Int) < 1 ∧ ¬ (3 : Int) < (i : Int)) := by
    by_cases e : k = 8
    · right
      refine ⟨by simpa using e, ?_, ?_⟩
      · intro q; exact hk ⟨e, by omega⟩
      · intro q; exact hk ⟨e, by omega⟩
    · left
      simpa using e
  clear hW0 hb0 hs0 h00 h02 hQ hm hk hp hh hl _htx hmz ht _hx
  by_cases hf : U ≤ quota
  · have d1 : ¬ (quota : Int) < (U : Int) := by omega
    have d2 : ¬ quota < U := by omega
    rcases guard with g1 | ⟨g1, g2, g3⟩
    all_goals
      go_enter Try.func13, Try.ntmps13
      go_wp2_with (first
        | (go_at_call 33; rw [HW0.out]; refine HD.out.mono ?_; rintro e w4 ⟨v4, rfl, q1, q2, q3⟩; obtain ⟨a4, c4, rfl⟩ := q1.slice; have H4 : Hid (Its w4 (.slice a4 m.q.length c4) m.q ∧ Below W0.heap.size W0 w4 ∧ ∀ b, blk (.slice a4 m.q.length c4) = some b → blk (.slice a s.q.length c) = some b ∨ W0.heap.size ≤ b) := ⟨q1, q2, q3⟩; clear q1 q2 q3)
        | (go_at_call 32; refine (HU.out _ _ _ (H4.out.1.tu ((Tu.refl (fun _ => False) w4).alloc _) (fun _ _ e => e))).mono ?_; rintro e w6 ⟨rfl, q6⟩; obtain ⟨⟨e0, e1, e2, e3⟩, _⟩ := cells4 (do_keep HB.out.1 H4.out.2.1 q6); obtain ⟨⟨j0, j1, j2, j3⟩, l0, l1, l2, l3⟩ := cells4 (do_keep HB.out.2.1 H4.out.2.1 q6); obtain ⟨⟨i0, i1, i2, i3⟩, _⟩ := cells4 (do_new q6); have H6 : Hid (Tu (fun _ => False) (w4.alloc (.cells #[.string (Sc.bs m.p), .string (Sc.bs m.h), .slice a4 m.q.length c4, .int .i64 (quota : Nat)] 29)) w6) := q6; clear q6))
      have HF := do_end HB.out.2.2.1 HB.out.2.2.2 HB.out.2.1 H4.out.2.1 H6.out (.string (Sc.bs m.p)) (.string (Sc.bs m.h)) (.slice a4 m.q.length c4) (.int .i64 (quota : Nat))
      refine bodyPost_ret (results_cell_two rfl _ _ (w.heap.size + 1 + 1) _ rfl HF.1 (by kernel_rfl)) rfl ?_
      refine ⟨fun _ => ⟨_, rfl, ?_, HF.2.2, fun b e => ?_⟩, fun q => absurd hf (by omega)⟩
      · refine ((H4.out.1.tu ((Tu.refl (fun _ => False) w4).alloc _) (fun _ _ e => e)).tu H6.out (fun _ _ e => e)).tu HF.2.1 (fun b e q => ?_)
        have hs := HB.out.2.2.2
        rcases H4.out.2.2 b e with q' | q'
        · have := HQL.out b q'; omega
        · omega
      · rcases H4.out.2.2 b e with q' | q'
        · exact .inl q'
        · exact .inr (by have := HB.out.2.2.2; omega)
  · have d1 : (quota : Int) < (U : Int) := by omega
    have d2 : quota < U := by omega
    rcases guard with g1 | ⟨g1, g2, g3⟩
    all_goals
      go_enter Try.func13, Try.ntmps13
      go_wp2_with (first
        | (go_at_call 33; rw [HW0.out]; refine HD.out.mono ?_; rintro e w4 ⟨v4, rfl, q1, q2, q3⟩; obtain ⟨a4, c4, rfl⟩ := q1.slice; have H4 : Hid (Its w4 (.slice a4 m.q.length c4) m.q ∧ Below W0.heap.size W0 w4 ∧ ∀ b, blk (.slice a4 m.q.length c4) = some b → blk (.slice a s.q.length c) = some b ∨ W0.heap.size ≤ b) := ⟨q1, q2, q3⟩; clear q1 q2 q3)
        | (go_at_call 32; refine (HU.out _ _ _ (H4.out.1.tu ((Tu.refl (fun _ => False) w4).alloc _) (fun _ _ e => e))).mono ?_; rintro e w6 ⟨rfl, q6⟩; obtain ⟨⟨e0, e1, e2, e3⟩, _⟩ := cells4 (do_keep HB.out.1 H4.out.2.1 q6); obtain ⟨⟨j0, j1, j2, j3⟩, l0, l1, l2, l3⟩ := cells4 (do_keep HB.out.2.1 H4.out.2.1 q6); obtain ⟨⟨i0, i1, i2, i3⟩, _⟩ := cells4 (do_new q6); have H6 : Hid (Tu (fun _ => False) (w4.alloc (.cells #[.string (Sc.bs m.p), .string (Sc.bs m.h), .slice a4 m.q.length c4, .int .i64 (quota : Nat)] 29)) w6) := q6; clear q6))
      have HF := do_end HB.out.2.2.1 HB.out.2.2.2 HB.out.2.1 H4.out.2.1 H6.out (.string (Sc.bs s.p)) (.string (Sc.bs s.h)) (.slice a s.q.length c) (.int .i64 (quota : Nat))
      refine bodyPost_ret (results_cell_two rfl _ _ (w.heap.size + 1 + 1) _ rfl HF.1 (by kernel_rfl)) rfl ?_
      exact ⟨fun q => absurd q (by omega), fun _ => ⟨rfl, HF.2.2⟩⟩
end Go.Proofs.Ytngmaijfahjfcaa
