/- What a right program leads to; the blocks of one that ranges over its ends. What nfa.Match answers. What nfa.Ends answers. -/
import Derived.Test.YtdiokclbdaojpaaDoorNfM11
import Derived.Test.YtdiokclbdaojpaaDoorNfM12
import Derived.Maps.OwnIn
namespace Go.Proofs.YtdiokclbdaojpaaDoor
open Go Go.RowKit Go.Shelf

namespace Nt
theorem right_at {gr sl : Int} {L : List Ins} (h : rightP gr sl L = true) {i : Nat} (hi : i < L.length) : ((L[i]).k = 12 ↔ i = L.length - 1) ∧ (L[i]).k ≤ 12 ∧ 1 ≤ (L[i]).k ∧ (if (L[i]).k = 2 ∨ (L[i]).k = 3 then 0 ≤ (L[i]).to ∧ (L[i]).to ≤ (L.length : Int) - 1 else (L[i]).to = 0) := by
  have hg : L.getD i iEnd = L[i] := by rw [List.getD_eq_getElem?_getD, List.getElem?_eq_getElem hi]; rfl
  rw [rightP, Bool.and_eq_true] at h
  have h1 := rowsP_le h.2 hi
  rw [rowP, hg, Bool.and_eq_true] at h1
  obtain ⟨h1, h2⟩ := h1
  rw [fitI] at h2
  simp only [Bool.and_eq_true, decide_eq_true_eq] at h2
  obtain ⟨h3, h4, _, h5, _⟩ := h2
  obtain ⟨b0, _, b2, _⟩ := fb_all _ h3
  rw [b0] at h4
  rw [b2, inRg] at h5
  refine ⟨?_, h3, by simp at h4; omega, ?_⟩
  · have : ((L[i]).k == 12) = (i == L.length - 1) := by simpa using h1
    rw [Bool.eq_iff_iff] at this
    simpa using this
  · split
    · rename_i hk
      have : ((L[i]).k == 2 || (L[i]).k == 3) = true := by simpa using hk
      rw [if_pos this] at h5
      simpa using h5
    · rename_i hk
      have : ¬ ((L[i]).k == 2 || (L[i]).k == 3) = true := by simpa using hk
      rw [if_neg this] at h5
      simpa using h5
theorem right_len {gr sl : Int} {L : List Ins} (h : rightP gr sl L = true) : 1 ≤ L.length ∧ L.length ≤ 16384 := by
  rw [rightP] at h
  simp only [Bool.and_eq_true, decide_eq_true_eq] at h
  exact h.1.2.2.2.2
theorem right_leads {gr sl : Int} {L : List Ins} (h : rightP gr sl L = true) : Leads L := by
  intro i hi a n hk j hj
  have hg : L.getD i iEnd = L[i] := by rw [List.getD_eq_getElem?_getD, List.getElem?_eq_getElem hi]; rfl
  rw [hg] at hk hj
  obtain ⟨h1, h2, h3, h4⟩ := right_at h hi
  have hi2 : i + 1 < L.length := by
    have : ¬ i = L.length - 1 := fun e => hk (h1.2 e)
    omega
  unfold nxt at hj
  split at hj
  · rename_i hk2
    have : (L[i]).k = 2 := by simpa using hk2
    rw [if_pos (.inl this)] at h4
    simp at hj
    omega
  split at hj
  · rename_i hk3
    have : (L[i]).k = 3 := by simpa using hk3
    rw [if_pos (.inr this)] at h4
    simp at hj
    omega
  split at hj
  · split at hj
    · simp at hj; omega
    · cases hj
  split at hj
  · split at hj
    · simp at hj; omega
    · cases hj
  · simp at hj; omega
theorem right_to {gr sl : Int} {L : List Ins} (h : rightP gr sl L = true) : ∀ i (h : i < L.length), 0 ≤ (L[i]).to ∧ (L[i]).to ≤ 1048576 := by
  intro i hi
  obtain ⟨_, _, _, h4⟩ := right_at h hi
  have := (right_len h).2
  split at h4
  · omega
  · omega
theorem rb_right {gr sl : Int} {L : List Ins} (h : rbE gr sl L = 0) : rightP gr sl L = true := by
  unfold rbE at h
  split at h
  · assumption
  · cases h
/-- The blocks of the call's own that a caller keeps apart from its iterator's. -/
structure Cr (w W : World) (O : Nat → Prop) : Prop where
  lo : ∀ k, O k → w.heap.size ≤ k ∧ k < W.heap.size
  tu : Tu (fun k => w.heap.size ≤ k) w W
theorem Cr.turn {w A B : World} {O O' : Nat → Prop} (h : Cr w A O) (hT : Tu O A B) (hO : ∀ k, O' k → (O k ∨ A.heap.size ≤ k) ∧ k < B.heap.size) : Cr w B O' :=
  ⟨fun k hk => ⟨(hO k hk).1.elim (fun e => (h.lo k e).1) (fun e => Nat.le_trans h.tu.size e), (hO k hk).2⟩, h.tu.trans hT (fun k _ e => (h.lo k e).1)⟩
/-- The marks of a function that leaves, its results told by the world. -/
theorem leaves_ds' {F : Fence} {n : Nat} {P : Program} {fn : Func} {tmps : Array Value} {R : Ending → World → Prop} {v : Value} : ∀ (Ds : List Nat) (W : World), Ds.Nodup → (∀ D ∈ Ds, W.heap[D]? = some (.deferred (some []))) → (∀ W', Tu (fun k => k ∈ Ds) W W' → (results fn tmps).run P W' = .ok v W' ∧ R (.returned v) W') → LeavesInM F n P fn tmps R (dsOf Ds) .returning W := by
  intro Ds
  induction Ds with
  | nil => intro W _ _ hR; exact ⟨_, hR W (Tu.refl _ W)⟩
  | cons D Ds ih =>
    intro W hn hD hR
    obtain ⟨h1, h2⟩ := List.nodup_cons.1 hn
    have h0 := hD D (List.mem_cons_self ..)
    refine ⟨by simp, .inl ⟨D, _, rfl, run_takeDeferred h0, ih _ h2 (fun E hE => ?_) (fun W' hT => ?_)⟩⟩
    · exact (World.putObj_heap_other (fun e => h1 (by subst e; exact hE))).trans (hD E (List.mem_cons_of_mem _ hE))
    · exact hR W' (((Tu.refl _ W).put (fun _ => List.mem_cons_self ..) _).trans hT (fun k _ e => List.mem_cons_of_mem _ e))
/-- A run that is new, and the boxes of its iterator. -/
theorem Ez.made {W : World} {rb g : Nat} {ca : Option Addr} {cc : Nat} {L : List Ins} {s : ByteArray} (hR : Rn W rb (.slice ca L.length cc) s (.slice (some ⟨g, 0, none⟩) L.length L.length) (.slice none 0 0)) (hM : Mt W g (List.replicate L.length 0)) (hC : Cds W g ca cc L) (hg : g < rb) (fr lat til : Nat) :
    Ez ((((W.alloc (.cells #[.pointer (some ⟨rb, 0, none⟩)] 95)).alloc (.cells #[.int .i64 (fr : Int)] 3)).alloc (.cells #[.int .i64 (lat : Int)] 3)).alloc (.cells #[.int .i64 (til : Int)] 3)) rb g W.heap.size (W.heap.size + 1) (W.heap.size + 1 + 1) (W.heap.size + 1 + 1 + 1) ca cc L s fr lat til := by
  obtain ⟨W4, hW4⟩ : ∃ W4, W4 = (((W.alloc (.cells #[.pointer (some ⟨rb, 0, none⟩)] 95)).alloc (.cells #[.int .i64 (fr : Int)] 3)).alloc (.cells #[.int .i64 (lat : Int)] 3)).alloc (.cells #[.int .i64 (til : Int)] 3) := ⟨_, rfl⟩
  have hT : Tu (fun _ => False) W W4 := by rw [hW4]; exact ((((Tu.refl _ W).alloc _).alloc _).alloc _).alloc _
  have b0 : W4.heap[W.heap.size]? = some (.cells #[.pointer (some ⟨rb, 0, none⟩)] 95 (0, 0)) := by
    rw [hW4, Below.heap_alloc _ _ _ (by simp <;> omega), Below.heap_alloc _ _ _ (by simp <;> omega), Below.heap_alloc _ _ _ (by simp <;> omega)]
    exact World.alloc_heap_new _ _
  have b1 : W4.heap[W.heap.size + 1]? = some (.cells #[.int .i64 (fr : Int)] 3 (0, 0)) := by
    rw [hW4, Below.heap_alloc _ _ _ (by simp <;> omega), Below.heap_alloc _ _ _ (by simp <;> omega)]
    have := World.alloc_heap_new (W.alloc (.cells #[.pointer (some ⟨rb, 0, none⟩)] 95)) (.cells #[.int .i64 (fr : Int)] 3 (0, 0))
    rwa [World.size_alloc] at this
  have b2 : W4.heap[W.heap.size + 1 + 1]? = some (.cells #[.int .i64 (lat : Int)] 3 (0, 0)) := by
    rw [hW4, Below.heap_alloc _ _ _ (by simp <;> omega)]
    have := World.alloc_heap_new ((W.alloc (.cells #[.pointer (some ⟨rb, 0, none⟩)] 95)).alloc (.cells #[.int .i64 (fr : Int)] 3)) (.cells #[.int .i64 (lat : Int)] 3 (0, 0))
    rwa [World.size_alloc, World.size_alloc] at this
  have b3 : W4.heap[W.heap.size + 1 + 1 + 1]? = some (.cells #[.int .i64 (til : Int)] 3 (0, 0)) := by
    rw [hW4]
    have := World.alloc_heap_new (((W.alloc (.cells #[.pointer (some ⟨rb, 0, none⟩)] 95)).alloc (.cells #[.int .i64 (fr : Int)] 3)).alloc (.cells #[.int .i64 (lat : Int)] 3)) (.cells #[.int .i64 (til : Int)] 3 (0, 0))
    rwa [World.size_alloc, World.size_alloc, World.size_alloc] at this
  rw [← hW4]
  have hr := hR.lt
  have same : ∀ k, k < W.heap.size → W4.heap[k]? = W.heap[k]? := fun k hk => hT.block k hk id
  refine ⟨(same rb hr).trans hR, (same g (by omega)).trans hM, ⟨hC.len, hC.room, hC.most, hC.nil, fun i hi => ?_⟩, b0, b1, b2, b3, ⟨hg, by omega, by omega, by omega, by omega⟩⟩
  obtain ⟨b, off, e, h1, h2⟩ := hC.lies i hi
  exact ⟨b, off, e, h1, fun j hj => (World.cell?_of_block (a := ⟨b, off + i * 9 + j, none⟩) (same b (by omega))).trans (h2 j hj)⟩
end Nt
end Go.Proofs.YtdiokclbdaojpaaDoor
namespace Go.Proofs.YtdiokclbdaojpaaDoor
open Go Go.RowKit Go.Shelf

attribute [local go_sem] Oper.semAt_some

namespace Nt
/-- The last of some pairs: a span, and whether there is one. -/
def lastS (l : List (Nat × Nat)) : (Nat × Nat) × Bool := match l.getLast? with | some x => (x, true) | none => ((0, 0), false)
theorem lastS_snoc (l : List (Nat × Nat)) (x : Nat × Nat) : lastS (l ++ [x]) = (x, true) := by simp [lastS]
/-- What nfa.Match answers: the span, whether there is one, the error. -/
def mtR (gr sl : Int) (L : List Ins) (s : ByteArray) (fr : Int) : ((Nat × Nat) × Bool) × Int :=
  if rbE gr sl L = 0 then (if 0 ≤ fr ∧ fr ≤ (s.size : Int) then (lastS (endsP L s fr.toNat s.size s.size), 0) else (((0, 0), false), 2)) else (((0, 0), false), rbE gr sl L)
/-- A span in a block. -/
def SpA (w : World) (g : Nat) (f t : Int) : Prop := w.heap[g]? = some (.cells #[.int .i64 f, .int .i64 t] 42 (0, 0))
theorem SpA.put {w : World} {g : Nat} {f t : Int} (h : SpA w g f t) (f' t' : Int) : SpA ((w.setCell ⟨g, 0, none⟩ (.int .i64 f')).setCell ⟨g, 1, none⟩ (.int .i64 t')) g f' t' := by
  have h1 := heap_setCell_same w g 0 _ _ (.int .i64 f') h
  exact heap_setCell_same _ g 1 _ _ (.int .i64 t') h1
theorem results_sp3 {fn : Func} {p a b : Tmp} (h : fn.results = #[.cell p 42, .tmp a, .tmp b]) (tmps : Array Value) (w : World) (g : Nat) (f t : Int)
    (hp : tmps.getD p undef = .pointer (some ⟨g, 0, none⟩)) (hg : SpA w g f t) :
    (results fn tmps).run Tryd.prog w = .ok (.tuple #[.agg #[.int .i64 f, .int .i64 t], tmps.getD a undef, tmps.getD b undef]) w := by
  have hp' : tmps[p]?.getD undef = .pointer (some ⟨g, 0, none⟩) := by simpa using hp
  have hl := run_loadVar_row (P := Tryd.prog) w g 42 42 #[.int .i64 f, .int .i64 t] (0, 0) _ hg Tryd.underlying42 rfl (by kernel_rfl)
  simp [results, h, hp', asAddr, hl]
/-- The memory of Match within its range. -/
structure Im (w : World) (Br Bb Bk : Nat) (O : Nat → Prop) (pre : List (Nat × Nat)) (W : World) : Prop where
  cr : Cr w W O
  br : SpA W Br 0 0
  bb : SpA W Bb ((lastS pre).1.1 : Int) ((lastS pre).1.2 : Int)
  bk : W.heap[Bk]? = some (.cells #[.bool (lastS pre).2] 4 (0, 0))
  no : ¬ O Br ∧ ¬ O Bb ∧ ¬ O Bk
theorem Im_abi (w : World) (Br Bb Bk : Nat) : Abi (Im w Br Bb Bk) := by
  rintro O O' pre A B ⟨h1, h0, h2, h3, h6, h4, h5⟩ hT hO
  have l0 := lt_of_block h0
  have l1 := lt_of_block h2
  have l2 := lt_of_block h3
  have no : ∀ k, k < A.heap.size → ¬ O k → ¬ O' k := fun k hk hn e => (hO k e).1.elim hn (fun e => by omega)
  exact ⟨h1.turn hT hO, (hT.block Br l0 h6).trans h0, (hT.block Bb l1 h4).trans h2, (hT.block Bk l2 h5).trans h3, no Br l0 h6, no Bb l1 h4, no Bk l2 h5⟩
theorem Im.step {w W : World} {Br Bb Bk : Nat} {O Z : Nat → Prop} {pre : List (Nat × Nat)} (h : Im w Br Bb Bk O pre W) (hb : Br ≠ Bb ∧ Br ≠ Bk ∧ Bb ≠ Bk) (hl : w.heap.size ≤ Bb ∧ w.heap.size ≤ Bk) (hZ : ∀ k, Z k → k < w.heap.size) (x : Nat × Nat) :
    Ke (fun k => O k ∨ Z k) W (((W.setCell ⟨Bb, 0, none⟩ (.int .i64 (x.1 : Int))).setCell ⟨Bb, 1, none⟩ (.int .i64 (x.2 : Int))).setCell ⟨Bk, 0, none⟩ (.bool true)) ∧ Im w Br Bb Bk O (pre ++ [x]) (((W.setCell ⟨Bb, 0, none⟩ (.int .i64 (x.1 : Int))).setCell ⟨Bb, 1, none⟩ (.int .i64 (x.2 : Int))).setCell ⟨Bk, 0, none⟩ (.bool true)) := by
  obtain ⟨n0, n1, n2⟩ := hb
  obtain ⟨m0, m1, m2⟩ := h.no
  obtain ⟨W', hW'⟩ : ∃ W', W' = ((W.setCell ⟨Bb, 0, none⟩ (.int .i64 (x.1 : Int))).setCell ⟨Bb, 1, none⟩ (.int .i64 (x.2 : Int))).setCell ⟨Bk, 0, none⟩ (.bool true) := ⟨_, rfl⟩
  have hT : Tu (fun k => k = Bb ∨ k = Bk) W W' := by rw [hW']; exact (((Tu.refl _ W).setCell (p := ⟨Bb, 0, none⟩) (fun _ => .inl rfl) _).setCell (p := ⟨Bb, 1, none⟩) (fun _ => .inl rfl) _).setCell (p := ⟨Bk, 0, none⟩) (fun _ => .inr rfl) _
  have b1 : SpA W' Bb (x.1 : Int) (x.2 : Int) := by rw [hW']; exact (heap_setCell_other _ ⟨Bk, 0, none⟩ Bb _ n2).trans (h.bb.put _ _)
  have b2 : W'.heap[Bk]? = some (.cells #[.bool true] 4 (0, 0)) := by
    rw [hW']
    refine heap_setCell_same _ Bk 0 _ _ (.bool true) ((heap_setCell_other _ ⟨Bb, 1, none⟩ Bk _ (Ne.symm n2)).trans ((heap_setCell_other _ ⟨Bb, 0, none⟩ Bk _ (Ne.symm n2)).trans h.bk))
  rw [← hW']
  have lo := h.cr.lo
  have sz := h.cr.tu.size
  refine ⟨Ke.of_tu hT (fun k hk => ⟨hk.elim (fun e => (lo k e).2) (fun e => by have := hZ k e; omega), fun e => ?_⟩), ⟨⟨fun k hk => ⟨(lo k hk).1, by have := (lo k hk).2; have := hT.size; omega⟩, h.cr.tu.trans hT (fun k _ e => e.elim (fun e => by omega) (fun e => by omega))⟩, (hT.block Br (lt_of_block h.br) (fun e => e.elim n0 n1)).trans h.br, by rw [lastS_snoc]; exact b1, by rw [lastS_snoc]; exact b2, h.no⟩⟩
  rcases e with rfl | rfl
  · exact hk.elim m1 (fun e => by have := hZ _ e; omega)
  · exact hk.elim m2 (fun e => by have := hZ _ e; omega)
end Nt

set_option maxRecDepth 100000 in
set_option maxHeartbeats 8000000 in
theorem match_any (gr sl : Int) (a : Option Addr) (cap : Nat) (L : List Nt.Ins) (s : ByteArray) (fr : Int) (w : World) (hc : Nt.Cds w w.heap.size a cap L) (hT : Nt.Tabs w) (hk : ∀ x ∈ L, x.k ≤ 255) (hs : s.size ≤ 1048576) :
    Calls Tryd.prog 24 #[.agg #[.int .i64 gr, .int .i64 sl, .slice a L.length cap], .string s, .int .i64 fr] w fun e w' => e = .returned (.tuple #[.agg #[.int .i64 ((Nt.mtR gr sl L s fr).1.1.1 : Int), .int .i64 ((Nt.mtR gr sl L s fr).1.1.2 : Int)], .bool (Nt.mtR gr sl L s fr).1.2, .int .i64 (Nt.mtR gr sl L s fr).2]) ∧ Below w.heap.size w w' := by
  refine (callsIn_wide (n := 5)).1 ?_
  have HDD : Hid (∀ k : Nat, Fence.wide.depth.isSome = true → 1 ≤ k) := fun _ h => by cases h
  obtain ⟨W0, hW0⟩ : ∃ W0, W0 = (w.alloc (.cells #[.int .i64 gr, .int .i64 sl, .slice a L.length cap] 35)).alloc (.cells #[.int .i64 0, .int .i64 0] 42) := ⟨_, rfl⟩
  have hB0 : Below w.heap.size w W0 := by rw [hW0]; exact ((Below.refl w.heap.size w).alloc (Nat.le_refl _) _).alloc (by simp) _
  have sz0 : W0.heap.size = w.heap.size + 2 := by rw [hW0]; simp
  have p0 : W0.heap[w.heap.size]? = some (.cells #[.int .i64 gr, .int .i64 sl, .slice a L.length cap] 35 (0, 0)) := by
    rw [hW0, Below.heap_alloc _ _ _ (by simp)]; exact World.alloc_heap_new _ _
  have p1 : W0.heap[w.heap.size + 1]? = some (.cells #[.int .i64 0, .int .i64 0] 42 (0, 0)) := by
    rw [hW0]
    have := World.alloc_heap_new (w.alloc (.cells #[.int .i64 gr, .int .i64 sl, .slice a L.length cap] 35)) (.cells #[.int .i64 0, .int .i64 0] 42)
    rwa [World.size_alloc] at this
  have hc0 : Nt.Cds W0 W0.heap.size a cap L := hc.under hB0 (by omega)
  have hT0 : Nt.Tabs W0 := hT.under hB0
  have hrun := runnable_any gr sl a cap L W0 hc0 hT0 hk
  by_cases hr : Nt.rbE gr sl L = 0
  · have hr0 : Nt.rbE gr sl L = 0 := hr
    have hri := Nt.rb_right hr
    rw [hr] at hrun
    by_cases hf : 0 ≤ fr ∧ fr ≤ (s.size : Int)
    · obtain ⟨f, rfl⟩ : ∃ f : Nat, fr = (f : Int) := ⟨fr.toNat, by omega⟩
      have HM : Hid (Nt.mtR gr sl L s (f : Int) = (Nt.lastS (Nt.endsP L s f s.size s.size), 0)) := by show _ = _; rw [Nt.mtR, if_pos hr, if_pos hf]; rfl
      have hf1 : ¬ ((f : Int) < 0) := by omega
      have hf2 : ¬ ((s.size : Int) < (f : Int)) := by omega
      have hll := Nt.right_len hri
      refine callsIn_of_wp_marks Tryd.func24 rfl trivial ?_ rfl
      simp only [Tryd.ntmps24, List.size_toArray, List.length_cons, List.length_nil, Nat.reduceAdd, Nat.reduceSub, Array.replicate_succ, Array.replicate_zero, List.push_toArray, List.append_toArray, List.nil_append, List.cons_append]
      gi_wp2_with (first | (refine ⟨trivial, ?_⟩; gi_at_call 43; rw [← hW0]; refine ((callsIn_wide (n := 4)).2 hrun).mono ?_; clear hrun; rintro e w1 ⟨rfl, hb1⟩; have s1 : Nt.SpA w1 (w.heap.size + 1) 0 0 := (hb1.block _ (by omega)).trans p1; have z0 : w1.cell? ⟨w.heap.size + 1, 0, none⟩ = some (.int .i64 0) := cell_of_row w1 _ 0 _ _ _ s1; have z1 : w1.cell? ⟨w.heap.size + 1, 1, none⟩ = some (.int .i64 0) := cell_of_row w1 _ 1 _ _ _ s1; have z2 : w1.frozen? ⟨w.heap.size + 1, 0, none⟩ = false := frozen_of_row w1 _ 0 _ _ s1; have z3 : w1.frozen? ⟨w.heap.size + 1, 1, none⟩ = false := frozen_of_row w1 _ 1 _ _ s1; have t1 : w1.heap[w.heap.size]? = _ := (hb1.block _ (by omega)).trans p0; have y0 := cell_alloc_k (.cells #[.bool false] 4) (cell_alloc_k (.cells #[.int .i64 0, .int .i64 0] 42) (cell_of_row w1 w.heap.size 0 _ _ _ t1)); have y1 := cell_alloc_k (.cells #[.bool false] 4) (cell_alloc_k (.cells #[.int .i64 0, .int .i64 0] 42) (cell_of_row w1 w.heap.size 1 _ _ _ t1)); have y2 := cell_alloc_k (.cells #[.bool false] 4) (cell_alloc_k (.cells #[.int .i64 0, .int .i64 0] 42) (cell_of_row w1 w.heap.size 2 _ _ _ t1)); have HB1 : Hid _ := hb1; clear hb1) | (refine ⟨trivial, ?_⟩; gi_at_call 44; refine ((callsIn_wide (n := 4)).2 (newRun_any gr sl a cap L s _ hll.1 (by omega))).mono ?_; rintro e w4 ⟨rb, g, rfl, hg1, hg2, hR4, hM4, hb4⟩) | (refine ⟨trivial, ?_⟩; gi_at_call 45; refine ((callsIn_wide (n := 4)).2 (ends_any _ _ _ _ _)).mono ?_; rintro e w5 ⟨rfl, rfl⟩))
      obtain ⟨W3, hW3⟩ : ∃ W3, W3 = (w1.alloc (.cells #[.int .i64 0, .int .i64 0] 42)).alloc (.cells #[.bool false] 4) := ⟨_, rfl⟩
      rw [← hW3] at hb4 hg1
      have sz3 : W3.heap.size = w1.heap.size + 2 := by rw [hW3]; simp
      have szb := HB1.out.size
      have hb3 : Below w.heap.size w W3 := by rw [hW3]; exact ((hB0.trans (HB1.out.mono (by omega))).alloc (by omega) _).alloc (by simp; omega) _
      have hb4' : Below w.heap.size w w4 := hb3.trans (hb4.mono (by omega))
      have k0 : Nt.SpA w4 (w.heap.size + 1) 0 0 := (hb4.block _ (by omega)).trans (by rw [hW3, Below.heap_alloc _ _ _ (by simp; omega), Below.heap_alloc _ _ _ (by omega)]; exact s1)
      have k1 : Nt.SpA w4 w1.heap.size 0 0 := (hb4.block _ (by omega)).trans (by rw [hW3, Below.heap_alloc _ _ _ (by simp)]; exact World.alloc_heap_new _ _)
      have k2 : w4.heap[w1.heap.size + 1]? = some (.cells #[.bool false] 4 (0, 0)) := (hb4.block _ (by omega)).trans (by
        rw [hW3]
        have := World.alloc_heap_new (w1.alloc (.cells #[.int .i64 0, .int .i64 0] 42)) (.cells #[.bool false] 4)
        rwa [World.size_alloc] at this)
      have sz4 := hb4.size
      have hC4 : Nt.Cds w4 g a cap L := hc.under hb4' (by omega)
      have hEz := Nt.Ez.made hR4 hM4 hC4 hg2 f s.size s.size
      obtain ⟨w5, hw5⟩ : ∃ w5, w5 = (((w4.alloc (.cells #[.pointer (some ⟨rb, 0, none⟩)] 95)).alloc (.cells #[.int .i64 (f : Int)] 3)).alloc (.cells #[.int .i64 (s.size : Int)] 3)).alloc (.cells #[.int .i64 (s.size : Int)] 3) := ⟨_, rfl⟩
      rw [← hw5] at hEz ⊢
      have hT5 : Tu (fun _ => False) w4 w5 := by rw [hw5]; exact ((((Tu.refl _ w4).alloc _).alloc _).alloc _).alloc _
      have hr4 := hR4.lt
      have sz5 := hT5.size
      refine wpIn_rangeO (α := Nat × Nat) rfl (by decide) ?hg trivial (enters_of Tryd.func66 (by kernel_rfl) rfl)
        (ends1_seq 4 rb g w4.heap.size (w4.heap.size + 1) (w4.heap.size + 1 + 1) (w4.heap.size + 1 + 1 + 1) a cap L s f s.size s.size w5 hEz (by decide) (Nt.right_leads hri) (Nt.right_to hri) hll.1 (by omega) (by omega) (Nat.le_refl _) (Nat.le_refl _) hs) hEz.under (fun k hk => by have := hC4.code (by omega) k hk; omega)
        (fun _ _ _ _ h _ => h) (fun _ _ _ _ _ => trivial) ?hps
        (Nt.Im w (w.heap.size + 1) w1.heap.size (w1.heap.size + 1)) (fun _ _ _ => False) (Nt.Im_abi _ _ _ _) (fun _ _ _ _ _ h _ _ => h) ?start
        (fun x => ⟨#[.agg #[.int .i64 gr, .int .i64 sl, .slice a L.length cap], .string s, .int .i64 (f : Int), .pointer (some ⟨w.heap.size, 0, none⟩), undef, undef, .pointer (some ⟨w.heap.size + 1, 0, none⟩), .bool false, .int .i64 0, .int .i64 0, .pointer (some ⟨w1.heap.size, 0, none⟩), .pointer (some ⟨w1.heap.size + 1, 0, none⟩), .int .i64 (x.1 : Int), .int .i64 (x.2 : Int), .agg #[.int .i64 gr, .int .i64 sl, .slice a L.length cap], .int .i64 0, .int .i64 0, .bool false, undef, undef, .int .i64 (f : Int), .bool (decide ((f : Int) < 0)), .bool (decide ((f : Int) < 0)), .int .i64 (f : Int), .string s, .int .i64 (s.size : Int), .bool false, .bool (decide ((f : Int) < 0)), undef, .agg #[.int .i64 gr, .int .i64 sl, .slice a L.length cap], .string s, .pointer (some ⟨rb, 0, none⟩), .int .i64 (f : Int), .string s, .int .i64 (s.size : Int), .string s, .int .i64 (s.size : Int), .func (.func 66) #[] #[.pointer (some ⟨w4.heap.size + 1 + 1, 0, none⟩), .pointer (some ⟨w4.heap.size + 1, 0, none⟩), .pointer (some ⟨w4.heap.size + 1 + 1 + 1, 0, none⟩), .pointer (some ⟨w4.heap.size, 0, none⟩)], .int .i64 (x.1 : Int), .int .i64 (x.2 : Int), undef, undef, undef, undef, undef], []⟩) ?assign ?body ?done ?stop
      case hg => rfl
      case hps => exact fun _ => rfl
      case start =>
        intro O W' hT hO
        have same : ∀ k, k < w4.heap.size → W'.heap[k]? = w4.heap[k]? := fun k hk => (hT.block k (by omega) id).trans (hT5.block k hk id)
        have no : ∀ k, k < W3.heap.size → ¬ O k := fun k hk e => by
          rcases (hO k e).1 with h | h
          · rcases h with h | h | h | h | h | h <;> omega
          · omega
        refine ⟨⟨fun k hk => ⟨?_, (hO k hk).2⟩, ?_⟩, (same _ (by omega)).trans k0, (same _ (by omega)).trans k1, (same _ (by omega)).trans k2, no _ (by omega), no _ (by omega), no _ (by omega)⟩
        · rcases (hO k hk).1 with h | h
          · rcases h with h | h | h | h | h | h <;> omega
          · omega
        · exact ((Tu.of_below hb4' (fun k h _ => h)).trans hT5 (fun _ _ e => e.elim)).trans hT (fun _ _ e => e.elim)
      case assign =>
        intro l x W' K' hK'
        gi_wp2
        exact hK'
      case body =>
        intro l O pre x W' hI hU hV hlen hpf
        have d0 : W'.cell? ⟨w1.heap.size, 0, none⟩ = _ := cell_of_row W' _ 0 _ _ _ hI.bb
        have d1 : W'.cell? ⟨w1.heap.size, 1, none⟩ = _ := cell_of_row W' _ 1 _ _ _ hI.bb
        have e0 : W'.frozen? ⟨w1.heap.size, 0, none⟩ = false := frozen_of_row W' _ 0 _ _ hI.bb
        have e1 : W'.frozen? ⟨w1.heap.size, 1, none⟩ = false := frozen_of_row W' _ 1 _ _ hI.bb
        have d2 : W'.cell? ⟨w1.heap.size + 1, 0, none⟩ = _ := cell_of_row W' _ 0 _ _ _ hI.bk
        have e2 : W'.frozen? ⟨w1.heap.size + 1, 0, none⟩ = false := frozen_of_row W' _ 0 _ _ hI.bk
        simp only [List.getElem?_toArray, List.getElem?_cons_zero, List.getElem?_cons_succ] at d0 d1 d2
        have HI : Hid _ := hI
        clear hI hU hV hlen hpf
        gi_wp2
        exact HI.out.step ⟨by omega, by omega, by omega⟩ ⟨by omega, by omega⟩ (hc.code (by omega)) x
      case done =>
        rintro D O O' xs W' hD rfl hD' hnD hsub hI hDh
        have d0 : W'.cell? ⟨w1.heap.size, 0, none⟩ = _ := cell_of_row W' _ 0 _ _ _ hI.bb
        have d1 : W'.cell? ⟨w1.heap.size, 1, none⟩ = _ := cell_of_row W' _ 1 _ _ _ hI.bb
        have d2 : W'.cell? ⟨w1.heap.size + 1, 0, none⟩ = _ := cell_of_row W' _ 0 _ _ _ hI.bk
        have d3 : W'.cell? ⟨w.heap.size + 1, 0, none⟩ = _ := cell_of_row W' _ 0 _ _ _ hI.br
        have d4 : W'.cell? ⟨w.heap.size + 1, 1, none⟩ = _ := cell_of_row W' _ 1 _ _ _ hI.br
        have e3 : W'.frozen? ⟨w.heap.size + 1, 0, none⟩ = false := frozen_of_row W' _ 0 _ _ hI.br
        have e4 : W'.frozen? ⟨w.heap.size + 1, 1, none⟩ = false := frozen_of_row W' _ 1 _ _ hI.br
        simp only [List.getElem?_toArray, List.getElem?_cons_zero, List.getElem?_cons_succ] at d0 d1 d2 d3 d4
        have HI : Hid _ := hI
        clear hI hsub
        gi_wp2
        refine wpIn_wide.2 ?_
        go_region
        gi_wp2
        have hS2 : Nt.SpA ((W'.setCell ⟨w.heap.size + 1, 0, none⟩ (.int .i64 ((Nt.lastS (Nt.endsP L s f s.size s.size)).1.1 : Int))).setCell ⟨w.heap.size + 1, 1, none⟩ (.int .i64 ((Nt.lastS (Nt.endsP L s f s.size s.size)).1.2 : Int))).drew (w.heap.size + 1) _ _ := HI.out.br.put _ _
        have hT2 : Tu (fun k => w.heap.size ≤ k) w ((W'.setCell ⟨w.heap.size + 1, 0, none⟩ (.int .i64 ((Nt.lastS (Nt.endsP L s f s.size s.size)).1.1 : Int))).setCell ⟨w.heap.size + 1, 1, none⟩ (.int .i64 ((Nt.lastS (Nt.endsP L s f s.size s.size)).1.2 : Int))).drew := ((HI.out.cr.tu.setCell (p := ⟨w.heap.size + 1, 0, none⟩) (fun _ => Nat.le_succ _) _).setCell (p := ⟨w.heap.size + 1, 1, none⟩) (fun _ => Nat.le_succ _) _).drew
        refine Nt.leaves_ds' [D] _ (by simp) (fun E hE => ?_) (fun W2 hW2 => ⟨Nt.results_sp3 rfl _ _ (w.heap.size + 1) _ _ rfl ((hW2.block _ (lt_of_block hS2) (fun e => by simp at e; omega)).trans hS2), by rw [HM.out]; rfl, ?_⟩)
        · obtain rfl : E = D := by simpa using hE
          exact (heap_setCell_other _ ⟨w.heap.size + 1, 1, none⟩ E _ (by simp only; omega)).trans ((heap_setCell_other _ ⟨w.heap.size + 1, 0, none⟩ E _ (by simp only; omega)).trans hDh)
        · exact (hT2.trans hW2 (fun k hk e => by simp at e; omega)).below (Nat.le_refl _) (fun k e => e)
      case stop =>
        intro D O' c W' hD hD' h hDh
        exact h.elim
    · have HM : Hid (Nt.mtR gr sl L s fr = (((0, 0), false), 2)) := by show _ = _; rw [Nt.mtR, if_pos hr, if_neg hf]
      by_cases hf0 : fr < 0
      · refine callsIn_of_wp_marks Tryd.func24 rfl trivial ?_ rfl
        simp only [Tryd.ntmps24, List.size_toArray, List.length_cons, List.length_nil, Nat.reduceAdd, Nat.reduceSub, Array.replicate_succ, Array.replicate_zero, List.push_toArray, List.append_toArray, List.nil_append, List.cons_append]
        gi_wp2_with (refine ⟨trivial, ?_⟩; gi_at_call 43; rw [← hW0]; refine ((callsIn_wide (n := 4)).2 hrun).mono ?_; clear hrun; rintro e w1 ⟨rfl, hb1⟩; have s1 : Nt.SpA w1 (w.heap.size + 1) 0 0 := (hb1.block _ (by omega)).trans p1; have z0 : w1.cell? ⟨w.heap.size + 1, 0, none⟩ = some (.int .i64 0) := cell_of_row w1 _ 0 _ _ _ s1; have z1 : w1.cell? ⟨w.heap.size + 1, 1, none⟩ = some (.int .i64 0) := cell_of_row w1 _ 1 _ _ _ s1; have z2 : w1.frozen? ⟨w.heap.size + 1, 0, none⟩ = false := frozen_of_row w1 _ 0 _ _ s1; have z3 : w1.frozen? ⟨w.heap.size + 1, 1, none⟩ = false := frozen_of_row w1 _ 1 _ _ s1)
        exact ⟨_, Nt.results_sp3 rfl _ _ (w.heap.size + 1) 0 0 rfl (s1.put 0 0), by rw [HM.out]; rfl, ((hB0.trans (hb1.mono (by omega))).setCell (p := ⟨w.heap.size + 1, 0, none⟩) (by simp) _).setCell (p := ⟨w.heap.size + 1, 1, none⟩) (by simp) _⟩
      · have hf1 : (s.size : Int) < fr := by omega
        refine callsIn_of_wp_marks Tryd.func24 rfl trivial ?_ rfl
        simp only [Tryd.ntmps24, List.size_toArray, List.length_cons, List.length_nil, Nat.reduceAdd, Nat.reduceSub, Array.replicate_succ, Array.replicate_zero, List.push_toArray, List.append_toArray, List.nil_append, List.cons_append]
        gi_wp2_with (refine ⟨trivial, ?_⟩; gi_at_call 43; rw [← hW0]; refine ((callsIn_wide (n := 4)).2 hrun).mono ?_; clear hrun; rintro e w1 ⟨rfl, hb1⟩; have s1 : Nt.SpA w1 (w.heap.size + 1) 0 0 := (hb1.block _ (by omega)).trans p1; have z0 : w1.cell? ⟨w.heap.size + 1, 0, none⟩ = some (.int .i64 0) := cell_of_row w1 _ 0 _ _ _ s1; have z1 : w1.cell? ⟨w.heap.size + 1, 1, none⟩ = some (.int .i64 0) := cell_of_row w1 _ 1 _ _ _ s1; have z2 : w1.frozen? ⟨w.heap.size + 1, 0, none⟩ = false := frozen_of_row w1 _ 0 _ _ s1; have z3 : w1.frozen? ⟨w.heap.size + 1, 1, none⟩ = false := frozen_of_row w1 _ 1 _ _ s1)
        exact ⟨_, Nt.results_sp3 rfl _ _ (w.heap.size + 1) 0 0 rfl (s1.put 0 0), by rw [HM.out]; rfl, ((hB0.trans (hb1.mono (by omega))).setCell (p := ⟨w.heap.size + 1, 0, none⟩) (by simp) _).setCell (p := ⟨w.heap.size + 1, 1, none⟩) (by simp) _⟩
  · have hr1 : (Nt.rbE gr sl L == 0) = false := by simpa using hr
    have HM : Hid (Nt.mtR gr sl L s fr = (((0, 0), false), Nt.rbE gr sl L)) := by show _ = _; rw [Nt.mtR, if_neg hr]
    refine callsIn_of_wp_marks Tryd.func24 rfl trivial ?_ rfl
    simp only [Tryd.ntmps24, List.size_toArray, List.length_cons, List.length_nil, Nat.reduceAdd, Nat.reduceSub, Array.replicate_succ, Array.replicate_zero, List.push_toArray, List.append_toArray, List.nil_append, List.cons_append]
    gi_wp2_with (refine ⟨trivial, ?_⟩; gi_at_call 43; rw [← hW0]; refine ((callsIn_wide (n := 4)).2 hrun).mono ?_; clear hrun; rintro e w1 ⟨rfl, hb1⟩; have s1 : Nt.SpA w1 (w.heap.size + 1) 0 0 := (hb1.block _ (by omega)).trans p1; have z0 : w1.cell? ⟨w.heap.size + 1, 0, none⟩ = some (.int .i64 0) := cell_of_row w1 _ 0 _ _ _ s1; have z1 : w1.cell? ⟨w.heap.size + 1, 1, none⟩ = some (.int .i64 0) := cell_of_row w1 _ 1 _ _ _ s1; have z2 : w1.frozen? ⟨w.heap.size + 1, 0, none⟩ = false := frozen_of_row w1 _ 0 _ _ s1; have z3 : w1.frozen? ⟨w.heap.size + 1, 1, none⟩ = false := frozen_of_row w1 _ 1 _ _ s1)
    exact ⟨_, Nt.results_sp3 rfl _ _ (w.heap.size + 1) 0 0 rfl (s1.put 0 0), by rw [HM.out]; rfl, ((hB0.trans (hb1.mono (by omega))).setCell (p := ⟨w.heap.size + 1, 0, none⟩) (by simp) _).setCell (p := ⟨w.heap.size + 1, 1, none⟩) (by simp) _⟩
end Go.Proofs.YtdiokclbdaojpaaDoor
namespace Go.Proofs.YtdiokclbdaojpaaDoor
open Go Go.RowKit Go.Shelf

attribute [local go_sem] Oper.semAt_some

namespace Nt
theorem own_lo {w : World} {base base' : Nat} {e size n : Nat} {v : Value} {xs : List Value} (h : w.ownsRow base e size v n xs) (hb : base' ≤ base) : w.ownsRow base' e size v n xs :=
  ⟨h.1, h.2.imp id fun ⟨g, cap, cur, h1, h2, h3⟩ => ⟨g, cap, cur, h1, Nat.le_trans hb h2, h3⟩⟩
/-- What nfa.Ends answers: the places, and the error. -/
def enR (gr sl : Int) (L : List Ins) (s : ByteArray) (fr : Int) : List Nat × Int :=
  if rbE gr sl L = 0 then (if 0 ≤ fr ∧ fr ≤ (s.size : Int) then ((endsP L s fr.toNat fr.toNat s.size).map (·.2), 0) else ([], 2)) else ([], rbE gr sl L)
/-- The memory of Ends within its range. -/
def Ie (w : World) (Bo : Nat) (O : Nat → Prop) (pre : List (Nat × Nat)) (W : World) : Prop :=
  ∃ ov, Cr w W O ∧ W.heap[Bo]? = some (.cells #[ov] 45 (0, 0)) ∧ W.ownsRow (Bo + 1) 3 1 ov pre.length (icellsN (pre.map (·.2))) ∧ ¬ O Bo ∧ ∀ k, ov.ownBlock = some k → ¬ O k
theorem Ie_abi (w : World) (Bo : Nat) : Abi (Ie w Bo) := by
  rintro O O' pre A B ⟨ov, h1, h2, h3, h4, h5⟩ hT hO
  have l1 := lt_of_block h2
  have no : ∀ k, k < A.heap.size → ¬ O k → ¬ O' k := fun k hk hn e => (hO k e).1.elim hn (fun e => by omega)
  exact ⟨ov, h1.turn hT hO, (hT.block Bo l1 h4).trans h2, own_blk h3 (fun k e => hT.block k (World.ownsRow.lt h3 k e).2 (h5 k e)), no Bo l1 h4, fun k e => no k (World.ownsRow.lt h3 k e).2 (h5 k e)⟩
theorem Ie_step {w W W3 : World} {Bo : Nat} {O Z : Nat → Prop} {pre : List (Nat × Nat)} {ov v3 : Value} (h1 : Cr w W O) (h2 : W.heap[Bo]? = some (.cells #[ov] 45 (0, 0))) (h3 : W.ownsRow (Bo + 1) 3 1 ov pre.length (icellsN (pre.map (·.2)))) (h4 : ¬ O Bo) (h5 : ∀ k, ov.ownBlock = some k → ¬ O k) (x : Nat × Nat)
    (hg : W.grownBy W3 ov.ownBlock) (ho : W3.ownsRow (Bo + 1) 3 1 v3 (pre.length + 1) (icellsN (pre.map (·.2)) ++ [.int .i64 (x.2 : Int)])) (hat : v3.ownBlock = ov.ownBlock ∨ ∃ g, v3.ownBlock = some g ∧ W.heap.size ≤ g) (hB : w.heap.size ≤ Bo) (hZ : ∀ k, Z k → k < w.heap.size) :
    Ke (fun k => O k ∨ Z k) W (W3.setCell ⟨Bo, 0, none⟩ v3) ∧ Ie w Bo O (pre ++ [x]) (W3.setCell ⟨Bo, 0, none⟩ v3) := by
  have hT : Tu (fun k => k = Bo ∨ ov.ownBlock = some k) W (W3.setCell ⟨Bo, 0, none⟩ v3) := Tu.setCell ⟨hg.os, hg.tape, hg.output, hg.size, fun k hk hn => hg.block k hk (fun e => hn (.inr e.symm))⟩ (fun _ => .inl rfl) _
  have gt : ∀ k, ov.ownBlock = some k → Bo < k := fun k e => (World.ownsRow.lt h3 k e).1
  have lo := h1.lo
  have sz := h1.tu.size
  have l1 := lt_of_block h2
  have hb3 : W3.heap[Bo]? = some (.cells #[ov] 45 (0, 0)) := (hg.block Bo l1 (fun e => by have := gt Bo e.symm; omega)).trans h2
  refine ⟨Ke.of_tu hT (fun k hk => ⟨hk.elim (fun e => (lo k e).2) (fun e => by have := hZ k e; omega), fun e => ?_⟩), v3, ⟨fun k hk => ⟨(lo k hk).1, by have := (lo k hk).2; have := hT.size; omega⟩, h1.tu.trans hT (fun k _ e => e.elim (fun e => by omega) (fun e => by have := gt k e; omega))⟩, heap_setCell_same W3 Bo 0 _ _ _ hb3, ?_, h4, fun k e => ?_⟩
  · rcases e with e | e
    · subst e; exact hk.elim h4 (fun e => by have := hZ _ e; omega)
    · exact hk.elim (h5 k e) (fun e2 => by have := hZ _ e2; have := gt k e; omega)
  · have e1 : icellsN ((pre ++ [x]).map (·.2)) = icellsN (pre.map (·.2)) ++ [.int .i64 (x.2 : Int)] := by simp [icellsN]
    rw [e1, List.length_append]
    exact ownsRow_setCell_below ho (Nat.lt_succ_self Bo) _
  · rcases hat with h | ⟨g, h, hg2⟩
    · exact h5 k (h ▸ e)
    · rw [h] at e; cases e
      exact fun e => by have := (lo _ e).2; omega
end Nt

set_option maxRecDepth 100000 in
set_option maxHeartbeats 8000000 in
theorem ends_fn (gr sl : Int) (a : Option Addr) (cap : Nat) (L : List Nt.Ins) (s : ByteArray) (fr : Int) (w : World) (hc : Nt.Cds w w.heap.size a cap L) (hT : Nt.Tabs w) (hk : ∀ x ∈ L, x.k ≤ 255) (hs : s.size ≤ 1048576) :
    Calls Tryd.prog 19 #[.agg #[.int .i64 gr, .int .i64 sl, .slice a L.length cap], .string s, .int .i64 fr] w fun e w' => ∃ v, e = .returned (.tuple #[v, .int .i64 (Nt.enR gr sl L s fr).2]) ∧ w'.ownsRow w.heap.size 3 1 v (Nt.enR gr sl L s fr).1.length (Nt.icellsN (Nt.enR gr sl L s fr).1) ∧ Below w.heap.size w w' := by
  refine (callsIn_wide (n := 5)).1 ?_
  obtain ⟨i1, hi1, hy0, hy1, hy2⟩ := info_parts Tryd.infoInt
  obtain ⟨W0, hW0⟩ : ∃ W0, W0 = w.alloc (.cells #[.int .i64 gr, .int .i64 sl, .slice a L.length cap] 35) := ⟨_, rfl⟩
  have hB0 : Below w.heap.size w W0 := by rw [hW0]; exact (Below.refl w.heap.size w).alloc (Nat.le_refl _) _
  have sz0 : W0.heap.size = w.heap.size + 1 := by rw [hW0]; simp
  have p0 : W0.heap[w.heap.size]? = some (.cells #[.int .i64 gr, .int .i64 sl, .slice a L.length cap] 35 (0, 0)) := by
    rw [hW0]; exact World.alloc_heap_new _ _
  have hc0 : Nt.Cds W0 W0.heap.size a cap L := hc.under hB0 (by omega)
  have hT0 : Nt.Tabs W0 := hT.under hB0
  have hrun := runnable_any gr sl a cap L W0 hc0 hT0 hk
  by_cases hr : Nt.rbE gr sl L = 0
  · have hri := Nt.rb_right hr
    rw [hr] at hrun
    by_cases hf : 0 ≤ fr ∧ fr ≤ (s.size : Int)
    · obtain ⟨f, rfl⟩ : ∃ f : Nat, fr = (f : Int) := ⟨fr.toNat, by omega⟩
      have HM : Hid (Nt.enR gr sl L s (f : Int) = ((Nt.endsP L s f f s.size).map (·.2), 0)) := by show _ = _; rw [Nt.enR, if_pos hr, if_pos hf]; rfl
      have hf1 : ¬ ((f : Int) < 0) := by omega
      have hf2 : ¬ ((s.size : Int) < (f : Int)) := by omega
      have hll := Nt.right_len hri
      refine callsIn_of_wp_marks Tryd.func19 rfl trivial ?_ rfl
      simp only [Tryd.ntmps19, List.size_toArray, List.length_cons, List.length_nil, Nat.reduceAdd, Nat.reduceSub, Array.replicate_succ, Array.replicate_zero, List.push_toArray, List.append_toArray, List.nil_append, List.cons_append]
      gi_wp2_with (first | (refine ⟨trivial, ?_⟩; gi_at_call 43; rw [← hW0]; refine ((callsIn_wide (n := 4)).2 hrun).mono ?_; clear hrun; rintro e w1 ⟨rfl, hb1⟩; have t1 : w1.heap[w.heap.size]? = _ := (hb1.block _ (by omega)).trans p0; have y0 := cell_alloc_k (.cells #[.slice none 0 0] 45) (cell_of_row w1 w.heap.size 0 _ _ _ t1); have y1 := cell_alloc_k (.cells #[.slice none 0 0] 45) (cell_of_row w1 w.heap.size 1 _ _ _ t1); have y2 := cell_alloc_k (.cells #[.slice none 0 0] 45) (cell_of_row w1 w.heap.size 2 _ _ _ t1); have HB1 : Hid _ := hb1; clear hb1) | (refine ⟨trivial, ?_⟩; gi_at_call 44; refine ((callsIn_wide (n := 4)).2 (newRun_any gr sl a cap L s _ hll.1 (by omega))).mono ?_; rintro e w4 ⟨rb, g, rfl, hg1, hg2, hR4, hM4, hb4⟩) | (refine ⟨trivial, ?_⟩; gi_at_call 45; refine ((callsIn_wide (n := 4)).2 (ends_any _ _ _ _ _)).mono ?_; rintro e w5 ⟨rfl, rfl⟩))
      obtain ⟨W3, hW3⟩ : ∃ W3, W3 = w1.alloc (.cells #[.slice none 0 0] 45) := ⟨_, rfl⟩
      rw [← hW3] at hb4 hg1
      have sz3 : W3.heap.size = w1.heap.size + 1 := by rw [hW3]; simp
      have szb := HB1.out.size
      have hb3 : Below w.heap.size w W3 := by rw [hW3]; exact (hB0.trans (HB1.out.mono (by omega))).alloc (by omega) _
      have hb4' : Below w.heap.size w w4 := hb3.trans (hb4.mono (by omega))
      have k1 : w4.heap[w1.heap.size]? = some (.cells #[.slice none 0 0] 45 (0, 0)) := (hb4.block _ (by omega)).trans (by rw [hW3]; exact World.alloc_heap_new _ _)
      have sz4 := hb4.size
      have hC4 : Nt.Cds w4 g a cap L := hc.under hb4' (by omega)
      have hEz := Nt.Ez.made hR4 hM4 hC4 hg2 f f s.size
      obtain ⟨w5, hw5⟩ : ∃ w5, w5 = (((w4.alloc (.cells #[.pointer (some ⟨rb, 0, none⟩)] 95)).alloc (.cells #[.int .i64 (f : Int)] 3)).alloc (.cells #[.int .i64 (f : Int)] 3)).alloc (.cells #[.int .i64 (s.size : Int)] 3) := ⟨_, rfl⟩
      rw [← hw5] at hEz ⊢
      have hT5 : Tu (fun _ => False) w4 w5 := by rw [hw5]; exact ((((Tu.refl _ w4).alloc _).alloc _).alloc _).alloc _
      have hr4 := hR4.lt
      have sz5 := hT5.size
      have hNb : (s.size + 3) * L.length ≤ 1048579 * 16384 := Nat.mul_le_mul (by omega) hll.2
      refine wpIn_rangeO (α := Nat × Nat) rfl (by decide) ?hg trivial (enters_of Tryd.func66 (by kernel_rfl) rfl)
        (ends1_seq 4 rb g w4.heap.size (w4.heap.size + 1) (w4.heap.size + 1 + 1) (w4.heap.size + 1 + 1 + 1) a cap L s f f s.size w5 hEz (by decide) (Nt.right_leads hri) (Nt.right_to hri) hll.1 (by omega) (by omega) (by omega) (Nat.le_refl _) hs) hEz.under (fun k hk => by have := hC4.code (by omega) k hk; omega)
        (fun _ _ _ _ h _ => h) (fun _ _ _ _ _ => trivial) ?hps
        (Nt.Ie w w1.heap.size) (fun _ _ _ => False) (Nt.Ie_abi _ _) (fun _ _ _ _ _ h _ _ => h) ?start
        (fun x => ⟨#[.agg #[.int .i64 gr, .int .i64 sl, .slice a L.length cap], .string s, .int .i64 (f : Int), .pointer (some ⟨w.heap.size, 0, none⟩), undef, undef, .slice none 0 0, .int .i64 0, .int .i64 0, .pointer (some ⟨w1.heap.size, 0, none⟩), undef, .int .i64 (x.2 : Int), .agg #[.int .i64 gr, .int .i64 sl, .slice a L.length cap], .int .i64 0, .int .i64 0, .bool false, undef, .int .i64 (f : Int), .bool (decide ((f : Int) < 0)), .bool (decide ((f : Int) < 0)), .int .i64 (f : Int), .string s, .int .i64 (s.size : Int), .bool false, .bool (decide ((f : Int) < 0)), .agg #[.int .i64 gr, .int .i64 sl, .slice a L.length cap], .string s, .pointer (some ⟨rb, 0, none⟩), .int .i64 (f : Int), .int .i64 (f : Int), .string s, .int .i64 (s.size : Int), .func (.func 66) #[] #[.pointer (some ⟨w4.heap.size + 1 + 1, 0, none⟩), .pointer (some ⟨w4.heap.size + 1, 0, none⟩), .pointer (some ⟨w4.heap.size + 1 + 1 + 1, 0, none⟩), .pointer (some ⟨w4.heap.size, 0, none⟩)], .int .i64 (x.1 : Int), .int .i64 (x.2 : Int), undef, undef, undef, undef, undef], []⟩) ?assign ?body ?done ?stop
      case hg => rfl
      case hps => exact fun _ => rfl
      case start =>
        intro O W' hT hO
        have same : ∀ k, k < w4.heap.size → W'.heap[k]? = w4.heap[k]? := fun k hk => (hT.block k (by omega) id).trans (hT5.block k hk id)
        have no : ∀ k, k < W3.heap.size → ¬ O k := fun k hk e => by
          rcases (hO k e).1 with h | h
          · rcases h with h | h | h | h | h | h <;> omega
          · omega
        refine ⟨.slice none 0 0, ⟨fun k hk => ⟨?_, (hO k hk).2⟩, ?_⟩, (same _ (by omega)).trans k1, World.ownsRow_nil _ _ _ _, no _ (by omega), fun k e => (by cases e)⟩
        · rcases (hO k hk).1 with h | h
          · rcases h with h | h | h | h | h | h <;> omega
          · omega
        · exact ((Tu.of_below hb4' (fun k h _ => h)).trans hT5 (fun _ _ e => e.elim)).trans hT (fun _ _ e => e.elim)
      case assign =>
        intro l x W' K' hK'
        gi_wp2
        exact hK'
      case body =>
        rintro l O pre x W' ⟨ov, h1, h2, h3, h4, h5⟩ hU hV hlen hpf
        have d0 : W'.cell? ⟨w1.heap.size, 0, none⟩ = some ov := cell_of_row W' _ 0 _ _ _ h2
        have H1 : Hid _ := h1
        have H2 : Hid _ := h2
        have H3 : Hid _ := h3
        have H4 : Hid _ := h4
        have H5 : Hid _ := h5
        have hpl : pre.length + 1 ≤ 1048579 * 16384 := by omega
        have hsl := lt_of_block h2
        clear h1 h2 h3 h4 h5 hU hV hlen hpf
        gi_wp2_with (gi_at_builtin; go_loud (refine wpListIn_append_own_at _ rfl _ _ 45 rfl (w1.heap.size + 1) 3 i1 (.int .i64 0) 1 8 Tryd.underlying45 hi1 hy0 hy1 hy2 rfl (by decide) ov pre.length _ rfl (World.ownsRow.alloc H3.out _) ⟨W'.heap.size, 0, none⟩ 1 1 [.int .i64 (x.2 : Int)] rfl rfl (Nt.one_new _ _ _) (fun u hu => by simp only [List.mem_singleton] at hu; subst hu; rfl) (by unfold maxLen; omega) (by omega) (by simp; omega) ?_))
        intro v3 w3 ho hg hnil hat
        obtain ⟨g3, c3, rfl, _, _⟩ := ho.form (by omega)
        have hg2 : W'.grownBy w3 ov.ownBlock := (World.grownBy_alloc W' _ _).trans hg
        have h6 : w3.heap[w1.heap.size]? = some (.cells #[ov] 45 (0, 0)) := (hg2.block _ hsl (fun e => by have := (World.ownsRow.lt H3.out _ e.symm).1; omega)).trans H2.out
        have d6 : w3.cell? ⟨w1.heap.size, 0, none⟩ = some ov := cell_of_row w3 _ 0 _ _ _ h6
        have f6 : w3.frozen? ⟨w1.heap.size, 0, none⟩ = false := frozen_of_row w3 _ 0 _ _ h6
        have HS : Hid _ := Nt.Ie_step H1.out H2.out H3.out H4.out H5.out x hg2 ho (hat.imp id (fun h => ⟨_, h, by simp⟩)) (by omega) (hc.code (by omega))
        clear ho hg hnil hat hg2 h6
        gi_wp2
        exact HS.out
      case done =>
        rintro D O O' xs W' hD rfl hD' hnD hsub ⟨ov, h1, h2, h3, h4, h5⟩ hDh
        have d0 : W'.cell? ⟨w1.heap.size, 0, none⟩ = some ov := cell_of_row W' _ 0 _ _ _ h2
        have H1 : Hid _ := h1
        have H3 : Hid _ := h3
        clear h1 h2 h3 h4 h5 hsub
        gi_wp2
        refine Nt.leaves_ds' [D] _ (by simp) (fun E hE => ?_) (fun W2 hW2 => ⟨results_tmp2 rfl _ _ _, ov, ?_, ?_, ?_⟩)
        · obtain rfl : E = D := by simpa using hE
          exact hDh
        · rw [HM.out]; rfl
        · rw [HM.out]
          have hrow : ∀ k, ov.ownBlock = some k → k ≠ D := fun k e e2 => by
            subst e2
            obtain ⟨_, ⟨rfl, _⟩ | ⟨g', cap', cur, rfl, _, h3, _⟩⟩ := H3.out
            · cases e
            · have e3 : g' = k := by injection e
              subst e3
              rw [h3] at hDh; cases hDh
          have hm := Nt.own_blk H3.out (fun k e => hW2.block k (World.ownsRow.lt H3.out k e).2 (fun e2 => hrow k e (by simpa using e2)))
          simp only [List.length_map]
          exact Nt.own_lo hm (by omega)
        · exact (H1.out.tu.trans hW2 (fun k hk e => by simp at e; omega)).below (Nat.le_refl _) (fun k e => e)
      case stop =>
        intro D O' c W' hD hD' h hDh
        exact h.elim
    · have HM : Hid (Nt.enR gr sl L s fr = ([], 2)) := by show _ = _; rw [Nt.enR, if_pos hr, if_neg hf]
      by_cases hf0 : fr < 0
      · refine callsIn_of_wp_marks Tryd.func19 rfl trivial ?_ rfl
        simp only [Tryd.ntmps19, List.size_toArray, List.length_cons, List.length_nil, Nat.reduceAdd, Nat.reduceSub, Array.replicate_succ, Array.replicate_zero, List.push_toArray, List.append_toArray, List.nil_append, List.cons_append]
        gi_wp2_with (refine ⟨trivial, ?_⟩; gi_at_call 43; rw [← hW0]; refine ((callsIn_wide (n := 4)).2 hrun).mono ?_; clear hrun; rintro e w1 ⟨rfl, hb1⟩)
        exact ⟨_, results_tmp2 rfl _ _ _, _, by rw [HM.out]; rfl, by rw [HM.out]; exact World.ownsRow_nil _ _ _ _, hB0.trans (hb1.mono (by omega))⟩
      · have hf1 : (s.size : Int) < fr := by omega
        refine callsIn_of_wp_marks Tryd.func19 rfl trivial ?_ rfl
        simp only [Tryd.ntmps19, List.size_toArray, List.length_cons, List.length_nil, Nat.reduceAdd, Nat.reduceSub, Array.replicate_succ, Array.replicate_zero, List.push_toArray, List.append_toArray, List.nil_append, List.cons_append]
        gi_wp2_with (refine ⟨trivial, ?_⟩; gi_at_call 43; rw [← hW0]; refine ((callsIn_wide (n := 4)).2 hrun).mono ?_; clear hrun; rintro e w1 ⟨rfl, hb1⟩)
        exact ⟨_, results_tmp2 rfl _ _ _, _, by rw [HM.out]; rfl, by rw [HM.out]; exact World.ownsRow_nil _ _ _ _, hB0.trans (hb1.mono (by omega))⟩
  · have hr1 : (Nt.rbE gr sl L == 0) = false := by simpa using hr
    have HM : Hid (Nt.enR gr sl L s fr = ([], Nt.rbE gr sl L)) := by show _ = _; rw [Nt.enR, if_neg hr]
    refine callsIn_of_wp_marks Tryd.func19 rfl trivial ?_ rfl
    simp only [Tryd.ntmps19, List.size_toArray, List.length_cons, List.length_nil, Nat.reduceAdd, Nat.reduceSub, Array.replicate_succ, Array.replicate_zero, List.push_toArray, List.append_toArray, List.nil_append, List.cons_append]
    gi_wp2_with (refine ⟨trivial, ?_⟩; gi_at_call 43; rw [← hW0]; refine ((callsIn_wide (n := 4)).2 hrun).mono ?_; clear hrun; rintro e w1 ⟨rfl, hb1⟩)
    exact ⟨_, results_tmp2 rfl _ _ _, _, by rw [HM.out]; rfl, by rw [HM.out]; exact World.ownsRow_nil _ _ _ _, hB0.trans (hb1.mono (by omega))⟩
end Go.Proofs.YtdiokclbdaojpaaDoor
