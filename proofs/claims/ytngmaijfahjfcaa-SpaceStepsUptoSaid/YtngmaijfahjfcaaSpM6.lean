/- What space.New and (*Space).Swap do. -/
import Derived.Test.YtngmaijfahjfcaaSpV2
import Derived.BigRegion
namespace Go.Proofs.Ytngmaijfahjfcaa
open Go.RowKit

theorem nil_owns (w : World) (e : TypeId) (size : Nat) : w.ownsRow 0 e size (.slice none 0 0) 0 [] := ⟨by simp, .inl ⟨rfl, rfl⟩⟩
/-- A space that was just made. -/
theorem new_sp (w : World) (quota : Nat) (hq : quota ≤ 1073741824) : Sp (w.alloc (.cells #[.slice none 0 0, .slice none 0 0, .slice none 0 0, .int .i64 0, .int .i64 (quota : Nat)] 64)) (fun k => k = w.heap.size) w.heap.size .nil quota :=
  ⟨_, _, _, ⟨heap_alloc_new w _, .inl ⟨rfl, rfl⟩, .inl ⟨rfl, rfl⟩, nil_owns _ _ _, rfl, fun b e => (by cases e), fun b e => (by cases e), fun b e => (by cases e), by simp [Sc.St.used, Sc.St.nil, Sc.txts], hq⟩⟩
set_option maxRecDepth 100000 in
set_option maxHeartbeats 1000000 in
theorem new_any (quota : Nat) (w : World) (hq : quota ≤ 1073741824) :
    Calls Try.prog 9 #[.int .i64 (quota : Nat)] w fun e w' => e = .returned (.tuple #[.pointer (some ⟨w.heap.size, 0, none⟩), .int .i64 0]) ∧ Sp w' (fun k => k = w.heap.size) w.heap.size .nil quota ∧ Tu (fun _ => False) w w' ∧ w.heap.size < w'.heap.size := by
  have HN : Hid (Sp (w.alloc (.cells #[.slice none 0 0, .slice none 0 0, .slice none 0 0, .int .i64 0, .int .i64 (quota : Nat)] 64)) (fun k => k = w.heap.size) w.heap.size .nil quota) := new_sp w quota hq
  have h1 : ¬ ((quota : Int) < 0) := by omega
  have h2 : ¬ ((1073741824 : Int) < (quota : Int)) := by omega
  go_enter Try.func9, Try.ntmps9
  go_wp2
  go_ret2
  exact ⟨rfl, HN.out, (Tu.refl _ w).alloc _, by simp⟩
set_option maxRecDepth 100000 in
set_option maxHeartbeats 1000000 in
theorem new_not (quota : Int) (w : World) (hq : quota < 0 ∨ 1073741824 < quota) :
    Calls Try.prog 9 #[.int .i64 quota] w fun e w' => e = .returned (.tuple #[.pointer none, .int .i64 2]) ∧ w = w' := by
  rcases hq with hq | hq
  · go_enter Try.func9, Try.ntmps9
    go_wp2
    go_ret2
    exact ⟨rfl, rfl⟩
  · have h1 : ¬ (quota < 0) := by omega
    go_enter Try.func9, Try.ntmps9
    go_wp2
    go_ret2
    exact ⟨rfl, rfl⟩
set_option maxRecDepth 100000 in
set_option maxHeartbeats 1000000 in
theorem swap1_any (g : Nat) (w : World) :
    Calls Try.prog 42 #[.pointer (some ⟨g, 0, none⟩)] w fun e w1 => e = .returned (.tuple #[.int .i64 0, .func (.func 43) #[] #[.pointer (some ⟨w.heap.size, 0, none⟩)]]) ∧ Bx w g w1 := by
  go_enter Try.func42, Try.ntmps42
  go_wp2
  go_ret2
  exact ⟨rfl, 0, rfl⟩
/-- Both texts have changed places. -/
theorem SpV.swapped {W w2 : World} {S : Nat → Prop} {g : Nat} {s : Sc.St} {quota : Nat} {pv hv qv : Value} (h : SpV W S g s quota pv hv qv) (hc : w2.heap[g]? = some (.cells #[hv, pv, qv, .int .i64 (Sc.txts s.q : Nat), .int .i64 (quota : Nat)] 64)) (ht : Tu (fun k => k = g) W w2) :
    Aft W S g ⟨s.h, s.p, s.q⟩ quota w2 := by
  refine ⟨S, ⟨hv, pv, qv, ⟨hc, ?_, ?_, ?_, h.gS, fun b e => ⟨(h.hS b e).1, (h.hS b e).2.1⟩, fun b e => ⟨(h.pS b e).1, (h.pS b e).2, fun e' => (h.hS b e').2.2 e⟩, fun b e => ⟨(h.qS b e).1, (h.qS b e).2.1, (h.qS b e).2.2.2, (h.qS b e).2.2.1⟩, ?_, h.quo⟩⟩, ht.mono (fun k _ e => by subst e; exact h.gS), fun k hk => .inl hk⟩
  · exact h.h.tu ht (fun b e => (h.hS b e).2.1)
  · exact h.p.tu ht (fun b e => (h.pS b e).2)
  · exact own_keep h.q (fun b e => ht.block b (own_lt h.q e) (h.qS b e).2.1)
  · have := h.used
    unfold Sc.St.used at *
    simp only []
    omega
set_option maxRecDepth 100000 in
set_option maxHeartbeats 1000000 in
theorem swap11_any (S : Nat → Prop) (g tb : Nat) (s : Sc.St) (quota : Nat) (w : World) (h : Sp w S g s quota) (hb : w.heap[tb]? = some (.cells #[.pointer (some ⟨g, 0, none⟩)] 71)) :
    Calls Try.prog 43 #[.pointer (some ⟨tb, 0, none⟩)] w fun e w2 => e = .returned (.tuple #[]) ∧ Aft w S g ⟨s.h, s.p, s.q⟩ quota w2 := by
  obtain ⟨pv, hv, qv, h⟩ := h
  have hgl := h.gl
  have htl := lt_of_block hb
  obtain ⟨c0, c1, c2, c3, c4⟩ := h.cells
  have ct : w.cell? ⟨tb, 0, none⟩ = some (.pointer (some ⟨g, 0, none⟩)) := by rw [cell_of_row w tb 0 _ _ _ hb]; rfl
  have htg : tb ≠ g := box_ne h hb
  have f0 := h.free 0
  have f1 := h.free 1
  obtain ⟨ap, cp, rfl⟩ := h.p.slice
  obtain ⟨ah, ch, rfl⟩ := h.h.slice
  have HE' : Hid (∀ w2, w2.heap[g]? = some (.cells #[.slice ah s.h.length ch, .slice ap s.p.length cp, qv, .int .i64 (Sc.txts s.q : Nat), .int .i64 (quota : Nat)] 64) → Tu (fun k => k = g) w w2 → Aft w S g ⟨s.h, s.p, s.q⟩ quota w2) := fun w2 q1 q2 => h.swapped q1 q2
  have HC : Hid (w.heap[g]? = some (.cells #[.slice ap s.p.length cp, .slice ah s.h.length ch, qv, .int .i64 (Sc.txts s.q : Nat), .int .i64 (quota : Nat)] 64)) := h.cell
  clear h hb
  go_enter Try.func43, Try.ntmps43
  go_region
  go_end0
  refine ⟨rfl, HE'.out _ ?_ (Tu.drew (Tu.setCell (p := ⟨g, 1, none⟩) (Tu.setCell (p := ⟨g, 0, none⟩) (Tu.refl (fun k => k = g) w) (fun _ => rfl) _) (fun _ => rfl) _))⟩
  show ((w.setCell ⟨g, 0, none⟩ (.slice ah s.h.length ch)).setCell ⟨g, 1, none⟩ (.slice ap s.p.length cp)).heap[g]? = _
  rw [row_set (row_set HC.out _ _)]
  rfl
theorem swap_e1 (args : Array Value) (w : World) : (callFunc 42 args).run Try.prog w = .ok (.enter 42 args) w := by go_simp
theorem swap_e2 (args : Array Value) (w : World) : (callFunc 43 args).run Try.prog w = .ok (.enter 43 args) w := by go_simp
set_option maxRecDepth 100000 in
set_option maxHeartbeats 1000000 in
/-- Both texts change places. -/
theorem swap_any (S : Nat → Prop) (g : Nat) (s : Sc.St) (quota : Nat) (w : World) (h : Sp w S g s quota) :
    Calls Try.prog 24 #[.pointer (some ⟨g, 0, none⟩)] w fun e w' => e = .returned (.int .i64 (Sc.ask quota s ⟨s.h, s.p, s.q⟩).1) ∧ Aft w S g (Sc.ask quota s ⟨s.h, s.p, s.q⟩).2 quota w' := by
  have HA := ask_sp S g s ⟨s.h, s.p, s.q⟩ quota w h 42 43 #[] #[.pointer (some ⟨w.heap.size, 0, none⟩)] 0 (Bx w g) (by omega) (by unfold Sc.St.used; simp only []; omega) swap_e1 swap_e2 (swap1_any g w) (fun _ q => q.tu)
    (fun _ w1 n h1 h2 => swap11_any S g w.heap.size s quota _ h2 (h1.atN n))
  generalize Sc.ask quota s ⟨s.h, s.p, s.q⟩ = r at *
  obtain ⟨r1, r2⟩ := r
  clear h
  go_enter Try.func24, Try.ntmps24
  go_wp2_with (first | (go_at_call 36; refine HA.mono ?_; rintro e w1 ⟨rfl, hP⟩))
  go_ret
  exact ⟨rfl, hP⟩
end Go.Proofs.Ytngmaijfahjfcaa
