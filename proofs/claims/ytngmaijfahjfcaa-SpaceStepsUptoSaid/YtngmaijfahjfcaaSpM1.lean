/- What (*Space).Put does. -/
import Derived.Test.YtngmaijfahjfcaaSpV2
namespace Go.Proofs.Ytngmaijfahjfcaa
open Go.RowKit

set_option maxRecDepth 100000 in
set_option maxHeartbeats 1000000 in
theorem put1_any (S : Nat → Prop) (g : Nat) (s : Sc.St) (quota : Nat) (w : World) (h : Sp w S g s quota) :
    Calls Try.prog 39 #[.pointer (some ⟨g, 0, none⟩)] w fun e w1 => e = .returned (.tuple #[.int .i64 ((s.p.length : Int) - (s.h.length : Int)), .func (.func 40) #[] #[.pointer (some ⟨w.heap.size, 0, none⟩)]]) ∧ Bx w g w1 := by
  obtain ⟨pv, hv, qv, h⟩ := h
  have hgl := h.gl
  obtain ⟨c0, c1, c2, c3, c4⟩ := h.cells
  obtain ⟨ap, cp, rfl⟩ := h.p.slice
  obtain ⟨ah, ch, rfl⟩ := h.h.slice
  have hu := h.used
  have hq := h.quo
  unfold Sc.St.used at hu
  have e1 : IntKind.i64.wrap ((s.p.length : Int) - (s.h.length : Int)) = (s.p.length : Int) - (s.h.length : Int) := by rw [IntKind.wrap_i64]; omega
  clear h
  go_enter Try.func39, Try.ntmps39
  go_wp2
  go_quiet (fail)
  go_wp2
  go_ret2
  exact ⟨rfl, _, rfl⟩
set_option maxRecDepth 100000 in
set_option maxHeartbeats 1000000 in
theorem put11_any (S : Nat → Prop) (g tb : Nat) (s : Sc.St) (quota : Nat) (w : World) (h : Sp w S g s quota) (hb : w.heap[tb]? = some (.cells #[.pointer (some ⟨g, 0, none⟩)] 71)) (hu : (Sc.St.mk s.p s.p s.q).used ≤ quota) :
    Calls Try.prog 40 #[.pointer (some ⟨tb, 0, none⟩)] w fun e w2 => e = .returned (.tuple #[]) ∧ Aft w S g ⟨s.p, s.p, s.q⟩ quota w2 := by
  obtain ⟨pv, hv, qv, h⟩ := h
  have hgl := h.gl
  have htl := lt_of_block hb
  obtain ⟨c0, c1, c2, c3, c4⟩ := h.cells
  have ct : w.cell? ⟨tb, 0, none⟩ = some (.pointer (some ⟨g, 0, none⟩)) := by rw [cell_of_row w tb 0 _ _ _ hb]; rfl
  have f1 := h.free 1
  have hz : s.p.length ≤ 1099511627776 := by have := h.used; have := h.quo; unfold Sc.St.used at *; omega
  have HC : Hid (∀ n, Calls Try.prog 41 #[pv] (w.drewN n) fun e w' => ∃ v', e = .returned v' ∧ Byt w' v' s.p ∧ Below w.heap.size w w' ∧ ∀ b, blk v' = some b → w.heap.size ≤ b) := fun n => by
    refine (bclone_any pv s.p (w.drewN n) (h.p.tu (tu_drewN w n) (fun _ _ e => e)) hz).mono ?_
    rintro e w' ⟨v', h1, h2, h3, h4⟩
    exact ⟨v', h1, h2, (show Below w.heap.size w (w.drewN n) from ⟨rfl, rfl, rfl, Nat.le_refl _, fun _ _ => rfl⟩).trans h3, h4⟩
  have HE : Hid (∀ w1 v, Below w.heap.size w w1 → Byt w1 v s.p → (∀ b, blk v = some b → w.heap.size ≤ b) → Aft w S g ⟨s.p, s.p, s.q⟩ quota (w1.setCell ⟨g, 1, none⟩ v)) := fun w1 v h1 h2 h3 => h.setH (Tu.of_below h1) h2 (fun b hb => .inr (h3 b hb)) hu
  clear h hb
  go_enter Try.func40, Try.ntmps40
  go_region_with (first | (go_at_call 41; refine (HC.out _).mono ?_; rintro e w1 ⟨v1, rfl, hB1, hW1, hk1⟩; obtain ⟨a1, n1, rfl⟩ := hB1.slice; obtain ⟨hc, hf⟩ := bcell hW1; have HF : Hid (Byt w1 (.slice a1 s.p.length n1) s.p ∧ Below w.heap.size w w1 ∧ ∀ b, blk (.slice a1 s.p.length n1) = some b → w.heap.size ≤ b) := ⟨hB1, hW1, hk1⟩; clear hB1 hW1 hk1))
  all_goals (go_end0; exact ⟨rfl, HE.out _ _ HF.out.2.1 HF.out.1 HF.out.2.2⟩)
theorem put_e1 (args : Array Value) (w : World) : (callFunc 39 args).run Try.prog w = .ok (.enter 39 args) w := by go_simp
theorem put_e2 (args : Array Value) (w : World) : (callFunc 40 args).run Try.prog w = .ok (.enter 40 args) w := by go_simp
set_option maxRecDepth 100000 in
set_option maxHeartbeats 1000000 in
/-- The hold space becomes what the pattern space is. -/
theorem put_any (S : Nat → Prop) (g : Nat) (s : Sc.St) (quota : Nat) (w : World) (h : Sp w S g s quota) :
    Calls Try.prog 23 #[.pointer (some ⟨g, 0, none⟩)] w fun e w' => e = .returned (.int .i64 (Sc.ask quota s ⟨s.p, s.p, s.q⟩).1) ∧ Aft w S g (Sc.ask quota s ⟨s.p, s.p, s.q⟩).2 quota w' := by
  have hq : s.used ≤ quota ∧ quota ≤ 1073741824 := by obtain ⟨_, _, _, q⟩ := h; exact ⟨q.used, q.quo⟩
  have HA := ask_sp S g s ⟨s.p, s.p, s.q⟩ quota w h 39 40 #[] #[.pointer (some ⟨w.heap.size, 0, none⟩)] ((s.p.length : Int) - (s.h.length : Int)) (Bx w g) (by unfold Sc.St.used at hq; omega) (by unfold Sc.St.used; simp only; omega) put_e1 put_e2 (put1_any S g s quota w h) (fun _ q => q.tu)
    (fun hf w1 n h1 h2 => put11_any S g w.heap.size s quota _ h2 (h1.atN n) hf)
  generalize Sc.ask quota s ⟨s.p, s.p, s.q⟩ = r at *
  obtain ⟨r1, r2⟩ := r
  clear h hq
  go_enter Try.func23, Try.ntmps23
  go_wp2_with (first | (go_at_call 36; refine HA.mono ?_; rintro e w1 ⟨rfl, hP⟩))
  go_ret
  exact ⟨rfl, hP⟩
end Go.Proofs.Ytngmaijfahjfcaa
