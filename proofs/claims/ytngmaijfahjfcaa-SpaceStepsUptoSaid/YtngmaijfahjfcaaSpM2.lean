/- What (*Space).Get does. -/
import Derived.Test.YtngmaijfahjfcaaSpV2
namespace Go.Proofs.Ytngmaijfahjfcaa
open Go.RowKit

set_option maxRecDepth 100000 in
set_option maxHeartbeats 1000000 in
theorem get1_any (S : Nat → Prop) (g : Nat) (s : Sc.St) (quota : Nat) (w : World) (h : Sp w S g s quota) :
    Calls Try.prog 44 #[.pointer (some ⟨g, 0, none⟩)] w fun e w1 => e = .returned (.tuple #[.int .i64 ((s.h.length : Int) - (s.p.length : Int)), .func (.func 45) #[] #[.pointer (some ⟨w.heap.size, 0, none⟩)]]) ∧ Bx w g w1 := by
  obtain ⟨pv, hv, qv, h⟩ := h
  have hgl := h.gl
  obtain ⟨c0, c1, c2, c3, c4⟩ := h.cells
  obtain ⟨ap, cp, rfl⟩ := h.p.slice
  obtain ⟨ah, ch, rfl⟩ := h.h.slice
  have hu := h.used
  have hq := h.quo
  unfold Sc.St.used at hu
  have e1 : IntKind.i64.wrap ((s.h.length : Int) - (s.p.length : Int)) = (s.h.length : Int) - (s.p.length : Int) := by rw [IntKind.wrap_i64]; omega
  clear h
  go_enter Try.func44, Try.ntmps44
  go_wp2
  go_quiet (fail)
  go_wp2
  go_ret2
  exact ⟨rfl, _, rfl⟩
set_option maxRecDepth 100000 in
set_option maxHeartbeats 1000000 in
theorem get11_any (S : Nat → Prop) (g tb : Nat) (s : Sc.St) (quota : Nat) (w : World) (h : Sp w S g s quota) (hb : w.heap[tb]? = some (.cells #[.pointer (some ⟨g, 0, none⟩)] 71)) (hu : (Sc.St.mk s.h s.h s.q).used ≤ quota) :
    Calls Try.prog 45 #[.pointer (some ⟨tb, 0, none⟩)] w fun e w2 => e = .returned (.tuple #[]) ∧ Aft w S g ⟨s.h, s.h, s.q⟩ quota w2 := by
  obtain ⟨pv, hv, qv, h⟩ := h
  have hgl := h.gl
  have htl := lt_of_block hb
  obtain ⟨c0, c1, c2, c3, c4⟩ := h.cells
  have ct : w.cell? ⟨tb, 0, none⟩ = some (.pointer (some ⟨g, 0, none⟩)) := by rw [cell_of_row w tb 0 _ _ _ hb]; rfl
  have f1 := h.free 0
  have hz : s.h.length ≤ 1099511627776 := by have := h.used; have := h.quo; unfold Sc.St.used at *; omega
  have HC : Hid (∀ n, Calls Try.prog 41 #[hv] (w.drewN n) fun e w' => ∃ v', e = .returned v' ∧ Byt w' v' s.h ∧ Below w.heap.size w w' ∧ ∀ b, blk v' = some b → w.heap.size ≤ b) := fun n => by
    refine (bclone_any hv s.h (w.drewN n) (h.h.tu (tu_drewN w n) (fun _ _ e => e)) hz).mono ?_
    rintro e w' ⟨v', h1, h2, h3, h4⟩
    exact ⟨v', h1, h2, (show Below w.heap.size w (w.drewN n) from ⟨rfl, rfl, rfl, Nat.le_refl _, fun _ _ => rfl⟩).trans h3, h4⟩
  have HE : Hid (∀ w1 v, Below w.heap.size w w1 → Byt w1 v s.h → (∀ b, blk v = some b → w.heap.size ≤ b) → Aft w S g ⟨s.h, s.h, s.q⟩ quota (w1.setCell ⟨g, 0, none⟩ v)) := fun w1 v h1 h2 h3 => h.setP (Tu.of_below h1) h2 (fun b hb => .inr (h3 b hb)) hu
  clear h hb
  go_enter Try.func45, Try.ntmps45
  go_region_with (first | (go_at_call 41; refine (HC.out _).mono ?_; rintro e w1 ⟨v1, rfl, hB1, hW1, hk1⟩; obtain ⟨a1, n1, rfl⟩ := hB1.slice; obtain ⟨hc, hf⟩ := bcell hW1; have HF : Hid (Byt w1 (.slice a1 s.h.length n1) s.h ∧ Below w.heap.size w w1 ∧ ∀ b, blk (.slice a1 s.h.length n1) = some b → w.heap.size ≤ b) := ⟨hB1, hW1, hk1⟩; clear hB1 hW1 hk1))
  all_goals (go_end0; exact ⟨rfl, HE.out _ _ HF.out.2.1 HF.out.1 HF.out.2.2⟩)
theorem get_e1 (args : Array Value) (w : World) : (callFunc 44 args).run Try.prog w = .ok (.enter 44 args) w := by go_simp
theorem get_e2 (args : Array Value) (w : World) : (callFunc 45 args).run Try.prog w = .ok (.enter 45 args) w := by go_simp
set_option maxRecDepth 100000 in
set_option maxHeartbeats 1000000 in
/-- The pattern space becomes what the hold space is. -/
theorem get_any (S : Nat → Prop) (g : Nat) (s : Sc.St) (quota : Nat) (w : World) (h : Sp w S g s quota) :
    Calls Try.prog 25 #[.pointer (some ⟨g, 0, none⟩)] w fun e w' => e = .returned (.int .i64 (Sc.ask quota s ⟨s.h, s.h, s.q⟩).1) ∧ Aft w S g (Sc.ask quota s ⟨s.h, s.h, s.q⟩).2 quota w' := by
  have hq : s.used ≤ quota ∧ quota ≤ 1073741824 := by obtain ⟨_, _, _, q⟩ := h; exact ⟨q.used, q.quo⟩
  have HA := ask_sp S g s ⟨s.h, s.h, s.q⟩ quota w h 44 45 #[] #[.pointer (some ⟨w.heap.size, 0, none⟩)] ((s.h.length : Int) - (s.p.length : Int)) (Bx w g) (by unfold Sc.St.used at hq; omega) (by unfold Sc.St.used; simp only; omega) get_e1 get_e2 (get1_any S g s quota w h) (fun _ q => q.tu)
    (fun hf w1 n h1 h2 => get11_any S g w.heap.size s quota _ h2 (h1.atN n) hf)
  generalize Sc.ask quota s ⟨s.h, s.h, s.q⟩ = r at *
  obtain ⟨r1, r2⟩ := r
  clear h hq
  go_enter Try.func25, Try.ntmps25
  go_wp2_with (first | (go_at_call 36; refine HA.mono ?_; rintro e w1 ⟨rfl, hP⟩))
  go_ret
  exact ⟨rfl, hP⟩
end Go.Proofs.Ytngmaijfahjfcaa
