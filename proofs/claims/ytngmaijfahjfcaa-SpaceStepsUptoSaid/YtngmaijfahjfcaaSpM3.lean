/- What (*Space).PutMore does. -/
import Derived.Test.YtngmaijfahjfcaaSpV2
namespace Go.Proofs.Ytngmaijfahjfcaa
open Go.RowKit

set_option maxRecDepth 100000 in
set_option maxHeartbeats 1000000 in
theorem putm1_any (S : Nat → Prop) (g : Nat) (s : Sc.St) (quota : Nat) (w : World) (h : Sp w S g s quota) :
    Calls Try.prog 48 #[.pointer (some ⟨g, 0, none⟩)] w fun e w1 => e = .returned (.tuple #[.int .i64 (1 + (s.p.length : Int)), .func (.func 49) #[] #[.pointer (some ⟨w.heap.size, 0, none⟩)]]) ∧ Bx w g w1 := by
  obtain ⟨pv, hv, qv, h⟩ := h
  have hgl := h.gl
  obtain ⟨c0, c1, c2, c3, c4⟩ := h.cells
  obtain ⟨ap, cp, rfl⟩ := h.p.slice
  obtain ⟨ah, ch, rfl⟩ := h.h.slice
  have hu := h.used
  have hq := h.quo
  unfold Sc.St.used at hu
  have hz : (s.p.length : Int) ≤ 1073741824 := by omega
  clear h
  go_enter Try.func48, Try.ntmps48
  go_wp2
  go_ret2
  exact ⟨rfl, 0, rfl⟩
set_option maxRecDepth 100000 in
set_option maxHeartbeats 8000000 in
theorem putm11_any (S : Nat → Prop) (g tb : Nat) (s : Sc.St) (quota : Nat) (w : World) (h : Sp w S g s quota) (hb : w.heap[tb]? = some (.cells #[.pointer (some ⟨g, 0, none⟩)] 71)) (hu : (Sc.St.mk s.p (s.h ++ 10 :: s.p) s.q).used ≤ quota) :
    Calls Try.prog 49 #[.pointer (some ⟨tb, 0, none⟩)] w fun e w2 => e = .returned (.tuple #[]) ∧ Aft w S g ⟨s.p, s.h ++ 10 :: s.p, s.q⟩ quota w2 := by
  obtain ⟨pv, hv, qv, h⟩ := h
  have hgl := h.gl
  have htl := lt_of_block hb
  obtain ⟨c0, c1, c2, c3, c4⟩ := h.cells
  have ct : w.cell? ⟨tb, 0, none⟩ = some (.pointer (some ⟨g, 0, none⟩)) := by rw [cell_of_row w tb 0 _ _ _ hb]; rfl
  have f1 := h.free 1
  have hz : s.h.length + s.p.length ≤ 1000000000000 := by have := h.used; have := h.quo; unfold Sc.St.used at *; omega
  have htg : tb ≠ g := box_ne h hb
  have HC : Hid (∀ n, Calls Try.prog 50 #[hv, pv] (w.drewN n) fun e w' => ∃ v', e = .returned v' ∧ Byt w' v' (s.h ++ 10 :: s.p) ∧ Tu (fun k => blk hv = some k) w w' ∧ (∀ b, blk v' = some b → blk hv = some b ∨ w.heap.size ≤ b) ∧ (w'.cell? ⟨tb, 0, none⟩ = some (.pointer (some ⟨g, 0, none⟩)) ∧ w'.frozen? ⟨g, 1, none⟩ = false ∧ w'.cell? ⟨g, 1, none⟩ = some hv ∧ w'.cell? ⟨g, 0, none⟩ = some pv)) := fun n => by
    refine (joined_any hv pv s.h s.p (w.drewN n) (h.h.tu (tu_drewN w n) (fun _ _ e => e)) (h.p.tu (tu_drewN w n) (fun _ _ e => e)) (fun b e e' => (h.hS b e).2.2 e') hz).mono ?_
    rintro e w' ⟨v', h1, h2, h3, h4⟩
    have h3' : Tu (fun k => blk hv = some k) w w' := (tu_drewN w n).trans h3 (fun _ _ e => e)
    have k1 := kept h3' hb (byt_ne h.h hb (by decide))
    have k2 := kept h3' h.cell (fun e => (h.hS g e).2.1 rfl)
    exact ⟨v', h1, h2, h3', h4, by rw [k1.1]; exact ct, by rw [k2.2]; exact f1, by rw [k2.1]; first | exact c0 | exact c1, by rw [k2.1]; first | exact c0 | exact c1⟩
  have HE : Hid (∀ w1 v, Tu (fun k => blk hv = some k) w w1 → Byt w1 v (s.h ++ 10 :: s.p) → (∀ b, blk v = some b → blk hv = some b ∨ w.heap.size ≤ b) → Aft w S g ⟨s.p, s.h ++ 10 :: s.p, s.q⟩ quota (w1.setCell ⟨g, 1, none⟩ v)) := fun w1 v h1 h2 h3 => h.setH h1 h2 h3 hu
  clear h hb hu htg hz c2 c3 c4 htl hgl
  generalize hJ : s.h ++ 10 :: s.p = J at *
  have HJ : Hid (s.h ++ 10 :: s.p = J) := hJ
  clear hJ
  go_enter Try.func49, Try.ntmps49
  go_region_with (first | (go_at_call 50; refine (HC.out _).mono ?_; rintro e w1 ⟨v1, rfl, hB1, hW1, hk1, hc1, hf1, hd1, he1⟩; obtain ⟨a1, n1, rfl⟩ := hB1.slice; have HF : Hid (Byt w1 (.slice a1 J.length n1) J ∧ Tu (fun k => blk hv = some k) w w1 ∧ ∀ b, blk (.slice a1 J.length n1) = some b → blk hv = some b ∨ w.heap.size ≤ b) := ⟨hB1, hW1, hk1⟩; clear hB1 hW1 hk1))
  all_goals (go_end0; (try rw [HJ.out]); exact ⟨rfl, HE.out _ _ HF.out.2.1 HF.out.1 HF.out.2.2⟩)
theorem putm_e1 (args : Array Value) (w : World) : (callFunc 48 args).run Try.prog w = .ok (.enter 48 args) w := by go_simp
theorem putm_e2 (args : Array Value) (w : World) : (callFunc 49 args).run Try.prog w = .ok (.enter 49 args) w := by go_simp
set_option maxRecDepth 100000 in
set_option maxHeartbeats 1000000 in
/-- The pattern space comes behind the hold space. -/
theorem putm_any (S : Nat → Prop) (g : Nat) (s : Sc.St) (quota : Nat) (w : World) (h : Sp w S g s quota) :
    Calls Try.prog 27 #[.pointer (some ⟨g, 0, none⟩)] w fun e w' => e = .returned (.int .i64 (Sc.ask quota s ⟨s.p, s.h ++ 10 :: s.p, s.q⟩).1) ∧ Aft w S g (Sc.ask quota s ⟨s.p, s.h ++ 10 :: s.p, s.q⟩).2 quota w' := by
  have hq : s.used ≤ quota ∧ quota ≤ 1073741824 := by obtain ⟨_, _, _, q⟩ := h; exact ⟨q.used, q.quo⟩
  have HA := ask_sp S g s ⟨s.p, s.h ++ 10 :: s.p, s.q⟩ quota w h 48 49 #[] #[.pointer (some ⟨w.heap.size, 0, none⟩)] (1 + (s.p.length : Int)) (Bx w g) (by unfold Sc.St.used at hq; omega) (by unfold Sc.St.used; simp only [List.length_append, List.length_cons]; omega) putm_e1 putm_e2 (putm1_any S g s quota w h) (fun _ q => q.tu)
    (fun hf w1 n h1 h2 => putm11_any S g w.heap.size s quota _ h2 (h1.atN n) hf)
  generalize Sc.ask quota s ⟨s.p, s.h ++ 10 :: s.p, s.q⟩ = r at *
  obtain ⟨r1, r2⟩ := r
  clear h hq
  go_enter Try.func27, Try.ntmps27
  go_wp2_with (first | (go_at_call 36; refine HA.mono ?_; rintro e w1 ⟨rfl, hP⟩))
  go_ret
  exact ⟨rfl, hP⟩
end Go.Proofs.Ytngmaijfahjfcaa
