/- What (*Space).Push answers. -/
import Derived.Test.YtngmaijfahjfcaaSpM8
namespace Go.Proofs.Ytngmaijfahjfcaa
open Go.RowKit

/-- What Push makes of a space: a kind that is none is refused first. -/
def Sc.push (quota : Nat) (s : Sc.St) (k : Nat) (x : ByteArray) : Int × Sc.St := if k = 0 ∨ 4 ≤ k then (2, s) else Sc.ask quota s ⟨s.p, s.h, s.q ++ [(k, x)]⟩
theorem push_e1 (args : Array Value) (w : World) : (callFunc 56 args).run Try.prog w = .ok (.enter 56 args) w := by go_simp
theorem push_e2 (args : Array Value) (w : World) : (callFunc 57 args).run Try.prog w = .ok (.enter 57 args) w := by go_simp
set_option maxRecDepth 100000 in
set_option maxHeartbeats 1000000 in
theorem push_not (S : Nat → Prop) (g k : Nat) (s : Sc.St) (quota : Nat) (x : ByteArray) (w : World) (h : Sp w S g s quota) (hk : k = 0 ∨ 4 ≤ k) (hk2 : k < 256) :
    Calls Try.prog 30 #[.pointer (some ⟨g, 0, none⟩), .agg #[.int .u8 (k : Int), .string x]] w fun e w' => e = .returned (.int .i64 2) ∧ Aft w S g s quota w' := by
  have HF : Hid (Aft w S g s quota ((w.alloc (.cells #[.pointer (some ⟨g, 0, none⟩)] 23)).alloc (.cells #[.int .u8 (k : Int), .string x] 33))) := Aft.keep h (((Tu.refl _ w).alloc _).alloc _)
  clear h
  rcases hk with rfl | hk
  · go_enter Try.func30, Try.ntmps30
    go_wp2
    go_ret
    exact ⟨rfl, HF.out⟩
  · have h0 : ((k : Int) == 0) = false := by simp; omega
    have h1 : (4 : Int) ≤ (k : Int) := by omega
    go_enter Try.func30, Try.ntmps30
    go_wp2
    go_ret
    exact ⟨rfl, HF.out⟩
set_option maxRecDepth 100000 in
set_option maxHeartbeats 1000000 in
theorem push_yes (S : Nat → Prop) (g k : Nat) (s : Sc.St) (quota : Nat) (x : ByteArray) (w : World) (h : Sp w S g s quota) (hk : ¬ (k = 0 ∨ 4 ≤ k)) (hx : x.size ≤ 281474976710656) (hQ : (s.q.length + 1) * 24 ≤ 140737488355328) :
    Calls Try.prog 30 #[.pointer (some ⟨g, 0, none⟩), .agg #[.int .u8 (k : Int), .string x]] w fun e w' => e = .returned (.int .i64 (Sc.ask quota s ⟨s.p, s.h, s.q ++ [(k, x)]⟩).1) ∧ Aft w S g (Sc.ask quota s ⟨s.p, s.h, s.q ++ [(k, x)]⟩).2 quota w' := by
  have hq : s.used ≤ quota ∧ quota ≤ 1073741824 := by obtain ⟨_, _, _, q⟩ := h; exact ⟨q.used, q.quo⟩
  have hgr : ((Sc.St.mk s.p s.h (s.q ++ [(k, x)])).used : Int) = (s.used : Int) + (x.size : Int) := by unfold Sc.St.used; simp only [Sc.txts_append, Sc.txts]; omega
  generalize hw0 : (w.alloc (.cells #[.pointer (some ⟨g, 0, none⟩)] 23)).alloc (.cells #[.int .u8 (k : Int), .string x] 33) = w0
  have ht : Tu (fun _ => False) w w0 := by rw [← hw0]; exact ((Tu.refl _ w).alloc _).alloc _
  have hsz : w0.heap.size = w.heap.size + 2 := by rw [← hw0]; simp
  have hsb : w0.heap[w.heap.size]? = some (.cells #[.pointer (some ⟨g, 0, none⟩)] 23) := by rw [← hw0, alloc_keep _ (by simp)]; exact heap_alloc_new w _
  have hxb : w0.heap[w.heap.size + 1]? = some (.cells #[.int .u8 (k : Int), .string x] 33) := by
    have := heap_alloc_new (w.alloc (.cells #[.pointer (some ⟨g, 0, none⟩)] 23)) (.cells #[.int .u8 (k : Int), .string x] 33)
    rw [show (w.alloc (.cells #[.pointer (some ⟨g, 0, none⟩)] 23)).heap.size = w.heap.size + 1 by simp, hw0] at this
    exact this
  have hqv : ∀ n qv, (w0.drewN n).cell? ⟨g, 2, none⟩ = some qv → blk qv ≠ some (w.heap.size + 1) := by
    obtain ⟨pv, hv, qv, h⟩ := h
    intro n q hq e
    have c := (h.tu (ht.trans (tu_drewN w0 n) (fun _ _ e => e)) (fun _ _ e => e)).cells.2.2.1
    rw [hq] at c
    cases c
    have := own_lt h.q e
    omega
  have h0 : Sp w0 (fun j => S j ∨ j = w.heap.size + 1) g s quota := by obtain ⟨pv, hv, qv, h⟩ := h; exact ⟨pv, hv, qv, (h.tu ht (fun _ _ e => e)).mono (fun _ e => .inl e)⟩
  have HA := ask_any (fun j => S j ∨ j = w.heap.size + 1) g s quota w0 h0 56 57 #[.pointer (some ⟨w.heap.size + 1, 0, none⟩), .pointer (some ⟨w.heap.size, 0, none⟩)] #[.pointer (some ⟨w.heap.size + 1, 0, none⟩), .pointer (some ⟨w.heap.size, 0, none⟩)] (x.size : Int) (fun w1 => w0 = w1) (fun w2 => Aft w S g ⟨s.p, s.h, s.q ++ [(k, x)]⟩ quota w2)
    (by omega) (by omega) push_e1 push_e2 (push1_any g (w.heap.size + 1) w.heap.size k x w0 (by rw [cell_of_row _ _ 1 _ _ _ hxb]; rfl)) (fun w1 e => by rw [← e]; exact Tu.refl _ _) (fun hf w1 n e => by
      subst e
      have t1 : Tu (fun _ => False) w0 (w0.drewN n) := tu_drewN w0 n
      have h1 : Sp (w0.drewN n) (fun j => S j ∨ j = w.heap.size + 1) g s quota := by obtain ⟨pv, hv, qv, h0⟩ := h0; exact ⟨pv, hv, qv, h0.tu t1 (fun _ _ e => e)⟩
      refine (push11_any (fun j => S j ∨ j = w.heap.size + 1) g (w.heap.size + 1) w.heap.size k s quota x (w0.drewN n) h1 hxb hsb (.inr rfl) (hqv n) (by omega) hQ).mono ?_
      rintro e w2 ⟨rfl, ⟨S', a1, a2, a3⟩⟩
      have sz : (w0.drewN n).heap.size = w.heap.size + 2 := hsz
      refine ⟨rfl, ⟨S', a1, ((ht.mono (fun _ _ e => e.elim)).trans (t1.mono (fun _ _ e => e.elim)) (fun _ _ e => e)).trans a2 (fun j hj e => ?_), fun j hj => ?_⟩⟩
      · rcases e with q | q
        · exact q
        · omega
      · rcases a3 j hj with (q | q) | q
        · exact .inl q
        · exact .inr (by omega)
        · exact .inr (by omega))
  have HA' : Hid (Calls Try.prog 36 #[.pointer (some ⟨g, 0, none⟩), .func (.func 56) #[] #[.pointer (some ⟨w.heap.size + 1, 0, none⟩), .pointer (some ⟨w.heap.size, 0, none⟩)]] w0 fun e w' => e = .returned (.int .i64 (Sc.ask quota s ⟨s.p, s.h, s.q ++ [(k, x)]⟩).1) ∧ Aft w S g (Sc.ask quota s ⟨s.p, s.h, s.q ++ [(k, x)]⟩).2 quota w') := by
    refine HA.mono ?_
    rintro e w' ⟨hy, hn⟩
    by_cases hf : (Sc.St.mk s.p s.h (s.q ++ [(k, x)])).used ≤ quota
    · obtain ⟨rfl, q1⟩ := hy (by omega)
      unfold Sc.ask
      rw [if_pos hf]
      exact ⟨rfl, q1⟩
    · obtain ⟨rfl, w1, n, rfl, rfl⟩ := hn (by omega)
      unfold Sc.ask
      rw [if_neg hf]
      exact ⟨rfl, Aft.keep h (ht.trans (tu_drewN w0 n) (fun _ _ e => e))⟩
  subst hw0
  generalize Sc.ask quota s ⟨s.p, s.h, s.q ++ [(k, x)]⟩ = r at *
  obtain ⟨r1, r2⟩ := r
  have k0 : ((k : Int) == 0) = false := by simp; omega
  have k1 : ¬ (4 : Int) ≤ (k : Int) := by omega
  clear HA h hq hgr ht hsz hsb hxb hqv h0 hk
  go_enter Try.func30, Try.ntmps30
  go_wp2_with (first | (go_at_call 36; refine HA'.out.mono ?_; rintro e w1 ⟨rfl, hP⟩))
  go_ret
  exact ⟨rfl, hP⟩
/-- An item stands at the queue's end. -/
theorem push_any (S : Nat → Prop) (g k : Nat) (s : Sc.St) (quota : Nat) (x : ByteArray) (w : World) (h : Sp w S g s quota) (hk : k < 256) (hx : x.size ≤ 281474976710656) (hQ : (s.q.length + 1) * 24 ≤ 140737488355328) :
    Calls Try.prog 30 #[.pointer (some ⟨g, 0, none⟩), .agg #[.int .u8 (k : Int), .string x]] w fun e w' => e = .returned (.int .i64 (Sc.push quota s k x).1) ∧ Aft w S g (Sc.push quota s k x).2 quota w' := by
  unfold Sc.push
  by_cases c : k = 0 ∨ 4 ≤ k
  · rw [if_pos c]
    exact push_not S g k s quota x w h c hk
  · rw [if_neg c]
    exact push_yes S g k s quota x w h c hx hQ
end Go.Proofs.Ytngmaijfahjfcaa
