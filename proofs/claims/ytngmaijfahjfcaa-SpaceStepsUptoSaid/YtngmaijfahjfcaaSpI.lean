/- Items in memory; what slices.Clone, strings.Clone and the reference's Same answer of them. -/
import Derived.Test.YtngmaijfahjfcaaSpU
import Derived.Test.YtngmaijfahjfcaaLibt
import Derived.Maps.AppendAt
import Derived.Laws.StructEq
namespace Go.Proofs.Ytngmaijfahjfcaa
open Go.RowKit

theorem Try.infoItem : (Try.prog.info? 33).map (fun i => (i.zero, i.size, i.bytes)) = some (some (.agg #[.int .u8 0, .string ⟨#[]⟩]), 2, 24) := by kernel_rfl
/-- v reads as the items Q. -/
def Its (w : World) (v : Value) (Q : List Sc.It) : Prop :=
  (v = .slice none 0 0 ∧ Q = []) ∨ ∃ g o cap, v = .slice (some ⟨g, o, none⟩) Q.length cap ∧ g < w.heap.size ∧ ∀ j (h : j < Q.length), w.cell? ⟨g, o + j * 2, none⟩ = some (.int .u8 ((Q[j]'h).1 : Int)) ∧ w.cell? ⟨g, o + j * 2 + 1, none⟩ = some (.string (Q[j]'h).2)
theorem Its.slice {w : World} {v : Value} {Q : List Sc.It} (h : Its w v Q) : ∃ a c, v = .slice a Q.length c := by
  rcases h with ⟨rfl, rfl⟩ | ⟨g, o, cap, rfl, _⟩
  · exact ⟨none, 0, rfl⟩
  · exact ⟨_, _, rfl⟩
theorem Its.keep {w w' : World} {v : Value} {Q : List Sc.It} (h : Its w v Q) (hk : ∀ b, blk v = some b → w'.heap[b]? = w.heap[b]?) (hs : w.heap.size ≤ w'.heap.size) : Its w' v Q := by
  rcases h with h | ⟨g, o, cap, rfl, hg, hc⟩
  · exact .inl h
  · refine .inr ⟨g, o, cap, rfl, by omega, fun j hj => ?_⟩
    have e : ∀ i, w'.cell? ⟨g, i, none⟩ = w.cell? ⟨g, i, none⟩ := fun i => by
      rw [World.cell?, World.cell?]
      simp only [hk g rfl]
    rw [e, e]
    exact hc j hj
theorem Its.tu {O : Nat → Prop} {w w' : World} {v : Value} {Q : List Sc.It} (h : Its w v Q) (ht : Tu O w w') (hk : ∀ b, blk v = some b → ¬ O b) : Its w' v Q := by
  refine h.keep (fun b hb => ht.block b ?_ (hk b hb)) ht.size
  rcases h with ⟨rfl, _⟩ | ⟨g, o, cap, rfl, hg, hc⟩
  · cases hb
  · cases hb; exact hg
theorem qcells_at : ∀ (Q : List Sc.It) (j : Nat) (h : j < Q.length), (qcells Q)[j * 2]? = some (.int .u8 ((Q[j]'h).1 : Int)) ∧ (qcells Q)[j * 2 + 1]? = some (.string (Q[j]'h).2)
  | [], j, h => by simp at h
  | x :: r, 0, h => ⟨rfl, rfl⟩
  | x :: r, j + 1, h => by
    have := qcells_at r j (by simpa using h)
    rw [show (j + 1) * 2 = j * 2 + 2 by omega, show j * 2 + 2 + 1 = (j * 2 + 1) + 2 by omega]
    exact this
theorem qcells_one (Q : List Sc.It) : ∀ u ∈ qcells Q, u.oneCell' = true := by
  intro u hu
  unfold qcells at hu
  obtain ⟨x, _, h⟩ := List.mem_flatMap.1 hu
  simp at h
  rcases h with rfl | rfl <;> rfl
theorem its_own {w : World} {base : Nat} {v : Value} {Q : List Sc.It} (h : w.ownsRow base 33 2 v Q.length (qcells Q)) : Its w v Q := by
  rcases h.2 with ⟨rfl, hn⟩ | ⟨g, cap, cur, rfl, hb, hg, hl, hm, hs, ht⟩
  · exact .inl ⟨rfl, List.length_eq_zero_iff.1 hn⟩
  · refine .inr ⟨g, 0, cap, rfl, lt_of_block hg, fun j hj => ?_⟩
    have e : ∀ i, i < Q.length * 2 → w.cell? ⟨g, i, none⟩ = (qcells Q)[i]? := fun i hi => by
      rw [cell_of_row w g i cur _ _ hg, ← ht, List.getElem?_take, if_pos hi]
      simp
    rw [Nat.zero_add, e _ (by omega), e _ (by omega)]
    exact qcells_at Q j hj
/-- What is appended of items. -/
theorem its_news {w : World} {g o : Nat} {Q : List Sc.It} {cap : Nat} (h : Its w (.slice (some ⟨g, o, none⟩) Q.length cap) Q) : ∀ j u, (qcells Q)[j]? = some u → w.cell? ((⟨g, o, none⟩ : Addr).add j) = some u := by
  intro j u hu
  rcases h with ⟨e, _⟩ | ⟨g1, o1, cap1, e, hg, hc⟩
  · cases e
  · cases e
    rw [add_at]
    have hj : j < Q.length * 2 := by
      have := (List.getElem?_eq_some_iff.1 hu).1
      rwa [qcells_length] at this
    obtain ⟨k, hk⟩ : ∃ k, k = j / 2 := ⟨_, rfl⟩
    have q := qcells_at Q k (by omega)
    have c := hc k (by omega)
    rcases Nat.mod_two_eq_zero_or_one j with m | m
    · have e : j = k * 2 := by omega
      subst e
      rw [c.1, ← q.1, hu]
    · have e : j = k * 2 + 1 := by omega
      subst e
      rw [show o + (k * 2 + 1) = o + k * 2 + 1 by omega, c.2, ← q.2, hu]
theorem item_neq (k : Int) (x : ByteArray) (wx : World) : (binOp .neq 33 (.agg #[.int .u8 k, .string x]) (.agg #[.int .u8 k, .string x])).run Try.prog wx = .ok (.bool false) wx := by
  have ht : Try.prog.underlying 33 = some (.struct (Try.prog.fieldsOf 33)) := by kernel_rfl
  have hp : Try.prog.stoodInHeld 33 = false := by kernel_rfl
  obtain ⟨f, g, hf, f1, f2, f3, g1, g2, g3⟩ : ∃ f g : Field, (Try.prog.fieldsOf 33).toList = [f, g] ∧ f.name = "Kind" ∧ f.type = 31 ∧ f.offset = 0 ∧ g.name = "Text" ∧ g.type = 9 ∧ g.offset = 1 :=
    ⟨(Try.prog.fieldsOf 33).toList.head!, (Try.prog.fieldsOf 33).toList.tail.head!, by kernel_rfl, by kernel_rfl, by kernel_rfl, by kernel_rfl, by kernel_rfl, by kernel_rfl, by kernel_rfl⟩
  have p1 : ∀ (w : World), (part 31 #[.int .u8 k, .string x] 0).run Try.prog w = .ok (.int .u8 k) w := fun _ => by kernel_rfl
  have p2 : ∀ (w : World), (part 9 #[.int .u8 k, .string x] 1).run Try.prog w = .ok (.string x) w := fun _ => by kernel_rfl
  rw [run_neq_struct, show (10000 : Nat) = 9999 + 1 from rfl, run_equalIn_struct wx 9999 33 _ _ ht hp, hf]
  have e1 : (Op.equalIn 9999 31 (.int .u8 k) (.int .u8 k)).run Try.prog wx = .ok (k == k) wx := run_equalIn_int wx 9998 31 .u8 .u8 k k Try.underlying31
  have e2 : (Op.equalIn 9999 9 (.string x) (.string x)).run Try.prog wx = .ok (x.toList == x.toList) wx := run_equalIn_string wx 9998 9 x x Try.underlying9
  simp only [Op.eqFields, f1, f2, f3, g1, g2, g3, Sem.run_bind, Sem.run_ite, p1, p2, Result.andThen_ok, Sem.run_pure, e1, e2]
  simp
set_option maxRecDepth 100000 in
set_option maxHeartbeats 1000000 in
/-- Two queues that are one are the same. -/
theorem same_yes (va vb : Value) (Q : List Sc.It) (w : World) (h1 : Its w va Q) (h2 : Its w vb Q) (hQ : Q.length ≤ 9000000000000) :
    Calls Try.prog 14 #[va, vb] w fun e w' => e = .returned (.bool true) ∧ ∃ n, w' = w.drewN n := by
  obtain ⟨a1, c1, rfl⟩ := h1.slice
  obtain ⟨a2, c2, rfl⟩ := h2.slice
  have H1 : Hid (Its w (.slice a1 Q.length c1) Q) := h1
  have H2 : Hid (Its w (.slice a2 Q.length c2) Q) := h2
  clear h1 h2
  go_enter Try.func14, Try.ntmps14
  go_wp2
  go_loopw [5] (fun iv wr => ∃ k m : Nat, k ≤ Q.length ∧ iv = .int .i64 (k : Int) ∧ wr = w.drewN m) (fun iv _ => Q.length - (intOf iv).toNat)
  case atStart => exact ⟨0, 0, Nat.zero_le _, rfl, rfl⟩
  case round =>
    obtain ⟨k, m, hk, rfl, rfl⟩ := hrel
    by_cases hlt : k < Q.length
    · rcases H1.out with ⟨_, e⟩ | ⟨g1, o1, cap1, e1, hg1, hc1⟩
      · rw [e] at hlt; simp at hlt
      rcases H2.out with ⟨_, e⟩ | ⟨g2, o2, cap2, e2, hg2, hc2⟩
      · rw [e] at hlt; simp at hlt
      cases e1
      cases e2
      obtain ⟨d1, d2⟩ := hc1 k hlt
      obtain ⟨d3, d4⟩ := hc2 k hlt
      clear hc1 hc2
      generalize Q[k]'hlt = x at *
      obtain ⟨kd, y⟩ := x
      have i1 : (k : Int) < (Q.length : Int) := by omega
      have hne := fun wx => item_neq (kd : Int) y wx
      simp only at d1 d2 d3 d4
      go_wp2_with fail
      go_quiet (fail)
      go_wp2_with fail
      go_roundw
      case rel => exact ⟨k + 1, m + nq, by omega, by go_num, by first | rfl | simp⟩
      case measure => simp [intOf]; omega
    · go_wp2_with fail
      go_ret
      exact ⟨rfl, m, rfl⟩
set_option maxRecDepth 100000 in
set_option maxHeartbeats 1000000 in
theorem sclone_any (x : ByteArray) (w : World) (hx : x.size ≤ 281474976710656) : Calls Try.prog 58 #[.string x] w fun e w' => e = .returned (.string x) ∧ Below w.heap.size w w' := by
  have HC : Hid (Calls Try.prog 62 #[.string x] w fun e w' => e = .returned (.string x) ∧ Below w.heap.size w w') := AnyPu.stringslite_Clone Try.laysPu25 x w hx
  go_enter Try.func58, Try.ntmps58
  go_wp2_with (first | (go_at_call 62; refine HC.out.mono ?_; rintro e w1 ⟨rfl, hw⟩))
  go_ret
  exact ⟨rfl, hw⟩
theorem eql_nilq (w : World) (a : Option Addr) (n c n' c' : Nat) : (binOp .eql 27 (.slice a n c) (.slice none n' c')).run Try.prog w = .ok (.bool a.isNone) w := Lib.run_eql_slice_nil w _ _ a n c n' c' Try.underlying27
set_option maxRecDepth 100000 in
set_option maxHeartbeats 1000000 in
/-- A copy of items: nil of nil, else a row of its own. -/
theorem qclone_any (v : Value) (Q : List Sc.It) (w : World) (h : Its w v Q) (hQ : Q.length * 24 ≤ 140737488355328) :
    Calls Try.prog 35 #[v] w fun e w' => ∃ v', e = .returned v' ∧ w'.ownsRow w.heap.size 33 2 v' Q.length (qcells Q) ∧ Below w.heap.size w w' := by
  have q := eql_nilq
  obtain ⟨i0, hi, hz0, hz1, hz2⟩ := info_parts Try.infoItem
  rcases h with ⟨rfl, rfl⟩ | ⟨g, o, cap, rfl, hg, hc⟩
  · have HO : Hid (w.ownsRow w.heap.size 33 2 (.slice none 0 0) ([] : List Sc.It).length (qcells [])) := ⟨rfl, .inl ⟨rfl, rfl⟩⟩
    go_enter Try.func35, Try.ntmps35
    go_wp2
    go_ret
    exact ⟨_, rfl, HO.out, Below.refl _ _⟩
  · have h : Its w (.slice (some ⟨g, o, none⟩) Q.length cap) Q := .inr ⟨g, o, cap, rfl, hg, hc⟩
    have h1 : Its (w.alloc (.cells #[] 33)) (.slice (some ⟨g, o, none⟩) Q.length cap) Q := h.tu ((Tu.refl (fun _ => False) w).alloc _) (fun _ _ e => e)
    have HN : Hid (∀ j u, (qcells Q)[j]? = some u → (w.alloc (.cells #[] 33)).cell? ((⟨g, o, none⟩ : Addr).add j) = some u) := its_news h1
    have HO : Hid ((w.alloc (.cells #[] 33)).ownsRow w.heap.size 33 2 (.slice (some ⟨w.heap.size, 0, none⟩) 0 0) 0 []) := ⟨rfl, .inr ⟨w.heap.size, 0, #[], rfl, Nat.le_refl _, heap_alloc_new w _, Nat.le_refl _, by unfold maxLen; omega, rfl, rfl⟩⟩
    have HH : Hid (i0.zero = some (.agg #[.int .u8 0, .string ⟨#[]⟩]) ∧ i0.size = 2 ∧ i0.bytes = 24) := ⟨hz0, hz1, hz2⟩
    clear h h1 hc hz0 hz1 hz2
    go_enter Try.func35, Try.ntmps35
    go_wp2_with (at_builtin; refine wpList_append_own_at _ rfl _ _ 27 rfl w.heap.size 33 i0 (.agg #[.int .u8 0, .string ⟨#[]⟩]) 2 24 Try.underlying27 hi HH.out.1 HH.out.2.1 HH.out.2.2 rfl (by decide) _ 0 [] rfl HO.out ⟨g, o, none⟩ Q.length cap (qcells Q) rfl (qcells_length Q) HN.out (qcells_one Q) (by unfold maxLen; omega) (by omega) (by simp) ?_; intro v' w' k1 k2 k3 k4; have HF : Hid (w'.ownsRow w.heap.size 33 2 v' Q.length (qcells Q) ∧ Below w.heap.size w w') := ⟨by simpa using k1, ((Below.refl _ w).alloc (Nat.le_refl _) _).grown k2 (by simp) (fun k e => by cases e; exact Nat.le_refl _)⟩; clear k1 k2 k3 k4)
    go_ret
    exact ⟨v', rfl, HF.out⟩
set_option maxRecDepth 100000 in
set_option maxHeartbeats 1000000 in
/-- The queue, in memory of its own. -/
theorem queue_any (S : Nat → Prop) (g : Nat) (s : Sc.St) (quota : Nat) (w : World) (h : Sp w S g s quota) (hQ : s.q.length * 24 ≤ 140737488355328) :
    Calls Try.prog 19 #[.pointer (some ⟨g, 0, none⟩)] w fun e w' => ∃ v', e = .returned v' ∧ w'.ownsRow w.heap.size 33 2 v' s.q.length (qcells s.q) ∧ Below w.heap.size w w' := by
  obtain ⟨pv, hv, qv, h⟩ := h
  obtain ⟨_, _, c2, _, _⟩ := h.cells
  have HC : Hid (Calls Try.prog 35 #[qv] w fun e w' => ∃ v', e = .returned v' ∧ w'.ownsRow w.heap.size 33 2 v' s.q.length (qcells s.q) ∧ Below w.heap.size w w') := qclone_any qv s.q w (its_own h.q) hQ
  clear h
  go_enter Try.func19, Try.ntmps19
  go_wp2_with (first | (go_at_call 35; refine HC.out.mono ?_; rintro e w1 ⟨v1, rfl, h1, h2⟩; have HF : Hid (w1.ownsRow w.heap.size 33 2 v1 s.q.length (qcells s.q) ∧ Below w.heap.size w w1) := ⟨h1, h2⟩; clear h1 h2))
  go_ret
  exact ⟨v1, rfl, HF.out⟩
/-- A space whose queue has been taken. -/
theorem SpV.taken {W w2 : World} {S : Nat → Prop} {g : Nat} {s : Sc.St} {quota : Nat} {pv hv qv : Value} (h : SpV W S g s quota pv hv qv) (hc : w2.heap[g]? = some (.cells #[pv, hv, .slice none 0 0, .int .i64 0, .int .i64 (quota : Nat)] 64)) (ht : Tu (fun k => k = g) W w2) :
    Sp w2 (fun k => S k ∧ blk qv ≠ some k) g ⟨s.p, s.h, []⟩ quota ∧ Its w2 qv s.q ∧ ∀ b, blk qv = some b → S b ∧ b < W.heap.size := by
  refine ⟨⟨pv, hv, .slice none 0 0, ⟨hc, h.p.tu ht (fun b e => (h.pS b e).2), h.h.tu ht (fun b e => (h.hS b e).2.1), ⟨rfl, .inl ⟨rfl, rfl⟩⟩, ⟨h.gS, fun e => (h.qS g e).2.1 rfl⟩, fun b e => ⟨⟨(h.pS b e).1, fun e' => (h.qS b e').2.2.1 e⟩, (h.pS b e).2⟩, fun b e => ⟨⟨(h.hS b e).1, fun e' => (h.qS b e').2.2.2 e⟩, (h.hS b e).2⟩, fun b e => (by cases e), ?_, h.quo⟩⟩, (its_own h.q).tu ht (fun b e => (h.qS b e).2.1), fun b e => ⟨(h.qS b e).1, own_lt h.q e⟩⟩
  have := h.used
  unfold Sc.St.used at *
  simp only [Sc.txts]
  omega
set_option maxRecDepth 100000 in
set_option maxHeartbeats 1000000 in
/-- All of the queue, which is empty then. -/
theorem take_any (S : Nat → Prop) (g : Nat) (s : Sc.St) (quota : Nat) (w : World) (h : Sp w S g s quota) :
    Calls Try.prog 31 #[.pointer (some ⟨g, 0, none⟩)] w fun e w' => ∃ v', e = .returned (.tuple #[v', .int .i64 0]) ∧ Sp w' (fun k => S k ∧ blk v' ≠ some k) g ⟨s.p, s.h, []⟩ quota ∧ Its w' v' s.q ∧ (∀ b, blk v' = some b → S b ∧ b < w.heap.size) ∧ Tu (fun k => k = g) w w' := by
  obtain ⟨pv, hv, qv, h⟩ := h
  have hgl := h.gl
  obtain ⟨c0, c1, c2, c3, c4⟩ := h.cells
  have f2 := h.free 2
  have f3 := h.free 3
  have HT : Hid (Tu (fun k => k = g) w ((w.setCell ⟨g, 2, none⟩ (.slice none 0 0)).setCell ⟨g, 3, none⟩ (.int .i64 0))) := Tu.setCell (p := ⟨g, 3, none⟩) (Tu.setCell (p := ⟨g, 2, none⟩) (Tu.refl (fun k => k = g) w) (fun _ => rfl) _) (fun _ => rfl) _
  have HE : Hid (Sp ((w.setCell ⟨g, 2, none⟩ (.slice none 0 0)).setCell ⟨g, 3, none⟩ (.int .i64 0)) (fun k => S k ∧ blk qv ≠ some k) g ⟨s.p, s.h, []⟩ quota ∧ Its ((w.setCell ⟨g, 2, none⟩ (.slice none 0 0)).setCell ⟨g, 3, none⟩ (.int .i64 0)) qv s.q ∧ ∀ b, blk qv = some b → S b ∧ b < w.heap.size) := h.taken (by rw [row_set (row_set h.cell _ _)]; rfl) HT.out
  clear h
  go_enter Try.func31, Try.ntmps31
  go_wp2
  go_ret2
  exact ⟨qv, rfl, HE.out.1, HE.out.2.1, HE.out.2.2, HT.out⟩
end Go.Proofs.Ytngmaijfahjfcaa
