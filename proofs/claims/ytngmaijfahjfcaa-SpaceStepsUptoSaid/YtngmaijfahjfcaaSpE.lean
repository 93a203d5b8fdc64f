/- Steps beside rows that are the law's own; the bytes of what a space shows. -/
import Derived.Test.YtngmaijfahjfcaaSpD
import Derived.Test.YtngmaijfahjfcaaSpK
namespace Go.Proofs.Ytngmaijfahjfcaa
open Go.RowKit

/-- A step that is refused changes nothing. -/
theorem step_err (quota : Nat) (s : Sc.St) (k : Int) (t : ByteArray) (i : Nat) (x : ByteArray) : (Sc.step quota s k t i x).1 = 0 ∨ (Sc.step quota s k t i x).2 = s := by
  have ask : ∀ u, (Sc.ask quota s u).1 = 0 ∨ (Sc.ask quota s u).2 = s := fun u => by unfold Sc.ask; split <;> simp
  have psh : (Sc.push quota s i x).1 = 0 ∨ (Sc.push quota s i x).2 = s := by unfold Sc.push; split; exact .inr rfl; exact ask _
  unfold Sc.step
  repeat' (first | (split; exact ask _) | (split; exact psh) | (split; exact .inl rfl) | exact .inl rfl)
theorem step_len (quota : Nat) (s : Sc.St) (k : Int) (t : ByteArray) (i : Nat) (x : ByteArray) : (Sc.step quota s k t i x).2.q.length ≤ s.q.length + 1 := by
  have ask : ∀ u : Sc.St, u.q.length ≤ s.q.length + 1 → (Sc.ask quota s u).2.q.length ≤ s.q.length + 1 := fun u h => by unfold Sc.ask; split; exact h; simp
  have psh : (Sc.push quota s i x).2.q.length ≤ s.q.length + 1 := by unfold Sc.push; split; simp; exact ask _ (by simp)
  unfold Sc.step
  repeat' (first | (split; exact ask _ (by simp)) | (split; exact psh) | (split; (first | exact Nat.le_succ _ | exact Nat.zero_le _)) | exact Nat.le_succ _)
theorem Qi.pattern {w1 : World} {B g : Nat} {s : Sc.St} {quota : Nat} {inv : Value} {IN : List Sc.It} {vals : List (Value × List Sc.It)} {W : World} (h : Qi w1 B g s quota inv IN vals W) :
    Calls Try.prog 17 #[.pointer (some ⟨g, 0, none⟩)] W fun e w' => e = .returned (.string (Sc.bs s.p)) ∧ W = w' := by
  obtain ⟨S, h1, _⟩ := h
  exact pattern_any S g s quota W h1
theorem Qi.hold {w1 : World} {B g : Nat} {s : Sc.St} {quota : Nat} {inv : Value} {IN : List Sc.It} {vals : List (Value × List Sc.It)} {W : World} (h : Qi w1 B g s quota inv IN vals W) :
    Calls Try.prog 18 #[.pointer (some ⟨g, 0, none⟩)] W fun e w' => e = .returned (.string (Sc.bs s.h)) ∧ W = w' := by
  obtain ⟨S, h1, _⟩ := h
  exact hold_any S g s quota W h1
theorem Qi.less {w1 : World} {B g : Nat} {s : Sc.St} {quota : Nat} {inv : Value} {IN : List Sc.It} {vals vals' : List (Value × List Sc.It)} {W : World} (h : Qi w1 B g s quota inv IN vals W) (hv : ∀ p ∈ vals', p ∈ vals) : Qi w1 B g s quota inv IN vals' W := by
  obtain ⟨S, h1, h2, h3, h4, h5, h6⟩ := h
  exact ⟨S, h1, h2, h3, h4, h5, fun p hp => h6 p (hv p hp)⟩
/-- One step beside rows that are the law's own. -/
theorem Qi.step {w1 : World} {B g : Nat} {s : Sc.St} {quota : Nat} {vals : List (Value × List Sc.It)} {W : World} (h : Qi w1 B g s quota (.slice none 0 0) [] vals W) (j : Int) (t : ByteArray) (i : Nat) (x : ByteArray) (hx : t.size ≤ 140737488355328) (hi : i < 256) (hy : x.size ≤ 281474976710656) (hQ : (s.q.length + 1) * 24 ≤ 140737488355328) :
    Calls Try.prog 11 #[.pointer (some ⟨g, 0, none⟩), stV j t i x] W fun e w' => ∃ lv, e = .returned (.tuple #[.bool (Sc.more s j), lv, .int .i64 (Sc.step quota s j t i x).1]) ∧ Qi w1 B g (Sc.step quota s j t i x).2 quota (.slice none 0 0) [] ((lv, Sc.took s j) :: vals) w' := by
  obtain ⟨S, h1, h2, h3, h4, h5, h6⟩ := h
  refine (do_any S g s quota j t i x W h1 hx hi hy hQ).mono ?_
  rintro e w' ⟨lv, rfl, S', q1, q2, q3, q4, q5⟩
  refine ⟨lv, rfl, ?_⟩
  have hg : B ≤ W.heap.size := by obtain ⟨_, _, _, q⟩ := h1; have := h2 g q.gS; omega
  have hs := q2.size
  have key : ∀ b, b < W.heap.size → ¬ S b → ¬ (S' b ∧ b < w'.heap.size) := fun b hb hn e => by
    rcases q3 b e.1 with q | q
    · exact hn q
    · omega
  refine ⟨_, q1.tight, fun j hj => ⟨?_, hj.2⟩, h3.trans (q2.below hg (fun k e => (h2 k e).1)), own_keep h4 (fun b e => q2.block b (own_lt h4 e) (h5 b e)), fun b e => (by cases e), fun p hp => ?_⟩
  · rcases q3 j hj.1 with q | q
    · exact (h2 j q).1
    · omega
  · rcases List.mem_cons.1 hp with rfl | hp
    · exact ⟨q4, fun b e => ⟨fun q => q5 b e q.1, fun q => by cases q⟩⟩
    · exact ⟨(h6 p hp).1.tu q2 (fun b e => ((h6 p hp).2 b e).1), fun b e => ⟨key b (its_lt (h6 p hp).1 e) ((h6 p hp).2 b e).1, ((h6 p hp).2 b e).2⟩⟩
theorem txts_take (Q : List Sc.It) (k : Nat) (h : k < Q.length) : Sc.txts (Q.take (k + 1)) = Sc.txts (Q.take k) + (Q[k]'h).2.size := by
  rw [List.take_succ_eq_append_getElem h, Sc.txts_append]
  simp [Sc.txts]
theorem txts_le (Q : List Sc.It) (k : Nat) : Sc.txts (Q.take k) ≤ Sc.txts Q := by
  conv => rhs; rw [← List.take_append_drop k Q]
  rw [Sc.txts_append]
  omega
set_option maxRecDepth 100000 in
set_option maxHeartbeats 1000000 in
/-- The bytes of what a space shows. -/
theorem bytes_any (S : Nat → Prop) (g : Nat) (s : Sc.St) (quota : Nat) (w : World) (h : Sp w S g s quota) (hQ : s.q.length * 24 ≤ 140737488355328) :
    Calls Try.prog 21 #[.pointer (some ⟨g, 0, none⟩)] w fun e w' => e = .returned (.int .i64 (s.used : Nat)) ∧ Tu (fun _ => False) w w' := by
  have hu : s.used ≤ 1073741824 := by obtain ⟨_, _, _, q⟩ := h; have := q.used; have := q.quo; omega
  have HP : Hid (Calls Try.prog 17 #[.pointer (some ⟨g, 0, none⟩)] w fun e w' => e = .returned (.string (Sc.bs s.p)) ∧ w = w') := pattern_any S g s quota w h
  have HH : Hid (Calls Try.prog 18 #[.pointer (some ⟨g, 0, none⟩)] w fun e w' => e = .returned (.string (Sc.bs s.h)) ∧ w = w') := hold_any S g s quota w h
  have HQ : Hid (Calls Try.prog 19 #[.pointer (some ⟨g, 0, none⟩)] w fun e w' => ∃ v', e = .returned v' ∧ Its w' v' s.q ∧ Tu (fun _ => False) w w') := by
    refine (queue_any S g s quota w h hQ).mono ?_
    rintro e w' ⟨v', rfl, q1, q2⟩
    exact ⟨v', rfl, its_own q1, Tu.of_below q2⟩
  have hul : (Sc.bs s.p).size + (Sc.bs s.h).size + Sc.txts s.q ≤ 1073741824 := by rw [Sc.bs_size, Sc.bs_size]; unfold Sc.St.used at hu; omega
  have HE : Hid ((Sc.bs s.p).size + (Sc.bs s.h).size + Sc.txts s.q = s.used) := by show _ = _; rw [Sc.bs_size, Sc.bs_size]; rfl
  have HT : Hid (∀ k, Sc.txts (s.q.take k) ≤ Sc.txts s.q) := fun k => txts_le s.q k
  clear h hu
  generalize s.used = U at *
  go_enter Try.func21, Try.ntmps21
  go_wp2_with (first
    | (go_at_call 17; refine HP.out.mono ?_; rintro e wx ⟨rfl, rfl⟩)
    | (go_at_call 18; refine HH.out.mono ?_; rintro e wx ⟨rfl, rfl⟩)
    | (go_at_call 19; refine HQ.out.mono ?_; rintro e w1 ⟨v1, rfl, h1, h2⟩; obtain ⟨a1, c1, rfl⟩ := h1.slice; have H1 : Hid (Its w1 (.slice a1 s.q.length c1) s.q ∧ Tu (fun _ => False) w w1) := ⟨h1, h2⟩; clear h1 h2))
  generalize hA : (Sc.bs s.p).size = A at *
  generalize hB : (Sc.bs s.h).size = B at *
  clear hA hB HP HH HQ
  go_loop [3, 5] (fun nv iv => ∃ k : Nat, k ≤ s.q.length ∧ iv = .int .i64 (k : Int) ∧ nv = .int .i64 ((A : Int) + (B : Int) + (Sc.txts (s.q.take k) : Int))) (fun _ iv => s.q.length - (intOf iv).toNat)
  case atStart => exact ⟨0, Nat.zero_le _, rfl, by simp [Sc.txts]⟩
  case round =>
    obtain ⟨k, hk, rfl, rfl⟩ := hrel
    have ht := HT.out k
    by_cases hlt : k < s.q.length
    · rcases H1.out.1 with ⟨_, e⟩ | ⟨b, off, cap', e, hb, hc⟩
      · rw [e] at hlt; simp at hlt
      cases e
      obtain ⟨c0, c1'⟩ := hc k hlt
      have hs := txts_take s.q k hlt
      have ht2 := HT.out (k + 1)
      have HS : Hid (Sc.txts (s.q.take (k + 1)) = Sc.txts (s.q.take k) + (s.q[k]'hlt).2.size) := hs
      have hz : (s.q[k]'hlt).2.size ≤ 1073741824 := by omega
      clear hc hs ht2
      generalize s.q[k]'hlt = y at *
      obtain ⟨kd, x⟩ := y
      simp only at c0 c1' HS hz
      have hi1 : (k : Int) < (s.q.length : Int) := by omega
      go_wp2
      go_round
      case rel => exact ⟨k + 1, by omega, by go_num, by rw [HS.out]; go_num⟩
      case measure => simp [intOf]; omega
    · have e : s.q.take k = s.q := List.take_of_length_le (by omega)
      rw [e]
      have hEE := HE.out
      go_wp2
      go_ret
      exact ⟨ret_int (by omega), H1.out.2⟩
end Go.Proofs.Ytngmaijfahjfcaa
