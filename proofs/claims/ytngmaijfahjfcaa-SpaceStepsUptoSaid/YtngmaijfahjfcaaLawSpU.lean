/- The law SpaceQuota answers true. -/
import Derived.Test.YtngmaijfahjfcaaSpE
namespace Go.Proofs.Ytngmaijfahjfcaa
open Go.RowKit

theorem Qi.bytes {w1 : World} {B g : Nat} {s : Sc.St} {quota : Nat} {inv : Value} {IN : List Sc.It} {vals : List (Value × List Sc.It)} {W : World} (h : Qi w1 B g s quota inv IN vals W) (hQ : s.q.length * 24 ≤ 140737488355328) :
    Calls Try.prog 21 #[.pointer (some ⟨g, 0, none⟩)] W fun e w' => e = .returned (.int .i64 (s.used : Nat)) ∧ Qi w1 B g s quota inv IN vals w' := by
  have h' := h
  obtain ⟨S, h1, _⟩ := h
  refine (bytes_any S g s quota W h1 hQ).mono ?_
  rintro e w' ⟨rfl, q⟩
  exact ⟨rfl, h'.tu q⟩
theorem Qi.le {w1 : World} {B g : Nat} {s : Sc.St} {quota : Nat} {inv : Value} {IN : List Sc.It} {vals : List (Value × List Sc.It)} {W : World} (h : Qi w1 B g s quota inv IN vals W) : s.used ≤ quota := by
  obtain ⟨_, ⟨_, _, _, h⟩, _⟩ := h
  exact h.used
theorem Qi.made {W : World} (quota : Nat) (hq : quota ≤ 1073741824) :
    Calls Try.prog 9 #[.int .i64 (quota : Nat)] W fun e w' => e = .returned (.tuple #[.pointer (some ⟨W.heap.size, 0, none⟩), .int .i64 0]) ∧ Qi W W.heap.size W.heap.size .nil quota (.slice none 0 0) [] [] w' := by
  refine (new_any quota W hq).mono ?_
  rintro e w' ⟨rfl, h1, h2, h3⟩
  exact ⟨rfl, _, h1, fun j e => by rw [e]; exact ⟨Nat.le_refl _, h3⟩, h2.below (Nat.le_refl _) (fun _ e => e.elim), ⟨rfl, .inl ⟨rfl, rfl⟩⟩, fun b e => (by cases e), fun p hp => by cases hp⟩
set_option maxRecDepth 100000 in
set_option maxHeartbeats 1000000 in
theorem quota_not (quota : Int) (a : Option Addr) (n cap : Nat) (w : World) (hq : quota < 0 ∨ 1073741824 < quota) :
    Calls Try.prog 5 #[.int .i64 quota, .slice a n cap] w fun e w' => e = .returned (.bool true) ∧ Below w.heap.size w w' := by
  have HB : Hid (Calls Try.prog 16 #[] w fun e w' => e = .returned (.bool true) ∧ Below w.heap.size w w') := begins_any w
  have HN : Hid (∀ W, Calls Try.prog 9 #[.int .i64 quota] W fun e w' => e = .returned (.tuple #[.pointer none, .int .i64 2]) ∧ W = w') := fun W => new_not quota W hq
  by_cases h0 : quota < 0
  · go_enter Try.func5, Try.ntmps5
    go_wp2_with (first
      | (go_at_call 16; refine HB.out.mono ?_; rintro e w1 ⟨rfl, hw⟩)
      | (go_at_call 9; refine (HN.out _).mono ?_; rintro e w2 ⟨rfl, rfl⟩))
    go_ret
    exact ⟨rfl, hw⟩
  · have h1 : 1073741824 < quota := by omega
    go_enter Try.func5, Try.ntmps5
    go_wp2_with (first
      | (go_at_call 16; refine HB.out.mono ?_; rintro e w1 ⟨rfl, hw⟩)
      | (go_at_call 9; refine (HN.out _).mono ?_; rintro e w2 ⟨rfl, rfl⟩))
    go_ret
    exact ⟨rfl, hw⟩
set_option maxRecDepth 100000 in
set_option maxHeartbeats 4000000 in
theorem quota_yes (quota : Nat) (a : Option Addr) (cap : Nat) (l : List Stp) (w : World) (hq : quota ≤ 1073741824) (hl : Stps w a cap l) (hn : (l.length + 1) * 24 ≤ 140737488355328) (hk : ∀ y ∈ l, y.t.size ≤ 140737488355328 ∧ y.i < 256 ∧ y.x.size ≤ 281474976710656) :
    Calls Try.prog 5 #[.int .i64 (quota : Nat), .slice a l.length cap] w fun e w' => e = .returned (.bool true) ∧ Below w.heap.size w w' := by
  have HL : Hid (Stps w a cap l) := hl
  have HKx : Hid (∀ y ∈ l, y.t.size ≤ 140737488355328 ∧ y.i < 256 ∧ y.x.size ≤ 281474976710656) := hk
  have HB : Hid (Calls Try.prog 16 #[] w fun e w' => e = .returned (.bool true) ∧ Below w.heap.size w w') := begins_any w
  have HN : Hid (∀ W : World, Calls Try.prog 9 #[.int .i64 (quota : Nat)] W fun e w' => e = .returned (.tuple #[.pointer (some ⟨W.heap.size, 0, none⟩), .int .i64 0]) ∧ Qi W W.heap.size W.heap.size .nil quota (.slice none 0 0) [] [] w') := fun W => Qi.made quota hq
  clear hl hk
  go_enter Try.func5, Try.ntmps5
  go_wp2_with (first
    | (go_at_call 16; refine HB.out.mono ?_; rintro e w1 ⟨rfl, hw⟩; have K0 : Hid (Below w.heap.size w w1) := hw; clear hw)
    | (go_at_call 9; refine (HN.out _).mono ?_; rintro e w2 ⟨rfl, h1⟩; (generalize hg : w1.heap.size = g at *); have HG : Hid (w1.heap.size = g) := hg; clear hg; have K1 : Hid (Qi w1 g g .nil quota (.slice none 0 0) [] [] w2) := h1; clear h1))
  clear HB HN
  go_loopw [7] (fun iv wr => ∃ (k : Nat) (s : Sc.St), k ≤ l.length ∧ iv = .int .i64 (k : Int) ∧ s.q.length ≤ k ∧ Hid (Qi w1 g g s quota (.slice none 0 0) [] [] wr)) (fun iv _ => l.length - (intOf iv).toNat)
  case atStart => exact ⟨0, .nil, Nat.zero_le _, rfl, Nat.le_refl _, K1⟩
  case round =>
    obtain ⟨k, s, hk, rfl, hs, HQ⟩ := hrel
    by_cases hlt : k < l.length
    · have HC : Hid (∀ W vals, Qi w1 g g s quota (.slice none 0 0) [] vals W → ∃ b off, a = some ⟨b, off, none⟩ ∧ W.cell? ⟨b, off + k * 4, none⟩ = some (.int .i64 (l[k]'hlt).k) ∧ W.cell? ⟨b, off + k * 4 + 1, none⟩ = some (.string (l[k]'hlt).t) ∧ W.cell? ⟨b, off + k * 4 + 2, none⟩ = some (.int .u8 ((l[k]'hlt).i : Int)) ∧ W.cell? ⟨b, off + k * 4 + 3, none⟩ = some (.string (l[k]'hlt).x)) := fun W vals q => by
        obtain ⟨b, off, e, _, c⟩ := (HL.out.below (K0.out.trans (q.below.mono (by have := HG.out; have := K0.out.size; omega)))).cell k hlt
        exact ⟨b, off, e, c⟩
      obtain ⟨b, off, rfl, _⟩ := HC.out _ _ HQ.out
      have hx := HKx.out (l[k]'hlt) (List.getElem_mem hlt)
      have hi1 : (k : Int) < (l.length : Int) := by omega
      generalize l[k]'hlt = y at *
      obtain ⟨j, t, i, x⟩ := y
      simp only at hx HC
      have HP : Hid (∀ W vals, Qi w1 g g s quota (.slice none 0 0) [] vals W → (Calls Try.prog 17 #[.pointer (some ⟨g, 0, none⟩)] W fun e w' => e = .returned (.string (Sc.bs s.p)) ∧ W = w') ∧ (Calls Try.prog 18 #[.pointer (some ⟨g, 0, none⟩)] W fun e w' => e = .returned (.string (Sc.bs s.h)) ∧ W = w') ∧ (Calls Try.prog 19 #[.pointer (some ⟨g, 0, none⟩)] W fun e w' => ∃ v', e = .returned v' ∧ Qi w1 g g s quota (.slice none 0 0) [] ((v', s.q) :: vals) w')) := fun W vals q => ⟨q.pattern, q.hold, (q.queue (by omega)).mono (fun e w' ⟨v', q1, q2, _⟩ => ⟨v', q1, q2⟩)⟩
      have HD : Hid (∀ W vals, Qi w1 g g s quota (.slice none 0 0) [] vals W → Calls Try.prog 11 #[.pointer (some ⟨g, 0, none⟩), stV j t i x] W fun e w' => ∃ lv, e = .returned (.tuple #[.bool (Sc.more s j), lv, .int .i64 (Sc.step quota s j t i x).1]) ∧ Qi w1 g g (Sc.step quota s j t i x).2 quota (.slice none 0 0) [] ((lv, Sc.took s j) :: vals) w') := fun W vals q => q.step j t i x hx.1 hx.2.1 hx.2.2 (by omega)
      have hlen := step_len quota s j t i x
      have her := step_err quota s j t i x
      generalize Sc.step quota s j t i x = r at *
      obtain ⟨r1, r2⟩ := r
      simp only at hlen her HD
      have HU : Hid (∀ W vals, Qi w1 g g r2 quota (.slice none 0 0) [] vals W → (Calls Try.prog 20 #[.pointer (some ⟨g, 0, none⟩)] W fun e w' => e = .returned (.int .i64 (r2.used : Nat)) ∧ ∃ n, w' = W.drewN n) ∧ (Calls Try.prog 21 #[.pointer (some ⟨g, 0, none⟩)] W fun e w' => e = .returned (.int .i64 (r2.used : Nat)) ∧ Qi w1 g g r2 quota (.slice none 0 0) [] vals w')) := fun W vals q => ⟨q.used, q.bytes (by omega)⟩
      by_cases h0 : r1 = 0
      · subst h0
        clear her
        go_wp2_with (first
          | (go_at_call 17; refine (HP.out _ _ HQ.out).1.mono ?_; rintro e wx ⟨rfl, rfl⟩)
          | (go_at_call 18; refine (HP.out _ _ HQ.out).2.1.mono ?_; rintro e wx ⟨rfl, rfl⟩)
          | (go_at_call 19; refine (HP.out _ _ HQ.out).2.2.mono ?_; rintro e w3 ⟨v3, rfl, h3⟩; have K3 : Hid (Qi w1 g g s quota (.slice none 0 0) [] [(v3, s.q)] w3) := h3; obtain ⟨b', off', e', c0, c1, c2, c3⟩ := HC.out _ _ h3; cases e'; clear h3)
          | (go_at_call 11; refine (HD.out _ _ K3.out).mono ?_; rintro e w4 ⟨lv, rfl, h4⟩; have K4 : Hid (Qi w1 g g r2 quota (.slice none 0 0) [] [(lv, Sc.took s j), (v3, s.q)] w4) := h4; have hu := h4.le; generalize Sc.more s j = mr at *; clear h4)
          | (go_at_call 20; refine (HU.out _ _ K6.out).1.mono ?_; rintro e wx ⟨rfl, n7, rfl⟩; have K7 : Hid (Qi w1 g g r2 quota (.slice none 0 0) [] [(lv, Sc.took s j), (v3, s.q)] (w6.drewN n7)) := K6.out.tu (tu_drewN _ _))
          | (go_at_call 20; refine (HU.out _ _ K4.out).1.mono ?_; rintro e wx ⟨rfl, n5, rfl⟩; have K5 : Hid (Qi w1 g g r2 quota (.slice none 0 0) [] [(lv, Sc.took s j), (v3, s.q)] (w4.drewN n5)) := K4.out.tu (tu_drewN _ _))
          | (go_at_call 21; refine (HU.out _ _ K5.out).2.mono ?_; rintro e w6 ⟨rfl, h6⟩; have K6 : Hid (Qi w1 g g r2 quota (.slice none 0 0) [] [(lv, Sc.took s j), (v3, s.q)] w6) := h6; clear h6))
        go_roundw
        case rel => exact ⟨k + 1, r2, by omega, by go_num, by omega, K7.out.less (fun p hp => by cases hp)⟩
        case measure => simp [intOf]; omega
      · obtain rfl : r2 = s := her.resolve_left h0
        have hb0 : (r1 == 0) = false := by simpa using h0
        clear her
        go_wp2_with (first
          | (go_at_call 17; refine (HP.out _ _ K4.out).1.mono ?_; rintro e wx ⟨rfl, rfl⟩)
          | (go_at_call 17; refine (HP.out _ _ HQ.out).1.mono ?_; rintro e wx ⟨rfl, rfl⟩)
          | (go_at_call 18; refine (HP.out _ _ K4.out).2.1.mono ?_; rintro e wx ⟨rfl, rfl⟩)
          | (go_at_call 18; refine (HP.out _ _ HQ.out).2.1.mono ?_; rintro e wx ⟨rfl, rfl⟩)
          | (go_at_call 19; refine (HP.out _ _ K4.out).2.2.mono ?_; rintro e w5 ⟨v5, rfl, h5⟩; have K5 : Hid (Qi w1 g g r2 quota (.slice none 0 0) [] [(v5, r2.q), (lv, Sc.took r2 j), (v3, r2.q)] w5) := h5; clear h5)
          | (go_at_call 19; refine (HP.out _ _ HQ.out).2.2.mono ?_; rintro e w3 ⟨v3, rfl, h3⟩; have K3 : Hid (Qi w1 g g r2 quota (.slice none 0 0) [] [(v3, r2.q)] w3) := h3; obtain ⟨b', off', e', c0, c1, c2, c3⟩ := HC.out _ _ h3; cases e'; clear h3)
          | (go_at_call 11; refine (HD.out _ _ K3.out).mono ?_; rintro e w4 ⟨lv, rfl, h4⟩; have K4 : Hid (Qi w1 g g r2 quota (.slice none 0 0) [] [(lv, Sc.took r2 j), (v3, r2.q)] w4) := h4; have hu := h4.le; generalize Sc.more r2 j = mr at *; clear h4)
          | (go_at_call 14; refine (same_yes _ _ r2.q _ (K5.out.its.2 (v5, r2.q) (by simp)) (K5.out.its.2 (v3, r2.q) (by simp)) (by omega)).mono ?_; rintro e wx ⟨rfl, n6, rfl⟩; have K6 : Hid (Qi w1 g g r2 quota (.slice none 0 0) [] [(v5, r2.q), (lv, Sc.took r2 j), (v3, r2.q)] (w5.drewN n6)) := K5.out.tu (tu_drewN _ _))
          | (go_at_call 20; refine (HU.out _ _ K8.out).1.mono ?_; rintro e wx ⟨rfl, n9, rfl⟩; have K9 : Hid (Qi w1 g g r2 quota (.slice none 0 0) [] [(v5, r2.q), (lv, Sc.took r2 j), (v3, r2.q)] (w8.drewN n9)) := K8.out.tu (tu_drewN _ _))
          | (go_at_call 20; refine (HU.out _ _ K6.out).1.mono ?_; rintro e wx ⟨rfl, n7, rfl⟩; have K7 : Hid (Qi w1 g g r2 quota (.slice none 0 0) [] [(v5, r2.q), (lv, Sc.took r2 j), (v3, r2.q)] (w5.drewN (n6 + n7))) := K5.out.tu (tu_drewN _ _))
          | (go_at_call 21; refine (HU.out _ _ K7.out).2.mono ?_; rintro e w8 ⟨rfl, h6⟩; have K8 : Hid (Qi w1 g g r2 quota (.slice none 0 0) [] [(v5, r2.q), (lv, Sc.took r2 j), (v3, r2.q)] w8) := h6; clear h6))
        go_roundw
        case rel => exact ⟨k + 1, r2, by omega, by go_num, by omega, K9.out.less (fun p hp => by cases hp)⟩
        case measure => simp [intOf]; omega
    · go_wp2
      go_ret
      exact ⟨rfl, K0.out.trans (HQ.out.below.mono (by have := HG.out; have := K0.out.size; omega))⟩
theorem law_quota (quota : Int) (a : Option Addr) (cap : Nat) (l : List Stp) (w : World) (hl : Stps w a cap l) (hn : (l.length + 1) * 24 ≤ 140737488355328) (hk : ∀ y ∈ l, y.t.size ≤ 140737488355328 ∧ y.i < 256 ∧ y.x.size ≤ 281474976710656) :
    Calls Try.prog 5 #[.int .i64 quota, .slice a l.length cap] w fun e w' => e = .returned (.bool true) ∧ Below w.heap.size w w' := by
  by_cases h : quota < 0 ∨ 1073741824 < quota
  · exact quota_not quota a l.length cap w h
  · obtain ⟨n, rfl⟩ : ∃ n : Nat, quota = (n : Int) := ⟨quota.toNat, by omega⟩
    exact quota_yes n a cap l w (by omega) hl hn hk
end Go.Proofs.Ytngmaijfahjfcaa
