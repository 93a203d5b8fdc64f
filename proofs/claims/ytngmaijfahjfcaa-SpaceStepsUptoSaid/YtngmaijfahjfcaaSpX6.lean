/- What the law's like answers of a space and the reference's that are one. -/
import Derived.Test.YtngmaijfahjfcaaSpX5
import Derived.Test.YtngmaijfahjfcaaLawSpU
import Derived.Deep.RegionHeld3
namespace Go.Proofs.Ytngmaijfahjfcaa
open Go.RowKit

/-- A space, the reference's queue beside it, and the box in which the reference's space lies. -/
def Lk (W0 w1 : World) (B g : Nat) (s : Sc.St) (quota : Nat) (qv : Value) (n : Nat) (W : World) : Prop :=
  Qi w1 B g s quota (.slice none 0 0) [] [(qv, s.q)] W ∧ W.heap[n]? = some (.cells #[.string (Sc.bs s.p), .string (Sc.bs s.h), qv, .int .i64 (quota : Nat)] 29) ∧ Tu (fun _ => False) W0 W
theorem Lk.tu {W0 w1 : World} {B g : Nat} {s : Sc.St} {quota : Nat} {qv : Value} {n : Nat} {W w' : World} (h : Lk W0 w1 B g s quota qv n W) (ht : Tu (fun _ => False) W w') : Lk W0 w1 B g s quota qv n w' :=
  ⟨h.1.tu ht, by rw [ht.block n (lt_of_block h.2.1) (fun e => e)]; exact h.2.1, h.2.2.trans ht (fun _ _ e => e)⟩
/-- What holds at each world of the region. -/
def LkC (W0 w1 : World) (B g : Nat) (s : Sc.St) (quota : Nat) (qv : Value) (n : Nat) (W : World) : Prop :=
  Lk W0 w1 B g s quota qv n W ∧ W.cell? ⟨n, 0, none⟩ = some (.string (Sc.bs s.p)) ∧ W.cell? ⟨n, 1, none⟩ = some (.string (Sc.bs s.h)) ∧ W.cell? ⟨n, 2, none⟩ = some qv ∧ W.cell? ⟨n, 3, none⟩ = some (.int .i64 (quota : Nat))
theorem Lk.c {W0 w1 : World} {B g : Nat} {s : Sc.St} {quota : Nat} {qv : Value} {n : Nat} {W : World} (h : Lk W0 w1 B g s quota qv n W) : LkC W0 w1 B g s quota qv n W := by
  obtain ⟨⟨c0, c1, c2, c3⟩, _⟩ := cells4 h.2.1
  exact ⟨h, c0, c1, c2, c3⟩
set_option maxRecDepth 100000 in
set_option maxHeartbeats 4000000 in
theorem like_yes (w1 : World) (B g : Nat) (s : Sc.St) (quota : Nat) (qv : Value) (W : World) (h : Qi w1 B g s quota (.slice none 0 0) [] [(qv, s.q)] W) (hq : quota ≤ 1073741824) (hl : (s.q.length + 1) * 24 ≤ 140737488355328) :
    Calls Try.prog 10 #[.pointer (some ⟨g, 0, none⟩), rsV (Sc.bs s.p) (Sc.bs s.h) qv quota] W fun e w' => e = .returned (.bool true) ∧ Tu (fun _ => False) W w' := by
  have hu := h.le
  have hsz : s.p.length + s.h.length + Sc.txts s.q ≤ 1073741824 := by unfold Sc.St.used at hu; omega
  have iq : Its W qv s.q := h.its.2 (qv, s.q) (by simp)
  obtain ⟨aq, cq, rfl⟩ := iq.slice
  have L0 : Lk W w1 B g s quota (.slice aq s.q.length cq) W.heap.size (W.alloc (.cells #[.string (Sc.bs s.p), .string (Sc.bs s.h), .slice aq s.q.length cq, .int .i64 (quota : Nat)] 29)) := ⟨h.tu ((Tu.refl _ W).alloc _), heap_alloc_new W _, (Tu.refl _ W).alloc _⟩
  generalize hn : W.heap.size = n at *
  have HFs : Hid (∀ V, Lk W w1 B g s quota (.slice aq s.q.length cq) n V → Calls Try.prog 15 #[.pointer (some ⟨g, 0, none⟩)] V fun e w' => e = .returned (.tuple #[.string (Sc.bs (Sc.fst s.p)), .bool (Sc.lf s.p).isSome]) ∧ Lk W w1 B g s quota (.slice aq s.q.length cq) n w') := fun V q => by
    have q' := q
    obtain ⟨⟨S, q1, _⟩, _⟩ := q
    refine (first_any S g s quota V q1).mono ?_
    rintro e w' ⟨rfl, t⟩
    exact ⟨rfl, q'.tu t⟩
  have HFr : Hid (∀ V, Calls Try.prog 12 #[.string (Sc.bs s.p)] V fun e w' => e = .returned (.tuple #[.string (Sc.bs (Sc.fst s.p)), .bool (Sc.lf s.p).isSome]) ∧ V = w') := fun V => rfirst_any (Sc.bs s.p) V (by rw [Sc.bs_size]; omega)
  have HPt : Hid (∀ V, LkC W w1 B g s quota (.slice aq s.q.length cq) n V → (Calls Try.prog 17 #[.pointer (some ⟨g, 0, none⟩)] V fun e w' => e = .returned (.string (Sc.bs s.p)) ∧ LkC W w1 B g s quota (.slice aq s.q.length cq) n w') ∧ (Calls Try.prog 18 #[.pointer (some ⟨g, 0, none⟩)] V fun e w' => e = .returned (.string (Sc.bs s.h)) ∧ LkC W w1 B g s quota (.slice aq s.q.length cq) n w') ∧ (Calls Try.prog 19 #[.pointer (some ⟨g, 0, none⟩)] V fun e w' => ∃ a2 c2, e = .returned (.slice a2 s.q.length c2) ∧ LkC W w1 B g s quota (.slice aq s.q.length cq) n w' ∧ Its w' (.slice a2 s.q.length c2) s.q) ∧ (Calls Try.prog 20 #[.pointer (some ⟨g, 0, none⟩)] V fun e w' => e = .returned (.int .i64 (s.used : Nat)) ∧ LkC W w1 B g s quota (.slice aq s.q.length cq) n w') ∧ (Calls Try.prog 32 #[rsV (Sc.bs s.p) (Sc.bs s.h) (.slice aq s.q.length cq) quota] V fun e w' => e = .returned (.int .i64 (s.used : Nat)) ∧ LkC W w1 B g s quota (.slice aq s.q.length cq) n w')) := fun V q => by
    refine ⟨q.1.1.pattern.mono ?_, q.1.1.hold.mono ?_, (q.1.1.queue (by omega)).mono ?_, q.1.1.used.mono ?_, (rused_any (Sc.bs s.p) (Sc.bs s.h) aq cq s.q quota V (q.1.1.its.2 (_, s.q) (by simp)) (by rw [Sc.bs_size]; omega) (by rw [Sc.bs_size]; omega) (by omega) (by omega)).mono ?_⟩
    · rintro e w' ⟨rfl, rfl⟩
      exact ⟨rfl, q⟩
    · rintro e w' ⟨rfl, rfl⟩
      exact ⟨rfl, q⟩
    · rintro e w' ⟨v', rfl, q1, q2, q3⟩
      have i2 : Its w' v' s.q := its_own q2
      obtain ⟨a2, c2, rfl⟩ := i2.slice
      exact ⟨a2, c2, rfl, (q.1.tu (Tu.of_below q3)).c, i2⟩
    · rintro e w' ⟨rfl, n, rfl⟩
      exact ⟨rfl, (q.1.tu (tu_drewN _ n)).c⟩
    · rintro e w' ⟨rfl, t⟩
      refine ⟨ret_int ?_, (q.1.tu t).c⟩
      rw [Sc.bs_size, Sc.bs_size]
      rfl
  have HSm : Hid (∀ V a2 c2, LkC W w1 B g s quota (.slice aq s.q.length cq) n V → Its V (.slice a2 s.q.length c2) s.q → Calls Try.prog 14 #[.slice a2 s.q.length c2, .slice aq s.q.length cq] V fun e w' => e = .returned (.bool true) ∧ LkC W w1 B g s quota (.slice aq s.q.length cq) n w') := fun V a2 c2 q i2 => by
    refine (same_yes _ _ s.q V i2 (q.1.1.its.2 (_, s.q) (by simp)) (by omega)).mono ?_
    rintro e w' ⟨rfl, n, rfl⟩
    exact ⟨rfl, (q.1.tu (tu_drewN _ n)).c⟩
  have HL0 : Hid (Lk W w1 B g s quota (.slice aq s.q.length cq) n (W.alloc (.cells #[.string (Sc.bs s.p), .string (Sc.bs s.h), .slice aq s.q.length cq, .int .i64 (quota : Nat)] 29))) := L0
  have HN : Hid (W.heap.size = n) := hn
  clear h iq L0
  subst hn
  go_enter Try.func10, Try.ntmps10
  go_wp2_with (first
    | (go_at_call 15; refine (HFs.out _ HL0.out).mono ?_; rintro e w2 ⟨rfl, l2⟩; have K2 : Hid (Lk W w1 B g s quota (.slice aq s.q.length cq) W.heap.size w2) := l2; have c20 := l2.c.2.1; clear l2)
    | (go_at_call 12; refine (HFr.out _).mono ?_; rintro e wx ⟨rfl, rfl⟩))
  generalize W.heap.size = n at *
  have s0 : LkC W w1 B g s quota (.slice aq s.q.length cq) n w2.drew := (K2.out.tu (Tu.refl _ _).drew).c
  generalize s.used = U at *
  clear K2 HFs HFr HL0 HN c20
  go_region_held3 (fun w' => Lk W w1 B g s quota (.slice aq s.q.length cq) n w' ∧ w'.cell? ⟨n, 0, none⟩ = some (.string (Sc.bs s.p)) ∧ w'.cell? ⟨n, 1, none⟩ = some (.string (Sc.bs s.h)) ∧ w'.cell? ⟨n, 2, none⟩ = some (.slice aq s.q.length cq) ∧ w'.cell? ⟨n, 3, none⟩ = some (.int .i64 (quota : Nat))) ((first | exact s0 | exact l9)) (first
    | (go_at_call 17; refine (HPt.out _ (by assumption)).1.mono ?_; rintro e wn ⟨rfl, l9⟩)
    | (go_at_call 18; refine (HPt.out _ (by assumption)).2.1.mono ?_; rintro e wn ⟨rfl, l9⟩)
    | (go_at_call 19; refine (HPt.out _ (by assumption)).2.2.1.mono ?_; rintro e wn ⟨a2, c2, rfl, l9, i9⟩)
    | (go_at_call 20; refine (HPt.out _ (by assumption)).2.2.2.1.mono ?_; rintro e wn ⟨rfl, l9⟩)
    | (go_at_call 32; refine (HPt.out _ (by assumption)).2.2.2.2.mono ?_; rintro e wn ⟨rfl, l9⟩)
    | (go_at_call 14; refine (HSm.out _ _ _ (by assumption) i9).mono ?_; rintro e wn ⟨rfl, l9⟩))
  all_goals
    go_wp2_with fail
    go_ret
    refine ⟨?_, l9.1.2.2⟩
    simp
end Go.Proofs.Ytngmaijfahjfcaa
