/- A space that a law has for itself; what the law's begins answers: a text is set and put, within a quota. -/
import Derived.Test.YtngmaijfahjfcaaSpM1
import Derived.Test.YtngmaijfahjfcaaSpM5
import Derived.Test.YtngmaijfahjfcaaSpM6
namespace Go.Proofs.Ytngmaijfahjfcaa
open Go.RowKit

/-- All that the space has lies from g on; ahead of g nothing has turned. -/
def Ob (w : World) (g : Nat) (s : Sc.St) (quota : Nat) (W : World) : Prop := ∃ S, Sp W S g s quota ∧ Below g w W ∧ ∀ k, S k → g ≤ k
theorem Ob.after {w : World} {g : Nat} {s t : Sc.St} {quota : Nat} {W w' : World} {S : Nat → Prop} (h1 : Sp W S g s quota) (h2 : Below g w W) (h3 : ∀ k, S k → g ≤ k) (h : Aft W S g t quota w') : Ob w g t quota w' := by
  obtain ⟨S', q1, q2, q3⟩ := h
  have hs : g < W.heap.size := by obtain ⟨_, _, _, q⟩ := h1; exact q.gl
  exact ⟨S', q1, h2.trans (q2.below (by omega) h3), fun k hk => by
    rcases q3 k hk with q | q
    · exact h3 k q
    · omega⟩
theorem Ob.fit {w : World} {g : Nat} {s t : Sc.St} {quota : Nat} {W : World} {f : Nat} {args : Array Value} (h : Ob w g s quota W) (hu : t.used ≤ quota)
    (hc : ∀ S, Sp W S g s quota → Calls Try.prog f args W fun e w' => e = .returned (.int .i64 (Sc.ask quota s t).1) ∧ Aft W S g (Sc.ask quota s t).2 quota w') :
    Calls Try.prog f args W fun e w' => e = .returned (.int .i64 0) ∧ Ob w g t quota w' := by
  obtain ⟨S, h1, h2, h3⟩ := h
  have e : Sc.ask quota s t = (0, t) := if_pos hu
  refine (hc S h1).mono ?_
  rw [e]
  rintro e w' ⟨rfl, q⟩
  exact ⟨rfl, Ob.after h1 h2 h3 q⟩
theorem Ob.full {w : World} {g : Nat} {s t : Sc.St} {quota : Nat} {W : World} {f : Nat} {args : Array Value} (h : Ob w g s quota W) (hu : ¬ t.used ≤ quota)
    (hc : ∀ S, Sp W S g s quota → Calls Try.prog f args W fun e w' => e = .returned (.int .i64 (Sc.ask quota s t).1) ∧ Aft W S g (Sc.ask quota s t).2 quota w') :
    Calls Try.prog f args W fun e w' => e = .returned (.int .i64 180) ∧ Ob w g s quota w' := by
  obtain ⟨S, h1, h2, h3⟩ := h
  have e : Sc.ask quota s t = (180, s) := if_neg hu
  refine (hc S h1).mono ?_
  rw [e]
  rintro e w' ⟨rfl, q⟩
  exact ⟨rfl, Ob.after h1 h2 h3 q⟩
theorem Ob.made {w : World} {quota : Nat} (hq : quota ≤ 1073741824) :
    Calls Try.prog 9 #[.int .i64 (quota : Nat)] w fun e w' => e = .returned (.tuple #[.pointer (some ⟨w.heap.size, 0, none⟩), .int .i64 0]) ∧ Ob w w.heap.size .nil quota w' := by
  refine (new_any quota w hq).mono ?_
  rintro e w' ⟨rfl, h1, h2, h3⟩
  exact ⟨rfl, _, h1, h2.below (Nat.le_refl _) (fun _ e => e.elim), fun k e => by rw [e]; exact Nat.le_refl _⟩
theorem Ob.drew {w : World} {g : Nat} {s : Sc.St} {quota : Nat} {W : World} (h : Ob w g s quota W) (n : Nat) : Ob w g s quota (W.drewN n) := by
  obtain ⟨S, ⟨pv, hv, qv, h1⟩, h2, h3⟩ := h
  have hs := h1.gl
  exact ⟨S, ⟨pv, hv, qv, h1.tu (tu_drewN W n) (fun _ _ e => e)⟩, h2.trans ((tu_drewN (O := fun _ => False) W n).below (by omega) (fun _ e => e.elim)), h3⟩

theorem Ob.below {w : World} {g : Nat} {s : Sc.St} {quota : Nat} {W : World} (h : Ob w g s quota W) : Below g w W := by
  obtain ⟨_, _, h2, _⟩ := h
  exact h2
set_option maxRecDepth 100000 in
set_option maxHeartbeats 1000000 in
theorem begins_any (w : World) :
    Calls Try.prog 16 #[] w fun e w' => e = .returned (.bool true) ∧ Below w.heap.size w w' := by
  have HN : Hid (Calls Try.prog 9 #[.int .i64 5] w fun e w' => e = .returned (.tuple #[.pointer (some ⟨w.heap.size, 0, none⟩), .int .i64 0]) ∧ Ob w w.heap.size .nil 5 w') := Ob.made (quota := 5) (by decide)
  generalize hg : w.heap.size = g at *
  have HG : Hid (w.heap.size = g) := hg
  clear hg
  have H1 : Hid (∀ W, Ob w g .nil 5 W → Calls Try.prog 22 #[.pointer (some ⟨g, 0, none⟩), .string ⟨#[97, 98, 99]⟩] W fun e w' => e = .returned (.int .i64 0) ∧ Ob w g ⟨[97, 98, 99], [], []⟩ 5 w') := fun W h => h.fit (by decide) (fun S q => set_any S g _ _ ⟨#[97, 98, 99]⟩ _ q (by decide))
  have H2 : Hid (∀ W, Ob w g ⟨[97, 98, 99], [], []⟩ 5 W → Calls Try.prog 23 #[.pointer (some ⟨g, 0, none⟩)] W fun e w' => e = .returned (.int .i64 180) ∧ Ob w g ⟨[97, 98, 99], [], []⟩ 5 w') := fun W h => h.full (t := ⟨[97, 98, 99], [97, 98, 99], []⟩) (by decide) (fun S q => put_any S g _ _ _ q)
  have H3 : Hid (∀ W, Ob w g ⟨[97, 98, 99], [], []⟩ 5 W → Calls Try.prog 22 #[.pointer (some ⟨g, 0, none⟩), .string ⟨#[97, 98]⟩] W fun e w' => e = .returned (.int .i64 0) ∧ Ob w g ⟨[97, 98], [], []⟩ 5 w') := fun W h => h.fit (by decide) (fun S q => set_any S g _ _ ⟨#[97, 98]⟩ _ q (by decide))
  have H4 : Hid (∀ W, Ob w g ⟨[97, 98], [], []⟩ 5 W → Calls Try.prog 23 #[.pointer (some ⟨g, 0, none⟩)] W fun e w' => e = .returned (.int .i64 0) ∧ Ob w g ⟨[97, 98], [97, 98], []⟩ 5 w') := fun W h => h.fit (by decide) (fun S q => put_any S g _ _ _ q)
  have H5 : Hid (∀ W, Ob w g ⟨[97, 98], [97, 98], []⟩ 5 W → (Calls Try.prog 17 #[.pointer (some ⟨g, 0, none⟩)] W fun e w' => e = .returned (.string ⟨#[97, 98]⟩) ∧ W = w') ∧ (Calls Try.prog 18 #[.pointer (some ⟨g, 0, none⟩)] W fun e w' => e = .returned (.string ⟨#[97, 98]⟩) ∧ W = w') ∧ (Calls Try.prog 20 #[.pointer (some ⟨g, 0, none⟩)] W fun e w' => e = .returned (.int .i64 4) ∧ ∃ n, w' = W.drewN n)) := fun W ⟨S, h, _⟩ => ⟨pattern_any S g _ _ _ h, hold_any S g _ _ _ h, used_any S g _ _ _ h⟩
  go_enter Try.func16, Try.ntmps16
  go_wp2_with (first
    | (go_at_call 9; refine HN.out.mono ?_; rintro e w1 ⟨rfl, h1⟩; have K1 : Hid (Ob w g .nil 5 w1) := h1; clear h1)
    | (go_at_call 22; refine (H3.out _ K3.out).mono ?_; rintro e w4 ⟨rfl, h1⟩; have K4 : Hid (Ob w g ⟨[97, 98], [], []⟩ 5 w4) := h1; clear h1)
    | (go_at_call 22; refine (H1.out _ K1.out).mono ?_; rintro e w2 ⟨rfl, h1⟩; have K2 : Hid (Ob w g ⟨[97, 98, 99], [], []⟩ 5 w2) := h1; clear h1)
    | (go_at_call 23; refine (H4.out _ K4.out).mono ?_; rintro e w5 ⟨rfl, h1⟩; have K5 : Hid (Ob w g ⟨[97, 98], [97, 98], []⟩ 5 w5) := h1; clear h1)
    | (go_at_call 23; refine (H2.out _ K2.out).mono ?_; rintro e w3 ⟨rfl, h1⟩; have K3 : Hid (Ob w g ⟨[97, 98, 99], [], []⟩ 5 w3) := h1; clear h1)
    | (go_at_call 17; refine (H5.out _ K5.out).1.mono ?_; rintro e w6 ⟨rfl, rfl⟩)
    | (go_at_call 18; refine (H5.out _ K5.out).2.1.mono ?_; rintro e w6 ⟨rfl, rfl⟩)
    | (go_at_call 20; refine (H5.out _ K5.out).2.2.mono ?_; rintro e w6 ⟨rfl, n6, rfl⟩))
  go_ret
  exact ⟨rfl, (K5.out.drew n6).below⟩
end Go.Proofs.Ytngmaijfahjfcaa
