/- What (*Space).ask does with a thing that it is handed. -/
import Derived.Test.YtngmaijfahjfcaaSpS
namespace Go.Proofs.Ytngmaijfahjfcaa
open Go.RowKit

theorem tu_drewN {O : Nat → Prop} (w : World) (n : Nat) : Tu O w (w.drewN n) := ⟨rfl, rfl, rfl, Nat.le_refl _, fun _ _ _ => rfl⟩
set_option maxRecDepth 100000 in
set_option maxHeartbeats 1000000 in
/-- The thing tells by how many bytes the space would grow, and what makes it grow: that is called just if they fit. -/
theorem ask_any (S : Nat → Prop) (g : Nat) (s : Sc.St) (quota : Nat) (w : World) (h : Sp w S g s quota) (th dof : Nat) (caps dcaps : Array Value) (grow : Int) (R : World → Prop) (Post : World → Prop)
    (hg1 : -2147483648 ≤ grow) (hg2 : grow ≤ 281474976710656)
    (eth : ∀ args w, (callFunc th args).run Try.prog w = .ok (.enter th args) w) (edo : ∀ args w, (callFunc dof args).run Try.prog w = .ok (.enter dof args) w)
    (hth : Calls Try.prog th (#[.pointer (some ⟨g, 0, none⟩)] ++ caps) w fun e w1 => e = .returned (.tuple #[.int .i64 grow, .func (.func dof) #[] dcaps]) ∧ R w1)
    (hR : ∀ w1, R w1 → Tu (fun _ => False) w w1)
    (hdo : (s.used : Int) + grow ≤ quota → ∀ w1 n, R w1 → Calls Try.prog dof dcaps (w1.drewN n) fun e w2 => e = .returned (.tuple #[]) ∧ Post w2) :
    Calls Try.prog 36 #[.pointer (some ⟨g, 0, none⟩), .func (.func th) #[] caps] w fun e w' =>
      ((s.used : Int) + grow ≤ quota → e = .returned (.int .i64 0) ∧ Post w') ∧ (¬ ((s.used : Int) + grow ≤ quota) → e = .returned (.int .i64 180) ∧ ∃ w1 n, R w1 ∧ w' = w1.drewN n) := by
  obtain ⟨pv, hv, qv, h⟩ := h
  have hu := h.used
  have hq := h.quo
  have HS : Hid (SpV w S g s quota pv hv qv) := h
  clear h
  go_enter Try.func36, Try.ntmps36
  go_wp2_with (first | (refine hth.mono ?_; rintro e w1 ⟨rfl, hR1⟩))
  have h1 : SpV w1 S g s quota pv hv qv := HS.out.tu (hR w1 hR1) (fun _ _ e => e)
  obtain ⟨_, _, _, _, c4⟩ := h1.cells
  have HU : Hid (∀ n, Calls Try.prog 20 #[.pointer (some ⟨g, 0, none⟩)] (w1.drewN n) fun e w' => e = .returned (.int .i64 (s.used : Nat)) ∧ ∃ m, w' = (w1.drewN n).drewN m) := fun n => used_any S g s quota (w1.drewN n) ⟨pv, hv, qv, h1.tu (tu_drewN w1 n) (fun _ _ e => e)⟩
  have HD : Hid ((s.used : Int) + grow ≤ quota → ∀ w1 n, R w1 → Calls Try.prog dof dcaps (w1.drewN n) fun e w2 => e = .returned (.tuple #[]) ∧ Post w2) := hdo
  have HR1 : Hid (R w1) := hR1
  clear h1 hdo hR1 HS hR hth
  generalize hU : s.used = U at *
  have HE : Hid (s.used = U) := hU
  clear hU
  have e1 : IntKind.i64.wrap ((U : Int) + grow) = (U : Int) + grow := by rw [IntKind.wrap_i64]; omega
  by_cases hfit : (U : Int) + grow ≤ quota
  · have hd : decide ((U : Int) + grow > (quota : Int)) = false := by simp; omega
    have hd' : ¬ ((quota : Int) < (U : Int) + grow) := by omega
    go_quiet (first | (go_at_call 20; refine Calls.quiet_of (HU.out _)))
    go_wp2_with (first | (refine (HD.out hfit _ _ HR1.out).mono ?_; rintro e w2 ⟨rfl, hP⟩))
    go_ret
    exact ⟨fun _ => ⟨rfl, hP⟩, fun q => by have := HE.out; omega⟩
  · have hd : decide ((U : Int) + grow > (quota : Int)) = true := by simp; omega
    have hd' : (quota : Int) < (U : Int) + grow := by omega
    go_quiet (first | (go_at_call 20; refine Calls.quiet_of (HU.out _)))
    go_wp2
    go_ret
    exact ⟨fun q => by have := HE.out; omega, fun _ => ⟨rfl, w1, HR1.out, _, rfl⟩⟩
end Go.Proofs.Ytngmaijfahjfcaa
