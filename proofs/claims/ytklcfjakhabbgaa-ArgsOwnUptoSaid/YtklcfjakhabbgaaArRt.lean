/- Which command lines are right: args.Right and the reference's. -/
import Derived.Test.YtklcfjakhabbgaaArSf
namespace Go.Proofs.Ytklcfjakhabbgaa
open Go.RowKit

theorem bcell {W w1 : World} (hb : Below W.heap.size W w1) : (∀ b o, b < W.heap.size → w1.cell? ⟨b, o, none⟩ = W.cell? ⟨b, o, none⟩) ∧ (∀ b o, b < W.heap.size → w1.frozen? ⟨b, o, none⟩ = W.frozen? ⟨b, o, none⟩) :=
  ⟨fun b o h => hb.cell (p := ⟨b, o, none⟩) h, fun b o h => hb.frozen (p := ⟨b, o, none⟩) h⟩

set_option maxRecDepth 100000 in
set_option maxHeartbeats 1000000 in
theorem right_any (x : Ar.Av) (a b : Option Addr) (c d : Nat) (w : World) (hx : x.sf.size ≤ maxLen) (hn : x.sc.length ≤ 1099511627776) :
    Calls Try.prog 17 #[.agg (avA x a c b d)] w fun e w' => e = .returned (.bool (Ar.rightB x)) ∧ Below w.heap.size w w' := by
  have hbA : Below w.heap.size w ((w.alloc (.cells (avA x a c b d) 28)).alloc (.cells #[.bool x.q, .bool x.e, .bool x.s, .bool x.i, .string x.sf] 25)) := ((Below.refl _ _).alloc (Nat.le_refl _) _).alloc (by simp) _
  have HI : Hid (Calls Try.prog 30 #[.string x.sf] ((w.alloc (.cells (avA x a c b d) 28)).alloc (.cells #[.bool x.q, .bool x.e, .bool x.s, .bool x.i, .string x.sf] 25)) _) := sfx_any x.sf _ hx
  obtain ⟨R, hR⟩ : ∃ R, R = Ar.rightB x := ⟨_, rfl⟩
  rw [← hR]
  obtain ⟨q, e, s, i, sf, sc, nm⟩ := x
  simp only [Ar.rightB] at hR
  have HR : Hid _ := hR
  clear hR
  simp only [avA] at *
  have HbA : Hid _ := hbA
  clear hbA
  by_cases h0 : 0 < sc.length
  · have h0i : (0 : Int) < (sc.length : Int) := by omega
    generalize sc.length = n at *
    generalize hsf : Ar.sfxB sf = F at *
    cases F
    · have HF : Hid (R = false) := by show _ = _; rw [HR.out]; simp
      clear HR hsf
      go_enter Try.func17, Try.ntmps17
      go_wp2_with (go_at_call 30; refine Calls.mono HI.out ?_; rintro e w5 ⟨rfl, hb⟩)
      go_ret
      exact ⟨ret_bool HF.out.symm, below_up HbA.out hb (by simp)⟩
    · cases i
      · cases hem : sf.toList.isEmpty
        · have HF : Hid (R = false) := by show _ = _; rw [HR.out, hem]; simp
          clear HR hsf
          go_enter Try.func17, Try.ntmps17
          go_wp2_with (go_at_call 30; refine Calls.mono HI.out ?_; rintro e w5 ⟨rfl, hb⟩; obtain ⟨hc, hf⟩ := bcell hb)
          go_ret
          exact ⟨ret_bool HF.out.symm, below_up HbA.out hb (by simp)⟩
        · have HF : Hid (R = true) := by show _ = _; rw [HR.out, hem]; simp [h0]
          clear HR hsf
          cases s
          all_goals
            go_enter Try.func17, Try.ntmps17
            go_wp2_with (go_at_call 30; refine Calls.mono HI.out ?_; rintro e w5 ⟨rfl, hb⟩; obtain ⟨hc, hf⟩ := bcell hb)
            go_ret
            exact ⟨ret_bool HF.out.symm, below_up HbA.out hb (by simp)⟩
      · cases s
        · have HF : Hid (R = false) := by show _ = _; rw [HR.out]; simp
          clear HR hsf
          go_enter Try.func17, Try.ntmps17
          go_wp2_with (go_at_call 30; refine Calls.mono HI.out ?_; rintro e w5 ⟨rfl, hb⟩; obtain ⟨hc, hf⟩ := bcell hb)
          go_ret
          exact ⟨ret_bool HF.out.symm, below_up HbA.out hb (by simp)⟩
        · have HF : Hid (R = true) := by show _ = _; rw [HR.out]; simp [h0]
          clear HR hsf
          go_enter Try.func17, Try.ntmps17
          go_wp2_with (go_at_call 30; refine Calls.mono HI.out ?_; rintro e w5 ⟨rfl, hb⟩; obtain ⟨hc, hf⟩ := bcell hb)
          go_ret
          exact ⟨ret_bool HF.out.symm, below_up HbA.out hb (by simp)⟩
  · have h0i : ¬ (0 : Int) < (sc.length : Int) := by omega
    have HF : Hid (R = false) := by show _ = _; rw [HR.out, decide_eq_false h0]; simp
    clear HR
    go_enter Try.func17, Try.ntmps17
    go_wp2_with fail
    go_ret
    exact ⟨ret_bool HF.out.symm, HbA.out⟩

set_option maxRecDepth 100000 in
set_option maxHeartbeats 1000000 in
theorem rright_any (x : Ar.Av) (a b : Option Addr) (c d : Nat) (w : World) (hx : x.sf.size ≤ maxLen) (hn : x.sc.length ≤ 1099511627776) :
    Calls Try.prog 18 #[.agg (avA x a c b d)] w fun e w' => e = .returned (.bool (Ar.rightB x)) ∧ Below w.heap.size w w' := by
  have HI : Hid (∀ w1, Calls Try.prog 31 #[.string x.sf] w1 _) := fun w1 => rsfx_any x.sf w1 hx
  obtain ⟨R, hR⟩ : ∃ R, R = Ar.rightB x := ⟨_, rfl⟩
  rw [← hR]
  obtain ⟨q, e, s, i, sf, sc, nm⟩ := x
  simp only [Ar.rightB] at hR
  have HR : Hid _ := hR
  clear hR
  simp only [avA] at *
  generalize hsf : Ar.sfxB sf = F at *
  cases F
  · have HF : Hid (R = false) := by show _ = _; rw [HR.out]; simp
    clear HR hsf
    go_enter Try.func18, Try.ntmps18
    go_wp2_with (go_at_call 31; refine Calls.mono (HI.out _) ?_; rintro e w5 ⟨rfl, rfl⟩)
    go_ret
    exact ⟨ret_bool HF.out.symm, alloc_below _ _⟩
  by_cases h0 : 0 < sc.length
  · have h0i : (0 : Int) < (sc.length : Int) := by omega
    generalize sc.length = n at *
    cases hem : sf.toList.isEmpty
    · cases i
      · have HF : Hid (R = false) := by show _ = _; rw [HR.out, hem]; simp
        clear HR hsf
        go_enter Try.func18, Try.ntmps18
        go_wp2_with (go_at_call 31; refine Calls.mono (HI.out _) ?_; rintro e w5 ⟨rfl, rfl⟩)
        go_ret
        exact ⟨ret_bool HF.out.symm, alloc_below _ _⟩
      · have HF : Hid (R = s) := by show _ = _; rw [HR.out]; simp [h0]
        clear HR hsf
        cases s
        all_goals
          go_enter Try.func18, Try.ntmps18
          go_wp2_with (go_at_call 31; refine Calls.mono (HI.out _) ?_; rintro e w5 ⟨rfl, rfl⟩)
          go_ret
          exact ⟨ret_bool HF.out.symm, alloc_below _ _⟩
    · have HF : Hid (R = (s || !i)) := by show _ = _; rw [HR.out, hem]; simp [h0]
      clear HR hsf
      cases s <;> cases i
      all_goals
        go_enter Try.func18, Try.ntmps18
        go_wp2_with (go_at_call 31; refine Calls.mono (HI.out _) ?_; rintro e w5 ⟨rfl, rfl⟩)
        go_ret
        exact ⟨ret_bool HF.out.symm, alloc_below _ _⟩
  · have h0i : ¬ (0 : Int) < (sc.length : Int) := by omega
    have HF : Hid (R = false) := by show _ = _; rw [HR.out, decide_eq_false h0]; simp
    clear HR hsf
    go_enter Try.func18, Try.ntmps18
    go_wp2_with (go_at_call 31; refine Calls.mono (HI.out _) ?_; rintro e w5 ⟨rfl, rfl⟩)
    go_ret
    exact ⟨ret_bool HF.out.symm, alloc_below _ _⟩
end Go.Proofs.Ytklcfjakhabbgaa
