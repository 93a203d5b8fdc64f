/- What (*Input).Err, now, its tellers and following answer. -/
import Derived.Test.YthmofbcjhfcokaaInB
import Derived.BigRegion
namespace Go.Proofs.Ythmofbcjhfcokaa
open Go.RowKit

namespace In
abbrev tkA (k : Tk) : Array Value := #[.int .i64 (k.pl : Int), .int .i64 (k.no : Int), .bool k.last, .bool k.fresh, .string k.data]
/-- What is told of the next line, but whether it is a last one. -/
def next (sep : Bool) (s : St) : Tk :=
  let fr := decide (0 < s.ln.no) && decide (s.asked - 1 ≠ s.ln.pl)
  ⟨s.asked - 1, if sep && fr then 1 else s.ln.no + 1, false, fr, s.text⟩
end In
/-- w reads as w' does, and more may have been laid. -/
theorem InV.below {w w' : World} {g gs : Nat} {T : List In.Tl} {sep : Bool} {s : In.St} {ta : Option Addr} {tc : Nat} {av : Value} (h : InV w g gs T sep s ta tc av) (hb : Below w.heap.size w w') : InV w' g gs T sep s ta tc av :=
  h.tu (O := fun _ => False) (Tu.of_below hb) (fun _ _ _ e => e) (fun _ _ e => e)

set_option maxRecDepth 100000 in
set_option maxHeartbeats 1000000 in
theorem err_any (g gs : Nat) (T : List In.Tl) (sep : Bool) (s : In.St) (ta : Option Addr) (tc : Nat) (av : Value) (w : World) (h : InV w g gs T sep s ta tc av) :
    Calls Try.prog 12 #[.pointer (some ⟨g, 0, none⟩)] w fun e w' => e = .returned (.int .i64 s.why) ∧ w = w' := by
  obtain ⟨c0, c1, c2, c3, c4, c5, c6, c7⟩ := icell h.cell
  clear h
  go_enter Try.func12, Try.ntmps12
  go_wp2
  go_ret
  exact ⟨rfl, rfl⟩
set_option maxRecDepth 100000 in
set_option maxHeartbeats 1000000 in
theorem err_nil (w : World) : Calls Try.prog 12 #[.pointer none] w fun e w' => e = .returned (.int .i64 1) ∧ w = w' := by
  go_enter Try.func12, Try.ntmps12
  go_wp2
  go_ret
  exact ⟨rfl, rfl⟩
set_option maxRecDepth 100000 in
set_option maxHeartbeats 1000000 in
theorem passed_any (g gs : Nat) (T : List In.Tl) (sep : Bool) (s : In.St) (ta : Option Addr) (tc : Nat) (av : Value) (w : World) (h : InV w g gs T sep s ta tc av) :
    Calls Try.prog 23 #[.pointer (some ⟨g, 0, none⟩)] w fun e w' => e = .returned (.bool s.passed) ∧ w = w' := by
  obtain ⟨c0, c1, c2, c3, c4, c5, c6, c7⟩ := icell h.cell
  clear h
  go_enter Try.func23, Try.ntmps23
  go_wp2
  go_ret
  exact ⟨rfl, rfl⟩
set_option maxRecDepth 100000 in
set_option maxHeartbeats 1000000 in
theorem passed_nil (w : World) : Calls Try.prog 23 #[.pointer none] w fun e w' => e = .returned (.bool false) ∧ w = w' := by
  go_enter Try.func23, Try.ntmps23
  go_wp2
  go_ret
  exact ⟨rfl, rfl⟩
set_option maxRecDepth 100000 in
set_option maxHeartbeats 1000000 in
theorem now_any (g gs : Nat) (T : List In.Tl) (sep : Bool) (s : In.St) (ta : Option Addr) (tc : Nat) (av : Value) (w : World) (h : InV w g gs T sep s ta tc av) :
    Calls Try.prog 28 #[.pointer (some ⟨g, 0, none⟩)] w fun e w' => e = .returned (.agg (In.tkA s.ln)) ∧ Below w.heap.size w w' := by
  obtain ⟨c8, c9, c10, c11, c12⟩ := icell_ln h.cell
  have hgl := h.lt
  clear h
  go_enter Try.func28, Try.ntmps28
  go_wp2
  refine bodyPost_ret (results_cell_row rfl _ _ w.heap.size _ (In.tkA s.ln) _ _ rfl (heap_alloc_new w _) Try.underlying58 rfl (by kernel_rfl)) rfl ?_
  exact ⟨rfl, alloc_below w _⟩
set_option maxRecDepth 100000 in
set_option maxHeartbeats 1000000 in
theorem now_nil (w : World) : Calls Try.prog 28 #[.pointer none] w fun e w' => e = .returned (.agg (In.tkA ⟨0, 0, false, false, ⟨#[]⟩⟩)) ∧ Below w.heap.size w w' := by
  go_enter Try.func28, Try.ntmps28
  go_wp2
  refine bodyPost_ret (results_cell_row rfl _ _ w.heap.size _ (In.tkA ⟨0, 0, false, false, ⟨#[]⟩⟩) _ _ rfl (heap_alloc_new w _) Try.underlying58 rfl (by kernel_rfl)) rfl ?_
  exact ⟨rfl, alloc_below w _⟩
set_option maxRecDepth 100000 in
set_option maxHeartbeats 1000000 in
theorem last_of (x : Value) (K : In.Tk) (w : World) (hN : Calls Try.prog 28 #[x] w fun e w' => e = .returned (.agg (In.tkA K)) ∧ Below w.heap.size w w') :
    Calls Try.prog 21 #[x] w fun e w' => e = .returned (.bool K.last) ∧ Below w.heap.size w w' := by
  have HN : Hid _ := hN
  clear hN
  have hf : ∀ w, (Instr.field 58 (.agg (In.tkA K)) 2).run Try.prog w = .ok (.bool K.last) w := fun _ => by kernel_rfl
  go_enter Try.func21, Try.ntmps21
  go_wp2_with (go_at_call 28; refine Calls.mono HN.out ?_; rintro e w1 ⟨rfl, hb1⟩)
  go_ret
  exact ⟨rfl, hb1⟩
set_option maxRecDepth 100000 in
set_option maxHeartbeats 1000000 in
theorem number_of (x : Value) (K : In.Tk) (w : World) (hN : Calls Try.prog 28 #[x] w fun e w' => e = .returned (.agg (In.tkA K)) ∧ Below w.heap.size w w') :
    Calls Try.prog 18 #[x] w fun e w' => e = .returned (.int .i64 (K.no : Int)) ∧ Below w.heap.size w w' := by
  have HN : Hid _ := hN
  clear hN
  have hf : ∀ w, (Instr.field 58 (.agg (In.tkA K)) 1).run Try.prog w = .ok (.int .i64 (K.no : Int)) w := fun _ => by kernel_rfl
  go_enter Try.func18, Try.ntmps18
  go_wp2_with (go_at_call 28; refine Calls.mono HN.out ?_; rintro e w1 ⟨rfl, hb1⟩)
  go_ret
  exact ⟨rfl, hb1⟩
set_option maxRecDepth 100000 in
set_option maxHeartbeats 1000000 in
theorem at_of (x : Value) (K : In.Tk) (w : World) (hN : Calls Try.prog 28 #[x] w fun e w' => e = .returned (.agg (In.tkA K)) ∧ Below w.heap.size w w') :
    Calls Try.prog 17 #[x] w fun e w' => e = .returned (.int .i64 (K.pl : Int)) ∧ Below w.heap.size w w' := by
  have HN : Hid _ := hN
  clear hN
  have hf : ∀ w, (Instr.field 58 (.agg (In.tkA K)) 0).run Try.prog w = .ok (.int .i64 (K.pl : Int)) w := fun _ => by kernel_rfl
  go_enter Try.func17, Try.ntmps17
  go_wp2_with (go_at_call 28; refine Calls.mono HN.out ?_; rintro e w1 ⟨rfl, hb1⟩)
  go_ret
  exact ⟨rfl, hb1⟩
set_option maxRecDepth 100000 in
set_option maxHeartbeats 1000000 in
theorem fresh_of (x : Value) (K : In.Tk) (w : World) (hN : Calls Try.prog 28 #[x] w fun e w' => e = .returned (.agg (In.tkA K)) ∧ Below w.heap.size w w') :
    Calls Try.prog 19 #[x] w fun e w' => e = .returned (.bool K.fresh) ∧ Below w.heap.size w w' := by
  have HN : Hid _ := hN
  clear hN
  have hf : ∀ w, (Instr.field 58 (.agg (In.tkA K)) 3).run Try.prog w = .ok (.bool K.fresh) w := fun _ => by kernel_rfl
  go_enter Try.func19, Try.ntmps19
  go_wp2_with (go_at_call 28; refine Calls.mono HN.out ?_; rintro e w1 ⟨rfl, hb1⟩)
  go_ret
  exact ⟨rfl, hb1⟩
set_option maxRecDepth 100000 in
set_option maxHeartbeats 1000000 in
theorem data_of (x : Value) (K : In.Tk) (w : World) (hN : Calls Try.prog 28 #[x] w fun e w' => e = .returned (.agg (In.tkA K)) ∧ Below w.heap.size w w') :
    Calls Try.prog 20 #[x] w fun e w' => e = .returned (.string K.data) ∧ Below w.heap.size w w' := by
  have HN : Hid _ := hN
  clear hN
  have hf : ∀ w, (Instr.field 58 (.agg (In.tkA K)) 4).run Try.prog w = .ok (.string K.data) w := fun _ => by kernel_rfl
  go_enter Try.func20, Try.ntmps20
  go_wp2_with (go_at_call 28; refine Calls.mono HN.out ?_; rintro e w1 ⟨rfl, hb1⟩)
  go_ret
  exact ⟨rfl, hb1⟩

set_option maxRecDepth 100000 in
set_option maxHeartbeats 1000000 in
theorem following_any (g gs : Nat) (T : List In.Tl) (sep : Bool) (s : In.St) (ta : Option Addr) (tc : Nat) (av : Value) (w : World) (h : InV w g gs T sep s ta tc av) (ha : 1 ≤ s.asked) (hno : s.ln.no < 1000000000000) :
    Calls Try.prog 27 #[.pointer (some ⟨g, 0, none⟩)] w fun e w' => e = .returned (.agg (In.tkA (In.next sep s))) ∧ Below w.heap.size w w' := by
  obtain ⟨c0, c1, c2, c3, c4, c5, c6, c7⟩ := icell h.cell
  obtain ⟨c8, c9, c10, c11, c12⟩ := icell_ln h.cell
  have hgl := h.lt
  have hl := h.len
  have has := h.asked
  have e1 : IntKind.i64.wrap ((s.asked : Int) - 1) = ((s.asked - 1 : Nat) : Int) := by rw [IntKind.wrap_i64]; omega
  have e2 : IntKind.i64.wrap ((s.ln.no : Int) + 1) = (s.ln.no : Int) + 1 := by rw [IntKind.wrap_i64]; omega
  clear h
  go_enter Try.func27, Try.ntmps27
  obtain ⟨pl, hpl⟩ : ∃ pl, pl = s.asked - 1 := ⟨_, rfl⟩
  have HX : Hid (In.next sep s = ⟨pl, if sep && (decide (0 < s.ln.no) && decide (pl ≠ s.ln.pl)) then 1 else s.ln.no + 1, false, decide (0 < s.ln.no) && decide (pl ≠ s.ln.pl), s.text⟩) := by rw [hpl]; rfl
  rw [← hpl] at e1
  have HP : Hid (pl = s.asked - 1) := hpl
  clear hpl
  have n1 : ¬ g = w.heap.size := by omega
  have n2 : ¬ g = w.heap.size + 1 := by omega
  go_wp2
  go_region
  all_goals
    by_cases k1 : 0 < s.ln.no
    · cases k2 : ((pl : Int) != (s.ln.pl : Int))
      · have k1i : decide ((0 : Int) < (s.ln.no : Int)) = true := by simp; omega
        have k1j : (0 : Int) < (s.ln.no : Int) := by omega
        have HY : Hid (In.next sep s = ⟨pl, s.ln.no + 1, false, false, s.text⟩) := by show _ = _; rw [HX.out]; have : pl = s.ln.pl := (by simp at k2; omega); simp [this]
        go_wp2_with fail
        go_region
        all_goals
          go_wp2_with fail
          all_goals
            refine bodyPost_ret (results_cell_row rfl _ _ w.heap.size _ (In.tkA ⟨pl, s.ln.no + 1, false, false, s.text⟩) _ _ rfl (heap_alloc2_old w _ _) Try.underlying58 rfl (by kernel_rfl)) rfl ?_
            refine ⟨?_, (((Below.refl _ w).alloc (Nat.le_refl _) _).alloc (by simp) _).drew.drew⟩
            rw [HY.out]
      · cases sep
        · have k1i : decide ((0 : Int) < (s.ln.no : Int)) = true := by simp; omega
          have k1j : (0 : Int) < (s.ln.no : Int) := by omega
          have HY : Hid (In.next false s = ⟨pl, s.ln.no + 1, false, true, s.text⟩) := by show _ = _; rw [HX.out]; have : ¬ pl = s.ln.pl := (by simp at k2; omega); simp [this, k1]
          go_wp2_with fail
          go_region
          all_goals
            go_wp2_with fail
            all_goals
              refine bodyPost_ret (results_cell_row rfl _ _ w.heap.size _ (In.tkA ⟨pl, s.ln.no + 1, false, true, s.text⟩) _ _ rfl (heap_alloc2_old w _ _) Try.underlying58 rfl (by kernel_rfl)) rfl ?_
              refine ⟨?_, (((Below.refl _ w).alloc (Nat.le_refl _) _).alloc (by simp) _).drew.drew⟩
              rw [HY.out]
        · have k1i : decide ((0 : Int) < (s.ln.no : Int)) = true := by simp; omega
          have k1j : (0 : Int) < (s.ln.no : Int) := by omega
          have HY : Hid (In.next true s = ⟨pl, 1, false, true, s.text⟩) := by show _ = _; rw [HX.out]; have : ¬ pl = s.ln.pl := (by simp at k2; omega); simp [this, k1]
          go_wp2_with fail
          go_region
          all_goals
            go_wp2_with fail
            all_goals
              refine bodyPost_ret (results_cell_row rfl _ _ w.heap.size _ (In.tkA ⟨pl, 1, false, true, s.text⟩) _ _ rfl (heap_alloc2_old w _ _) Try.underlying58 rfl (by kernel_rfl)) rfl ?_
              refine ⟨?_, (((Below.refl _ w).alloc (Nat.le_refl _) _).alloc (by simp) _).drew.drew⟩
              rw [HY.out]
    · have k1i : decide ((0 : Int) < (s.ln.no : Int)) = false := by simp; omega
      have k1j : ¬ (0 : Int) < (s.ln.no : Int) := by omega
      have HY : Hid (In.next sep s = ⟨pl, s.ln.no + 1, false, false, s.text⟩) := by show _ = _; rw [HX.out]; simp [k1]
      go_wp2_with fail
      go_region
      all_goals
        go_wp2_with fail
        all_goals
          refine bodyPost_ret (results_cell_row rfl _ _ w.heap.size _ (In.tkA ⟨pl, s.ln.no + 1, false, false, s.text⟩) _ _ rfl (heap_alloc2_old w _ _) Try.underlying58 rfl (by kernel_rfl)) rfl ?_
          refine ⟨?_, (((Below.refl _ w).alloc (Nat.le_refl _) _).alloc (by simp) _).drew.drew⟩
          rw [HY.out]
end Go.Proofs.Ythmofbcjhfcokaa
