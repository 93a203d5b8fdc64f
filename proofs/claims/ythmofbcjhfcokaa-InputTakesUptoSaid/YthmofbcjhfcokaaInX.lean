/- The law's again and same. -/
import Derived.Test.YthmofbcjhfcokaaInY
import Derived.Test.YthmofbcjhfcokaaInZ
namespace Go.Proofs.Ythmofbcjhfcokaa
open Go.RowKit

set_option maxRecDepth 100000 in
set_option maxHeartbeats 1000000 in
theorem again_any {W : World} {g gs : Nat} {T : List In.Tl} {sep : Bool} {N : List Nat} {ta : Option Addr} {tc : Nat} {s : In.St} (w : World) (h : Oc W g gs T sep N ta tc s w) (hn : s.rest.data.toList = []) :
    Calls Try.prog 14 #[.pointer (some ⟨g, 0, none⟩), .int .i64 s.why] w fun e w' => e = .returned (.bool true) ∧ Below w.heap.size w w' := by
  have HTk : Hid (∀ wx, Below w.heap.size w wx → Calls Try.prog 11 #[.pointer (some ⟨g, 0, none⟩)] wx fun e w' => e = .returned (.tuple #[.agg #[.string ⟨#[]⟩, .bool false], .bool false, .int .i64 s.why]) ∧ Below w.heap.size w w') := by
    intro wx hx
    obtain ⟨av, h1, _⟩ := (h.still hx).ex
    have e0 : s.rest.toList.isEmpty = true := (In.emp_iff _).2 hn
    refine (take_no g gs T sep s ta tc av wx h1 (fun q => by rw [e0] at q; cases q.2)).mono fun e w' ⟨he, _, hb⟩ => ⟨he, below_up hx hb (Nat.le_refl _)⟩
  have hne := fun wx => line_neq ⟨#[]⟩ ⟨#[]⟩ false false wx
  clear h hn
  go_enter Try.func14, Try.ntmps14
  go_wp2
  go_loopw [5] (fun i wr => ∃ k : Nat, k ≤ 3 ∧ i = .int .i64 k ∧ Hid (Below w.heap.size w wr)) (fun i _ => 3 - (intOf i).toNat)
  case atStart => exact ⟨0, Nat.zero_le _, rfl, Below.refl _ _⟩
  case round =>
    obtain ⟨k, hk, rfl, HR⟩ := hrel
    by_cases hlt : k < 3
    · have hki : (k : Int) < 3 := by omega
      have hki' : decide ((k : Int) < 3) = true := by simp; omega
      go_wp2_with (go_at_call 11; refine Calls.mono (HTk.out _ HR.out) ?_; rintro e w4 ⟨rfl, h4⟩; (have H4 : Hid (Below w.heap.size w (w4.alloc (.cells #[.string ⟨#[]⟩, .bool false] 34))) := h4.alloc h4.size _); clear h4)
      go_roundw
      case rel => exact ⟨k + 1, by omega, by go_num, H4⟩
      case measure => simp [intOf]; omega
    · have hki : ¬ (k : Int) < 3 := by omega
      go_wp2_with fail
      go_ret
      exact ⟨rfl, HR.out⟩
/-- An input beside a state's block. -/
abbrev SmC (w0 W : World) (g gs : Nat) (T : List In.Tl) (sep : Bool) (N : List Nat) (ta : Option Addr) (tc : Nat) (s : In.St) (n : Nat) (w' : World) : Prop := (Oc W g gs T sep N ta tc s w' ∧ n < w'.heap.size ∧ Below w0.heap.size w0 w') ∧ w'.cell? ⟨n, 0, none⟩ = some (.int .i64 s.why) ∧ w'.cell? ⟨n, 1, none⟩ = some (.bool s.ln.last) ∧ w'.cell? ⟨n, 2, none⟩ = some (.int .i64 (s.ln.no : Int)) ∧ w'.cell? ⟨n, 3, none⟩ = some (.int .i64 (s.ln.pl : Int)) ∧ w'.cell? ⟨n, 4, none⟩ = some (.bool s.ln.fresh) ∧ w'.cell? ⟨n, 5, none⟩ = some (.bool s.passed) ∧ w'.cell? ⟨n, 6, none⟩ = some (.string s.ln.data)
theorem SmC.still {w0 W w w2 : World} {g gs : Nat} {T : List In.Tl} {sep : Bool} {N : List Nat} {ta : Option Addr} {tc : Nat} {s : In.St} {n : Nat} (h : SmC w0 W g gs T sep N ta tc s n w) (hb : Below w.heap.size w w2) : SmC w0 W g gs T sep N ta tc s n w2 := by
  obtain ⟨⟨h1, h2, h3⟩, q0, q1, q2, q3, q4, q5, q6⟩ := h
  have e : ∀ j, w2.cell? ⟨n, j, none⟩ = w.cell? ⟨n, j, none⟩ := fun j => hb.cell (p := ⟨n, j, none⟩) h2
  exact ⟨⟨h1.still hb, Nat.lt_of_lt_of_le h2 hb.size, below_up h3 hb (Nat.le_refl _)⟩, (e 0).trans q0, (e 1).trans q1, (e 2).trans q2, (e 3).trans q3, (e 4).trans q4, (e 5).trans q5, (e 6).trans q6⟩
set_option maxRecDepth 100000 in
set_option maxHeartbeats 1000000 in
theorem same_any {W : World} {g gs : Nat} {T : List In.Tl} {sep : Bool} {N : List Nat} {ta : Option Addr} {tc : Nat} {s : In.St} (w : World) (h : Oc W g gs T sep N ta tc s w) (ak : Nat) (x : ByteArray × Bool) (fd : Bool) :
    Calls Try.prog 15 #[.pointer (some ⟨g, 0, none⟩), .agg (In.bhA s.why s.ln s.passed ak x fd)] w fun e w' => e = .returned (.bool true) ∧ Below w.heap.size w w' := by
  have hrow := heap_alloc_new w (.cells (In.bhA s.why s.ln s.passed ak x fd) 36)
  obtain ⟨q0, q1, q2, q3, q4, q5, q6, _⟩ := bh_cells hrow
  have s0 : SmC w W g gs T sep N ta tc s w.heap.size (w.alloc (.cells (In.bhA s.why s.ln s.passed ak x fd) 36)) := ⟨⟨h.still (alloc_below w _), by simp, alloc_below w _⟩, q0, q1, q2, q3, q4, q5, q6⟩
  obtain ⟨n, hn⟩ : ∃ n, n = w.heap.size := ⟨_, rfl⟩
  have HP : Hid (∀ V, SmC w W g gs T sep N ta tc s n V → (Calls Try.prog 21 #[.pointer (some ⟨g, 0, none⟩)] V fun e w' => e = .returned (.bool s.ln.last) ∧ SmC w W g gs T sep N ta tc s n w') ∧ (Calls Try.prog 18 #[.pointer (some ⟨g, 0, none⟩)] V fun e w' => e = .returned (.int .i64 (s.ln.no : Int)) ∧ SmC w W g gs T sep N ta tc s n w') ∧ (Calls Try.prog 17 #[.pointer (some ⟨g, 0, none⟩)] V fun e w' => e = .returned (.int .i64 (s.ln.pl : Int)) ∧ SmC w W g gs T sep N ta tc s n w') ∧ (Calls Try.prog 19 #[.pointer (some ⟨g, 0, none⟩)] V fun e w' => e = .returned (.bool s.ln.fresh) ∧ SmC w W g gs T sep N ta tc s n w') ∧ (Calls Try.prog 23 #[.pointer (some ⟨g, 0, none⟩)] V fun e w' => e = .returned (.bool s.passed) ∧ SmC w W g gs T sep N ta tc s n w') ∧ (Calls Try.prog 20 #[.pointer (some ⟨g, 0, none⟩)] V fun e w' => e = .returned (.string s.ln.data) ∧ SmC w W g gs T sep N ta tc s n w') ∧ (Calls Try.prog 12 #[.pointer (some ⟨g, 0, none⟩)] V fun e w' => e = .returned (.int .i64 s.why) ∧ SmC w W g gs T sep N ta tc s n w')) := fun V q => by
    refine ⟨(last_of _ _ V q.1.1.now).mono ?_, (number_of _ _ V q.1.1.now).mono ?_, (at_of _ _ V q.1.1.now).mono ?_, (fresh_of _ _ V q.1.1.now).mono ?_, q.1.1.passed.mono ?_, (data_of _ _ V q.1.1.now).mono ?_, q.1.1.err.mono ?_⟩
    · rintro e w' ⟨rfl, hb⟩; exact ⟨rfl, q.still hb⟩
    · rintro e w' ⟨rfl, hb⟩; exact ⟨rfl, q.still hb⟩
    · rintro e w' ⟨rfl, hb⟩; exact ⟨rfl, q.still hb⟩
    · rintro e w' ⟨rfl, hb⟩; exact ⟨rfl, q.still hb⟩
    · rintro e w' ⟨rfl, rfl⟩; exact ⟨rfl, q⟩
    · rintro e w' ⟨rfl, hb⟩; exact ⟨rfl, q.still hb⟩
    · rintro e w' ⟨rfl, rfl⟩; exact ⟨rfl, q⟩
  have HS0 : Hid (SmC w W g gs T sep N ta tc s n (w.alloc (.cells (In.bhA s.why s.ln s.passed ak x fd) 36))) := by rw [hn]; exact s0
  have HNE : Hid _ := hn
  clear h q0 q1 q2 q3 q4 q5 q6 hrow s0 hn
  go_enter Try.func15, Try.ntmps15
  go_wp2_with fail
  have hn := HNE.out
  clear HNE
  rw [← hn]
  have s0 := HS0.out.still (below_drewN (Below.refl _ _) 1)
  clear HS0 hn
  go_region_held3 (fun w' => (Oc W g gs T sep N ta tc s w' ∧ n < w'.heap.size ∧ Below w.heap.size w w') ∧ w'.cell? ⟨n, 0, none⟩ = some (.int .i64 s.why) ∧ w'.cell? ⟨n, 1, none⟩ = some (.bool s.ln.last) ∧ w'.cell? ⟨n, 2, none⟩ = some (.int .i64 (s.ln.no : Int)) ∧ w'.cell? ⟨n, 3, none⟩ = some (.int .i64 (s.ln.pl : Int)) ∧ w'.cell? ⟨n, 4, none⟩ = some (.bool s.ln.fresh) ∧ w'.cell? ⟨n, 5, none⟩ = some (.bool s.passed) ∧ w'.cell? ⟨n, 6, none⟩ = some (.string s.ln.data)) ((first | exact s0 | exact l9)) (first
    | (go_at_call 21; refine Calls.mono (HP.out _ (by assumption)).1 ?_; rintro e wn ⟨rfl, l9⟩)
    | (go_at_call 18; refine Calls.mono (HP.out _ (by assumption)).2.1 ?_; rintro e wn ⟨rfl, l9⟩)
    | (go_at_call 17; refine Calls.mono (HP.out _ (by assumption)).2.2.1 ?_; rintro e wn ⟨rfl, l9⟩)
    | (go_at_call 19; refine Calls.mono (HP.out _ (by assumption)).2.2.2.1 ?_; rintro e wn ⟨rfl, l9⟩)
    | (go_at_call 23; refine Calls.mono (HP.out _ (by assumption)).2.2.2.2.1 ?_; rintro e wn ⟨rfl, l9⟩)
    | (go_at_call 20; refine Calls.mono (HP.out _ (by assumption)).2.2.2.2.2.1 ?_; rintro e wn ⟨rfl, l9⟩)
    | (go_at_call 12; refine Calls.mono (HP.out _ (by assumption)).2.2.2.2.2.2 ?_; rintro e wn ⟨rfl, l9⟩))
  all_goals
    go_wp2_with fail
    go_ret
    refine ⟨?_, l9.1.2.2⟩
    simp
end Go.Proofs.Ythmofbcjhfcokaa
