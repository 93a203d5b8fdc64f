/- Which command lines are the same: lists of texts, of pieces, options; args.Same and the reference's. -/
import Derived.Test.YtklcfjakhabbgaaArRt
namespace Go.Proofs.Ytklcfjakhabbgaa
open Go.RowKit

theorem eq_step {α : Type} {l1 l2 : List α} {k : Nat} (h1 : k < l1.length) (h2 : k < l2.length) (hk : l1.take k = l2.take k) (e : l1[k] = l2[k]) : l1.take (k + 1) = l2.take (k + 1) := by
  rw [List.take_succ_eq_append_getElem h1, List.take_succ_eq_append_getElem h2, hk, e]
theorem eq_stop {α : Type} [DecidableEq α] {l1 l2 : List α} {k : Nat} (h1 : k < l1.length) (h2 : k < l2.length) (e : ¬ l1[k] = l2[k]) : decide (l1 = l2) = false :=
  decide_eq_false fun q => e (by subst q; rfl)
theorem eq_end {α : Type} [DecidableEq α] {l1 l2 : List α} {k : Nat} (hl : l1.length = l2.length) (h1 : ¬ k < l1.length) (hk : l1.take k = l2.take k) : decide (l1 = l2) = true :=
  decide_eq_true (by rwa [List.take_of_length_le (by omega), List.take_of_length_le (by omega)] at hk)
theorem ba_beq {x y : ByteArray} (h : (x.toList == y.toList) = true) : x = y := Ar.ba_ext (by rw [← Ar.toL, ← Ar.toL]; exact beq_iff_eq.1 h)
theorem ba_bne {x y : ByteArray} (h : (x.toList == y.toList) = false) : ¬ x = y := fun e => by subst e; simp at h

set_option maxRecDepth 100000 in
set_option maxHeartbeats 1000000 in
theorem texts_any (a1 a2 : Option Addr) (c1 c2 : Nat) (l1 l2 : List ByteArray) (w : World) (h1 : Strs w a1 c1 l1) (h2 : Strs w a2 c2 l2) :
    Calls Try.prog 13 #[.slice a1 l1.length c1, .slice a2 l2.length c2] w fun e w' => e = .returned (.bool (decide (l1 = l2))) ∧ Below w.heap.size w w' := by
  have n1 := h1.len
  have n2 := h2.len
  by_cases hn : l1.length = l2.length
  · have HN : Hid (l1.length = l2.length) := hn
    have hq : ((l1.length : Int) != (l2.length : Int)) = false := by simp [hn]
    clear hn
    go_enter Try.func13, Try.ntmps13
    go_wp2_with fail
    go_loopw [5] (fun i wr => ∃ k m : Nat, k ≤ l1.length ∧ i = .int .i64 k ∧ Hid (l1.take k = l2.take k) ∧ wr = w.drewN m) (fun i _ => l1.length - (intOf i).toNat)
    case atStart => exact ⟨0, 0, Nat.zero_le _, rfl, rfl, rfl⟩
    case round =>
      obtain ⟨k, m, hk, rfl, HK, rfl⟩ := hrel
      by_cases hlt : k < l1.length
      · have hlt2 : k < l2.length := by have := HN.out; omega
        obtain ⟨b1, o1, rfl, hb1, d1⟩ := h1.cells k hlt
        obtain ⟨b2, o2, rfl, hb2, d2⟩ := h2.cells k hlt2
        have HS : Hid (l1[k]'hlt = l2[k]'hlt2 → l1.take (k + 1) = l2.take (k + 1)) := fun e => eq_step hlt hlt2 HK.out e
        have HD : Hid (¬ l1[k]'hlt = l2[k]'hlt2 → decide (l1 = l2) = false) := fun e => eq_stop hlt hlt2 e
        have i1 : (k : Int) < (l1.length : Int) := by omega
        have i2 : (k : Int) < (l2.length : Int) := by omega
        generalize l1[k]'hlt = x at *
        generalize l2[k]'hlt2 = y at *
        cases hx : (x.toList == y.toList)
        · have HE : Hid (decide (l1 = l2) = false) := HD.out (ba_bne hx)
          go_wp2_with fail
          go_quiet (fail)
          go_wp2_with fail
          go_ret
          exact ⟨ret_bool HE.out.symm, below_drewN (below_drewN (Below.refl _ _) _) _⟩
        · have HE : Hid (l1.take (k + 1) = l2.take (k + 1)) := HS.out (ba_beq hx)
          go_wp2_with fail
          go_quiet (fail)
          go_wp2_with fail
          go_roundw
          case rel => exact ⟨k + 1, m + nq, by omega, by go_num, HE, by first | rfl | simp⟩
          case measure => simp [intOf]; omega
      · have HE : Hid (decide (l1 = l2) = true) := eq_end HN.out hlt HK.out
        have i1 : ¬ (k : Int) < (l1.length : Int) := by omega
        go_wp2_with fail
        go_ret
        exact ⟨ret_bool HE.out.symm, below_drewN (Below.refl _ _) _⟩
  · have hq : ((l1.length : Int) != (l2.length : Int)) = true := by simp; omega
    have HE : Hid (decide (l1 = l2) = false) := decide_eq_false fun e => hn (by rw [e])
    go_enter Try.func13, Try.ntmps13
    go_wp2_with fail
    go_ret
    exact ⟨ret_bool HE.out.symm, Below.refl _ _⟩

theorem pc_neq (x1 y1 : Bool) (x2 y2 : ByteArray) (wx : World) : (binOp .neq 45 (.agg #[.bool x1, .string x2]) (.agg #[.bool y1, .string y2])).run Try.prog wx = .ok (.bool !((x1 == y1) && (x2.toList == y2.toList))) wx := by
  have ht : Try.prog.underlying 45 = some (.struct (Try.prog.fieldsOf 45)) := by kernel_rfl
  have hp : Try.prog.stoodInHeld 45 = false := by kernel_rfl
  obtain ⟨f, g, hf, f1, f2, f3, g1, g2, g3⟩ : ∃ f g : Field, (Try.prog.fieldsOf 45).toList = [f, g] ∧ f.name = "File" ∧ f.type = 4 ∧ f.offset = 0 ∧ g.name = "Text" ∧ g.type = 9 ∧ g.offset = 1 :=
    ⟨(Try.prog.fieldsOf 45).toList.head!, (Try.prog.fieldsOf 45).toList.tail.head!, by kernel_rfl, by kernel_rfl, by kernel_rfl, by kernel_rfl, by kernel_rfl, by kernel_rfl, by kernel_rfl⟩
  have p1 : ∀ (b : Bool) (a : ByteArray) (w : World), (part 4 #[.bool b, .string a] 0).run Try.prog w = .ok (.bool b) w := fun _ _ _ => by kernel_rfl
  have p2 : ∀ (b : Bool) (a : ByteArray) (w : World), (part 9 #[.bool b, .string a] 1).run Try.prog w = .ok (.string a) w := fun _ _ _ => by kernel_rfl
  rw [run_neq_struct, show (10000 : Nat) = 9999 + 1 from rfl, run_equalIn_struct wx 9999 45 _ _ ht hp, hf]
  simp only [Op.eqFields, f1, f2, f3, g1, g2, g3, Sem.run_bind, Sem.run_ite, p1, p2, Result.andThen_ok, Sem.run_pure, show (9999 : Nat) = 9998 + 1 from rfl, run_equalIn_string wx 9998 9 x2 y2 Try.underlying9, run_equalIn_bool' wx 9998 4 x1 y1 Try.underlying4]
  cases (x1 == y1) <;> cases (x2.toList == y2.toList) <;> simp
theorem pc_eq {x y : Ar.Pc} (h : ((x.1 == y.1) && (x.2.toList == y.2.toList)) = true) : x = y := by
  rw [Bool.and_eq_true] at h
  exact Prod.ext (beq_iff_eq.1 h.1) (ba_beq h.2)
theorem pc_ne {x y : Ar.Pc} (h : ((x.1 == y.1) && (x.2.toList == y.2.toList)) = false) : ¬ x = y := fun e => by subst e; simp at h

set_option maxRecDepth 100000 in
set_option maxHeartbeats 1000000 in
theorem eqlp_any (a1 a2 : Option Addr) (c1 c2 : Nat) (l1 l2 : List Ar.Pc) (w : World) (h1 : Pcs w a1 c1 l1) (h2 : Pcs w a2 c2 l2) :
    Calls Try.prog 32 #[.slice a1 l1.length c1, .slice a2 l2.length c2] w fun e w' => e = .returned (.bool (decide (l1 = l2))) ∧ Below w.heap.size w w' := by
  have n1 := h1.len
  have n2 := h2.len
  by_cases hn : l1.length = l2.length
  · have HN : Hid (l1.length = l2.length) := hn
    have hq : ((l1.length : Int) != (l2.length : Int)) = false := by simp [hn]
    clear hn
    go_enter Try.func32, Try.ntmps32
    go_wp2_with fail
    go_loopw [13] (fun i wr => ∃ k m : Nat, k ≤ l1.length ∧ i = .int .i64 k ∧ Hid (l1.take k = l2.take k) ∧ wr = w.drewN m) (fun i _ => l1.length - (intOf i).toNat)
    case atStart => exact ⟨0, 0, Nat.zero_le _, rfl, rfl, rfl⟩
    case round =>
      obtain ⟨k, m, hk, rfl, HK, rfl⟩ := hrel
      by_cases hlt : k < l1.length
      · have hlt2 : k < l2.length := by have := HN.out; omega
        obtain ⟨b1, o1, rfl, hb1, d1, d3⟩ := h1.cells k hlt
        obtain ⟨b2, o2, rfl, hb2, d2, d4⟩ := h2.cells k hlt2
        have HS : Hid (l1[k]'hlt = l2[k]'hlt2 → l1.take (k + 1) = l2.take (k + 1)) := fun e => eq_step hlt hlt2 HK.out e
        have HD : Hid (¬ l1[k]'hlt = l2[k]'hlt2 → decide (l1 = l2) = false) := fun e => eq_stop hlt hlt2 e
        have i1 : (k : Int) < (l1.length : Int) := by omega
        have i2 : (k : Int) < (l2.length : Int) := by omega
        generalize l1[k]'hlt = x at *
        generalize l2[k]'hlt2 = y at *
        have hne := fun wx => pc_neq x.1 y.1 x.2 y.2 wx
        cases hx : ((x.1 == y.1) && (x.2.toList == y.2.toList))
        · have HE : Hid (decide (l1 = l2) = false) := HD.out (pc_ne hx)
          rw [hx] at hne
          clear hx
          go_wp2_with fail
          go_quiet (fail)
          go_wp2_with fail
          go_ret
          exact ⟨ret_bool HE.out.symm, below_drewN (below_drewN (Below.refl _ _) _) _⟩
        · have HE : Hid (l1.take (k + 1) = l2.take (k + 1)) := HS.out (pc_eq hx)
          rw [hx] at hne
          clear hx
          go_wp2_with fail
          go_quiet (fail)
          go_wp2_with fail
          go_roundw
          case rel => exact ⟨k + 1, m + nq, by omega, by go_num, HE, by first | rfl | simp⟩
          case measure => simp [intOf]; omega
      · have HE : Hid (decide (l1 = l2) = true) := eq_end HN.out hlt HK.out
        have i1 : ¬ (k : Int) < (l1.length : Int) := by omega
        go_wp2_with fail
        go_ret
        exact ⟨ret_bool HE.out.symm, below_drewN (Below.refl _ _) _⟩
  · have hq : ((l1.length : Int) != (l2.length : Int)) = true := by simp; omega
    have HE : Hid (decide (l1 = l2) = false) := decide_eq_false fun e => hn (by rw [e])
    go_enter Try.func32, Try.ntmps32
    go_wp2_with fail
    go_ret
    exact ⟨ret_bool HE.out.symm, Below.refl _ _⟩

set_option maxRecDepth 100000 in
set_option maxHeartbeats 1000000 in
theorem eqls_any (a1 a2 : Option Addr) (c1 c2 : Nat) (l1 l2 : List ByteArray) (w : World) (h1 : Strs w a1 c1 l1) (h2 : Strs w a2 c2 l2) :
    Calls Try.prog 33 #[.slice a1 l1.length c1, .slice a2 l2.length c2] w fun e w' => e = .returned (.bool (decide (l1 = l2))) ∧ Below w.heap.size w w' := by
  have n1 := h1.len
  have n2 := h2.len
  by_cases hn : l1.length = l2.length
  · have HN : Hid (l1.length = l2.length) := hn
    have hq : ((l1.length : Int) != (l2.length : Int)) = false := by simp [hn]
    clear hn
    go_enter Try.func33, Try.ntmps33
    go_wp2_with fail
    go_loopw [13] (fun i wr => ∃ k m : Nat, k ≤ l1.length ∧ i = .int .i64 k ∧ Hid (l1.take k = l2.take k) ∧ wr = w.drewN m) (fun i _ => l1.length - (intOf i).toNat)
    case atStart => exact ⟨0, 0, Nat.zero_le _, rfl, rfl, rfl⟩
    case round =>
      obtain ⟨k, m, hk, rfl, HK, rfl⟩ := hrel
      by_cases hlt : k < l1.length
      · have hlt2 : k < l2.length := by have := HN.out; omega
        obtain ⟨b1, o1, rfl, hb1, d1⟩ := h1.cells k hlt
        obtain ⟨b2, o2, rfl, hb2, d2⟩ := h2.cells k hlt2
        have HS : Hid (l1[k]'hlt = l2[k]'hlt2 → l1.take (k + 1) = l2.take (k + 1)) := fun e => eq_step hlt hlt2 HK.out e
        have HD : Hid (¬ l1[k]'hlt = l2[k]'hlt2 → decide (l1 = l2) = false) := fun e => eq_stop hlt hlt2 e
        have i1 : (k : Int) < (l1.length : Int) := by omega
        have i2 : (k : Int) < (l2.length : Int) := by omega
        generalize l1[k]'hlt = x at *
        generalize l2[k]'hlt2 = y at *
        cases hx : (x.toList == y.toList)
        · have HE : Hid (decide (l1 = l2) = false) := HD.out (ba_bne hx)
          go_wp2_with fail
          go_quiet (fail)
          go_wp2_with fail
          go_ret
          exact ⟨ret_bool HE.out.symm, below_drewN (below_drewN (Below.refl _ _) _) _⟩
        · have HE : Hid (l1.take (k + 1) = l2.take (k + 1)) := HS.out (ba_beq hx)
          go_wp2_with fail
          go_quiet (fail)
          go_wp2_with fail
          go_roundw
          case rel => exact ⟨k + 1, m + nq, by omega, by go_num, HE, by first | rfl | simp⟩
          case measure => simp [intOf]; omega
      · have HE : Hid (decide (l1 = l2) = true) := eq_end HN.out hlt HK.out
        have i1 : ¬ (k : Int) < (l1.length : Int) := by omega
        go_wp2_with fail
        go_ret
        exact ⟨ret_bool HE.out.symm, below_drewN (Below.refl _ _) _⟩
  · have hq : ((l1.length : Int) != (l2.length : Int)) = true := by simp; omega
    have HE : Hid (decide (l1 = l2) = false) := decide_eq_false fun e => hn (by rw [e])
    go_enter Try.func33, Try.ntmps33
    go_wp2_with fail
    go_ret
    exact ⟨ret_bool HE.out.symm, Below.refl _ _⟩
end Go.Proofs.Ytklcfjakhabbgaa
