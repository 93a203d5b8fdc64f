/- What the reference's Changes answers of two lists that are one. -/
import Derived.Test.YtpoimhkfajppmaaDoorLRDiff
import Derived.Test.YtpoimhkfajppmaaDoorLPlainU
namespace Go.Proofs.YtpoimhkfajppmaaDoor
open Go.RowKit

theorem change_neq (k : Int) (x1 : ByteArray) (x2 : Bool) (wx : World) : (binOp .neq 40 (.agg #[.int .u8 k, .string x1, .bool x2]) (.agg #[.int .u8 k, .string x1, .bool x2])).run Tryd.prog wx = .ok (.bool false) wx := by
  have ht : Tryd.prog.underlying 40 = some (.struct (Tryd.prog.fieldsOf 40)) := by kernel_rfl
  have hp : Tryd.prog.stoodInHeld 40 = false := by kernel_rfl
  have ht2 : Tryd.prog.underlying 38 = some (.struct (Tryd.prog.fieldsOf 38)) := by kernel_rfl
  have hp2 : Tryd.prog.stoodInHeld 38 = false := by kernel_rfl
  obtain ⟨f, g, hf, f1, f2, f3, g1, g2, g3⟩ : ∃ f g : Field, (Tryd.prog.fieldsOf 40).toList = [f, g] ∧ f.name = "Kind" ∧ f.type = 36 ∧ f.offset = 0 ∧ g.name = "Line" ∧ g.type = 38 ∧ g.offset = 1 :=
    ⟨(Tryd.prog.fieldsOf 40).toList.head!, (Tryd.prog.fieldsOf 40).toList.tail.head!, by kernel_rfl, by kernel_rfl, by kernel_rfl, by kernel_rfl, by kernel_rfl, by kernel_rfl, by kernel_rfl⟩
  obtain ⟨h, i, hh, h1, h2, h3, i1, i2, i3⟩ : ∃ f g : Field, (Tryd.prog.fieldsOf 38).toList = [f, g] ∧ f.name = "Text" ∧ f.type = 9 ∧ f.offset = 0 ∧ g.name = "Whole" ∧ g.type = 4 ∧ g.offset = 1 :=
    ⟨(Tryd.prog.fieldsOf 38).toList.head!, (Tryd.prog.fieldsOf 38).toList.tail.head!, by kernel_rfl, by kernel_rfl, by kernel_rfl, by kernel_rfl, by kernel_rfl, by kernel_rfl, by kernel_rfl⟩
  have p1 : ∀ (w : World), (part 36 #[.int .u8 k, .string x1, .bool x2] 0).run Tryd.prog w = .ok (.int .u8 k) w := fun _ => by kernel_rfl
  have p2 : ∀ (w : World), (part 38 #[.int .u8 k, .string x1, .bool x2] 1).run Tryd.prog w = .ok (.agg #[.string x1, .bool x2]) w := fun _ => by kernel_rfl
  have p3 : ∀ (w : World), (part 9 #[.string x1, .bool x2] 0).run Tryd.prog w = .ok (.string x1) w := fun _ => by kernel_rfl
  have p4 : ∀ (w : World), (part 4 #[.string x1, .bool x2] 1).run Tryd.prog w = .ok (.bool x2) w := fun _ => by kernel_rfl
  have e2 : (Op.equalIn 9999 38 (.agg #[.string x1, .bool x2]) (.agg #[.string x1, .bool x2])).run Tryd.prog wx = .ok true wx := by
    rw [show (9999 : Nat) = 9998 + 1 from rfl, run_equalIn_struct wx 9998 38 _ _ ht2 hp2, hh]
    simp only [Op.eqFields, h1, h2, h3, i1, i2, i3, Sem.run_bind, Sem.run_ite, p3, p4, Result.andThen_ok, Sem.run_pure, show (9998 : Nat) = 9997 + 1 from rfl, run_equalIn_string wx 9997 9 x1 x1 Tryd.underlying9, run_equalIn_bool' wx 9997 4 x2 x2 Tryd.underlying4]
    simp
  rw [run_neq_struct, show (10000 : Nat) = 9999 + 1 from rfl, run_equalIn_struct wx 9999 40 _ _ ht hp, hf]
  have e1 : (Op.equalIn 9999 36 (.int .u8 k) (.int .u8 k)).run Tryd.prog wx = .ok (k == k) wx := run_equalIn_int wx 9998 36 .u8 .u8 k k Tryd.underlying36
  simp only [Op.eqFields, f1, f2, f3, g1, g2, g3, Sem.run_bind, Sem.run_ite, p1, p2, Result.andThen_ok, Sem.run_pure, e1, e2]
  simp

set_option maxRecDepth 100000 in
set_option maxHeartbeats 1000000 in
theorem changes_any (a1 a2 : Option Addr) (c1 c2 : Nat) (l : List Ln.Chg) (w : World) (h1 : Chs w a1 c1 l) (h2 : Chs w a2 c2 l) :
    Calls Tryd.prog 11 #[.slice a1 l.length c1, .slice a2 l.length c2] w fun e w' => e = .returned (.bool true) ∧ Below w.heap.size w w' := by
  have n1 := h1.len
  go_enter Tryd.func11, Tryd.ntmps11
  go_wp2_with fail
  go_loopw [13] (fun i wr => ∃ k m : Nat, k ≤ l.length ∧ i = .int .i64 k ∧ wr = w.drewN m) (fun i _ => l.length - (intOf i).toNat)
  case atStart => exact ⟨0, 0, Nat.zero_le _, rfl, rfl⟩
  case round =>
    obtain ⟨k, m, hk, rfl, rfl⟩ := hrel
    by_cases hlt : k < l.length
    · obtain ⟨b1, o1, rfl, hb1, d1, d2, d3⟩ := h1.cells k hlt
      obtain ⟨b2, o2, rfl, hb2, d4, d5, d6⟩ := h2.cells k hlt
      generalize l[k]'hlt = x at *
      obtain ⟨kd, x1, x2⟩ := x
      have i1 : (k : Int) < (l.length : Int) := by omega
      have hne := fun wx => change_neq (kd : Int) x1 x2 wx
      simp only at d1 d2 d3 d4 d5 d6
      go_wp2_with fail
      go_quiet (fail)
      go_wp2_with fail
      go_roundw
      case rel => exact ⟨k + 1, m + nq, by omega, by go_num, by first | rfl | simp⟩
      case measure => simp [intOf]; omega
    · go_wp2_with fail
      go_ret
      exact ⟨rfl, below_drewN (Below.refl _ _) m⟩
end Go.Proofs.YtpoimhkfajppmaaDoor
