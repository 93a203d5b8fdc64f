/- What the reference's Same answers. -/
import Derived.Test.YthmofbcjhfcokaaLSplit
namespace Go.Proofs.Ythmofbcjhfcokaa
open Go.RowKit

theorem Lns.drewN {w : World} {a : Option Addr} {cap : Nat} {l : List (ByteArray × Bool)} (h : Lns w a cap l) (n : Nat) : Lns (w.drewN n) a cap l := h.below (below_drewN (Below.refl _ _) n)

theorem line_neq (x1 y1 : ByteArray) (x2 y2 : Bool) (wx : World) : (binOp .neq 34 (.agg #[.string x1, .bool x2]) (.agg #[.string y1, .bool y2])).run Try.prog wx = .ok (.bool !((x1.toList == y1.toList) && (x2 == y2))) wx := by
  have ht : Try.prog.underlying 34 = some (.struct (Try.prog.fieldsOf 34)) := by kernel_rfl
  have hp : Try.prog.stoodInHeld 34 = false := by kernel_rfl
  obtain ⟨f, g, hf, f1, f2, f3, g1, g2, g3⟩ : ∃ f g : Field, (Try.prog.fieldsOf 34).toList = [f, g] ∧ f.name = "Text" ∧ f.type = 9 ∧ f.offset = 0 ∧ g.name = "Whole" ∧ g.type = 4 ∧ g.offset = 1 :=
    ⟨(Try.prog.fieldsOf 34).toList.head!, (Try.prog.fieldsOf 34).toList.tail.head!, by kernel_rfl, by kernel_rfl, by kernel_rfl, by kernel_rfl, by kernel_rfl, by kernel_rfl, by kernel_rfl⟩
  have p1 : ∀ (a : ByteArray) (b : Bool) (w : World), (part 9 #[.string a, .bool b] 0).run Try.prog w = .ok (.string a) w := fun _ _ _ => by kernel_rfl
  have p2 : ∀ (a : ByteArray) (b : Bool) (w : World), (part 4 #[.string a, .bool b] 1).run Try.prog w = .ok (.bool b) w := fun _ _ _ => by kernel_rfl
  rw [run_neq_struct, show (10000 : Nat) = 9999 + 1 from rfl, run_equalIn_struct wx 9999 34 _ _ ht hp, hf]
  simp only [Op.eqFields, f1, f2, f3, g1, g2, g3, Sem.run_bind, Sem.run_ite, p1, p2, Result.andThen_ok, Sem.run_pure, show (9999 : Nat) = 9998 + 1 from rfl, run_equalIn_string wx 9998 9 x1 y1 Try.underlying9, run_equalIn_bool' wx 9998 4 x2 y2 Try.underlying4]
  cases (x1.toList == y1.toList) <;> cases (x2 == y2) <;> simp

set_option maxRecDepth 100000 in
set_option maxHeartbeats 1000000 in
theorem lsame_any (a1 a2 : Option Addr) (c1 c2 : Nat) (l1 l2 : List (ByteArray × Bool)) (w : World) (h1 : Lns w a1 c1 l1) (h2 : Lns w a2 c2 l2) :
    Calls Try.prog 22 #[.slice a1 l1.length c1, .slice a2 l2.length c2] w fun e w' => e = .returned (.bool (Ln.sameL l1 l2)) ∧ ∃ n, w' = w.drewN n := by
  have n1 := h1.len
  have n2 := h2.len
  cases hq : ((l1.length : Int) != (l2.length : Int))
  · have hlen : l1.length = l2.length := by simp at hq; omega
    have HLEN : Hid (l1.length = l2.length) := hlen
    clear hlen
    go_enter Try.func22, Try.ntmps22
    go_wp2_with fail
    go_loopw [13] (fun i wr => ∃ k m : Nat, k ≤ l1.length ∧ i = .int .i64 k ∧ Hid (Ln.sameL l1 l2 = Ln.sameL (l1.drop k) (l2.drop k)) ∧ wr = w.drewN m) (fun i _ => l1.length - (intOf i).toNat)
    case atStart => exact ⟨0, 0, Nat.zero_le _, rfl, rfl, rfl⟩
    case round =>
      obtain ⟨k, m, hk, rfl, HC, rfl⟩ := hrel
      by_cases hlt : k < l1.length
      · have hlt2 : k < l2.length := by have := HLEN.out; omega
        obtain ⟨b1, o1, rfl, hb1, d1, d2⟩ := h1.cells k hlt
        obtain ⟨b2, o2, rfl, hb2, d3, d4⟩ := h2.cells k hlt2
        have HS := @Ln.same_step l1 l2 k hlt hlt2
        have HT := @Ln.same_stop l1 l2 k hlt hlt2
        have HS' : Hid (((l1[k]'hlt).1.toList == (l2[k]'hlt2).1.toList) = true → ((l1[k]'hlt).2 == (l2[k]'hlt2).2) = true → Ln.sameL (l1.drop k) (l2.drop k) = Ln.sameL (l1.drop (k + 1)) (l2.drop (k + 1))) := HS
        have HT' : Hid (((l1[k]'hlt).1.toList == (l2[k]'hlt2).1.toList) = false ∨ ((l1[k]'hlt).2 == (l2[k]'hlt2).2) = false → Ln.sameL (l1.drop k) (l2.drop k) = false) := HT
        clear HS HT
        generalize l1[k]'hlt = x at *
        generalize l2[k]'hlt2 = y at *
        obtain ⟨x1, x2⟩ := x
        obtain ⟨y1, y2⟩ := y
        have i1 : (k : Int) < (l1.length : Int) := by omega
        have i2 : (k : Int) < (l2.length : Int) := by omega
        have hne := fun wx => line_neq x1 y1 x2 y2 wx
        cases hx : (x1.toList == y1.toList)
        · have HE : Hid (Ln.sameL l1 l2 = false) := HC.out.trans (HT'.out (.inl hx))
          go_wp2_with fail
          go_quiet (fail)
          go_wp2_with fail
          go_ret
          exact ⟨ret_bool HE.out.symm, m + nq, by simp⟩
        cases hy : (x2 == y2)
        · have HE : Hid (Ln.sameL l1 l2 = false) := HC.out.trans (HT'.out (.inr hy))
          go_wp2_with fail
          go_quiet (fail)
          go_wp2_with fail
          go_ret
          exact ⟨ret_bool HE.out.symm, m + nq, by simp⟩
        have HE : Hid (Ln.sameL l1 l2 = Ln.sameL (l1.drop (k + 1)) (l2.drop (k + 1))) := HC.out.trans (HS'.out hx hy)
        go_wp2_with fail
        go_quiet (fail)
        go_wp2_with fail
        go_roundw
        case rel => exact ⟨k + 1, m + nq, by omega, by go_num, HE, by first | rfl | simp⟩
        case measure => simp [intOf]; omega
      · have HE : Hid (Ln.sameL l1 l2 = true) := by
          have e1 : l1.drop k = [] := List.drop_eq_nil_of_le (by omega)
          have e2 : l2.drop k = [] := List.drop_eq_nil_of_le (by have := HLEN.out; omega)
          have := HC.out
          rw [e1, e2] at this
          exact this
        go_wp2_with fail
        go_ret
        exact ⟨ret_bool HE.out.symm, m, rfl⟩
  · have HE : Hid (Ln.sameL l1 l2 = false) := Ln.same_len (by simp at hq; omega)
    go_enter Try.func22, Try.ntmps22
    go_wp2_with fail
    go_ret
    exact ⟨ret_bool HE.out.symm, 0, rfl⟩

theorem lsame_b (a1 a2 : Option Addr) (c1 c2 : Nat) (l1 l2 : List (ByteArray × Bool)) (w : World) (h1 : Lns w a1 c1 l1) (h2 : Lns w a2 c2 l2) :
    Calls Try.prog 22 #[.slice a1 l1.length c1, .slice a2 l2.length c2] w fun e w' => e = .returned (.bool (Ln.sameL l1 l2)) ∧ Below w.heap.size w w' :=
  (lsame_any a1 a2 c1 c2 l1 l2 w h1 h2).mono fun _ _ ⟨he, n, hw⟩ => ⟨he, by rw [hw]; exact below_drewN (Below.refl _ _) n⟩

end Go.Proofs.Ythmofbcjhfcokaa
