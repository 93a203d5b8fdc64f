/- Which command lines are the same: args.Same and the reference's. -/
import Derived.Test.YtklcfjakhabbgaaArEq
namespace Go.Proofs.Ytklcfjakhabbgaa
open Go.RowKit

def opV (x : Ar.Av) : Value := .agg #[.bool x.q, .bool x.e, .bool x.s, .bool x.i, .string x.sf]
theorem op_fields : ∃ f1 f2 f3 f4 f5 : Field, (Try.prog.fieldsOf 25).toList = [f1, f2, f3, f4, f5] ∧ (f1.name = "Quiet" ∧ f1.type = 4 ∧ f1.offset = 0) ∧ (f2.name = "Extended" ∧ f2.type = 4 ∧ f2.offset = 1) ∧ (f3.name = "Separate" ∧ f3.type = 4 ∧ f3.offset = 2) ∧ (f4.name = "InPlace" ∧ f4.type = 4 ∧ f4.offset = 3) ∧ (f5.name = "Suffix" ∧ f5.type = 9 ∧ f5.offset = 4) :=
  ⟨(Try.prog.fieldsOf 25).toList.head!, (Try.prog.fieldsOf 25).toList.tail.head!, (Try.prog.fieldsOf 25).toList.tail.tail.head!, (Try.prog.fieldsOf 25).toList.tail.tail.tail.head!, (Try.prog.fieldsOf 25).toList.tail.tail.tail.tail.head!, by kernel_rfl, ⟨by kernel_rfl, by kernel_rfl, by kernel_rfl⟩, ⟨by kernel_rfl, by kernel_rfl, by kernel_rfl⟩, ⟨by kernel_rfl, by kernel_rfl, by kernel_rfl⟩, ⟨by kernel_rfl, by kernel_rfl, by kernel_rfl⟩, ⟨by kernel_rfl, by kernel_rfl, by kernel_rfl⟩⟩
theorem op_equal (x y : Ar.Av) (wx : World) : (Op.equalIn 10000 25 (opV x) (opV y)).run Try.prog wx = .ok (Ar.sameO x y) wx := by
  have ht : Try.prog.underlying 25 = some (.struct (Try.prog.fieldsOf 25)) := by kernel_rfl
  have hp : Try.prog.stoodInHeld 25 = false := by kernel_rfl
  obtain ⟨f1, f2, f3, f4, f5, hf, ⟨n1, t1, o1⟩, ⟨n2, t2, o2⟩, ⟨n3, t3, o3⟩, ⟨n4, t4, o4⟩, ⟨n5, t5, o5⟩⟩ := op_fields
  have p1 : ∀ (x : Ar.Av) (w : World), (part 4 #[.bool x.q, .bool x.e, .bool x.s, .bool x.i, .string x.sf] 0).run Try.prog w = .ok (.bool x.q) w := fun _ _ => by kernel_rfl
  have p2 : ∀ (x : Ar.Av) (w : World), (part 4 #[.bool x.q, .bool x.e, .bool x.s, .bool x.i, .string x.sf] 1).run Try.prog w = .ok (.bool x.e) w := fun _ _ => by kernel_rfl
  have p3 : ∀ (x : Ar.Av) (w : World), (part 4 #[.bool x.q, .bool x.e, .bool x.s, .bool x.i, .string x.sf] 2).run Try.prog w = .ok (.bool x.s) w := fun _ _ => by kernel_rfl
  have p4 : ∀ (x : Ar.Av) (w : World), (part 4 #[.bool x.q, .bool x.e, .bool x.s, .bool x.i, .string x.sf] 3).run Try.prog w = .ok (.bool x.i) w := fun _ _ => by kernel_rfl
  have p5 : ∀ (x : Ar.Av) (w : World), (part 9 #[.bool x.q, .bool x.e, .bool x.s, .bool x.i, .string x.sf] 4).run Try.prog w = .ok (.string x.sf) w := fun _ _ => by kernel_rfl
  unfold opV
  rw [show (10000 : Nat) = 9999 + 1 from rfl, run_equalIn_struct wx 9999 25 _ _ ht hp, hf]
  simp only [Op.eqFields, n1, n2, n3, n4, n5, t1, t2, t3, t4, t5, o1, o2, o3, o4, o5, Sem.run_bind, Sem.run_ite, p1, p2, p3, p4, p5, Result.andThen_ok, Sem.run_pure, show (9999 : Nat) = 9998 + 1 from rfl, run_equalIn_string wx 9998 9 x.sf y.sf Try.underlying9, run_equalIn_bool' wx 9998 4 _ _ Try.underlying4, Ar.sameO]
  cases (x.q == y.q) <;> cases (x.e == y.e) <;> cases (x.s == y.s) <;> cases (x.i == y.i) <;> cases (x.sf.toList == y.sf.toList) <;> first | rfl | simp
theorem op_eql (x y : Ar.Av) (wx : World) : (binOp .eql 25 (opV x) (opV y)).run Try.prog wx = .ok (.bool (Ar.sameO x y)) wx := by
  have h := op_equal x y wx
  unfold opV at *
  rw [run_eql_struct, h]; rfl
theorem op_neq (x y : Ar.Av) (wx : World) : (binOp .neq 25 (opV x) (opV y)).run Try.prog wx = .ok (.bool (!(Ar.sameO x y))) wx := by
  have h := op_equal x y wx
  unfold opV at *
  rw [run_neq_struct, h]; rfl

set_option maxRecDepth 100000 in
set_option maxHeartbeats 2000000 in
theorem same_any (x y : Ar.Av) (a b a' b' : Option Addr) (c d c' d' : Nat) (w : World) (hx : AvR w x a c b d) (hy : AvR w y a' c' b' d') :
    Calls Try.prog 19 #[.agg (avA x a c b d), .agg (avA y a' c' b' d')] w fun e w' => e = .returned (.bool (Ar.sameA x y)) ∧ Below w.heap.size w w' := by
  have hb2 : Below w.heap.size w ((w.alloc (.cells (avA x a c b d) 28)).alloc (.cells (avA y a' c' b' d') 28)) := ((Below.refl _ _).alloc (Nat.le_refl _) _).alloc (by simp) _
  have HP : Hid (Calls Try.prog 32 #[.slice a x.sc.length c, .slice a' y.sc.length c'] ((w.alloc (.cells (avA x a c b d) 28)).alloc (.cells (avA y a' c' b' d') 28)) _) := eqlp_any a a' c c' x.sc y.sc _ (hx.sc.below hb2) (hy.sc.below hb2)
  have HS : Hid (∀ w5, Below ((w.alloc (.cells (avA x a c b d) 28)).alloc (.cells (avA y a' c' b' d') 28)).heap.size ((w.alloc (.cells (avA x a c b d) 28)).alloc (.cells (avA y a' c' b' d') 28)) w5 → Calls Try.prog 33 #[.slice b x.nm.length d, .slice b' y.nm.length d'] w5 fun e w' => e = .returned (.bool (decide (x.nm = y.nm))) ∧ Below w.heap.size w w') := fun w5 h5 => by
    have h6 := below_up hb2 h5 (Nat.le_refl _)
    exact (eqls_any b b' d d' x.nm y.nm w5 (hx.nm.below h6) (hy.nm.below h6)).mono fun e w' ⟨h7, h8⟩ => ⟨h7, below_up h6 h8 (Nat.le_refl _)⟩
  have HB2 : Hid _ := hb2
  have HO : ∀ wx, (binOp .eql 25 (opV x) (opV y)).run Try.prog wx = .ok (.bool (Ar.sameO x y)) wx := fun wx => op_eql x y wx
  have HR : Hid (Ar.sameA x y = (Ar.sameO x y && (decide (x.sc = y.sc) && decide (x.nm = y.nm)))) := rfl
  have e1 := hx.sc.len
  have e2 := hy.sc.len
  clear hx hy hb2
  generalize Ar.sameA x y = R at *
  generalize Ar.sameO x y = RO at *
  generalize decide (x.sc = y.sc) = R1 at *
  generalize decide (x.nm = y.nm) = R2 at *
  obtain ⟨q1, e1, s1, i1, sf1, sc1, nm1⟩ := x
  obtain ⟨q2, e2, s2, i2, sf2, sc2, nm2⟩ := y
  simp only [avA, opV] at *
  cases RO
  · have HF : Hid (R = false) := by show _ = _; rw [HR.out]; rfl
    clear HR
    go_enter Try.func19, Try.ntmps19
    go_wp2_with fail
    go_ret
    exact ⟨ret_bool HF.out.symm, HB2.out⟩
  · cases R1
    · have HF : Hid (R = false) := by show _ = _; rw [HR.out]; rfl
      clear HR
      go_enter Try.func19, Try.ntmps19
      go_wp2_with (go_at_call 32; refine Calls.mono HP.out ?_; rintro e w5 ⟨rfl, hb⟩)
      go_ret
      exact ⟨ret_bool HF.out.symm, below_up HB2.out hb (Nat.le_refl _)⟩
    · have HF : Hid (R = R2) := by show _ = _; rw [HR.out]; simp
      clear HR
      go_enter Try.func19, Try.ntmps19
      go_wp2_with (first | (go_at_call 32; refine Calls.mono HP.out ?_; rintro e w5 ⟨rfl, hb⟩; obtain ⟨hc, hf⟩ := bcell hb; have HB5 : Hid _ := hb) | (go_at_call 33; refine Calls.mono (HS.out _ HB5.out) ?_; rintro e w6 ⟨rfl, hb6⟩))
      go_ret
      exact ⟨ret_bool HF.out.symm, hb6⟩

set_option maxRecDepth 100000 in
set_option maxHeartbeats 2000000 in
theorem rsame_any (x y : Ar.Av) (a b a' b' : Option Addr) (c d c' d' : Nat) (w : World) (hx : AvR w x a c b d) (hy : AvR w y a' c' b' d') :
    Calls Try.prog 12 #[.agg (avA x a c b d), .agg (avA y a' c' b' d')] w fun e w' => e = .returned (.bool (Ar.sameA x y)) ∧ Below w.heap.size w w' := by
  have hb2 : Below w.heap.size w ((w.alloc (.cells (avA x a c b d) 28)).alloc (.cells (avA y a' c' b' d') 28)) := ((Below.refl _ _).alloc (Nat.le_refl _) _).alloc (by simp) _
  obtain ⟨W, hW⟩ : ∃ W, W = (w.alloc (.cells (avA x a c b d) 28)).alloc (.cells (avA y a' c' b' d') 28) := ⟨_, rfl⟩
  have HS : Hid (∀ m, Calls Try.prog 13 #[.slice b x.nm.length d, .slice b' y.nm.length d'] (W.drewN m) fun e w' => e = .returned (.bool (decide (x.nm = y.nm))) ∧ Below w.heap.size w w') := fun m => by
    have h6 : Below w.heap.size w (W.drewN m) := by rw [hW]; exact below_drewN hb2 m
    exact (texts_any b b' d d' x.nm y.nm _ (hx.nm.below h6) (hy.nm.below h6)).mono fun e w' ⟨h7, h8⟩ => ⟨h7, below_up h6 h8 (Nat.le_refl _)⟩
  have hS1 : Pcs W a c x.sc := by rw [hW]; exact hx.sc.below hb2
  have hS2 : Pcs W a' c' y.sc := by rw [hW]; exact hy.sc.below hb2
  have HB2 : Hid (Below w.heap.size w W) := by rw [hW]; exact hb2
  have X0 : W.heap[w.heap.size]? = some (.cells (avA x a c b d) 28) := by rw [hW, heap_alloc_old _ _ (by simp)]; exact heap_alloc_new _ _
  have Y0 : W.heap[w.heap.size + 1]? = some (.cells (avA y a' c' b' d') 28) := by
    rw [hW, show w.heap.size + 1 = (w.alloc (.cells (avA x a c b d) 28)).heap.size by simp]; exact heap_alloc_new _ _
  have x1 : W.cell? ⟨w.heap.size, 5, none⟩ = some (.slice a x.sc.length c) := cell_of_row _ _ _ _ _ _ X0
  have x2 : W.cell? ⟨w.heap.size, 6, none⟩ = some (.slice b x.nm.length d) := cell_of_row _ _ _ _ _ _ X0
  have y1 : W.cell? ⟨w.heap.size + 1, 5, none⟩ = some (.slice a' y.sc.length c') := cell_of_row _ _ _ _ _ _ Y0
  have y2 : W.cell? ⟨w.heap.size + 1, 6, none⟩ = some (.slice b' y.nm.length d') := cell_of_row _ _ _ _ _ _ Y0
  clear X0 Y0
  have HO : ∀ wx, (binOp .neq 25 (opV x) (opV y)).run Try.prog wx = .ok (.bool (!(Ar.sameO x y))) wx := fun wx => op_neq x y wx
  have HR : Hid (Ar.sameA x y = (Ar.sameO x y && (decide (x.sc = y.sc) && decide (x.nm = y.nm)))) := rfl
  have n1 := hx.sc.len
  have n2 := hy.sc.len
  clear hx hy hb2
  generalize Ar.sameA x y = R at *
  generalize Ar.sameO x y = RO at *
  generalize decide (x.nm = y.nm) = R2 at *
  obtain ⟨q1, e1, s1, i1, sf1, l1, nm1⟩ := x
  obtain ⟨q2, e2, s2, i2, sf2, l2, nm2⟩ := y
  simp only [avA, opV] at *
  cases RO
  · have HF : Hid (R = false) := by show _ = _; rw [HR.out]; rfl
    clear HR
    go_enter Try.func12, Try.ntmps12
    go_wp2_with fail
    go_ret
    exact ⟨ret_bool HF.out.symm, by rw [← hW]; exact HB2.out⟩
  · by_cases hn : l1.length = l2.length
    · have HN : Hid (l1.length = l2.length) := hn
      have hq : ((l1.length : Int) != (l2.length : Int)) = false := by simp [hn]
      clear hn
      go_enter Try.func12, Try.ntmps12
      go_wp2_with fail
      rw [← hW]
      clear hW
      go_loopw [5] (fun i wr => ∃ k m : Nat, k ≤ l1.length ∧ i = .int .i64 k ∧ Hid (l1.take k = l2.take k) ∧ wr = W.drewN m) (fun i _ => l1.length - (intOf i).toNat)
      case atStart => exact ⟨0, 0, Nat.zero_le _, rfl, rfl, rfl⟩
      case round =>
        obtain ⟨k, m, hk, rfl, HK, rfl⟩ := hrel
        by_cases hlt : k < l1.length
        · have hlt2 : k < l2.length := by have := HN.out; omega
          obtain ⟨b1, o1, rfl, hb1, d1, d3⟩ := hS1.cells k hlt
          obtain ⟨b2, o2, rfl, hb2, d2, d4⟩ := hS2.cells k hlt2
          have HT : Hid (l1[k]'hlt = l2[k]'hlt2 → l1.take (k + 1) = l2.take (k + 1)) := fun e => eq_step hlt hlt2 HK.out e
          have HD : Hid (¬ l1[k]'hlt = l2[k]'hlt2 → decide (l1 = l2) = false) := fun e => eq_stop hlt hlt2 e
          have i1 : (k : Int) < (l1.length : Int) := by omega
          have i2 : (k : Int) < (l2.length : Int) := by omega
          generalize l1[k]'hlt = x at *
          generalize l2[k]'hlt2 = y at *
          have hne := fun wx => pc_neq x.1 y.1 x.2 y.2 wx
          cases hx : ((x.1 == y.1) && (x.2.toList == y.2.toList))
          · have HE : Hid (R = false) := by show _ = _; rw [HR.out, HD.out (pc_ne hx)]; rfl
            rw [hx] at hne
            clear hx HR
            go_wp2_with fail
            go_quiet (fail)
            go_wp2_with fail
            go_ret
            exact ⟨ret_bool HE.out.symm, below_drewN (below_drewN HB2.out _) _⟩
          · have HE : Hid (l1.take (k + 1) = l2.take (k + 1)) := HT.out (pc_eq hx)
            rw [hx] at hne
            clear hx
            go_wp2_with fail
            go_quiet (fail)
            go_wp2_with fail
            go_roundw
            case rel => exact ⟨k + 1, m + nq, by omega, by go_num, HE, by first | rfl | simp⟩
            case measure => simp [intOf]; omega
        · have HE : Hid (R = R2) := by show _ = _; rw [HR.out, eq_end HN.out hlt HK.out]; simp
          have i1 : ¬ (k : Int) < (l1.length : Int) := by omega
          clear HR
          go_wp2_with (go_at_call 13; refine Calls.mono (HS.out _) ?_; rintro e w6 ⟨rfl, hb6⟩)
          go_ret
          exact ⟨ret_bool HE.out.symm, hb6⟩
    · have hq : ((l1.length : Int) != (l2.length : Int)) = true := by simp; omega
      have HF : Hid (R = false) := by show _ = _; rw [HR.out, decide_eq_false (fun e => hn (by rw [e]))]; rfl
      clear HR
      go_enter Try.func12, Try.ntmps12
      go_wp2_with fail
      go_ret
      exact ⟨ret_bool HF.out.symm, by rw [← hW]; exact HB2.out⟩
end Go.Proofs.Ytklcfjakhabbgaa
