/- Two instructions held against each other. What the reference's fits answers. What the reference's fits answers of any instruction. What the reference's Right and Error answer of any program. -/
import Derived.Test.YtdiokclbdaojpaaDoorNfM4
import Derived.Test.YtdiokclbdaojpaaDoorNfM6
import Derived.Deep.RegionHeld3
namespace Go.Proofs.YtdiokclbdaojpaaDoor
open Go Go.RowKit

theorem eq_set_any (n : Nat) (a0 a1 a2 a3 b0 b1 b2 b3 : Int) (w : World) :
    (Op.equalIn (n + 2) 25 (.agg #[.int .u64 a0, .int .u64 a1, .int .u64 a2, .int .u64 a3]) (.agg #[.int .u64 b0, .int .u64 b1, .int .u64 b2, .int .u64 b3])).run Tryd.prog w = .ok (a0 == b0 && (a1 == b1 && (a2 == b2 && a3 == b3))) w := by
  have p0 : ∀ wx, (part 23 #[.int .u64 a0, .int .u64 a1, .int .u64 a2, .int .u64 a3] 0).run Tryd.prog wx = .ok (.int .u64 a0) wx := fun wx => by kernel_rfl
  have p1 : ∀ wx, (part 23 #[.int .u64 a0, .int .u64 a1, .int .u64 a2, .int .u64 a3] 1).run Tryd.prog wx = .ok (.int .u64 a1) wx := fun wx => by kernel_rfl
  have p2 : ∀ wx, (part 23 #[.int .u64 a0, .int .u64 a1, .int .u64 a2, .int .u64 a3] 2).run Tryd.prog wx = .ok (.int .u64 a2) wx := fun wx => by kernel_rfl
  have p3 : ∀ wx, (part 23 #[.int .u64 a0, .int .u64 a1, .int .u64 a2, .int .u64 a3] 3).run Tryd.prog wx = .ok (.int .u64 a3) wx := fun wx => by kernel_rfl
  have r0 : ∀ wx, (part 23 #[.int .u64 b0, .int .u64 b1, .int .u64 b2, .int .u64 b3] 0).run Tryd.prog wx = .ok (.int .u64 b0) wx := fun wx => by kernel_rfl
  have r1 : ∀ wx, (part 23 #[.int .u64 b0, .int .u64 b1, .int .u64 b2, .int .u64 b3] 1).run Tryd.prog wx = .ok (.int .u64 b1) wx := fun wx => by kernel_rfl
  have r2 : ∀ wx, (part 23 #[.int .u64 b0, .int .u64 b1, .int .u64 b2, .int .u64 b3] 2).run Tryd.prog wx = .ok (.int .u64 b2) wx := fun wx => by kernel_rfl
  have r3 : ∀ wx, (part 23 #[.int .u64 b0, .int .u64 b1, .int .u64 b2, .int .u64 b3] 3).run Tryd.prog wx = .ok (.int .u64 b3) wx := fun wx => by kernel_rfl
  have hz : ∀ wx, (sizeOf 23).run Tryd.prog wx = .ok 1 wx := fun wx => by kernel_rfl
  have he : ∀ (a b : Int) wx, (Op.equalIn (n + 1) 23 (.int .u64 a) (.int .u64 b)).run Tryd.prog wx = .ok (a == b) wx := fun a b wx => run_equalIn_int wx n 23 .u64 .u64 a b Tryd.underlying23
  show (Op.equalIn (n + 1 + 1) 25 _ _).run Tryd.prog w = _
  rw [Op.equalIn]
  simp only [Sem.run_bind, run_underlying Tryd.underlying25, Result.andThen_ok, hz]
  simp only [Std.Legacy.Range.forIn_eq_forIn_range', Std.Legacy.Range.size]
  rw [show List.range' 0 ((4 - 0 + 1 - 1) / 1) = [0, 1, 2, 3] from rfl]
  simp only [Nat.mul_one]
  cases h0 : (a0 == b0)
  · simp [List.forIn_cons, p0, r0, he, h0]
  cases h1 : (a1 == b1)
  · simp [List.forIn_cons, p0, r0, p1, r1, he, h0, h1]
  cases h2 : (a2 == b2)
  · simp [List.forIn_cons, p0, r0, p1, r1, p2, r2, he, h0, h1, h2]
  cases h3 : (a3 == b3) <;> simp [List.forIn_cons, p0, r0, p1, r1, p2, r2, p3, r3, he, h0, h1, h2, h3]

theorem fields_cmp {P : Program} (d : Nat) (xs ys : Array Value) (c : Nat → Bool) : ∀ (fs : List Field) (w : World), (∀ f ∈ fs, f.name ≠ "_" ∧ ∃ u v, ∀ w : World, (part f.type xs f.offset).run P w = .ok u w ∧ (part f.type ys f.offset).run P w = .ok v w ∧ (Op.equalIn d f.type u v).run P w = .ok (c f.offset) w) → (Op.eqFields d xs ys fs).run P w = .ok ((fs.map (·.offset)).all c) w
  | [], w, _ => by simp [Op.eqFields]
  | f :: fs, w, h => by
    obtain ⟨hn, u, v, hv⟩ := h f (by simp)
    have ih := fields_cmp d xs ys c fs w (fun g hg => h g (by simp [hg]))
    simp only [Op.eqFields, Sem.run_bind, Sem.run_ite]
    rw [if_pos (by simpa using hn)]
    cases hc : c f.offset <;> simp [(hv w).1, (hv w).2.1, (hv w).2.2, hc, ih]

theorem ins_flds2 : ((Tryd.prog.fieldsOf 64).toList.all fun f => f.name != "_" && ((f.type == 62 && f.offset == 0) || (f.type == 25 && f.offset == 1) || (f.type == 3 && (f.offset == 5 || f.offset == 6 || f.offset == 7 || f.offset == 8)))) = true := by kernel_rfl
theorem ins_offs : (Tryd.prog.fieldsOf 64).toList.map (·.offset) = [0, 1, 5, 6, 7, 8] := by kernel_rfl

set_option maxRecDepth 100000 in
theorem ins_neq2 (k k' a0 a1 a2 a3 c0 c1 c2 c3 b5 b6 b7 b8 d5 d6 d7 d8 : Int) (w : World) : (binOp .neq 64 (.agg #[.int .u8 k, .int .u64 a0, .int .u64 a1, .int .u64 a2, .int .u64 a3, .int .i64 b5, .int .i64 b6, .int .i64 b7, .int .i64 b8]) (.agg #[.int .u8 k', .int .u64 c0, .int .u64 c1, .int .u64 c2, .int .u64 c3, .int .i64 d5, .int .i64 d6, .int .i64 d7, .int .i64 d8])).run Tryd.prog w = .ok (.bool (!(k == k' && ((a0 == c0 && (a1 == c1 && (a2 == c2 && a3 == c3))) && (b5 == d5 && (b6 == d6 && (b7 == d7 && b8 == d8))))))) w := by
  rw [run_neq_struct]
  obtain ⟨c, hc⟩ : ∃ c : Nat → Bool, c = fun j => if j = 0 then k == k' else if j = 1 then (a0 == c0 && (a1 == c1 && (a2 == c2 && a3 == c3))) else if j = 5 then b5 == d5 else if j = 6 then b6 == d6 else if j = 7 then b7 == d7 else b8 == d8 := ⟨_, rfl⟩
  have h : (Op.equalIn 10000 64 (.agg #[.int .u8 k, .int .u64 a0, .int .u64 a1, .int .u64 a2, .int .u64 a3, .int .i64 b5, .int .i64 b6, .int .i64 b7, .int .i64 b8]) (.agg #[.int .u8 k', .int .u64 c0, .int .u64 c1, .int .u64 c2, .int .u64 c3, .int .i64 d5, .int .i64 d6, .int .i64 d7, .int .i64 d8])).run Tryd.prog w = .ok ([0, 1, 5, 6, 7, 8].all c) w := by
    show (Op.equalIn (9999 + 1) 64 _ _).run Tryd.prog w = _
    rw [run_equalIn_struct w 9999 64 _ _ Tryd.underlying64 (by kernel_rfl), ← ins_offs]
    refine fields_cmp 9999 _ _ c _ w (fun f hf => ?_)
    have hb := List.all_eq_true.1 ins_flds2 f hf
    simp only [Bool.or_eq_true, Bool.and_eq_true, beq_iff_eq, bne_iff_ne] at hb
    obtain ⟨hn, hb⟩ := hb
    refine ⟨hn, ?_⟩
    rcases hb with (⟨h1, h2⟩ | ⟨h1, h2⟩) | ⟨h1, ((h2 | h2) | h2) | h2⟩
    · exact ⟨.int .u8 k, .int .u8 k', fun w => ⟨by rw [h1, h2]; kernel_rfl, by rw [h1, h2]; kernel_rfl, by rw [h1, h2, hc]; exact run_equalIn_int w 9998 62 .u8 .u8 k k' Tryd.underlying62⟩⟩
    · exact ⟨.agg #[.int .u64 a0, .int .u64 a1, .int .u64 a2, .int .u64 a3], .agg #[.int .u64 c0, .int .u64 c1, .int .u64 c2, .int .u64 c3], fun w => ⟨by rw [h1, h2]; kernel_rfl, by rw [h1, h2]; kernel_rfl, by rw [h1, h2, hc]; exact eq_set_any 9997 a0 a1 a2 a3 c0 c1 c2 c3 w⟩⟩
    · exact ⟨.int .i64 b5, .int .i64 d5, fun w => ⟨by rw [h1, h2]; kernel_rfl, by rw [h1, h2]; kernel_rfl, by rw [h1, h2, hc]; exact run_equalIn_int w 9998 3 .i64 .i64 b5 d5 Tryd.underlying3⟩⟩
    · exact ⟨.int .i64 b6, .int .i64 d6, fun w => ⟨by rw [h1, h2]; kernel_rfl, by rw [h1, h2]; kernel_rfl, by rw [h1, h2, hc]; exact run_equalIn_int w 9998 3 .i64 .i64 b6 d6 Tryd.underlying3⟩⟩
    · exact ⟨.int .i64 b7, .int .i64 d7, fun w => ⟨by rw [h1, h2]; kernel_rfl, by rw [h1, h2]; kernel_rfl, by rw [h1, h2, hc]; exact run_equalIn_int w 9998 3 .i64 .i64 b7 d7 Tryd.underlying3⟩⟩
    · exact ⟨.int .i64 b8, .int .i64 d8, fun w => ⟨by rw [h1, h2]; kernel_rfl, by rw [h1, h2]; kernel_rfl, by rw [h1, h2, hc]; exact run_equalIn_int w 9998 3 .i64 .i64 b8 d8 Tryd.underlying3⟩⟩
  rw [h, hc]
  simp [List.all_cons, Bool.and_assoc]
end Go.Proofs.YtdiokclbdaojpaaDoor
namespace Go.Proofs.YtdiokclbdaojpaaDoor
open Go Go.RowKit

set_option maxRecDepth 100000 in
set_option maxHeartbeats 4000000 in
theorem rfits_1 (gr sl : Int) (a : Option Addr) (n cap : Nat) (s0 s1 s2 s3 t g l c : Int) (last D : Bool) (w : World)
    (E : ∀ w : World, (binOp .neq 64 (.agg #[.int .u8 1, .int .u64 s0, .int .u64 s1, .int .u64 s2, .int .u64 s3, .int .i64 t, .int .i64 g, .int .i64 l, .int .i64 c]) (.agg #[.int .u8 1, .int .u64 s0, .int .u64 s1, .int .u64 s2, .int .u64 s3, .int .i64 0, .int .i64 0, .int .i64 0, .int .i64 0])).run Tryd.prog w = .ok (.bool D) w) :
    Calls Tryd.prog 42 #[.agg #[.int .i64 gr, .int .i64 sl, .slice a n cap], .agg #[.int .u8 1, .int .u64 s0, .int .u64 s1, .int .u64 s2, .int .u64 s3, .int .i64 t, .int .i64 g, .int .i64 l, .int .i64 c], .bool last] w fun e w' => e = .returned (.bool (!D && !last)) ∧ Below w.heap.size w w' := by
  have hB : Below w.heap.size w (((w.alloc (.cells #[.int .i64 gr, .int .i64 sl, .slice a n cap] 35)).alloc (.cells #[.int .u8 1, .int .u64 s0, .int .u64 s1, .int .u64 s2, .int .u64 s3, .int .i64 t, .int .i64 g, .int .i64 l, .int .i64 c] 64)).alloc (.cells #[.int .u8 1, .int .u64 s0, .int .u64 s1, .int .u64 s2, .int .u64 s3, .int .i64 0, .int .i64 0, .int .i64 0, .int .i64 0] 64)) := (((Below.refl w.heap.size w).alloc (Nat.le_refl _) _).alloc (by simp) _).alloc (by simp; omega) _
  have HB : Hid _ := hB
  clear hB
  go_enter Tryd.func42, Tryd.ntmps42
  go_wp2_with fail
  all_goals
    go_ret
    exact ⟨by simp_all <;> omega, HB.out⟩
set_option maxRecDepth 100000 in
set_option maxHeartbeats 4000000 in
theorem rfits_2 (gr sl : Int) (a : Option Addr) (n cap : Nat) (s0 s1 s2 s3 t g l c : Int) (last D : Bool) (w : World)
    (E : ∀ w : World, (binOp .neq 64 (.agg #[.int .u8 2, .int .u64 s0, .int .u64 s1, .int .u64 s2, .int .u64 s3, .int .i64 t, .int .i64 g, .int .i64 l, .int .i64 c]) (.agg #[.int .u8 2, .int .u64 0, .int .u64 0, .int .u64 0, .int .u64 0, .int .i64 t, .int .i64 0, .int .i64 0, .int .i64 0])).run Tryd.prog w = .ok (.bool D) w) :
    Calls Tryd.prog 42 #[.agg #[.int .i64 gr, .int .i64 sl, .slice a n cap], .agg #[.int .u8 2, .int .u64 s0, .int .u64 s1, .int .u64 s2, .int .u64 s3, .int .i64 t, .int .i64 g, .int .i64 l, .int .i64 c], .bool last] w fun e w' => e = .returned (.bool (!D && !last && (decide (0 ≤ t) && decide (t < (n : Int))))) ∧ Below w.heap.size w w' := by
  have hB : Below w.heap.size w (((w.alloc (.cells #[.int .i64 gr, .int .i64 sl, .slice a n cap] 35)).alloc (.cells #[.int .u8 2, .int .u64 s0, .int .u64 s1, .int .u64 s2, .int .u64 s3, .int .i64 t, .int .i64 g, .int .i64 l, .int .i64 c] 64)).alloc (.cells #[.int .u8 2, .int .u64 0, .int .u64 0, .int .u64 0, .int .u64 0, .int .i64 t, .int .i64 0, .int .i64 0, .int .i64 0] 64)) := (((Below.refl w.heap.size w).alloc (Nat.le_refl _) _).alloc (by simp) _).alloc (by simp; omega) _
  have HB : Hid _ := hB
  clear hB
  go_enter Tryd.func42, Tryd.ntmps42
  go_wp2_with fail
  all_goals
    go_ret
    exact ⟨by simp_all <;> omega, HB.out⟩
set_option maxRecDepth 100000 in
set_option maxHeartbeats 4000000 in
theorem rfits_3 (gr sl : Int) (a : Option Addr) (n cap : Nat) (s0 s1 s2 s3 t g l c : Int) (last D : Bool) (w : World)
    (E : ∀ w : World, (binOp .neq 64 (.agg #[.int .u8 3, .int .u64 s0, .int .u64 s1, .int .u64 s2, .int .u64 s3, .int .i64 t, .int .i64 g, .int .i64 l, .int .i64 c]) (.agg #[.int .u8 3, .int .u64 0, .int .u64 0, .int .u64 0, .int .u64 0, .int .i64 t, .int .i64 0, .int .i64 0, .int .i64 0])).run Tryd.prog w = .ok (.bool D) w) :
    Calls Tryd.prog 42 #[.agg #[.int .i64 gr, .int .i64 sl, .slice a n cap], .agg #[.int .u8 3, .int .u64 s0, .int .u64 s1, .int .u64 s2, .int .u64 s3, .int .i64 t, .int .i64 g, .int .i64 l, .int .i64 c], .bool last] w fun e w' => e = .returned (.bool (!D && !last && (decide (0 ≤ t) && decide (t < (n : Int))))) ∧ Below w.heap.size w w' := by
  have hB : Below w.heap.size w (((w.alloc (.cells #[.int .i64 gr, .int .i64 sl, .slice a n cap] 35)).alloc (.cells #[.int .u8 3, .int .u64 s0, .int .u64 s1, .int .u64 s2, .int .u64 s3, .int .i64 t, .int .i64 g, .int .i64 l, .int .i64 c] 64)).alloc (.cells #[.int .u8 3, .int .u64 0, .int .u64 0, .int .u64 0, .int .u64 0, .int .i64 t, .int .i64 0, .int .i64 0, .int .i64 0] 64)) := (((Below.refl w.heap.size w).alloc (Nat.le_refl _) _).alloc (by simp) _).alloc (by simp; omega) _
  have HB : Hid _ := hB
  clear hB
  go_enter Tryd.func42, Tryd.ntmps42
  go_wp2_with fail
  all_goals
    go_ret
    exact ⟨by simp_all <;> omega, HB.out⟩
set_option maxRecDepth 100000 in
set_option maxHeartbeats 4000000 in
theorem rfits_4 (gr sl : Int) (a : Option Addr) (n cap : Nat) (s0 s1 s2 s3 t g l c : Int) (last D : Bool) (w : World)
    (E : ∀ w : World, (binOp .neq 64 (.agg #[.int .u8 4, .int .u64 s0, .int .u64 s1, .int .u64 s2, .int .u64 s3, .int .i64 t, .int .i64 g, .int .i64 l, .int .i64 c]) (.agg #[.int .u8 4, .int .u64 0, .int .u64 0, .int .u64 0, .int .u64 0, .int .i64 0, .int .i64 g, .int .i64 0, .int .i64 0])).run Tryd.prog w = .ok (.bool D) w) :
    Calls Tryd.prog 42 #[.agg #[.int .i64 gr, .int .i64 sl, .slice a n cap], .agg #[.int .u8 4, .int .u64 s0, .int .u64 s1, .int .u64 s2, .int .u64 s3, .int .i64 t, .int .i64 g, .int .i64 l, .int .i64 c], .bool last] w fun e w' => e = .returned (.bool (!D && !last && (decide (1 ≤ g) && decide (g ≤ gr)))) ∧ Below w.heap.size w w' := by
  have hB : Below w.heap.size w (((w.alloc (.cells #[.int .i64 gr, .int .i64 sl, .slice a n cap] 35)).alloc (.cells #[.int .u8 4, .int .u64 s0, .int .u64 s1, .int .u64 s2, .int .u64 s3, .int .i64 t, .int .i64 g, .int .i64 l, .int .i64 c] 64)).alloc (.cells #[.int .u8 4, .int .u64 0, .int .u64 0, .int .u64 0, .int .u64 0, .int .i64 0, .int .i64 g, .int .i64 0, .int .i64 0] 64)) := (((Below.refl w.heap.size w).alloc (Nat.le_refl _) _).alloc (by simp) _).alloc (by simp; omega) _
  have HB : Hid _ := hB
  clear hB
  go_enter Tryd.func42, Tryd.ntmps42
  go_wp2_with fail
  all_goals
    go_ret
    exact ⟨by simp_all <;> omega, HB.out⟩
set_option maxRecDepth 100000 in
set_option maxHeartbeats 4000000 in
theorem rfits_5 (gr sl : Int) (a : Option Addr) (n cap : Nat) (s0 s1 s2 s3 t g l c : Int) (last D : Bool) (w : World)
    (E : ∀ w : World, (binOp .neq 64 (.agg #[.int .u8 5, .int .u64 s0, .int .u64 s1, .int .u64 s2, .int .u64 s3, .int .i64 t, .int .i64 g, .int .i64 l, .int .i64 c]) (.agg #[.int .u8 5, .int .u64 0, .int .u64 0, .int .u64 0, .int .u64 0, .int .i64 0, .int .i64 g, .int .i64 0, .int .i64 0])).run Tryd.prog w = .ok (.bool D) w) :
    Calls Tryd.prog 42 #[.agg #[.int .i64 gr, .int .i64 sl, .slice a n cap], .agg #[.int .u8 5, .int .u64 s0, .int .u64 s1, .int .u64 s2, .int .u64 s3, .int .i64 t, .int .i64 g, .int .i64 l, .int .i64 c], .bool last] w fun e w' => e = .returned (.bool (!D && !last && (decide (1 ≤ g) && decide (g ≤ gr)))) ∧ Below w.heap.size w w' := by
  have hB : Below w.heap.size w (((w.alloc (.cells #[.int .i64 gr, .int .i64 sl, .slice a n cap] 35)).alloc (.cells #[.int .u8 5, .int .u64 s0, .int .u64 s1, .int .u64 s2, .int .u64 s3, .int .i64 t, .int .i64 g, .int .i64 l, .int .i64 c] 64)).alloc (.cells #[.int .u8 5, .int .u64 0, .int .u64 0, .int .u64 0, .int .u64 0, .int .i64 0, .int .i64 g, .int .i64 0, .int .i64 0] 64)) := (((Below.refl w.heap.size w).alloc (Nat.le_refl _) _).alloc (by simp) _).alloc (by simp; omega) _
  have HB : Hid _ := hB
  clear hB
  go_enter Tryd.func42, Tryd.ntmps42
  go_wp2_with fail
  all_goals
    go_ret
    exact ⟨by simp_all <;> omega, HB.out⟩
set_option maxRecDepth 100000 in
set_option maxHeartbeats 4000000 in
theorem rfits_6 (gr sl : Int) (a : Option Addr) (n cap : Nat) (s0 s1 s2 s3 t g l c : Int) (last D : Bool) (w : World)
    (E : ∀ w : World, (binOp .neq 64 (.agg #[.int .u8 6, .int .u64 s0, .int .u64 s1, .int .u64 s2, .int .u64 s3, .int .i64 t, .int .i64 g, .int .i64 l, .int .i64 c]) (.agg #[.int .u8 6, .int .u64 0, .int .u64 0, .int .u64 0, .int .u64 0, .int .i64 0, .int .i64 g, .int .i64 l, .int .i64 0])).run Tryd.prog w = .ok (.bool D) w) :
    Calls Tryd.prog 42 #[.agg #[.int .i64 gr, .int .i64 sl, .slice a n cap], .agg #[.int .u8 6, .int .u64 s0, .int .u64 s1, .int .u64 s2, .int .u64 s3, .int .i64 t, .int .i64 g, .int .i64 l, .int .i64 c], .bool last] w fun e w' => e = .returned (.bool (!D && !last && ((decide (g ≤ l) && decide (l ≤ gr)) && (decide (1 ≤ g) && decide (g ≤ gr))))) ∧ Below w.heap.size w w' := by
  have hB : Below w.heap.size w (((w.alloc (.cells #[.int .i64 gr, .int .i64 sl, .slice a n cap] 35)).alloc (.cells #[.int .u8 6, .int .u64 s0, .int .u64 s1, .int .u64 s2, .int .u64 s3, .int .i64 t, .int .i64 g, .int .i64 l, .int .i64 c] 64)).alloc (.cells #[.int .u8 6, .int .u64 0, .int .u64 0, .int .u64 0, .int .u64 0, .int .i64 0, .int .i64 g, .int .i64 l, .int .i64 0] 64)) := (((Below.refl w.heap.size w).alloc (Nat.le_refl _) _).alloc (by simp) _).alloc (by simp; omega) _
  have HB : Hid _ := hB
  clear hB
  go_enter Tryd.func42, Tryd.ntmps42
  go_wp2_with fail
  all_goals
    go_ret
    exact ⟨by simp_all <;> omega, HB.out⟩
set_option maxRecDepth 100000 in
set_option maxHeartbeats 4000000 in
theorem rfits_7 (gr sl : Int) (a : Option Addr) (n cap : Nat) (s0 s1 s2 s3 t g l c : Int) (last D : Bool) (w : World)
    (E : ∀ w : World, (binOp .neq 64 (.agg #[.int .u8 7, .int .u64 s0, .int .u64 s1, .int .u64 s2, .int .u64 s3, .int .i64 t, .int .i64 g, .int .i64 l, .int .i64 c]) (.agg #[.int .u8 7, .int .u64 0, .int .u64 0, .int .u64 0, .int .u64 0, .int .i64 0, .int .i64 0, .int .i64 0, .int .i64 c])).run Tryd.prog w = .ok (.bool D) w) :
    Calls Tryd.prog 42 #[.agg #[.int .i64 gr, .int .i64 sl, .slice a n cap], .agg #[.int .u8 7, .int .u64 s0, .int .u64 s1, .int .u64 s2, .int .u64 s3, .int .i64 t, .int .i64 g, .int .i64 l, .int .i64 c], .bool last] w fun e w' => e = .returned (.bool (!D && !last && (decide (0 ≤ c) && decide (c < sl)))) ∧ Below w.heap.size w w' := by
  have hB : Below w.heap.size w (((w.alloc (.cells #[.int .i64 gr, .int .i64 sl, .slice a n cap] 35)).alloc (.cells #[.int .u8 7, .int .u64 s0, .int .u64 s1, .int .u64 s2, .int .u64 s3, .int .i64 t, .int .i64 g, .int .i64 l, .int .i64 c] 64)).alloc (.cells #[.int .u8 7, .int .u64 0, .int .u64 0, .int .u64 0, .int .u64 0, .int .i64 0, .int .i64 0, .int .i64 0, .int .i64 c] 64)) := (((Below.refl w.heap.size w).alloc (Nat.le_refl _) _).alloc (by simp) _).alloc (by simp; omega) _
  have HB : Hid _ := hB
  clear hB
  go_enter Tryd.func42, Tryd.ntmps42
  go_wp2_with fail
  all_goals
    go_ret
    exact ⟨by simp_all <;> omega, HB.out⟩
set_option maxRecDepth 100000 in
set_option maxHeartbeats 4000000 in
theorem rfits_8 (gr sl : Int) (a : Option Addr) (n cap : Nat) (s0 s1 s2 s3 t g l c : Int) (last D : Bool) (w : World)
    (E : ∀ w : World, (binOp .neq 64 (.agg #[.int .u8 8, .int .u64 s0, .int .u64 s1, .int .u64 s2, .int .u64 s3, .int .i64 t, .int .i64 g, .int .i64 l, .int .i64 c]) (.agg #[.int .u8 8, .int .u64 0, .int .u64 0, .int .u64 0, .int .u64 0, .int .i64 0, .int .i64 0, .int .i64 0, .int .i64 c])).run Tryd.prog w = .ok (.bool D) w) :
    Calls Tryd.prog 42 #[.agg #[.int .i64 gr, .int .i64 sl, .slice a n cap], .agg #[.int .u8 8, .int .u64 s0, .int .u64 s1, .int .u64 s2, .int .u64 s3, .int .i64 t, .int .i64 g, .int .i64 l, .int .i64 c], .bool last] w fun e w' => e = .returned (.bool (!D && !last && (decide (0 ≤ c) && decide (c < sl)))) ∧ Below w.heap.size w w' := by
  have hB : Below w.heap.size w (((w.alloc (.cells #[.int .i64 gr, .int .i64 sl, .slice a n cap] 35)).alloc (.cells #[.int .u8 8, .int .u64 s0, .int .u64 s1, .int .u64 s2, .int .u64 s3, .int .i64 t, .int .i64 g, .int .i64 l, .int .i64 c] 64)).alloc (.cells #[.int .u8 8, .int .u64 0, .int .u64 0, .int .u64 0, .int .u64 0, .int .i64 0, .int .i64 0, .int .i64 0, .int .i64 c] 64)) := (((Below.refl w.heap.size w).alloc (Nat.le_refl _) _).alloc (by simp) _).alloc (by simp; omega) _
  have HB : Hid _ := hB
  clear hB
  go_enter Tryd.func42, Tryd.ntmps42
  go_wp2_with fail
  all_goals
    go_ret
    exact ⟨by simp_all <;> omega, HB.out⟩
set_option maxRecDepth 100000 in
set_option maxHeartbeats 4000000 in
theorem rfits_9 (gr sl : Int) (a : Option Addr) (n cap : Nat) (s0 s1 s2 s3 t g l c : Int) (last D : Bool) (w : World)
    (E : ∀ w : World, (binOp .neq 64 (.agg #[.int .u8 9, .int .u64 s0, .int .u64 s1, .int .u64 s2, .int .u64 s3, .int .i64 t, .int .i64 g, .int .i64 l, .int .i64 c]) (.agg #[.int .u8 9, .int .u64 0, .int .u64 0, .int .u64 0, .int .u64 0, .int .i64 0, .int .i64 g, .int .i64 0, .int .i64 0])).run Tryd.prog w = .ok (.bool D) w) :
    Calls Tryd.prog 42 #[.agg #[.int .i64 gr, .int .i64 sl, .slice a n cap], .agg #[.int .u8 9, .int .u64 s0, .int .u64 s1, .int .u64 s2, .int .u64 s3, .int .i64 t, .int .i64 g, .int .i64 l, .int .i64 c], .bool last] w fun e w' => e = .returned (.bool (!D && !last && (decide (1 ≤ g) && decide (g ≤ gr)))) ∧ Below w.heap.size w w' := by
  have hB : Below w.heap.size w (((w.alloc (.cells #[.int .i64 gr, .int .i64 sl, .slice a n cap] 35)).alloc (.cells #[.int .u8 9, .int .u64 s0, .int .u64 s1, .int .u64 s2, .int .u64 s3, .int .i64 t, .int .i64 g, .int .i64 l, .int .i64 c] 64)).alloc (.cells #[.int .u8 9, .int .u64 0, .int .u64 0, .int .u64 0, .int .u64 0, .int .i64 0, .int .i64 g, .int .i64 0, .int .i64 0] 64)) := (((Below.refl w.heap.size w).alloc (Nat.le_refl _) _).alloc (by simp) _).alloc (by simp; omega) _
  have HB : Hid _ := hB
  clear hB
  go_enter Tryd.func42, Tryd.ntmps42
  go_wp2_with fail
  all_goals
    go_ret
    exact ⟨by simp_all <;> omega, HB.out⟩
set_option maxRecDepth 100000 in
set_option maxHeartbeats 4000000 in
theorem rfits_10 (gr sl : Int) (a : Option Addr) (n cap : Nat) (s0 s1 s2 s3 t g l c : Int) (last D : Bool) (w : World)
    (E : ∀ w : World, (binOp .neq 64 (.agg #[.int .u8 10, .int .u64 s0, .int .u64 s1, .int .u64 s2, .int .u64 s3, .int .i64 t, .int .i64 g, .int .i64 l, .int .i64 c]) (.agg #[.int .u8 10, .int .u64 0, .int .u64 0, .int .u64 0, .int .u64 0, .int .i64 0, .int .i64 0, .int .i64 0, .int .i64 0])).run Tryd.prog w = .ok (.bool D) w) :
    Calls Tryd.prog 42 #[.agg #[.int .i64 gr, .int .i64 sl, .slice a n cap], .agg #[.int .u8 10, .int .u64 s0, .int .u64 s1, .int .u64 s2, .int .u64 s3, .int .i64 t, .int .i64 g, .int .i64 l, .int .i64 c], .bool last] w fun e w' => e = .returned (.bool (!D && !last)) ∧ Below w.heap.size w w' := by
  have hB : Below w.heap.size w (((w.alloc (.cells #[.int .i64 gr, .int .i64 sl, .slice a n cap] 35)).alloc (.cells #[.int .u8 10, .int .u64 s0, .int .u64 s1, .int .u64 s2, .int .u64 s3, .int .i64 t, .int .i64 g, .int .i64 l, .int .i64 c] 64)).alloc (.cells #[.int .u8 10, .int .u64 0, .int .u64 0, .int .u64 0, .int .u64 0, .int .i64 0, .int .i64 0, .int .i64 0, .int .i64 0] 64)) := (((Below.refl w.heap.size w).alloc (Nat.le_refl _) _).alloc (by simp) _).alloc (by simp; omega) _
  have HB : Hid _ := hB
  clear hB
  go_enter Tryd.func42, Tryd.ntmps42
  go_wp2_with fail
  all_goals
    go_ret
    exact ⟨by simp_all <;> omega, HB.out⟩
set_option maxRecDepth 100000 in
set_option maxHeartbeats 4000000 in
theorem rfits_11 (gr sl : Int) (a : Option Addr) (n cap : Nat) (s0 s1 s2 s3 t g l c : Int) (last D : Bool) (w : World)
    (E : ∀ w : World, (binOp .neq 64 (.agg #[.int .u8 11, .int .u64 s0, .int .u64 s1, .int .u64 s2, .int .u64 s3, .int .i64 t, .int .i64 g, .int .i64 l, .int .i64 c]) (.agg #[.int .u8 11, .int .u64 0, .int .u64 0, .int .u64 0, .int .u64 0, .int .i64 0, .int .i64 0, .int .i64 0, .int .i64 0])).run Tryd.prog w = .ok (.bool D) w) :
    Calls Tryd.prog 42 #[.agg #[.int .i64 gr, .int .i64 sl, .slice a n cap], .agg #[.int .u8 11, .int .u64 s0, .int .u64 s1, .int .u64 s2, .int .u64 s3, .int .i64 t, .int .i64 g, .int .i64 l, .int .i64 c], .bool last] w fun e w' => e = .returned (.bool (!D && !last)) ∧ Below w.heap.size w w' := by
  have hB : Below w.heap.size w (((w.alloc (.cells #[.int .i64 gr, .int .i64 sl, .slice a n cap] 35)).alloc (.cells #[.int .u8 11, .int .u64 s0, .int .u64 s1, .int .u64 s2, .int .u64 s3, .int .i64 t, .int .i64 g, .int .i64 l, .int .i64 c] 64)).alloc (.cells #[.int .u8 11, .int .u64 0, .int .u64 0, .int .u64 0, .int .u64 0, .int .i64 0, .int .i64 0, .int .i64 0, .int .i64 0] 64)) := (((Below.refl w.heap.size w).alloc (Nat.le_refl _) _).alloc (by simp) _).alloc (by simp; omega) _
  have HB : Hid _ := hB
  clear hB
  go_enter Tryd.func42, Tryd.ntmps42
  go_wp2_with fail
  all_goals
    go_ret
    exact ⟨by simp_all <;> omega, HB.out⟩
set_option maxRecDepth 100000 in
set_option maxHeartbeats 4000000 in
theorem rfits_12 (gr sl : Int) (a : Option Addr) (n cap : Nat) (s0 s1 s2 s3 t g l c : Int) (last D : Bool) (w : World)
    (E : ∀ w : World, (binOp .neq 64 (.agg #[.int .u8 12, .int .u64 s0, .int .u64 s1, .int .u64 s2, .int .u64 s3, .int .i64 t, .int .i64 g, .int .i64 l, .int .i64 c]) (.agg #[.int .u8 12, .int .u64 0, .int .u64 0, .int .u64 0, .int .u64 0, .int .i64 0, .int .i64 0, .int .i64 0, .int .i64 0])).run Tryd.prog w = .ok (.bool D) w) :
    Calls Tryd.prog 42 #[.agg #[.int .i64 gr, .int .i64 sl, .slice a n cap], .agg #[.int .u8 12, .int .u64 s0, .int .u64 s1, .int .u64 s2, .int .u64 s3, .int .i64 t, .int .i64 g, .int .i64 l, .int .i64 c], .bool last] w fun e w' => e = .returned (.bool (!D && last)) ∧ Below w.heap.size w w' := by
  have hB : Below w.heap.size w (((w.alloc (.cells #[.int .i64 gr, .int .i64 sl, .slice a n cap] 35)).alloc (.cells #[.int .u8 12, .int .u64 s0, .int .u64 s1, .int .u64 s2, .int .u64 s3, .int .i64 t, .int .i64 g, .int .i64 l, .int .i64 c] 64)).alloc (.cells #[.int .u8 12, .int .u64 0, .int .u64 0, .int .u64 0, .int .u64 0, .int .i64 0, .int .i64 0, .int .i64 0, .int .i64 0] 64)) := (((Below.refl w.heap.size w).alloc (Nat.le_refl _) _).alloc (by simp) _).alloc (by simp; omega) _
  have HB : Hid _ := hB
  clear hB
  go_enter Tryd.func42, Tryd.ntmps42
  go_wp2_with fail
  all_goals
    go_ret
    exact ⟨by simp_all <;> omega, HB.out⟩
set_option maxRecDepth 100000 in
set_option maxHeartbeats 4000000 in
theorem rfits_no (gr sl : Int) (a : Option Addr) (n cap : Nat) (k s0 s1 s2 s3 t g l c : Int) (last : Bool) (w : World) (h1 : (k == 1) = false) (h2 : (k == 2) = false) (h3 : (k == 3) = false) (h4 : (k == 4) = false) (h5 : (k == 5) = false) (h6 : (k == 6) = false) (h7 : (k == 7) = false) (h8 : (k == 8) = false) (h9 : (k == 9) = false) (h10 : (k == 10) = false) (h11 : (k == 11) = false) (h12 : (k == 12) = false) :
    Calls Tryd.prog 42 #[.agg #[.int .i64 gr, .int .i64 sl, .slice a n cap], .agg #[.int .u8 k, .int .u64 s0, .int .u64 s1, .int .u64 s2, .int .u64 s3, .int .i64 t, .int .i64 g, .int .i64 l, .int .i64 c], .bool last] w fun e w' => e = .returned (.bool false) ∧ Below w.heap.size w w' := by
  have hB : Below w.heap.size w (((w.alloc (.cells #[.int .i64 gr, .int .i64 sl, .slice a n cap] 35)).alloc (.cells #[.int .u8 k, .int .u64 s0, .int .u64 s1, .int .u64 s2, .int .u64 s3, .int .i64 t, .int .i64 g, .int .i64 l, .int .i64 c] 64)).alloc (.cells #[.int .u8 k, .int .u64 0, .int .u64 0, .int .u64 0, .int .u64 0, .int .i64 0, .int .i64 0, .int .i64 0, .int .i64 0] 64)) := (((Below.refl w.heap.size w).alloc (Nat.le_refl _) _).alloc (by simp) _).alloc (by simp; omega) _
  have HB : Hid _ := hB
  clear hB
  go_enter Tryd.func42, Tryd.ntmps42
  go_wp2_with fail
  go_ret
  exact ⟨rfl, HB.out⟩
end Go.Proofs.YtdiokclbdaojpaaDoor
namespace Go.Proofs.YtdiokclbdaojpaaDoor
open Go Go.RowKit

namespace Nt
/-- Words of no byte. -/
theorem words_no (x : Ins) : (((St.wd x.s 0 : Nat) : Int) == 0 && (((St.wd x.s 1 : Nat) : Int) == 0 && (((St.wd x.s 2 : Nat) : Int) == 0 && ((St.wd x.s 3 : Nat) : Int) == 0))) = St.sameS x.s noS := by
  have := St.sameS_words x.s noS
  rw [wd_no, wd_no, wd_no, wd_no] at this
  simpa using this
end Nt
set_option maxRecDepth 100000 in
set_option maxHeartbeats 4000000 in
theorem rfits_any (x : Nt.Ins) (gr sl : Int) (a : Option Addr) (n cap : Nat) (last : Bool) (w : World) :
    Calls Tryd.prog 42 #[.agg #[.int .i64 gr, .int .i64 sl, .slice a n cap], .agg #[.int .u8 (x.k : Int), .int .u64 (St.wd x.s 0 : Nat), .int .u64 (St.wd x.s 1 : Nat), .int .u64 (St.wd x.s 2 : Nat), .int .u64 (St.wd x.s 3 : Nat), .int .i64 x.to, .int .i64 x.gr, .int .i64 x.la, .int .i64 x.sl], .bool last] w fun e w' => e = .returned (.bool ((x.k == 12) == last && Nt.fitI gr sl n x)) ∧ Below w.heap.size w w' := by
  have hz := Nt.words_no x
  unfold Nt.fitI
  by_cases h1 : x.k = 1
  · refine Calls.mono (by rw [h1]; exact rfits_1 gr sl a n cap _ _ _ _ x.to x.gr x.la x.sl last _ w (fun w => ins_neq2 _ _ _ _ _ _ _ _ _ _ _ _ _ _ _ _ _ _ w)) ?_
    rintro e w' ⟨rfl, hb⟩
    refine ⟨?_, hb⟩
    rw [h1]
    simp only [show Nt.fb 1 0 = true from rfl, show Nt.fb 1 1 = true from rfl, show Nt.fb 1 2 = false from rfl, show Nt.fb 1 3 = false from rfl, show Nt.fb 1 4 = false from rfl, show Nt.fb 1 5 = false from rfl, Nt.inRg]
    generalize St.sameS x.s Nt.noS = z
    congr 2
    cases z <;> cases last <;> (rw [Bool.eq_iff_iff]; simp <;> omega)
  by_cases h2 : x.k = 2
  · refine Calls.mono (by rw [h2]; exact rfits_2 gr sl a n cap _ _ _ _ x.to x.gr x.la x.sl last _ w (fun w => ins_neq2 _ _ _ _ _ _ _ _ _ _ _ _ _ _ _ _ _ _ w)) ?_
    rintro e w' ⟨rfl, hb⟩
    refine ⟨?_, hb⟩
    rw [h2, hz]
    simp only [show Nt.fb 2 0 = true from rfl, show Nt.fb 2 1 = false from rfl, show Nt.fb 2 2 = true from rfl, show Nt.fb 2 3 = false from rfl, show Nt.fb 2 4 = false from rfl, show Nt.fb 2 5 = false from rfl, Nt.inRg]
    generalize St.sameS x.s Nt.noS = z
    congr 2
    cases z <;> cases last <;> (rw [Bool.eq_iff_iff]; simp <;> omega)
  by_cases h3 : x.k = 3
  · refine Calls.mono (by rw [h3]; exact rfits_3 gr sl a n cap _ _ _ _ x.to x.gr x.la x.sl last _ w (fun w => ins_neq2 _ _ _ _ _ _ _ _ _ _ _ _ _ _ _ _ _ _ w)) ?_
    rintro e w' ⟨rfl, hb⟩
    refine ⟨?_, hb⟩
    rw [h3, hz]
    simp only [show Nt.fb 3 0 = true from rfl, show Nt.fb 3 1 = false from rfl, show Nt.fb 3 2 = true from rfl, show Nt.fb 3 3 = false from rfl, show Nt.fb 3 4 = false from rfl, show Nt.fb 3 5 = false from rfl, Nt.inRg]
    generalize St.sameS x.s Nt.noS = z
    congr 2
    cases z <;> cases last <;> (rw [Bool.eq_iff_iff]; simp <;> omega)
  by_cases h4 : x.k = 4
  · refine Calls.mono (by rw [h4]; exact rfits_4 gr sl a n cap _ _ _ _ x.to x.gr x.la x.sl last _ w (fun w => ins_neq2 _ _ _ _ _ _ _ _ _ _ _ _ _ _ _ _ _ _ w)) ?_
    rintro e w' ⟨rfl, hb⟩
    refine ⟨?_, hb⟩
    rw [h4, hz]
    simp only [show Nt.fb 4 0 = true from rfl, show Nt.fb 4 1 = false from rfl, show Nt.fb 4 2 = false from rfl, show Nt.fb 4 3 = true from rfl, show Nt.fb 4 4 = false from rfl, show Nt.fb 4 5 = false from rfl, Nt.inRg]
    generalize St.sameS x.s Nt.noS = z
    congr 2
    cases z <;> cases last <;> (rw [Bool.eq_iff_iff]; simp <;> omega)
  by_cases h5 : x.k = 5
  · refine Calls.mono (by rw [h5]; exact rfits_5 gr sl a n cap _ _ _ _ x.to x.gr x.la x.sl last _ w (fun w => ins_neq2 _ _ _ _ _ _ _ _ _ _ _ _ _ _ _ _ _ _ w)) ?_
    rintro e w' ⟨rfl, hb⟩
    refine ⟨?_, hb⟩
    rw [h5, hz]
    simp only [show Nt.fb 5 0 = true from rfl, show Nt.fb 5 1 = false from rfl, show Nt.fb 5 2 = false from rfl, show Nt.fb 5 3 = true from rfl, show Nt.fb 5 4 = false from rfl, show Nt.fb 5 5 = false from rfl, Nt.inRg]
    generalize St.sameS x.s Nt.noS = z
    congr 2
    cases z <;> cases last <;> (rw [Bool.eq_iff_iff]; simp <;> omega)
  by_cases h6 : x.k = 6
  · refine Calls.mono (by rw [h6]; exact rfits_6 gr sl a n cap _ _ _ _ x.to x.gr x.la x.sl last _ w (fun w => ins_neq2 _ _ _ _ _ _ _ _ _ _ _ _ _ _ _ _ _ _ w)) ?_
    rintro e w' ⟨rfl, hb⟩
    refine ⟨?_, hb⟩
    rw [h6, hz]
    simp only [show Nt.fb 6 0 = true from rfl, show Nt.fb 6 1 = false from rfl, show Nt.fb 6 2 = false from rfl, show Nt.fb 6 3 = true from rfl, show Nt.fb 6 4 = true from rfl, show Nt.fb 6 5 = false from rfl, Nt.inRg]
    generalize St.sameS x.s Nt.noS = z
    congr 2
    cases z <;> cases last <;> (rw [Bool.eq_iff_iff]; simp <;> omega)
  by_cases h7 : x.k = 7
  · refine Calls.mono (by rw [h7]; exact rfits_7 gr sl a n cap _ _ _ _ x.to x.gr x.la x.sl last _ w (fun w => ins_neq2 _ _ _ _ _ _ _ _ _ _ _ _ _ _ _ _ _ _ w)) ?_
    rintro e w' ⟨rfl, hb⟩
    refine ⟨?_, hb⟩
    rw [h7, hz]
    simp only [show Nt.fb 7 0 = true from rfl, show Nt.fb 7 1 = false from rfl, show Nt.fb 7 2 = false from rfl, show Nt.fb 7 3 = false from rfl, show Nt.fb 7 4 = false from rfl, show Nt.fb 7 5 = true from rfl, Nt.inRg]
    generalize St.sameS x.s Nt.noS = z
    congr 2
    cases z <;> cases last <;> (rw [Bool.eq_iff_iff]; simp <;> omega)
  by_cases h8 : x.k = 8
  · refine Calls.mono (by rw [h8]; exact rfits_8 gr sl a n cap _ _ _ _ x.to x.gr x.la x.sl last _ w (fun w => ins_neq2 _ _ _ _ _ _ _ _ _ _ _ _ _ _ _ _ _ _ w)) ?_
    rintro e w' ⟨rfl, hb⟩
    refine ⟨?_, hb⟩
    rw [h8, hz]
    simp only [show Nt.fb 8 0 = true from rfl, show Nt.fb 8 1 = false from rfl, show Nt.fb 8 2 = false from rfl, show Nt.fb 8 3 = false from rfl, show Nt.fb 8 4 = false from rfl, show Nt.fb 8 5 = true from rfl, Nt.inRg]
    generalize St.sameS x.s Nt.noS = z
    congr 2
    cases z <;> cases last <;> (rw [Bool.eq_iff_iff]; simp <;> omega)
  by_cases h9 : x.k = 9
  · refine Calls.mono (by rw [h9]; exact rfits_9 gr sl a n cap _ _ _ _ x.to x.gr x.la x.sl last _ w (fun w => ins_neq2 _ _ _ _ _ _ _ _ _ _ _ _ _ _ _ _ _ _ w)) ?_
    rintro e w' ⟨rfl, hb⟩
    refine ⟨?_, hb⟩
    rw [h9, hz]
    simp only [show Nt.fb 9 0 = true from rfl, show Nt.fb 9 1 = false from rfl, show Nt.fb 9 2 = false from rfl, show Nt.fb 9 3 = true from rfl, show Nt.fb 9 4 = false from rfl, show Nt.fb 9 5 = false from rfl, Nt.inRg]
    generalize St.sameS x.s Nt.noS = z
    congr 2
    cases z <;> cases last <;> (rw [Bool.eq_iff_iff]; simp <;> omega)
  by_cases h10 : x.k = 10
  · refine Calls.mono (by rw [h10]; exact rfits_10 gr sl a n cap _ _ _ _ x.to x.gr x.la x.sl last _ w (fun w => ins_neq2 _ _ _ _ _ _ _ _ _ _ _ _ _ _ _ _ _ _ w)) ?_
    rintro e w' ⟨rfl, hb⟩
    refine ⟨?_, hb⟩
    rw [h10, hz]
    simp only [show Nt.fb 10 0 = true from rfl, show Nt.fb 10 1 = false from rfl, show Nt.fb 10 2 = false from rfl, show Nt.fb 10 3 = false from rfl, show Nt.fb 10 4 = false from rfl, show Nt.fb 10 5 = false from rfl, Nt.inRg]
    generalize St.sameS x.s Nt.noS = z
    congr 2
    cases z <;> cases last <;> (rw [Bool.eq_iff_iff]; simp <;> omega)
  by_cases h11 : x.k = 11
  · refine Calls.mono (by rw [h11]; exact rfits_11 gr sl a n cap _ _ _ _ x.to x.gr x.la x.sl last _ w (fun w => ins_neq2 _ _ _ _ _ _ _ _ _ _ _ _ _ _ _ _ _ _ w)) ?_
    rintro e w' ⟨rfl, hb⟩
    refine ⟨?_, hb⟩
    rw [h11, hz]
    simp only [show Nt.fb 11 0 = true from rfl, show Nt.fb 11 1 = false from rfl, show Nt.fb 11 2 = false from rfl, show Nt.fb 11 3 = false from rfl, show Nt.fb 11 4 = false from rfl, show Nt.fb 11 5 = false from rfl, Nt.inRg]
    generalize St.sameS x.s Nt.noS = z
    congr 2
    cases z <;> cases last <;> (rw [Bool.eq_iff_iff]; simp <;> omega)
  by_cases h12 : x.k = 12
  · refine Calls.mono (by rw [h12]; exact rfits_12 gr sl a n cap _ _ _ _ x.to x.gr x.la x.sl last _ w (fun w => ins_neq2 _ _ _ _ _ _ _ _ _ _ _ _ _ _ _ _ _ _ w)) ?_
    rintro e w' ⟨rfl, hb⟩
    refine ⟨?_, hb⟩
    rw [h12, hz]
    simp only [show Nt.fb 12 0 = true from rfl, show Nt.fb 12 1 = false from rfl, show Nt.fb 12 2 = false from rfl, show Nt.fb 12 3 = false from rfl, show Nt.fb 12 4 = false from rfl, show Nt.fb 12 5 = false from rfl, Nt.inRg]
    generalize St.sameS x.s Nt.noS = z
    congr 2
    cases z <;> cases last <;> (rw [Bool.eq_iff_iff]; simp <;> omega)
  · refine (rfits_no gr sl a n cap (x.k : Int) _ _ _ _ x.to x.gr x.la x.sl last w (by simp; omega) (by simp; omega) (by simp; omega) (by simp; omega) (by simp; omega) (by simp; omega) (by simp; omega) (by simp; omega) (by simp; omega) (by simp; omega) (by simp; omega) (by simp; omega)).mono ?_
    rintro e w' ⟨rfl, hb⟩
    refine ⟨?_, hb⟩
    by_cases h0 : x.k = 0
    · rw [h0]; simp [show Nt.fb 0 0 = false from rfl]
    · have : ¬ x.k ≤ 12 := by omega
      simp [this]
end Go.Proofs.YtdiokclbdaojpaaDoor
namespace Go.Proofs.YtdiokclbdaojpaaDoor
open Go Go.RowKit

set_option maxRecDepth 100000 in
set_option maxHeartbeats 4000000 in
theorem rright_any (gr sl : Int) (a : Option Addr) (cap : Nat) (L : List Nt.Ins) (w : World) (hc : Nt.Cds w w.heap.size a cap L) :
    Calls Tryd.prog 18 #[.agg #[.int .i64 gr, .int .i64 sl, .slice a L.length cap]] w fun e w' => e = .returned (.bool (Nt.rightP gr sl L)) ∧ Below w.heap.size w w' := by
  have hB0 : Below w.heap.size w (w.alloc (.cells #[.int .i64 gr, .int .i64 sl, .slice a L.length cap] 35)) := (Below.refl w.heap.size w).alloc (Nat.le_refl _) _
  have P0 : (w.alloc (.cells #[.int .i64 gr, .int .i64 sl, .slice a L.length cap] 35)).heap[w.heap.size]? = some (.cells #[.int .i64 gr, .int .i64 sl, .slice a L.length cap] 35 (0, 0)) := heap_alloc_new w _
  have hs0 : (w.alloc (.cells #[.int .i64 gr, .int .i64 sl, .slice a L.length cap] 35)).heap.size = w.heap.size + 1 := by simp
  obtain ⟨W, hW⟩ : ∃ W, W = w.alloc (.cells #[.int .i64 gr, .int .i64 sl, .slice a L.length cap] 35) := ⟨_, rfl⟩
  rw [← hW] at hB0 P0 hs0
  obtain ⟨R, hR⟩ : ∃ R, Nt.rightP gr sl L = R := ⟨_, rfl⟩
  rw [hR]
  have HR : Hid _ := hR
  have hlm := hc.len
  have HC : Hid _ := hc
  have HB0 : Hid _ := hB0
  have HP0 : Hid _ := P0
  clear hR hc P0
  have dead : ∀ (b : Bool), (decide (0 ≤ gr) && (decide (gr ≤ 99) && (decide (0 ≤ sl) && (decide (sl ≤ 16384) && (decide (1 ≤ L.length) && decide (L.length ≤ 16384)))))) = b → b = false → R = false := fun b h1 h2 => by rw [← HR.out, Nt.rightP, h1, h2]; rfl
  have HD : Hid _ := dead
  clear dead
  by_cases g1 : gr < 0
  · have HF : Hid (R = false) := HD.out _ rfl (by simp; omega)
    go_enter Tryd.func18, Tryd.ntmps18
    go_wp2_with fail
    go_ret
    exact ⟨by rw [HF.out]; rfl, by rw [← hW]; exact hB0⟩
  by_cases g2 : 99 < gr
  · have HF : Hid (R = false) := HD.out _ rfl (by simp; omega)
    go_enter Tryd.func18, Tryd.ntmps18
    go_wp2_with fail
    go_ret
    exact ⟨by rw [HF.out]; rfl, by rw [← hW]; exact hB0⟩
  by_cases g3 : sl < 0
  · have HF : Hid (R = false) := HD.out _ rfl (by simp; omega)
    go_enter Tryd.func18, Tryd.ntmps18
    go_wp2_with fail
    go_ret
    exact ⟨by rw [HF.out]; rfl, by rw [← hW]; exact hB0⟩
  by_cases g4 : 16384 < sl
  · have HF : Hid (R = false) := HD.out _ rfl (by simp; omega)
    go_enter Tryd.func18, Tryd.ntmps18
    go_wp2_with fail
    go_ret
    exact ⟨by rw [HF.out]; rfl, by rw [← hW]; exact hB0⟩
  by_cases g5 : L.length = 0
  · have HF : Hid (R = false) := HD.out _ rfl (by simp; omega)
    have hd : decide ((L.length : Int) - 1 < 0) = true := by simp; omega
    rw [g5] at hW hd ⊢
    go_enter Tryd.func18, Tryd.ntmps18
    go_wp2_with fail
    go_ret
    exact ⟨by rw [HF.out]; rfl, by rw [← hW]; exact hB0⟩
  by_cases g6 : 16384 < L.length
  · have HF : Hid (R = false) := HD.out _ rfl (by simp; omega)
    go_enter Tryd.func18, Tryd.ntmps18
    go_wp2_with fail
    go_ret
    exact ⟨by rw [HF.out]; rfl, by rw [← hW]; exact hB0⟩
  have HRR : Hid (R = Nt.rowsP gr sl L L.length) := by
    show _ = _
    have h1 : (decide (0 ≤ gr) && (decide (gr ≤ 99) && (decide (0 ≤ sl) && (decide (sl ≤ 16384) && (decide (1 ≤ L.length) && decide (L.length ≤ 16384)))))) = true := by simp; omega
    rw [← HR.out, Nt.rightP, h1, Bool.true_and]
  clear HD HR
  go_enter Tryd.func18, Tryd.ntmps18
  go_wp2_with fail
  rw [← hW]
  clear hW
  go_loopw [3] (fun iv wr => ∃ i : Nat, i ≤ L.length ∧ iv = .int .i64 (i : Int) ∧ Below w.heap.size w wr ∧ wr.heap[w.heap.size]? = some (.cells #[.int .i64 gr, .int .i64 sl, .slice a L.length cap] 35 (0, 0)) ∧ Nt.rowsP gr sl L i = true) (fun iv _ => L.length - (intOf iv).toNat)
  case atStart => exact ⟨0, by omega, rfl, HB0.out, HP0.out, rfl⟩
  case round =>
    clear HB0 HP0
    obtain ⟨i, hi, rfl, hB, PB, hrows⟩ := hrel
    have a0 : wr.cell? ⟨w.heap.size, 0, none⟩ = some (.int .i64 gr) := cell_of_row _ _ _ _ _ _ PB
    have a1 : wr.cell? ⟨w.heap.size, 1, none⟩ = some (.int .i64 sl) := cell_of_row _ _ _ _ _ _ PB
    have a2 : wr.cell? ⟨w.heap.size, 2, none⟩ = some (.slice a L.length cap) := cell_of_row _ _ _ _ _ _ PB
    have hsz : w.heap.size < wr.heap.size := lt_of_block PB
    by_cases hlt : i < L.length
    · obtain ⟨b, off, rfl, hb, hcell⟩ := HC.out.lies i hlt
      obtain ⟨x, hx⟩ : ∃ x, L[i] = x := ⟨_, rfl⟩
      rw [hx] at hcell
      have hcw : ∀ j, j < 9 → wr.cell? ⟨b, off + i * 9 + j, none⟩ = (Nt.insL x)[j]? := fun j hj => (hB.cell (p := ⟨b, off + i * 9 + j, none⟩) hb).trans (hcell j hj)
      have x0 : wr.cell? ⟨b, off + i * 9, none⟩ = some (.int .u8 (x.k : Int)) := hcw 0 (by omega)
      have x1 : wr.cell? ⟨b, off + i * 9 + 1, none⟩ = some (.int .u64 (St.wd x.s 0 : Nat)) := hcw 1 (by omega)
      have x2 : wr.cell? ⟨b, off + i * 9 + 2, none⟩ = some (.int .u64 (St.wd x.s 1 : Nat)) := hcw 2 (by omega)
      have x3 : wr.cell? ⟨b, off + i * 9 + 3, none⟩ = some (.int .u64 (St.wd x.s 2 : Nat)) := hcw 3 (by omega)
      have x4 : wr.cell? ⟨b, off + i * 9 + 4, none⟩ = some (.int .u64 (St.wd x.s 3 : Nat)) := hcw 4 (by omega)
      have x5 : wr.cell? ⟨b, off + i * 9 + 5, none⟩ = some (.int .i64 x.to) := hcw 5 (by omega)
      have x6 : wr.cell? ⟨b, off + i * 9 + 6, none⟩ = some (.int .i64 x.gr) := hcw 6 (by omega)
      have x7 : wr.cell? ⟨b, off + i * 9 + 7, none⟩ = some (.int .i64 x.la) := hcw 7 (by omega)
      have x8 : wr.cell? ⟨b, off + i * 9 + 8, none⟩ = some (.int .i64 x.sl) := hcw 8 (by omega)
      have hgx : L.getD i Nt.iEnd = x := by rw [List.getD_eq_getElem?_getD, List.getElem?_eq_getElem hlt]; exact hx
      have HQ : Hid (Nt.rowP gr sl L i = ((x.k == 12) == ((i : Int) == (L.length : Int) - 1) && Nt.fitI gr sl L.length x)) := by
        show _ = _
        have e2 : (i == L.length - 1) = ((i : Int) == (L.length : Int) - 1) := by rw [Bool.eq_iff_iff]; simp; omega
        rw [Nt.rowP, hgx, e2]
      have HN : Hid (Nt.rowP gr sl L i = false → R = false) := fun h => by
        rw [HRR.out]
        cases hr : Nt.rowsP gr sl L L.length
        · rfl
        · exact absurd (Nt.rowsP_le hr hlt) (by rw [h]; simp)
      have HY : Hid (Nt.rowP gr sl L i = true → Nt.rowsP gr sl L (i + 1) = true) := fun h => by rw [Nt.rowsP_succ, hrows, h]; rfl
      have HFt : Hid (∀ w', Calls Tryd.prog 42 #[.agg #[.int .i64 gr, .int .i64 sl, .slice (some ⟨b, off, none⟩) L.length cap], .agg #[.int .u8 (x.k : Int), .int .u64 (St.wd x.s 0 : Nat), .int .u64 (St.wd x.s 1 : Nat), .int .u64 (St.wd x.s 2 : Nat), .int .u64 (St.wd x.s 3 : Nat), .int .i64 x.to, .int .i64 x.gr, .int .i64 x.la, .int .i64 x.sl], .bool ((i : Int) == (L.length : Int) - 1)] w' fun e w2 => e = .returned (.bool (Nt.rowP gr sl L i)) ∧ Below w'.heap.size w' w2) := fun w' => by rw [HQ.out]; exact rfits_any x gr sl (some ⟨b, off, none⟩) L.length cap _ w'
      have hwr : IntKind.i64.wrap ((L.length : Int) - 1) = (L.length : Int) - 1 := by rw [IntKind.wrap_i64]; omega
      have HB1 : Hid _ := hB
      have HPB : Hid _ := PB
      have HX : Hid _ := hx
      clear hcell hcw hx hgx hB PB hrows HQ
      go_wp2_with fail
      refine wp_region_noPanic ?_
      have hS0 : (fun w' => w'.cell? ⟨w.heap.size, 0, none⟩ = some (.int .i64 gr) ∧ w'.cell? ⟨w.heap.size, 1, none⟩ = some (.int .i64 sl) ∧ w'.cell? ⟨w.heap.size, 2, none⟩ = some (.slice (some ⟨b, off, none⟩) L.length cap) ∧ w'.cell? ⟨b, off + i * 9, none⟩ = some (.int .u8 (x.k : Int)) ∧ w'.cell? ⟨b, off + i * 9 + 1, none⟩ = some (.int .u64 (St.wd x.s 0 : Nat)) ∧ w'.cell? ⟨b, off + i * 9 + 2, none⟩ = some (.int .u64 (St.wd x.s 1 : Nat)) ∧ w'.cell? ⟨b, off + i * 9 + 3, none⟩ = some (.int .u64 (St.wd x.s 2 : Nat)) ∧ w'.cell? ⟨b, off + i * 9 + 4, none⟩ = some (.int .u64 (St.wd x.s 3 : Nat)) ∧ w'.cell? ⟨b, off + i * 9 + 5, none⟩ = some (.int .i64 x.to) ∧ w'.cell? ⟨b, off + i * 9 + 6, none⟩ = some (.int .i64 x.gr) ∧ w'.cell? ⟨b, off + i * 9 + 7, none⟩ = some (.int .i64 x.la) ∧ w'.cell? ⟨b, off + i * 9 + 8, none⟩ = some (.int .i64 x.sl)) wr := ⟨a0, a1, a2, x0, x1, x2, x3, x4, x5, x6, x7, x8⟩
      have HS0 : Hid _ := hS0
      clear hS0 a0 a1 a2 x0 x1 x2 x3 x4 x5 x6 x7 x8
      have HSk : Hid (∀ w', Below wr.heap.size wr w' → (fun w' => w'.cell? ⟨w.heap.size, 0, none⟩ = some (.int .i64 gr) ∧ w'.cell? ⟨w.heap.size, 1, none⟩ = some (.int .i64 sl) ∧ w'.cell? ⟨w.heap.size, 2, none⟩ = some (.slice (some ⟨b, off, none⟩) L.length cap) ∧ w'.cell? ⟨b, off + i * 9, none⟩ = some (.int .u8 (x.k : Int)) ∧ w'.cell? ⟨b, off + i * 9 + 1, none⟩ = some (.int .u64 (St.wd x.s 0 : Nat)) ∧ w'.cell? ⟨b, off + i * 9 + 2, none⟩ = some (.int .u64 (St.wd x.s 1 : Nat)) ∧ w'.cell? ⟨b, off + i * 9 + 3, none⟩ = some (.int .u64 (St.wd x.s 2 : Nat)) ∧ w'.cell? ⟨b, off + i * 9 + 4, none⟩ = some (.int .u64 (St.wd x.s 3 : Nat)) ∧ w'.cell? ⟨b, off + i * 9 + 5, none⟩ = some (.int .i64 x.to) ∧ w'.cell? ⟨b, off + i * 9 + 6, none⟩ = some (.int .i64 x.gr) ∧ w'.cell? ⟨b, off + i * 9 + 7, none⟩ = some (.int .i64 x.la) ∧ w'.cell? ⟨b, off + i * 9 + 8, none⟩ = some (.int .i64 x.sl)) w') := fun w' hb' => by
        have hc : ∀ k j, k < wr.heap.size → w'.cell? ⟨k, j, none⟩ = wr.cell? ⟨k, j, none⟩ := fun k j hk => hb'.cell (p := ⟨k, j, none⟩) hk
        obtain ⟨a0, a1, a2, x0, x1, x2, x3, x4, x5, x6, x7, x8⟩ := HS0.out
        have hbw : b < wr.heap.size := by have := HB1.out.size; omega
        exact ⟨(hc _ _ hsz).trans a0, (hc _ _ hsz).trans a1, (hc _ _ hsz).trans a2, (hc _ _ hbw).trans x0, (hc _ _ hbw).trans x1, (hc _ _ hbw).trans x2, (hc _ _ hbw).trans x3, (hc _ _ hbw).trans x4, (hc _ _ hbw).trans x5, (hc _ _ hbw).trans x6, (hc _ _ hbw).trans x7, (hc _ _ hbw).trans x8⟩
      go_region_held (fun w' => w'.cell? ⟨w.heap.size, 0, none⟩ = some (.int .i64 gr) ∧ w'.cell? ⟨w.heap.size, 1, none⟩ = some (.int .i64 sl) ∧ w'.cell? ⟨w.heap.size, 2, none⟩ = some (.slice (some ⟨b, off, none⟩) L.length cap) ∧ w'.cell? ⟨b, off + i * 9, none⟩ = some (.int .u8 (x.k : Int)) ∧ w'.cell? ⟨b, off + i * 9 + 1, none⟩ = some (.int .u64 (St.wd x.s 0 : Nat)) ∧ w'.cell? ⟨b, off + i * 9 + 2, none⟩ = some (.int .u64 (St.wd x.s 1 : Nat)) ∧ w'.cell? ⟨b, off + i * 9 + 3, none⟩ = some (.int .u64 (St.wd x.s 2 : Nat)) ∧ w'.cell? ⟨b, off + i * 9 + 4, none⟩ = some (.int .u64 (St.wd x.s 3 : Nat)) ∧ w'.cell? ⟨b, off + i * 9 + 5, none⟩ = some (.int .i64 x.to) ∧ w'.cell? ⟨b, off + i * 9 + 6, none⟩ = some (.int .i64 x.gr) ∧ w'.cell? ⟨b, off + i * 9 + 7, none⟩ = some (.int .i64 x.la) ∧ w'.cell? ⟨b, off + i * 9 + 8, none⟩ = some (.int .i64 x.sl)) (first | exact HS0.out | exact HSk.out _ hb3) (first | (go_at_call 42; refine Calls.mono (HFt.out _) ?_; rintro e w2 ⟨rfl, hb2⟩; (have hb3 : Below wr.heap.size wr w2 := ⟨hb2.os, hb2.tape, hb2.output, hb2.size, hb2.block⟩)))
      refine NoPanic.normal ?_
      rename World.cell? _ _ = _ ∧ _ => hHeld
      have HB2 : Hid (Below w.heap.size w w2) := HB1.out.trans (hb3.mono HB1.out.size)
      have HP2 : Hid (w2.heap[w.heap.size]? = _) := (hb3.block _ hsz).trans HPB.out
      clear hHeld hb2 hb3 HFt HS0 HSk HB1 HPB
      cases hrp : Nt.rowP gr sl L i
      · have HF : Hid (R = false) := HN.out hrp
        clear hrp HN HY
        go_wp2_with fail
        go_ret
        exact ⟨by rw [HF.out]; rfl, HB2.out⟩
      · have HY2 : Hid _ := HY.out hrp
        clear hrp HN HY
        go_wp2_with fail
        go_roundw
        case rel => exact ⟨i + 1, by omega, by go_num, HB2.out, HP2.out, HY2.out⟩
        case measure => simp [intOf]; omega
    · obtain rfl : i = L.length := by omega
      have HF : Hid (R = true) := by show _ = _; rw [HRR.out]; exact hrows
      clear hrows
      go_wp2_with fail
      go_ret
      exact ⟨by rw [HF.out]; rfl, hB⟩

set_option maxRecDepth 100000 in
set_option maxHeartbeats 4000000 in
theorem rerror_any (gr sl : Int) (a : Option Addr) (cap : Nat) (L : List Nt.Ins) (w : World) (hc : Nt.Cds w w.heap.size a cap L) :
    Calls Tryd.prog 46 #[.agg #[.int .i64 gr, .int .i64 sl, .slice a L.length cap]] w fun e w' => e = .returned (.int .i64 (Nt.rbE gr sl L)) ∧ Below w.heap.size w w' := by
  obtain ⟨W, hW⟩ : ∃ W, W = w.alloc (.cells #[.int .i64 gr, .int .i64 sl, .slice a L.length cap] 35) := ⟨_, rfl⟩
  have hB0 : Below w.heap.size w W := by rw [hW]; exact (Below.refl w.heap.size w).alloc (Nat.le_refl _) _
  have P0 : W.heap[w.heap.size]? = some (.cells #[.int .i64 gr, .int .i64 sl, .slice a L.length cap] 35 (0, 0)) := by rw [hW]; exact heap_alloc_new w _
  have hs0 : W.heap.size = w.heap.size + 1 := by rw [hW]; simp
  have HRt : Hid _ := rright_any gr sl a cap L W (hc.under hB0 hB0.size)
  have hlm := hc.len
  have HC : Hid _ := hc
  have HB0 : Hid _ := hB0
  have HP0 : Hid _ := P0
  clear hc hB0 P0
  go_enter Tryd.func46, Tryd.ntmps46
  go_wp2_with fail
  rw [← hW]
  clear hW
  refine Calls.mono HRt.out ?_
  rintro e w1 ⟨rfl, hb1⟩
  have HB1 : Hid (Below w.heap.size w w1) := HB0.out.trans (hb1.mono HB0.out.size)
  have HP1 : Hid (w1.heap[w.heap.size]? = _) := (hb1.block _ (by omega)).trans HP0.out
  clear HRt HB0 HP0 hb1
  cases hr : Nt.rightP gr sl L
  · have HE : Hid (Nt.rbE gr sl L = 100) := by show _ = _; rw [Nt.rbE, hr]; rfl
    clear hr
    go_wp2_with fail
    go_ret
    exact ⟨by rw [HE.out]; rfl, HB1.out⟩
  · have HE : Hid (Nt.rbE gr sl L = if L.any (fun x => x.k == 9) then 101 else 0) := by show _ = _; rw [Nt.rbE, hr]; rfl
    clear hr
    go_wp2_with fail
    go_loopw [4] (fun iv wr => ∃ i : Nat, i ≤ L.length ∧ iv = .int .i64 (i : Int) ∧ Below w.heap.size w wr ∧ wr.heap[w.heap.size]? = some (.cells #[.int .i64 gr, .int .i64 sl, .slice a L.length cap] 35 (0, 0)) ∧ (L.take i).any (fun x => x.k == 9) = false) (fun iv _ => L.length - (intOf iv).toNat)
    case atStart => exact ⟨0, by omega, rfl, HB1.out, HP1.out, by simp⟩
    case round =>
      clear HB1 HP1
      obtain ⟨i, hi, rfl, hB, PB, hno⟩ := hrel
      have a2 : wr.cell? ⟨w.heap.size, 2, none⟩ = some (.slice a L.length cap) := cell_of_row _ _ _ _ _ _ PB
      by_cases hlt : i < L.length
      · obtain ⟨b, off, rfl, hb, hcell⟩ := HC.out.lies i hlt
        have x0 : wr.cell? ⟨b, off + i * 9, none⟩ = some (.int .u8 ((L[i]).k : Int)) := (hB.cell (p := ⟨b, off + i * 9, none⟩) hb).trans (hcell 0 (by omega))
        have HNx : Hid ((L.take (i + 1)).any (fun x => x.k == 9) = ((L[i]).k == 9)) := by show _ = _; rw [List.take_succ_eq_append_getElem hlt, List.any_append, hno]; simp
        have HYx : Hid ((L[i]).k = 9 → L.any (fun x => x.k == 9) = true) := fun h => List.any_eq_true.2 ⟨L[i], List.getElem_mem hlt, by simp [h]⟩
        obtain ⟨k, hk⟩ : ∃ k, (L[i]).k = k := ⟨_, rfl⟩
        rw [hk] at x0 HNx HYx
        have HB1 : Hid _ := hB
        have HPB : Hid _ := PB
        clear hk hcell hB PB hno
        by_cases h9 : k = 9
        · have h9' : ((k : Int) == 9) = true := by simp; omega
          have HF : Hid (Nt.rbE gr sl L = 101) := by show _ = _; rw [HE.out, HYx.out h9]; rfl
          clear HE HYx HNx
          go_wp2_with fail
          go_ret
          exact ⟨by rw [HF.out]; rfl, HB1.out⟩
        · have h9' : ((k : Int) == 9) = false := by simp; omega
          have HNy : Hid ((L.take (i + 1)).any (fun x => x.k == 9) = false) := by show _ = _; rw [HNx.out]; simpa using h9
          clear HYx HNx
          go_wp2_with fail
          go_roundw
          case rel => exact ⟨i + 1, by omega, by go_num, HB1.out, HPB.out, HNy.out⟩
          case measure => simp [intOf]; omega
      · obtain rfl : i = L.length := by omega
        rw [List.take_of_length_le (Nat.le_refl _)] at hno
        have HF : Hid (Nt.rbE gr sl L = 0) := by show _ = _; rw [HE.out, hno]; rfl
        clear hno HE
        go_wp2_with fail
        go_ret
        exact ⟨by rw [HF.out]; rfl, hB⟩
end Go.Proofs.YtdiokclbdaojpaaDoor
