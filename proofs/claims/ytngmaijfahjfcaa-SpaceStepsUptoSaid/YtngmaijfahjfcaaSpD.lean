/- What the law's do answers: one call of a space, by its number. -/
import Derived.Test.YtngmaijfahjfcaaSpM1
import Derived.Test.YtngmaijfahjfcaaSpM2
import Derived.Test.YtngmaijfahjfcaaSpM3
import Derived.Test.YtngmaijfahjfcaaSpM4
import Derived.Test.YtngmaijfahjfcaaSpM5
import Derived.Test.YtngmaijfahjfcaaSpM6
import Derived.Test.YtngmaijfahjfcaaSpM7
import Derived.Test.YtngmaijfahjfcaaSpM9
import Derived.Test.YtngmaijfahjfcaaSpT
namespace Go.Proofs.Ytngmaijfahjfcaa
open Go.RowKit

/-- What a step makes of a space: the error, and what there is then. -/
def Sc.step (quota : Nat) (s : Sc.St) (k : Int) (t : ByteArray) (i : Nat) (x : ByteArray) : Int × Sc.St :=
  if k = 0 then Sc.ask quota s ⟨t.data.toList, s.h, s.q⟩ else
  if k = 1 then Sc.ask quota s ⟨s.p ++ 10 :: t.data.toList, s.h, s.q⟩ else
  if k = 2 then Sc.ask quota s ⟨s.h, s.h, s.q⟩ else
  if k = 3 then Sc.ask quota s ⟨s.p ++ 10 :: s.h, s.h, s.q⟩ else
  if k = 4 then Sc.ask quota s ⟨s.p, s.p, s.q⟩ else
  if k = 5 then Sc.ask quota s ⟨s.p, s.h ++ 10 :: s.p, s.q⟩ else
  if k = 6 then Sc.ask quota s ⟨s.h, s.p, s.q⟩ else
  if k = 7 then (0, ⟨Sc.rst s.p, s.h, s.q⟩) else
  if k = 8 then Sc.push quota s i x else
  if k = 9 then (0, ⟨s.p, s.h, []⟩) else (0, s)
/-- What a step hands back beside its error. -/
def Sc.more (s : Sc.St) (k : Int) : Bool := if k = 7 then (Sc.lf s.p).isSome else false
def Sc.took (s : Sc.St) (k : Int) : List Sc.It := if k = 9 then s.q else []
/-- What a step leaves. -/
def Dp (w : World) (S : Nat → Prop) (g : Nat) (t : Sc.St) (quota : Nat) (lv : Value) (Q : List Sc.It) (w' : World) : Prop :=
  ∃ S', Sp w' S' g t quota ∧ Tu S w w' ∧ (∀ k, S' k → S k ∨ w.heap.size ≤ k) ∧ Its w' lv Q ∧ ∀ b, blk lv = some b → ¬ S' b
theorem Dp.of {W w w' : World} {S : Nat → Prop} {g : Nat} {t : Sc.St} {quota : Nat} (h : Aft W S g t quota w') (ht : Tu (fun _ => False) w W) : Dp w S g t quota (.slice none 0 0) [] w' := by
  obtain ⟨S', q1, q2, q3⟩ := h.before ht
  exact ⟨S', q1, q2, q3, .inl ⟨rfl, rfl⟩, fun b e => by cases e⟩
set_option maxRecDepth 100000 in
set_option maxHeartbeats 1000000 in
theorem do0 (S : Nat → Prop) (g : Nat) (s : Sc.St) (quota : Nat) (t : ByteArray) (i : Nat) (x : ByteArray) (w : World) (h : Sp w S g s quota) (hx : t.size ≤ 281474976710656) :
    Calls Try.prog 11 #[.pointer (some ⟨g, 0, none⟩), stV 0 t i x] w fun e w' => ∃ lv, e = .returned (.tuple #[.bool false, lv, .int .i64 (Sc.ask quota s ⟨t.data.toList, s.h, s.q⟩).1]) ∧ Dp w S g (Sc.ask quota s ⟨t.data.toList, s.h, s.q⟩).2 quota lv [] w' := by
  have ht : Tu (fun _ => False) w (w.alloc (.cells #[.int .i64 0, .string t, .int .u8 (i : Int), .string x] 35)) := (Tu.refl _ w).alloc _
  have h0 : Sp (w.alloc (.cells #[.int .i64 0, .string t, .int .u8 (i : Int), .string x] 35)) S g s quota := by obtain ⟨pv, hv, qv, h⟩ := h; exact ⟨pv, hv, qv, h.tu ht (fun _ _ e => e)⟩
  have HC : Hid (Calls Try.prog 22 #[.pointer (some ⟨g, 0, none⟩), .string t] (w.alloc (.cells #[.int .i64 0, .string t, .int .u8 (i : Int), .string x] 35)) fun e w' => e = .returned (.int .i64 (Sc.ask quota s ⟨t.data.toList, s.h, s.q⟩).1) ∧ Aft (w.alloc (.cells #[.int .i64 0, .string t, .int .u8 (i : Int), .string x] 35)) S g (Sc.ask quota s ⟨t.data.toList, s.h, s.q⟩).2 quota w') := set_any S g s quota t _ h0 hx
  have HD : Hid (∀ t' w', Aft (w.alloc (.cells #[.int .i64 0, .string t, .int .u8 (i : Int), .string x] 35)) S g t' quota w' → Dp w S g t' quota (.slice none 0 0) [] w') := fun t' w' q => Dp.of q ht
  generalize (Sc.ask quota s ⟨t.data.toList, s.h, s.q⟩) = r at *
  obtain ⟨r1, r2⟩ := r
  clear h0 ht h
  go_enter Try.func11, Try.ntmps11
  go_wp2_with (first | (go_at_call 22; refine HC.out.mono ?_; rintro e w1 ⟨rfl, hP⟩))
  go_ret3
  exact ⟨_, rfl, HD.out _ _ hP⟩
set_option maxRecDepth 100000 in
set_option maxHeartbeats 1000000 in
theorem do1 (S : Nat → Prop) (g : Nat) (s : Sc.St) (quota : Nat) (t : ByteArray) (i : Nat) (x : ByteArray) (w : World) (h : Sp w S g s quota) (hx : t.size ≤ 140737488355328) :
    Calls Try.prog 11 #[.pointer (some ⟨g, 0, none⟩), stV 1 t i x] w fun e w' => ∃ lv, e = .returned (.tuple #[.bool false, lv, .int .i64 (Sc.ask quota s ⟨s.p ++ 10 :: t.data.toList, s.h, s.q⟩).1]) ∧ Dp w S g (Sc.ask quota s ⟨s.p ++ 10 :: t.data.toList, s.h, s.q⟩).2 quota lv [] w' := by
  have ht : Tu (fun _ => False) w (w.alloc (.cells #[.int .i64 1, .string t, .int .u8 (i : Int), .string x] 35)) := (Tu.refl _ w).alloc _
  have h0 : Sp (w.alloc (.cells #[.int .i64 1, .string t, .int .u8 (i : Int), .string x] 35)) S g s quota := by obtain ⟨pv, hv, qv, h⟩ := h; exact ⟨pv, hv, qv, h.tu ht (fun _ _ e => e)⟩
  have HC : Hid (Calls Try.prog 29 #[.pointer (some ⟨g, 0, none⟩), .string t] (w.alloc (.cells #[.int .i64 1, .string t, .int .u8 (i : Int), .string x] 35)) fun e w' => e = .returned (.int .i64 (Sc.ask quota s ⟨s.p ++ 10 :: t.data.toList, s.h, s.q⟩).1) ∧ Aft (w.alloc (.cells #[.int .i64 1, .string t, .int .u8 (i : Int), .string x] 35)) S g (Sc.ask quota s ⟨s.p ++ 10 :: t.data.toList, s.h, s.q⟩).2 quota w') := join_any S g s quota t _ h0 (by omega)
  have HD : Hid (∀ t' w', Aft (w.alloc (.cells #[.int .i64 1, .string t, .int .u8 (i : Int), .string x] 35)) S g t' quota w' → Dp w S g t' quota (.slice none 0 0) [] w') := fun t' w' q => Dp.of q ht
  generalize (Sc.ask quota s ⟨s.p ++ 10 :: t.data.toList, s.h, s.q⟩) = r at *
  obtain ⟨r1, r2⟩ := r
  clear h0 ht h
  go_enter Try.func11, Try.ntmps11
  go_wp2_with (first | (go_at_call 29; refine HC.out.mono ?_; rintro e w1 ⟨rfl, hP⟩))
  go_ret3
  exact ⟨_, rfl, HD.out _ _ hP⟩
set_option maxRecDepth 100000 in
set_option maxHeartbeats 1000000 in
theorem do2 (S : Nat → Prop) (g : Nat) (s : Sc.St) (quota : Nat) (t : ByteArray) (i : Nat) (x : ByteArray) (w : World) (h : Sp w S g s quota)  :
    Calls Try.prog 11 #[.pointer (some ⟨g, 0, none⟩), stV 2 t i x] w fun e w' => ∃ lv, e = .returned (.tuple #[.bool false, lv, .int .i64 (Sc.ask quota s ⟨s.h, s.h, s.q⟩).1]) ∧ Dp w S g (Sc.ask quota s ⟨s.h, s.h, s.q⟩).2 quota lv [] w' := by
  have ht : Tu (fun _ => False) w (w.alloc (.cells #[.int .i64 2, .string t, .int .u8 (i : Int), .string x] 35)) := (Tu.refl _ w).alloc _
  have h0 : Sp (w.alloc (.cells #[.int .i64 2, .string t, .int .u8 (i : Int), .string x] 35)) S g s quota := by obtain ⟨pv, hv, qv, h⟩ := h; exact ⟨pv, hv, qv, h.tu ht (fun _ _ e => e)⟩
  have HC : Hid (Calls Try.prog 25 #[.pointer (some ⟨g, 0, none⟩)] (w.alloc (.cells #[.int .i64 2, .string t, .int .u8 (i : Int), .string x] 35)) fun e w' => e = .returned (.int .i64 (Sc.ask quota s ⟨s.h, s.h, s.q⟩).1) ∧ Aft (w.alloc (.cells #[.int .i64 2, .string t, .int .u8 (i : Int), .string x] 35)) S g (Sc.ask quota s ⟨s.h, s.h, s.q⟩).2 quota w') := get_any S g s quota _ h0
  have HD : Hid (∀ t' w', Aft (w.alloc (.cells #[.int .i64 2, .string t, .int .u8 (i : Int), .string x] 35)) S g t' quota w' → Dp w S g t' quota (.slice none 0 0) [] w') := fun t' w' q => Dp.of q ht
  generalize (Sc.ask quota s ⟨s.h, s.h, s.q⟩) = r at *
  obtain ⟨r1, r2⟩ := r
  clear h0 ht h
  go_enter Try.func11, Try.ntmps11
  go_wp2_with (first | (go_at_call 25; refine HC.out.mono ?_; rintro e w1 ⟨rfl, hP⟩))
  go_ret3
  exact ⟨_, rfl, HD.out _ _ hP⟩
set_option maxRecDepth 100000 in
set_option maxHeartbeats 1000000 in
theorem do3 (S : Nat → Prop) (g : Nat) (s : Sc.St) (quota : Nat) (t : ByteArray) (i : Nat) (x : ByteArray) (w : World) (h : Sp w S g s quota)  :
    Calls Try.prog 11 #[.pointer (some ⟨g, 0, none⟩), stV 3 t i x] w fun e w' => ∃ lv, e = .returned (.tuple #[.bool false, lv, .int .i64 (Sc.ask quota s ⟨s.p ++ 10 :: s.h, s.h, s.q⟩).1]) ∧ Dp w S g (Sc.ask quota s ⟨s.p ++ 10 :: s.h, s.h, s.q⟩).2 quota lv [] w' := by
  have ht : Tu (fun _ => False) w (w.alloc (.cells #[.int .i64 3, .string t, .int .u8 (i : Int), .string x] 35)) := (Tu.refl _ w).alloc _
  have h0 : Sp (w.alloc (.cells #[.int .i64 3, .string t, .int .u8 (i : Int), .string x] 35)) S g s quota := by obtain ⟨pv, hv, qv, h⟩ := h; exact ⟨pv, hv, qv, h.tu ht (fun _ _ e => e)⟩
  have HC : Hid (Calls Try.prog 28 #[.pointer (some ⟨g, 0, none⟩)] (w.alloc (.cells #[.int .i64 3, .string t, .int .u8 (i : Int), .string x] 35)) fun e w' => e = .returned (.int .i64 (Sc.ask quota s ⟨s.p ++ 10 :: s.h, s.h, s.q⟩).1) ∧ Aft (w.alloc (.cells #[.int .i64 3, .string t, .int .u8 (i : Int), .string x] 35)) S g (Sc.ask quota s ⟨s.p ++ 10 :: s.h, s.h, s.q⟩).2 quota w') := getm_any S g s quota _ h0
  have HD : Hid (∀ t' w', Aft (w.alloc (.cells #[.int .i64 3, .string t, .int .u8 (i : Int), .string x] 35)) S g t' quota w' → Dp w S g t' quota (.slice none 0 0) [] w') := fun t' w' q => Dp.of q ht
  generalize (Sc.ask quota s ⟨s.p ++ 10 :: s.h, s.h, s.q⟩) = r at *
  obtain ⟨r1, r2⟩ := r
  clear h0 ht h
  go_enter Try.func11, Try.ntmps11
  go_wp2_with (first | (go_at_call 28; refine HC.out.mono ?_; rintro e w1 ⟨rfl, hP⟩))
  go_ret3
  exact ⟨_, rfl, HD.out _ _ hP⟩
set_option maxRecDepth 100000 in
set_option maxHeartbeats 1000000 in
theorem do4 (S : Nat → Prop) (g : Nat) (s : Sc.St) (quota : Nat) (t : ByteArray) (i : Nat) (x : ByteArray) (w : World) (h : Sp w S g s quota)  :
    Calls Try.prog 11 #[.pointer (some ⟨g, 0, none⟩), stV 4 t i x] w fun e w' => ∃ lv, e = .returned (.tuple #[.bool false, lv, .int .i64 (Sc.ask quota s ⟨s.p, s.p, s.q⟩).1]) ∧ Dp w S g (Sc.ask quota s ⟨s.p, s.p, s.q⟩).2 quota lv [] w' := by
  have ht : Tu (fun _ => False) w (w.alloc (.cells #[.int .i64 4, .string t, .int .u8 (i : Int), .string x] 35)) := (Tu.refl _ w).alloc _
  have h0 : Sp (w.alloc (.cells #[.int .i64 4, .string t, .int .u8 (i : Int), .string x] 35)) S g s quota := by obtain ⟨pv, hv, qv, h⟩ := h; exact ⟨pv, hv, qv, h.tu ht (fun _ _ e => e)⟩
  have HC : Hid (Calls Try.prog 23 #[.pointer (some ⟨g, 0, none⟩)] (w.alloc (.cells #[.int .i64 4, .string t, .int .u8 (i : Int), .string x] 35)) fun e w' => e = .returned (.int .i64 (Sc.ask quota s ⟨s.p, s.p, s.q⟩).1) ∧ Aft (w.alloc (.cells #[.int .i64 4, .string t, .int .u8 (i : Int), .string x] 35)) S g (Sc.ask quota s ⟨s.p, s.p, s.q⟩).2 quota w') := put_any S g s quota _ h0
  have HD : Hid (∀ t' w', Aft (w.alloc (.cells #[.int .i64 4, .string t, .int .u8 (i : Int), .string x] 35)) S g t' quota w' → Dp w S g t' quota (.slice none 0 0) [] w') := fun t' w' q => Dp.of q ht
  generalize (Sc.ask quota s ⟨s.p, s.p, s.q⟩) = r at *
  obtain ⟨r1, r2⟩ := r
  clear h0 ht h
  go_enter Try.func11, Try.ntmps11
  go_wp2_with (first | (go_at_call 23; refine HC.out.mono ?_; rintro e w1 ⟨rfl, hP⟩))
  go_ret3
  exact ⟨_, rfl, HD.out _ _ hP⟩
set_option maxRecDepth 100000 in
set_option maxHeartbeats 1000000 in
theorem do5 (S : Nat → Prop) (g : Nat) (s : Sc.St) (quota : Nat) (t : ByteArray) (i : Nat) (x : ByteArray) (w : World) (h : Sp w S g s quota)  :
    Calls Try.prog 11 #[.pointer (some ⟨g, 0, none⟩), stV 5 t i x] w fun e w' => ∃ lv, e = .returned (.tuple #[.bool false, lv, .int .i64 (Sc.ask quota s ⟨s.p, s.h ++ 10 :: s.p, s.q⟩).1]) ∧ Dp w S g (Sc.ask quota s ⟨s.p, s.h ++ 10 :: s.p, s.q⟩).2 quota lv [] w' := by
  have ht : Tu (fun _ => False) w (w.alloc (.cells #[.int .i64 5, .string t, .int .u8 (i : Int), .string x] 35)) := (Tu.refl _ w).alloc _
  have h0 : Sp (w.alloc (.cells #[.int .i64 5, .string t, .int .u8 (i : Int), .string x] 35)) S g s quota := by obtain ⟨pv, hv, qv, h⟩ := h; exact ⟨pv, hv, qv, h.tu ht (fun _ _ e => e)⟩
  have HC : Hid (Calls Try.prog 27 #[.pointer (some ⟨g, 0, none⟩)] (w.alloc (.cells #[.int .i64 5, .string t, .int .u8 (i : Int), .string x] 35)) fun e w' => e = .returned (.int .i64 (Sc.ask quota s ⟨s.p, s.h ++ 10 :: s.p, s.q⟩).1) ∧ Aft (w.alloc (.cells #[.int .i64 5, .string t, .int .u8 (i : Int), .string x] 35)) S g (Sc.ask quota s ⟨s.p, s.h ++ 10 :: s.p, s.q⟩).2 quota w') := putm_any S g s quota _ h0
  have HD : Hid (∀ t' w', Aft (w.alloc (.cells #[.int .i64 5, .string t, .int .u8 (i : Int), .string x] 35)) S g t' quota w' → Dp w S g t' quota (.slice none 0 0) [] w') := fun t' w' q => Dp.of q ht
  generalize (Sc.ask quota s ⟨s.p, s.h ++ 10 :: s.p, s.q⟩) = r at *
  obtain ⟨r1, r2⟩ := r
  clear h0 ht h
  go_enter Try.func11, Try.ntmps11
  go_wp2_with (first | (go_at_call 27; refine HC.out.mono ?_; rintro e w1 ⟨rfl, hP⟩))
  go_ret3
  exact ⟨_, rfl, HD.out _ _ hP⟩
set_option maxRecDepth 100000 in
set_option maxHeartbeats 1000000 in
theorem do6 (S : Nat → Prop) (g : Nat) (s : Sc.St) (quota : Nat) (t : ByteArray) (i : Nat) (x : ByteArray) (w : World) (h : Sp w S g s quota)  :
    Calls Try.prog 11 #[.pointer (some ⟨g, 0, none⟩), stV 6 t i x] w fun e w' => ∃ lv, e = .returned (.tuple #[.bool false, lv, .int .i64 (Sc.ask quota s ⟨s.h, s.p, s.q⟩).1]) ∧ Dp w S g (Sc.ask quota s ⟨s.h, s.p, s.q⟩).2 quota lv [] w' := by
  have ht : Tu (fun _ => False) w (w.alloc (.cells #[.int .i64 6, .string t, .int .u8 (i : Int), .string x] 35)) := (Tu.refl _ w).alloc _
  have h0 : Sp (w.alloc (.cells #[.int .i64 6, .string t, .int .u8 (i : Int), .string x] 35)) S g s quota := by obtain ⟨pv, hv, qv, h⟩ := h; exact ⟨pv, hv, qv, h.tu ht (fun _ _ e => e)⟩
  have HC : Hid (Calls Try.prog 24 #[.pointer (some ⟨g, 0, none⟩)] (w.alloc (.cells #[.int .i64 6, .string t, .int .u8 (i : Int), .string x] 35)) fun e w' => e = .returned (.int .i64 (Sc.ask quota s ⟨s.h, s.p, s.q⟩).1) ∧ Aft (w.alloc (.cells #[.int .i64 6, .string t, .int .u8 (i : Int), .string x] 35)) S g (Sc.ask quota s ⟨s.h, s.p, s.q⟩).2 quota w') := swap_any S g s quota _ h0
  have HD : Hid (∀ t' w', Aft (w.alloc (.cells #[.int .i64 6, .string t, .int .u8 (i : Int), .string x] 35)) S g t' quota w' → Dp w S g t' quota (.slice none 0 0) [] w') := fun t' w' q => Dp.of q ht
  generalize (Sc.ask quota s ⟨s.h, s.p, s.q⟩) = r at *
  obtain ⟨r1, r2⟩ := r
  clear h0 ht h
  go_enter Try.func11, Try.ntmps11
  go_wp2_with (first | (go_at_call 24; refine HC.out.mono ?_; rintro e w1 ⟨rfl, hP⟩))
  go_ret3
  exact ⟨_, rfl, HD.out _ _ hP⟩
set_option maxRecDepth 100000 in
set_option maxHeartbeats 1000000 in
theorem do8 (S : Nat → Prop) (g : Nat) (s : Sc.St) (quota : Nat) (t : ByteArray) (i : Nat) (x : ByteArray) (w : World) (h : Sp w S g s quota) (hi : i < 256) (hy : x.size ≤ 281474976710656) (hQ : (s.q.length + 1) * 24 ≤ 140737488355328) :
    Calls Try.prog 11 #[.pointer (some ⟨g, 0, none⟩), stV 8 t i x] w fun e w' => ∃ lv, e = .returned (.tuple #[.bool false, lv, .int .i64 (Sc.push quota s i x).1]) ∧ Dp w S g (Sc.push quota s i x).2 quota lv [] w' := by
  have ht : Tu (fun _ => False) w (w.alloc (.cells #[.int .i64 8, .string t, .int .u8 (i : Int), .string x] 35)) := (Tu.refl _ w).alloc _
  have h0 : Sp (w.alloc (.cells #[.int .i64 8, .string t, .int .u8 (i : Int), .string x] 35)) S g s quota := by obtain ⟨pv, hv, qv, h⟩ := h; exact ⟨pv, hv, qv, h.tu ht (fun _ _ e => e)⟩
  have HC : Hid (Calls Try.prog 30 #[.pointer (some ⟨g, 0, none⟩), .agg #[.int .u8 (i : Int), .string x]] (w.alloc (.cells #[.int .i64 8, .string t, .int .u8 (i : Int), .string x] 35)) fun e w' => e = .returned (.int .i64 (Sc.push quota s i x).1) ∧ Aft (w.alloc (.cells #[.int .i64 8, .string t, .int .u8 (i : Int), .string x] 35)) S g (Sc.push quota s i x).2 quota w') := push_any S g i s quota x _ h0 hi hy hQ
  have HD : Hid (∀ t' w', Aft (w.alloc (.cells #[.int .i64 8, .string t, .int .u8 (i : Int), .string x] 35)) S g t' quota w' → Dp w S g t' quota (.slice none 0 0) [] w') := fun t' w' q => Dp.of q ht
  generalize (Sc.push quota s i x) = r at *
  obtain ⟨r1, r2⟩ := r
  clear h0 ht h
  go_enter Try.func11, Try.ntmps11
  go_wp2_with (first | (go_at_call 30; refine HC.out.mono ?_; rintro e w1 ⟨rfl, hP⟩))
  go_ret3
  exact ⟨_, rfl, HD.out _ _ hP⟩
set_option maxRecDepth 100000 in
set_option maxHeartbeats 1000000 in
theorem do7 (S : Nat → Prop) (g : Nat) (s : Sc.St) (quota : Nat) (t : ByteArray) (i : Nat) (x : ByteArray) (w : World) (h : Sp w S g s quota) :
    Calls Try.prog 11 #[.pointer (some ⟨g, 0, none⟩), stV 7 t i x] w fun e w' => ∃ lv, e = .returned (.tuple #[.bool (Sc.lf s.p).isSome, lv, .int .i64 0]) ∧ Dp w S g ⟨Sc.rst s.p, s.h, s.q⟩ quota lv [] w' := by
  have ht : Tu (fun _ => False) w (w.alloc (.cells #[.int .i64 7, .string t, .int .u8 (i : Int), .string x] 35)) := (Tu.refl _ w).alloc _
  have h0 : Sp (w.alloc (.cells #[.int .i64 7, .string t, .int .u8 (i : Int), .string x] 35)) S g s quota := by obtain ⟨pv, hv, qv, h⟩ := h; exact ⟨pv, hv, qv, h.tu ht (fun _ _ e => e)⟩
  have HC : Hid (Calls Try.prog 26 #[.pointer (some ⟨g, 0, none⟩)] (w.alloc (.cells #[.int .i64 7, .string t, .int .u8 (i : Int), .string x] 35)) fun e w' => e = .returned (.tuple #[.bool (Sc.lf s.p).isSome, .int .i64 0]) ∧ Aft (w.alloc (.cells #[.int .i64 7, .string t, .int .u8 (i : Int), .string x] 35)) S g ⟨Sc.rst s.p, s.h, s.q⟩ quota w') := drop_any S g s quota _ h0
  have HD : Hid (∀ t' w', Aft (w.alloc (.cells #[.int .i64 7, .string t, .int .u8 (i : Int), .string x] 35)) S g t' quota w' → Dp w S g t' quota (.slice none 0 0) [] w') := fun t' w' q => Dp.of q ht
  generalize (Sc.lf s.p).isSome = b at *
  clear h0 ht h
  go_enter Try.func11, Try.ntmps11
  go_wp2_with (first | (go_at_call 26; refine HC.out.mono ?_; rintro e w1 ⟨rfl, hP⟩))
  go_ret3
  exact ⟨_, rfl, HD.out _ _ hP⟩
set_option maxRecDepth 100000 in
set_option maxHeartbeats 1000000 in
theorem do9 (S : Nat → Prop) (g : Nat) (s : Sc.St) (quota : Nat) (t : ByteArray) (i : Nat) (x : ByteArray) (w : World) (h : Sp w S g s quota) :
    Calls Try.prog 11 #[.pointer (some ⟨g, 0, none⟩), stV 9 t i x] w fun e w' => ∃ lv, e = .returned (.tuple #[.bool false, lv, .int .i64 0]) ∧ Dp w S g ⟨s.p, s.h, []⟩ quota lv s.q w' := by
  have ht : Tu (fun _ => False) w (w.alloc (.cells #[.int .i64 9, .string t, .int .u8 (i : Int), .string x] 35)) := (Tu.refl _ w).alloc _
  have h0 : Sp (w.alloc (.cells #[.int .i64 9, .string t, .int .u8 (i : Int), .string x] 35)) S g s quota := by obtain ⟨pv, hv, qv, h⟩ := h; exact ⟨pv, hv, qv, h.tu ht (fun _ _ e => e)⟩
  have hgS : S g := by obtain ⟨_, _, _, q⟩ := h; exact q.gS
  have HC : Hid (Calls Try.prog 31 #[.pointer (some ⟨g, 0, none⟩)] (w.alloc (.cells #[.int .i64 9, .string t, .int .u8 (i : Int), .string x] 35)) fun e w' => ∃ v', e = .returned (.tuple #[v', .int .i64 0]) ∧ Dp w S g ⟨s.p, s.h, []⟩ quota v' s.q w') := by
    refine (take_any S g s quota _ h0).mono ?_
    rintro e w' ⟨v', rfl, q1, q2, q3, q4⟩
    exact ⟨v', rfl, _, q1, (ht.mono (fun _ _ e => e.elim)).trans (q4.mono (fun k _ e => by rw [e]; exact hgS)) (fun _ _ e => e), fun k e => .inl e.1, q2, fun b e q => q.2 e⟩
  clear h0 ht h hgS
  go_enter Try.func11, Try.ntmps11
  go_wp2_with (first | (go_at_call 31; refine HC.out.mono ?_; rintro e w1 ⟨v1, rfl, hP⟩; have HP : Hid (Dp w S g ⟨s.p, s.h, []⟩ quota v1 s.q w1) := hP; clear hP))
  go_ret3
  exact ⟨_, rfl, HP.out⟩
set_option maxRecDepth 100000 in
set_option maxHeartbeats 1000000 in
theorem doX (S : Nat → Prop) (g : Nat) (s : Sc.St) (quota : Nat) (j : Int) (h0 : j ≠ 0) (h1 : j ≠ 1) (h2 : j ≠ 2) (h3 : j ≠ 3) (h4 : j ≠ 4) (h5 : j ≠ 5) (h6 : j ≠ 6) (h7 : j ≠ 7) (h8 : j ≠ 8) (h9 : j ≠ 9) (t : ByteArray) (i : Nat) (x : ByteArray) (w : World) (h : Sp w S g s quota) :
    Calls Try.prog 11 #[.pointer (some ⟨g, 0, none⟩), stV j t i x] w fun e w' => ∃ lv, e = .returned (.tuple #[.bool false, lv, .int .i64 0]) ∧ Dp w S g s quota lv [] w' := by
  have HD : Hid (Dp w S g s quota (.slice none 0 0) [] (w.alloc (.cells #[.int .i64 j, .string t, .int .u8 (i : Int), .string x] 35))) := Dp.of (Aft.keep h ((Tu.refl _ w).alloc _)) (Tu.refl _ _)
  clear h
  go_enter Try.func11, Try.ntmps11
  go_wp2
  go_ret3
  exact ⟨_, rfl, HD.out⟩
/-- One call of a space. -/
theorem do_any (S : Nat → Prop) (g : Nat) (s : Sc.St) (quota : Nat) (j : Int) (t : ByteArray) (i : Nat) (x : ByteArray) (w : World) (h : Sp w S g s quota) (hx : t.size ≤ 140737488355328) (hi : i < 256) (hy : x.size ≤ 281474976710656) (hQ : (s.q.length + 1) * 24 ≤ 140737488355328) :
    Calls Try.prog 11 #[.pointer (some ⟨g, 0, none⟩), stV j t i x] w fun e w' => ∃ lv, e = .returned (.tuple #[.bool (Sc.more s j), lv, .int .i64 (Sc.step quota s j t i x).1]) ∧ Dp w S g (Sc.step quota s j t i x).2 quota lv (Sc.took s j) w' := by
  by_cases hj : 0 ≤ j ∧ j ≤ 9
  · have : j = 0 ∨ j = 1 ∨ j = 2 ∨ j = 3 ∨ j = 4 ∨ j = 5 ∨ j = 6 ∨ j = 7 ∨ j = 8 ∨ j = 9 := by omega
    rcases this with rfl | rfl | rfl | rfl | rfl | rfl | rfl | rfl | rfl | rfl
    · exact do0 S g s quota t i x w h (by omega)
    · exact do1 S g s quota t i x w h hx
    · exact do2 S g s quota t i x w h
    · exact do3 S g s quota t i x w h
    · exact do4 S g s quota t i x w h
    · exact do5 S g s quota t i x w h
    · exact do6 S g s quota t i x w h
    · exact do7 S g s quota t i x w h
    · exact do8 S g s quota t i x w h hi hy hQ
    · exact do9 S g s quota t i x w h
  · have e0 : ∀ n : Int, 0 ≤ n → n ≤ 9 → j ≠ n := fun n a b c => hj (by omega)
    have e1 : Sc.step quota s j t i x = (0, s) := by
      unfold Sc.step
      simp only [if_neg (e0 0 (by omega) (by omega)), if_neg (e0 1 (by omega) (by omega)), if_neg (e0 2 (by omega) (by omega)), if_neg (e0 3 (by omega) (by omega)), if_neg (e0 4 (by omega) (by omega)), if_neg (e0 5 (by omega) (by omega)), if_neg (e0 6 (by omega) (by omega)), if_neg (e0 7 (by omega) (by omega)), if_neg (e0 8 (by omega) (by omega)), if_neg (e0 9 (by omega) (by omega))]
    have e2 : Sc.more s j = false := if_neg (e0 7 (by omega) (by omega))
    have e3 : Sc.took s j = [] := if_neg (e0 9 (by omega) (by omega))
    rw [e1, e2, e3]
    exact doX S g s quota j (e0 0 (by omega) (by omega)) (e0 1 (by omega) (by omega)) (e0 2 (by omega) (by omega)) (e0 3 (by omega) (by omega)) (e0 4 (by omega) (by omega)) (e0 5 (by omega) (by omega)) (e0 6 (by omega) (by omega)) (e0 7 (by omega) (by omega)) (e0 8 (by omega) (by omega)) (e0 9 (by omega) (by omega)) t i x w h
end Go.Proofs.Ytngmaijfahjfcaa
