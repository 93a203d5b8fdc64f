/- What SetsBack answers. -/
import Derived.Test.YtmlpfgfpmbnbeaaSBkL
import Derived.Test.YtmlpfgfpmbnbeaaLawSBrk
namespace Go.Proofs.Ytmlpfgfpmbnbeaa
open Go.RowKit

set_option maxRecDepth 100000 in
set_option maxHeartbeats 2000000 in
theorem back_law (p : Nat → Bool) (t more : ByteArray) (w : World) (hs : t.size + more.size < 4294900000) (hm : MaxL w) :
    Calls Try.prog 6 #[St.setV p, .string t, .string more] w fun e w' => e = .returned (.bool true) ∧ Below w.heap.size w w' := by
  have HLV : Hid (∀ w, Calls Try.prog 11 #[] w fun e w' => e = .returned (.bool true) ∧ Below w.heap.size w w') := lives_any
  obtain ⟨P, hP⟩ : ∃ P : ByteArray, P = ⟨(St.printB p).toArray⟩ := ⟨_, rfl⟩
  have hPl : P.data.toList = St.printB p := by rw [hP]
  have hPz : P.size = (St.printB p).length := by rw [← Ln.szL, hPl]
  have hPn := St.print_len p
  have HP : Hid (∀ w1, Calls Try.prog 30 #[St.setV p] w1 fun e w' => e = .returned (.string P) ∧ Below w1.heap.size w1 w') := fun w1 => by rw [hP]; exact print_any p w1
  have HX : Hid (∀ w1, MaxL w1 → Calls Try.prog 32 #[.string (P ++ more)] w1 fun e w' => e = .returned (.tuple #[St.setV p, .int .i64 (P.size : Nat), .int .i64 0, .int .i64 0]) ∧ Below w1.heap.size w1 w') := fun w1 h1 => by
    obtain ⟨b, e1, e2⟩ := St.print_more p (P ++ more) more.data.toList (by simp [hPl])
    have := bracketA_any (P ++ more) w1 (by simp only [ByteArray.size_append]; omega) h1
    rw [e1, ← hPz] at this
    simp only [e2] at this
    exact this
  have E1 := set_neq p p
  rw [St.sameS_of (fun _ _ => rfl)] at E1
  have HT : Hid (∀ w1, MaxL w1 → Calls Try.prog 32 #[.string t] w1 fun e w' => e = .returned (.tuple #[St.setV (St.brP (St.itemA t) t).1, .int .i64 ((St.brP (St.itemA t) t).2.1 : Nat), .int .i64 ((St.brP (St.itemA t) t).2.2.1 : Nat), .int .i64 ((St.brP (St.itemA t) t).2.2.2 : Nat)]) ∧ Below w1.heap.size w1 w') := fun w1 h1 => bracketA_any t w1 (by omega) h1
  have hcase : ((St.brP (St.itemA t) t).2.2.1 = 0 ∧ (St.brP (St.itemA t) t).2.2.2 = 0) ∨ ((St.brP (St.itemA t) t).1 = St.inL [] ∧ (St.brP (St.itemA t) t).2.1 = 0 ∧ (St.brP (St.itemA t) t).2.2.1 = 70) := St.brGo_err
  have hok : ∀ b n, St.brP (St.itemA t) t = (b, n, 0, 0) → (2 ≤ n ∧ n ≤ t.size ∧ St.bt t (n - 1) = 93) ∧
      (∀ w1, MaxL w1 → Calls Try.prog 32 #[.string (t.extract 0 n ++ more)] w1 fun e w' => e = .returned (.tuple #[St.setV b, .int .i64 (n : Nat), .int .i64 0, .int .i64 0]) ∧ Below w1.heap.size w1 w') ∧
      (∃ Q : ByteArray, (∀ w1, Calls Try.prog 30 #[St.setV b] w1 fun e w' => e = .returned (.string Q) ∧ Below w1.heap.size w1 w') ∧ (∀ w1, MaxL w1 → Calls Try.prog 32 #[.string Q] w1 fun e w' => e = .returned (.tuple #[St.setV b, .int .i64 (Q.size : Nat), .int .i64 0, .int .i64 0]) ∧ Below w1.heap.size w1 w')) := by
    intro b n h
    have hat := St.brP_at h
    refine ⟨hat, ?_, ⟨(St.printB b).toArray⟩, fun w1 => print_any b w1, ?_⟩
    · intro w1 h1
      have hX := St.cut_more (X := t.extract 0 n ++ more) more.data.toList h (by simp)
      have := bracketA_any (t.extract 0 n ++ more) w1 (by simp only [ByteArray.size_append, ByteArray.size_extract]; omega) h1
      rw [hX] at this
      exact this
    · intro w1 h1
      obtain ⟨c, e1, e2⟩ := St.print_more b ⟨(St.printB b).toArray⟩ [] (by simp)
      have hl := St.print_len b
      have hz : (⟨(St.printB b).toArray⟩ : ByteArray).size = (St.printB b).length := by rw [← Ln.szL]
      have := bracketA_any ⟨(St.printB b).toArray⟩ w1 (by omega) h1
      rw [e1, ← hz] at this
      simp only [e2] at this
      exact this
  clear hPl hP
  generalize St.brP (St.itemA t) t = R at *
  obtain ⟨b, n, y, z⟩ := R
  simp only [St.setV] at HP HX HT hok hcase E1 ⊢
  have S0 := at_new w p
  have hB0 := (Below.refl w.heap.size w).alloc (Nat.le_refl _) (.cells #[.int .u64 (St.wd p 0 : Nat), .int .u64 (St.wd p 1 : Nat), .int .u64 (St.wd p 2 : Nat), .int .u64 (St.wd p 3 : Nat)] 25)
  have HOK : Hid _ := hok
  have HCA : Hid _ := hcase
  clear hok hcase
  go_enter Try.func6, Try.ntmps6
  go_wp2_with fail
  refine (HLV.out _).mono ?_
  rintro x w1 ⟨rfl, hb1⟩
  have S1 := S0.under hb1
  have hB1 := Below.more hB0 hb1 hB0.size
  clear S0 hB0 hb1
  obtain ⟨q0, q1, q2, q3⟩ := S1.cells
  go_wp2_with fail
  refine (HP.out _).mono ?_
  rintro x w2 ⟨rfl, hb2⟩
  have S2 := S1.under hb2
  have hB2 := Below.more hB1 hb2 hB1.size
  clear S1 hB1 hb2 q0 q1 q2 q3
  go_wp2_with fail
  refine (HX.out _ (hm.under hB2)).mono ?_
  rintro x w3 ⟨rfl, hb3⟩
  have S3 := (S2.under hb3).alloc (.cells #[.int .u64 (St.wd p 0 : Nat), .int .u64 (St.wd p 1 : Nat), .int .u64 (St.wd p 2 : Nat), .int .u64 (St.wd p 3 : Nat)] 25)
  have T3 := at_new w3 p
  have hB3 := (Below.more hB2 hb3 hB2.size).alloc (Nat.le_trans hB2.size hb3.size) (.cells #[.int .u64 (St.wd p 0 : Nat), .int .u64 (St.wd p 1 : Nat), .int .u64 (St.wd p 2 : Nat), .int .u64 (St.wd p 3 : Nat)] 25)
  clear S2 hB2 hb3
  obtain ⟨q0, q1, q2, q3⟩ := S3.cells
  obtain ⟨r0, r1, r2, r3⟩ := T3.cells
  go_wp2_with fail
  refine (HT.out _ (hm.under hB3)).mono ?_
  rintro x w4 ⟨rfl, hb4⟩
  have hB4 := (Below.more hB3 hb4 hB3.size).alloc (Nat.le_trans hB3.size hb4.size) (.cells #[.int .u64 (St.wd b 0 : Nat), .int .u64 (St.wd b 1 : Nat), .int .u64 (St.wd b 2 : Nat), .int .u64 (St.wd b 3 : Nat)] 25)
  have T4 := at_new w4 b
  clear S3 T3 q0 q1 q2 q3 r0 r1 r2 r3 hB3 hb4
  rcases HCA.out with ⟨rfl, rfl⟩ | ⟨rfl, rfl, rfl⟩
  · obtain ⟨⟨hn2, hnt, h93⟩, HC, Q, HQ, HD⟩ := HOK.out b n rfl
    have HC : Hid _ := HC
    have HQ : Hid _ := HQ
    have HD : Hid _ := HD
    have hlt : n - 1 < t.size := by omega
    have h93' : ((t[n - 1]'hlt).toNat : Int) = 93 := by rw [St.bt_in hlt] at h93; omega
    have Ei := fun wx => str_at t (n - 1) ((n : Int) - 1) (by omega) hlt wx
    rw [h93'] at Ei
    have E2 := set_eqn b
    clear HOK HCA
    go_wp2_with fail
    refine (HC.out _ (hm.under hB4)).mono ?_
    rintro x w5 ⟨rfl, hb5⟩
    have T5 := (T4.under hb5).alloc (.cells #[.int .u64 (St.wd b 0 : Nat), .int .u64 (St.wd b 1 : Nat), .int .u64 (St.wd b 2 : Nat), .int .u64 (St.wd b 3 : Nat)] 25)
    have U5 := at_new w5 b
    have hB5 := (Below.more hB4 hb5 hB4.size).alloc (Nat.le_trans hB4.size hb5.size) (.cells #[.int .u64 (St.wd b 0 : Nat), .int .u64 (St.wd b 1 : Nat), .int .u64 (St.wd b 2 : Nat), .int .u64 (St.wd b 3 : Nat)] 25)
    clear T4 hB4 hb5
    obtain ⟨q0, q1, q2, q3⟩ := T5.cells
    go_wp2_with fail
    refine (HQ.out _).mono ?_
    rintro x w6 ⟨rfl, hb6⟩
    have T6 := T5.under hb6
    have U6 := U5.under hb6
    have hB6 := Below.more hB5 hb6 hB5.size
    clear T5 U5 hB5 hb6 q0 q1 q2 q3
    go_wp2_with fail
    refine (HD.out _ (hm.under hB6)).mono ?_
    rintro x w7 ⟨rfl, hb7⟩
    have T7 := (T6.under hb7).alloc (.cells #[.int .u64 (St.wd b 0 : Nat), .int .u64 (St.wd b 1 : Nat), .int .u64 (St.wd b 2 : Nat), .int .u64 (St.wd b 3 : Nat)] 25)
    have U7 := (U6.under hb7).alloc (.cells #[.int .u64 (St.wd b 0 : Nat), .int .u64 (St.wd b 1 : Nat), .int .u64 (St.wd b 2 : Nat), .int .u64 (St.wd b 3 : Nat)] 25)
    have V7 := at_new w7 b
    have hB7 := (Below.more hB6 hb7 hB6.size).alloc (Nat.le_trans hB6.size hb7.size) (.cells #[.int .u64 (St.wd b 0 : Nat), .int .u64 (St.wd b 1 : Nat), .int .u64 (St.wd b 2 : Nat), .int .u64 (St.wd b 3 : Nat)] 25)
    clear T6 U6 hB6 hb7
    obtain ⟨q0, q1, q2, q3⟩ := T7.cells
    obtain ⟨r0, r1, r2, r3⟩ := U7.cells
    obtain ⟨v0, v1, v2, v3⟩ := V7.cells
    go_wp2_with fail
    go_ret
    exact ⟨rfl, hB7⟩
  · have E3 : (binOp .eql 25 (.agg #[.int .u64 (St.wd (St.inL []) 0 : Nat), .int .u64 (St.wd (St.inL []) 1 : Nat), .int .u64 (St.wd (St.inL []) 2 : Nat), .int .u64 (St.wd (St.inL []) 3 : Nat)]) (.agg #[.int .u64 0, .int .u64 0, .int .u64 0, .int .u64 0])).run Try.prog = fun wx => .ok (.bool true) wx := by
      funext wx
      have := set_eqn (St.inL []) wx
      simp only [wd_none] at this ⊢
      exact this
    obtain ⟨q0, q1, q2, q3⟩ := T4.cells
    clear HOK HCA
    go_wp2_with fail
    go_ret
    exact ⟨rfl, hB4⟩
end Go.Proofs.Ytmlpfgfpmbnbeaa
