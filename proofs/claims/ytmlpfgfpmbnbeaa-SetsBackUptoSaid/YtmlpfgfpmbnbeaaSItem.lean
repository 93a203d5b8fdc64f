/- What sets.enclosed and sets.readElement answer. -/
import Derived.Test.YtmlpfgfpmbnbeaaSStr
import Derived.Deep.QuietTactic
import Derived.BigQuiet
namespace Go.Proofs.Ytmlpfgfpmbnbeaa
open Go.RowKit

theorem str_at (s : ByteArray) (k : Nat) (x : Int) (hx : x = (k : Int)) (h : k < s.size) (wx : World) : (Instr.index 9 (.string s) (.int .i64 x)).run Try.prog wx = .ok (.int .u8 ((s[k]'h).toNat : Int)) wx := by
  subst hx
  rw [run_index_string wx _ _ _ _ Try.underlying9, dif_pos ⟨by omega, by omega⟩]
  rfl

namespace St
/-- [=c=] or [.c.] at i: its byte, the place behind it, and whether it is one. -/
def oneOk (s : ByteArray) (i : Nat) : Bool := decide (i + 4 < s.size) && (bt s (i + 3) == bt s (i + 1) && bt s (i + 4) == 93)
def oneC (s : ByteArray) (i : Nat) : Nat := if oneOk s i then bt s (i + 2) else 0
def oneN (s : ByteArray) (i : Nat) : Nat := if oneOk s i then i + 5 else i
theorem one_yes {s : ByteArray} {i : Nat} (h : oneOk s i = true) : oneC s i = bt s (i + 2) ∧ oneN s i = i + 5 := by unfold oneC oneN; rw [h]; exact ⟨rfl, rfl⟩
theorem one_no {s : ByteArray} {i : Nat} (h : oneOk s i = false) : oneC s i = 0 ∧ oneN s i = i := by unfold oneC oneN; rw [h]; exact ⟨rfl, rfl⟩
end St

set_option maxRecDepth 100000 in
set_option maxHeartbeats 1000000 in
theorem enclosed_any (s : ByteArray) (i : Nat) (w : World) (hs : s.size ≤ 140737488355328) (hi : i + 2 ≤ s.size) :
    Calls Try.prog 47 #[.string s, .int .i64 (i : Int)] w fun e w' => e = .returned (.tuple #[.int .u8 (St.oneC s i : Nat), .int .i64 (St.oneN s i : Nat), .bool (St.oneOk s i)]) ∧ ∃ n, w' = w.drewN n := by
  by_cases h : i + 4 < s.size
  · have c1 : decide ((s.size : Int) - (i : Int) < 5) = false := by rw [decide_eq_false_iff_not]; omega
    have c0 : IntKind.i64.wrap ((s.size : Int) - (i : Int)) = (s.size : Int) - (i : Int) := by rw [IntKind.wrap_i64]; omega
    have c3 : IntKind.i64.wrap ((i : Int) + 3) = (i : Int) + 3 := by rw [IntKind.wrap_i64]; omega
    have c4 : IntKind.i64.wrap ((i : Int) + 1) = (i : Int) + 1 := by rw [IntKind.wrap_i64]; omega
    have c5 : IntKind.i64.wrap ((i : Int) + 4) = (i : Int) + 4 := by rw [IntKind.wrap_i64]; omega
    have y1 : i + 1 < s.size := by omega
    have y2 : i + 2 < s.size := by omega
    have y3 : i + 3 < s.size := by omega
    have r1 := str_at s (i + 1) ((i : Int) + 1) (by omega) y1
    have r3 := str_at s (i + 3) ((i : Int) + 3) (by omega) y3
    have r4 := str_at s (i + 4) ((i : Int) + 4) (by omega) h
    have HB : Hid (St.bt s (i + 1) = (s[i + 1]'y1).toNat ∧ St.bt s (i + 2) = (s[i + 2]'y2).toNat ∧ St.bt s (i + 3) = (s[i + 3]'y3).toNat ∧ St.bt s (i + 4) = (s[i + 4]'h).toNat) := ⟨St.bt_in y1, St.bt_in y2, St.bt_in y3, St.bt_in h⟩
    have HO : Hid (St.oneOk s i = (((s[i + 3]'y3).toNat == (s[i + 1]'y1).toNat) && ((s[i + 4]'h).toNat == 93))) := by
      show St.oneOk s i = _
      unfold St.oneOk
      rw [HB.out.1, HB.out.2.2.1, HB.out.2.2.2, decide_eq_true h, Bool.true_and]
    cases h1 : (((s[i + 3]'y3).toNat : Int) != ((s[i + 1]'y1).toNat : Int))
    · cases h2 : (((s[i + 4]'h).toNat : Int) != 93)
      · have HE : Hid (St.oneOk s i = true) := by show _ = _; rw [HO.out]; simp at h1 h2 ⊢; omega
        have HR : Hid (St.oneC s i = (s[i + 2]'y2).toNat ∧ St.oneN s i = i + 5) := by
          have := St.one_yes HE.out
          rwa [HB.out.2.1] at this
        go_enter Try.func47, Try.ntmps47
        go_wp2_with fail
        go_quiet (fail)
        go_wp2_with fail
        rw [HE.out, HR.out.1, HR.out.2]
        exact bodyPost_ret (v := .tuple #[.int .u8 ((s[i + 2]'y2).toNat : Int), .int .i64 ((i : Int) + 5), .bool true]) (by simp [results, Try.results47, go_sem]) rfl ⟨rfl, _, rfl⟩
      · have HE : Hid (St.oneOk s i = false) := by show _ = _; rw [HO.out]; simp at h1 h2 ⊢; omega
        have HR := St.one_no HE.out
        have HR : Hid (St.oneC s i = 0 ∧ St.oneN s i = i) := HR
        go_enter Try.func47, Try.ntmps47
        go_wp2_with fail
        go_quiet (fail)
        go_wp2_with fail
        rw [HE.out, HR.out.1, HR.out.2]
        exact bodyPost_ret (v := .tuple #[.int .u8 0, .int .i64 (i : Int), .bool false]) (by simp [results, Try.results47, go_sem]) rfl ⟨rfl, _, rfl⟩
    · have HE : Hid (St.oneOk s i = false) := by show _ = _; rw [HO.out]; simp at h1 ⊢; omega
      have HR := St.one_no HE.out
      have HR : Hid (St.oneC s i = 0 ∧ St.oneN s i = i) := HR
      go_enter Try.func47, Try.ntmps47
      go_wp2_with fail
      go_quiet (fail)
      go_wp2_with fail
      rw [HE.out, HR.out.1, HR.out.2]
      exact bodyPost_ret (v := .tuple #[.int .u8 0, .int .i64 (i : Int), .bool false]) (by simp [results, Try.results47, go_sem]) rfl ⟨rfl, _, rfl⟩
  · have c1 : decide ((s.size : Int) - (i : Int) < 5) = true := by rw [decide_eq_true_iff]; omega
    have c0 : IntKind.i64.wrap ((s.size : Int) - (i : Int)) = (s.size : Int) - (i : Int) := by rw [IntKind.wrap_i64]; omega
    have HE : Hid (St.oneOk s i = false) := by show _ = _; unfold St.oneOk; rw [decide_eq_false h, Bool.false_and]
    have HR : Hid (St.oneC s i = 0 ∧ St.oneN s i = i) := St.one_no HE.out
    go_enter Try.func47, Try.ntmps47
    go_wp2_with fail
    go_quiet (fail)
    go_wp2_with fail
    rw [HE.out, HR.out.1, HR.out.2]
    exact bodyPost_ret (v := .tuple #[.int .u8 0, .int .i64 (i : Int), .bool false]) (by simp [results, Try.results47, go_sem]) rfl ⟨rfl, _, rfl⟩

namespace St
/-- An element at i: its byte, the place behind it, and whether it is one. -/
def elemP (s : ByteArray) (i : Nat) : Nat × Nat × Bool :=
  if bt s i == 256 then (0, i, false) else if pre2 s i 91 58 || pre2 s i 91 61 then (0, i, false)
  else if pre2 s i 91 46 then (oneC s i, oneN s i, oneOk s i) else if pre2 s i 92 110 then (10, i + 2, true) else (bt s i, i + 1, true)
theorem ext_first (s : ByteArray) (i : Nat) (h : 0 < (s.extract i s.size).size) (h2 : i < s.size) : ((s.extract i s.size)[0]'h).toNat = bt s i := by
  rw [bt_in h2]
  congr 1
  rw [ByteArray.getElem_extract]
  rfl
theorem pre2_room {s : ByteArray} {i a b : Nat} (h : pre2 s i a b = true) (_ha : a < 256) (hb : b < 256) : i + 2 ≤ s.size := by
  unfold pre2 at h
  rw [Bool.and_eq_true, beq_iff_eq, beq_iff_eq] at h
  have : bt s (i + 1) < 256 := by omega
  have := bt_lt_iff.1 this
  omega
end St

set_option maxRecDepth 100000 in
set_option maxHeartbeats 1000000 in
theorem element_any (s : ByteArray) (i : Nat) (w : World) (hs : s.size ≤ 140737488355328) (hi : i ≤ s.size) :
    Calls Try.prog 48 #[.string s, .int .i64 (i : Int)] w fun e w' => e = .returned (.tuple #[.int .u8 ((St.elemP s i).1 : Nat), .int .i64 ((St.elemP s i).2.1 : Nat), .bool (St.elemP s i).2.2]) ∧ ∃ n, w' = w.drewN n := by
  have P1 : Hid (∀ (a b : UInt8) w1, Calls Try.prog 41 #[.string (s.extract i s.size), .string ⟨#[a, b]⟩] w1 fun e w' => e = .returned (.bool (St.pre2 s i a.toNat b.toNat)) ∧ w1 = w') := fun a b w1 => pre2_any s i a b w1 hs
  have hz : (s.extract i s.size).size = s.size - i := by rw [ByteArray.size_extract]; omega
  obtain ⟨E, hE⟩ : ∃ E, St.elemP s i = E := ⟨_, rfl⟩
  rw [hE]
  have HE : Hid (St.elemP s i = E) := hE
  clear hE
  unfold St.elemP at HE
  by_cases h : i < s.size
  · have HF : Hid (∀ h', ((s.extract i s.size)[0]'h').toNat = St.bt s i) := fun h' => St.ext_first s i h' h
    have hb := St.bt_lt h
    have HB : Hid ((St.bt s i == 256) = false) := by show _ = _; rw [beq_eq_false_iff_ne]; omega
    obtain ⟨r, hr⟩ : ∃ r, s.extract i s.size = r := ⟨_, rfl⟩
    rw [hr] at P1 hz
    have HF : Hid (∀ h', (r[0]'h').toNat = St.bt s i) := by subst hr; exact HF
    have hpos : 0 < r.size := by omega
    have b0 : r.toList.isEmpty = false := by
      rw [Ln.toL]
      have := Ln.szL r
      cases hl : r.data.toList with
      | nil => rw [hl] at this; simp at this; omega
      | cons a b => rfl
    have Q1 : Hid (∀ w1, Calls Try.prog 41 #[.string r, .string ⟨#[91, 58]⟩] w1 fun e w' => e = .returned (.bool (St.pre2 s i 91 58)) ∧ w1 = w') := P1.out 91 58
    have Q2 : Hid (∀ w1, Calls Try.prog 41 #[.string r, .string ⟨#[91, 61]⟩] w1 fun e w' => e = .returned (.bool (St.pre2 s i 91 61)) ∧ w1 = w') := P1.out 91 61
    have Q3 : Hid (∀ w1, Calls Try.prog 41 #[.string r, .string ⟨#[91, 46]⟩] w1 fun e w' => e = .returned (.bool (St.pre2 s i 91 46)) ∧ w1 = w') := P1.out 91 46
    have Q4 : Hid (∀ w1, Calls Try.prog 41 #[.string r, .string ⟨#[92, 110]⟩] w1 fun e w' => e = .returned (.bool (St.pre2 s i 92 110)) ∧ w1 = w') := P1.out 92 110
    have HO : Hid (St.pre2 s i 91 46 = true → ∀ w1, Calls Try.prog 47 #[.string s, .int .i64 (i : Int)] w1 fun e w' => e = .returned (.tuple #[.int .u8 (St.oneC s i : Nat), .int .i64 (St.oneN s i : Nat), .bool (St.oneOk s i)]) ∧ ∃ n, w' = w1.drewN n) := fun q w1 => enclosed_any s i w1 hs (St.pre2_room q (by decide) (by decide))
    have HF0 : Hid ((r[0]'hpos).toNat = St.bt s i) := HF.out hpos
    clear HF P1
    cases h1 : St.pre2 s i 91 58
    · rw [h1] at Q1
      cases h2 : St.pre2 s i 91 61
      · rw [h2] at Q2
        cases h3 : St.pre2 s i 91 46
        · rw [h3] at Q3
          cases h4 : St.pre2 s i 92 110
          · have HE : Hid ((St.bt s i, i + 1, true) = E) := by have := HE.out; rw [HB.out, h1, h2, h3, h4] at this; exact this
            rw [← HE.out]
            rw [h4] at Q4
            go_enter Try.func48, Try.ntmps48
            go_wp2_with fail
            refine (Q1.out _).mono ?_
            rintro x w1 ⟨rfl, rfl⟩
            go_wp2_with fail
            refine (Q2.out _).mono ?_
            rintro x w1 ⟨rfl, rfl⟩
            go_wp2_with fail
            refine (Q3.out _).mono ?_
            rintro x w1 ⟨rfl, rfl⟩
            go_wp2_with fail
            refine (Q4.out _).mono ?_
            rintro x w1 ⟨rfl, rfl⟩
            go_wp2_with fail
            rw [← HF0.out]
            exact bodyPost_ret (v := .tuple #[.int .u8 ((r[0]'hpos).toNat : Int), .int .i64 ((i : Int) + 1), .bool true]) (by simp [results, Try.results48, go_sem]) rfl ⟨rfl, 0, rfl⟩
          · have HE : Hid ((10, i + 2, true) = E) := by have := HE.out; rw [HB.out, h1, h2, h3, h4] at this; exact this
            rw [← HE.out]
            rw [h4] at Q4
            go_enter Try.func48, Try.ntmps48
            go_wp2_with fail
            refine (Q1.out _).mono ?_
            rintro x w1 ⟨rfl, rfl⟩
            go_wp2_with fail
            refine (Q2.out _).mono ?_
            rintro x w1 ⟨rfl, rfl⟩
            go_wp2_with fail
            refine (Q3.out _).mono ?_
            rintro x w1 ⟨rfl, rfl⟩
            go_wp2_with fail
            refine (Q4.out _).mono ?_
            rintro x w1 ⟨rfl, rfl⟩
            go_wp2_with fail
            exact bodyPost_ret (v := .tuple #[.int .u8 10, .int .i64 ((i : Int) + 2), .bool true]) (by simp [results, Try.results48, go_sem]) rfl ⟨rfl, 0, rfl⟩
        · have HE : Hid ((St.oneC s i, St.oneN s i, St.oneOk s i) = E) := by have := HE.out; rw [HB.out, h1, h2, h3] at this; exact this
          rw [← HE.out]
          have HO := HO.out h3
          have HO : Hid (∀ w1, Calls Try.prog 47 #[.string s, .int .i64 (i : Int)] w1 fun e w' => e = .returned (.tuple #[.int .u8 (St.oneC s i : Nat), .int .i64 (St.oneN s i : Nat), .bool (St.oneOk s i)]) ∧ ∃ n, w' = w1.drewN n) := HO
          rw [h3] at Q3
          generalize St.oneC s i = oc at *
          generalize St.oneN s i = on at *
          generalize St.oneOk s i = ok at *
          go_enter Try.func48, Try.ntmps48
          go_wp2_with fail
          refine (Q1.out _).mono ?_
          rintro x w1 ⟨rfl, rfl⟩
          go_wp2_with fail
          refine (Q2.out _).mono ?_
          rintro x w1 ⟨rfl, rfl⟩
          go_wp2_with fail
          refine (Q3.out _).mono ?_
          rintro x w1 ⟨rfl, rfl⟩
          go_wp2_with fail
          refine (HO.out _).mono ?_
          rintro x w1 ⟨rfl, n1, rfl⟩
          go_wp2_with fail
          exact bodyPost_ret (v := .tuple #[.int .u8 (oc : Int), .int .i64 (on : Int), .bool ok]) (by simp [results, Try.results48, go_sem]) rfl ⟨rfl, n1, rfl⟩
      · have HE : Hid ((0, i, false) = E) := by have := HE.out; rw [HB.out, h1, h2] at this; exact this
        rw [← HE.out]
        rw [h2] at Q2
        go_enter Try.func48, Try.ntmps48
        go_wp2_with fail
        refine (Q1.out _).mono ?_
        rintro x w1 ⟨rfl, rfl⟩
        go_wp2_with fail
        refine (Q2.out _).mono ?_
        rintro x w1 ⟨rfl, rfl⟩
        go_wp2_with fail
        exact bodyPost_ret (v := .tuple #[.int .u8 0, .int .i64 (i : Int), .bool false]) (by simp [results, Try.results48, go_sem]) rfl ⟨rfl, 0, rfl⟩
    · have HE : Hid ((0, i, false) = E) := by have := HE.out; rw [HB.out, h1] at this; exact this
      rw [← HE.out]
      rw [h1] at Q1
      go_enter Try.func48, Try.ntmps48
      go_wp2_with fail
      refine (Q1.out _).mono ?_
      rintro x w1 ⟨rfl, rfl⟩
      go_wp2_with fail
      exact bodyPost_ret (v := .tuple #[.int .u8 0, .int .i64 (i : Int), .bool false]) (by simp [results, Try.results48, go_sem]) rfl ⟨rfl, 0, rfl⟩
  · have HE : Hid ((0, i, false) = E) := by have := HE.out; rw [St.bt_out (by omega)] at this; exact this
    rw [← HE.out]
    obtain ⟨r, hr⟩ : ∃ r, s.extract i s.size = r := ⟨_, rfl⟩
    rw [hr] at hz
    have b0 : r.toList.isEmpty = true := by
      rw [Ln.toL]
      have := Ln.szL r
      cases hl : r.data.toList with
      | nil => rfl
      | cons a b => rw [hl] at this; simp at this; omega
    clear P1
    go_enter Try.func48, Try.ntmps48
    go_wp2_with fail
    exact bodyPost_ret (v := .tuple #[.int .u8 0, .int .i64 (i : Int), .bool false]) (by simp [results, Try.results48, go_sem]) rfl ⟨rfl, 0, rfl⟩
end Go.Proofs.Ytmlpfgfpmbnbeaa
