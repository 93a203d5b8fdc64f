/- What the reference's special, one, class and element answer. -/
import Derived.Test.YtmlpfgfpmbnbeaaSRdC
import Derived.Test.YtmlpfgfpmbnbeaaSRCls
namespace Go.Proofs.Ytmlpfgfpmbnbeaa
open Go.RowKit

namespace St
def specP (s : ByteArray) (i : Nat) : Nat := if pre2 s i 91 46 then 46 else if pre2 s i 91 61 then 61 else if pre2 s i 91 58 then 58 else 0
theorem spec_none {s : ByteArray} {i : Nat} (h : pre2 s i 91 46 = false) (h2 : pre2 s i 91 61 = false) (h3 : pre2 s i 91 58 = false) : specP s i = 0 := by unfold specP; rw [h, h2, h3]; rfl
theorem spec_46 {s : ByteArray} {i : Nat} (h : pre2 s i 91 46 = true) : specP s i = 46 := by unfold specP; rw [h]; rfl
theorem pre2_of {s : ByteArray} {i x0 x1 a b : Nat} (h0 : bt s i = x0) (h1 : bt s (i + 1) = x1) : pre2 s i a b = (x0 == a && x1 == b) := by unfold pre2; rw [h0, h1]
theorem spec_of {s : ByteArray} {i x0 x1 : Nat} (h0 : bt s i = x0) (h1 : bt s (i + 1) = x1) : specP s i = if x0 = 91 ∧ (x1 = 46 ∨ x1 = 61 ∨ x1 = 58) then x1 else 0 := by
  unfold specP
  rw [pre2_of h0 h1, pre2_of h0 h1, pre2_of h0 h1]
  by_cases e0 : x0 = 91
  · subst e0
    by_cases e1 : x1 = 46
    · subst e1; rfl
    · by_cases e2 : x1 = 61
      · subst e2; rfl
      · by_cases e3 : x1 = 58
        · subst e3; rfl
        · simp [e1, e2, e3]
  · simp [e0]
theorem spec_end {s : ByteArray} {i : Nat} (h : ¬ i + 1 < s.size) : specP s i = 0 := by
  have e : bt s (i + 1) = 256 := bt_out (by omega)
  exact spec_none (by unfold pre2; rw [e]; simp) (by unfold pre2; rw [e]; simp) (by unfold pre2; rw [e]; simp)
end St

set_option maxRecDepth 100000 in
set_option maxHeartbeats 2000000 in
theorem special_any (s : ByteArray) (i : Nat) (w : World) (hs : s.size ≤ 140737488355328) (hi : i ≤ s.size) :
    Calls Try.prog 49 #[.string s, .int .i64 (i : Int)] w fun e w' => e = .returned (.int .u8 (St.specP s i : Nat)) ∧ w = w' := by
  by_cases h : i + 1 < s.size
  · have y0 : i < s.size := by omega
    have r0 := str_at s i (i : Int) rfl y0
    have r1 := str_at s (i + 1) ((i : Int) + 1) (by omega) h
    have d1 : decide ((i : Int) + 1 < (s.size : Int)) = true := by simp; omega
    have g1 : (i : Int) + 1 < (s.size : Int) := by omega
    have HS : Hid (St.specP s i = _) := St.spec_of (St.bt_in y0) (St.bt_in h)
    have k1 := (s[i]'y0).toNat_lt
    have k2 := (s[i + 1]'h).toNat_lt
    generalize (s[i]'y0).toNat = x0 at *
    generalize (s[i + 1]'h).toNat = x1 at *
    by_cases e0 : x0 = 91
    · have b0 : ((x0 : Int) == 91) = true := by rw [beq_iff_eq]; omega
      by_cases f0 : x1 = 46
      · have c0 : ((x1 : Int) == 46) = true := by rw [beq_iff_eq]; omega
        have HV : Hid (St.specP s i = 46) := by show _ = _; rw [HS.out, if_pos (by omega)]; exact f0
        clear HS
        go_enter Try.func49, Try.ntmps49
        go_wp2_with fail
        go_ret
        rw [HV.out]
        exact ⟨rfl, rfl⟩
      · have c0 : ((x1 : Int) == 46) = false := by rw [beq_eq_false_iff_ne]; omega
        by_cases f1 : x1 = 61
        · have c1 : ((x1 : Int) == 61) = true := by rw [beq_iff_eq]; omega
          have HV : Hid (St.specP s i = 61) := by show _ = _; rw [HS.out, if_pos (by omega)]; exact f1
          clear HS
          go_enter Try.func49, Try.ntmps49
          go_wp2_with fail
          go_ret
          rw [HV.out]
          exact ⟨rfl, rfl⟩
        · have c1 : ((x1 : Int) == 61) = false := by rw [beq_eq_false_iff_ne]; omega
          by_cases f2 : x1 = 58
          · have c2 : ((x1 : Int) == 58) = true := by rw [beq_iff_eq]; omega
            have HV : Hid (St.specP s i = 58) := by show _ = _; rw [HS.out, if_pos (by omega)]; exact f2
            clear HS
            go_enter Try.func49, Try.ntmps49
            go_wp2_with fail
            go_ret
            rw [HV.out]
            exact ⟨rfl, rfl⟩
          · have c2 : ((x1 : Int) == 58) = false := by rw [beq_eq_false_iff_ne]; omega
            have HV : Hid (St.specP s i = 0) := by show _ = _; rw [HS.out, if_neg (by omega)]
            clear HS
            go_enter Try.func49, Try.ntmps49
            go_wp2_with fail
            go_ret
            rw [HV.out]
            exact ⟨rfl, rfl⟩
    · have b0 : ((x0 : Int) == 91) = false := by rw [beq_eq_false_iff_ne]; omega
      have HV : Hid (St.specP s i = 0) := by show _ = _; rw [HS.out, if_neg (by omega)]
      clear HS
      go_enter Try.func49, Try.ntmps49
      go_wp2_with fail
      go_ret
      rw [HV.out]
      exact ⟨rfl, rfl⟩
  · have d1 : decide ((i : Int) + 1 < (s.size : Int)) = false := by simp; omega
    have g1 : ¬ (i : Int) + 1 < (s.size : Int) := by omega
    have HV : Hid (St.specP s i = 0) := St.spec_end h
    go_enter Try.func49, Try.ntmps49
    go_wp2_with fail
    go_ret
    rw [HV.out]
    exact ⟨rfl, rfl⟩

set_option maxRecDepth 100000 in
set_option maxHeartbeats 1000000 in
theorem one_any (s : ByteArray) (i : Nat) (w : World) (hs : s.size ≤ 140737488355328) (hi : i ≤ s.size) :
    Calls Try.prog 51 #[.string s, .int .i64 (i : Int)] w fun e w' => e = .returned (.tuple #[.int .u8 (St.oneC s i : Nat), .int .i64 (St.oneN s i : Nat), .bool (St.oneOk s i)]) ∧ ∃ n, w' = w.drewN n := by
  by_cases h : i + 4 < s.size
  · have c1 : decide ((i : Int) + 4 < (s.size : Int)) = true := by rw [decide_eq_true_iff]; omega
    have c3 : IntKind.i64.wrap ((i : Int) + 3) = (i : Int) + 3 := by rw [IntKind.wrap_i64]; omega
    have c4 : IntKind.i64.wrap ((i : Int) + 1) = (i : Int) + 1 := by rw [IntKind.wrap_i64]; omega
    have c5 : IntKind.i64.wrap ((i : Int) + 4) = (i : Int) + 4 := by rw [IntKind.wrap_i64]; omega
    have y1 : i + 1 < s.size := by omega
    have y2 : i + 2 < s.size := by omega
    have y3 : i + 3 < s.size := by omega
    have r1 := str_at s (i + 1) ((i : Int) + 1) (by omega) y1
    have r3 := str_at s (i + 3) ((i : Int) + 3) (by omega) y3
    have r4 := str_at s (i + 4) ((i : Int) + 4) (by omega) h
    have HB : Hid (St.bt s (i + 1) = (s[i + 1]'y1).toNat ∧ St.bt s (i + 2) = (s[i + 2]'y2).toNat ∧ St.bt s (i + 3) = (s[i + 3]'y3).toNat ∧ St.bt s (i + 4) = (s[i + 4]'h).toNat) := ⟨St.bt_in y1, St.bt_in y2, St.bt_in y3, St.bt_in h⟩
    have HO : Hid (St.oneOk s i = (((s[i + 3]'y3).toNat == (s[i + 1]'y1).toNat) && ((s[i + 4]'h).toNat == 93))) := by
      show St.oneOk s i = _
      unfold St.oneOk
      rw [HB.out.1, HB.out.2.2.1, HB.out.2.2.2, decide_eq_true h, Bool.true_and]
    cases h1 : (((s[i + 3]'y3).toNat : Int) == ((s[i + 1]'y1).toNat : Int))
    · have HE : Hid (St.oneOk s i = false) := by show _ = _; rw [HO.out]; simp at h1 ⊢; omega
      have HR := St.one_no HE.out
      have HR : Hid (St.oneC s i = 0 ∧ St.oneN s i = i) := HR
      go_enter Try.func51, Try.ntmps51
      go_wp2_with fail
      go_quiet (fail)
      go_wp2_with fail
      rw [HE.out, HR.out.1, HR.out.2]
      exact bodyPost_ret (v := .tuple #[.int .u8 0, .int .i64 (i : Int), .bool false]) (by simp [results, Try.results51, go_sem]) rfl ⟨rfl, _, rfl⟩
    · cases h2 : (((s[i + 4]'h).toNat : Int) == 93)
      · have HE : Hid (St.oneOk s i = false) := by show _ = _; rw [HO.out]; simp at h1 h2 ⊢; omega
        have HR := St.one_no HE.out
        have HR : Hid (St.oneC s i = 0 ∧ St.oneN s i = i) := HR
        go_enter Try.func51, Try.ntmps51
        go_wp2_with fail
        go_quiet (fail)
        go_wp2_with fail
        rw [HE.out, HR.out.1, HR.out.2]
        exact bodyPost_ret (v := .tuple #[.int .u8 0, .int .i64 (i : Int), .bool false]) (by simp [results, Try.results51, go_sem]) rfl ⟨rfl, _, rfl⟩
      · have HE : Hid (St.oneOk s i = true) := by show _ = _; rw [HO.out]; simp at h1 h2 ⊢; omega
        have HR : Hid (St.oneC s i = (s[i + 2]'y2).toNat ∧ St.oneN s i = i + 5) := by
          have := St.one_yes HE.out
          rwa [HB.out.2.1] at this
        go_enter Try.func51, Try.ntmps51
        go_wp2_with fail
        go_quiet (fail)
        go_wp2_with fail
        rw [HE.out, HR.out.1, HR.out.2]
        exact bodyPost_ret (v := .tuple #[.int .u8 ((s[i + 2]'y2).toNat : Int), .int .i64 ((i : Int) + 5), .bool true]) (by simp [results, Try.results51, go_sem]) rfl ⟨rfl, _, rfl⟩
  · have c5 : IntKind.i64.wrap ((i : Int) + 4) = (i : Int) + 4 := by rw [IntKind.wrap_i64]; omega
    have c1 : decide ((i : Int) + 4 < (s.size : Int)) = false := by rw [decide_eq_false_iff_not]; omega
    have HE : Hid (St.oneOk s i = false) := by show _ = _; unfold St.oneOk; rw [decide_eq_false h, Bool.false_and]
    have HR : Hid (St.oneC s i = 0 ∧ St.oneN s i = i) := St.one_no HE.out
    go_enter Try.func51, Try.ntmps51
    go_wp2_with fail
    go_quiet (fail)
    go_wp2_with fail
    rw [HE.out, HR.out.1, HR.out.2]
    exact bodyPost_ret (v := .tuple #[.int .u8 0, .int .i64 (i : Int), .bool false]) (by simp [results, Try.results51, go_sem]) rfl ⟨rfl, _, rfl⟩

end Go.Proofs.Ytmlpfgfpmbnbeaa
