/- What the reference's element and class answer. -/
import Derived.Test.YtmlpfgfpmbnbeaaSRBrA
namespace Go.Proofs.Ytmlpfgfpmbnbeaa
open Go.RowKit

namespace St
theorem spec_cases (s : ByteArray) (i : Nat) : (specP s i = 46 ∧ pre2 s i 91 46 = true) ∨ (specP s i = 61 ∧ pre2 s i 91 61 = true ∧ pre2 s i 91 46 = false ∧ pre2 s i 91 58 = false) ∨ (specP s i = 58 ∧ pre2 s i 91 58 = true ∧ pre2 s i 91 46 = false ∧ pre2 s i 91 61 = false) ∨ (specP s i = 0 ∧ pre2 s i 91 46 = false ∧ pre2 s i 91 61 = false ∧ pre2 s i 91 58 = false) := by
  have key : ∀ a b c : Nat, a ≠ b → pre2 s i c a = true → pre2 s i c b = false := by
    intro a b c hne h
    unfold pre2 at h ⊢
    rw [Bool.and_eq_true, beq_iff_eq, beq_iff_eq] at h
    rw [h.2, Bool.and_eq_false_iff]
    exact .inr (by simpa using hne)
  unfold specP
  cases h1 : pre2 s i 91 46
  · cases h2 : pre2 s i 91 61
    · cases h3 : pre2 s i 91 58
      · exact .inr (.inr (.inr ⟨rfl, rfl, rfl, rfl⟩))
      · exact .inr (.inr (.inl ⟨rfl, rfl, rfl, rfl⟩))
    · exact .inr (.inl ⟨rfl, rfl, rfl, key 61 58 91 (by decide) h2⟩)
  · exact .inl ⟨rfl, rfl⟩
theorem elem_46 {s : ByteArray} {i : Nat} (h : pre2 s i 91 46 = true) : elemP s i = (oneC s i, oneN s i, oneOk s i) := by
  have hb : bt s i = 91 ∧ bt s (i + 1) = 46 := by unfold pre2 at h; rw [Bool.and_eq_true, beq_iff_eq, beq_iff_eq] at h; exact h
  unfold elemP
  rw [pre2_of hb.1 hb.2, pre2_of hb.1 hb.2, h, hb.1]
  rfl
theorem elem_bad {s : ByteArray} {i : Nat} (h : (pre2 s i 91 58 || pre2 s i 91 61) = true) : elemP s i = (0, i, false) := by
  unfold elemP
  rw [h]
  split <;> rfl
theorem elem_nl {s : ByteArray} {i : Nat} (hi : i < s.size) (h1 : pre2 s i 91 46 = false) (h2 : pre2 s i 91 61 = false) (h3 : pre2 s i 91 58 = false) (h4 : pre2 s i 92 110 = true) : elemP s i = (10, i + 2, true) := by
  have := bt_lt hi
  unfold elemP
  rw [h1, h2, h3, h4, show (bt s i == 256) = false from by rw [beq_eq_false_iff_ne]; omega]
  rfl
theorem elem_one {s : ByteArray} {i : Nat} (hi : i < s.size) (h1 : pre2 s i 91 46 = false) (h2 : pre2 s i 91 61 = false) (h3 : pre2 s i 91 58 = false) (h4 : pre2 s i 92 110 = false) : elemP s i = (bt s i, i + 1, true) := by
  have := bt_lt hi
  unfold elemP
  rw [h1, h2, h3, h4, show (bt s i == 256) = false from by rw [beq_eq_false_iff_ne]; omega]
  rfl
end St

set_option maxRecDepth 100000 in
set_option maxHeartbeats 2000000 in
theorem relement_any (s : ByteArray) (i : Nat) (w : World) (hs : s.size ≤ 140737488355328) (hi : i < s.size) :
    Calls Try.prog 52 #[.string s, .int .i64 (i : Int)] w fun e w' => e = .returned (.tuple #[.int .u8 ((St.elemP s i).1 : Nat), .int .i64 ((St.elemP s i).2.1 : Nat), .bool (St.elemP s i).2.2]) ∧ ∃ n, w' = w.drewN n := by
  have HSp : Hid (∀ w1, Calls Try.prog 49 #[.string s, .int .i64 (i : Int)] w1 fun e w' => e = .returned (.int .u8 (St.specP s i : Nat)) ∧ w1 = w') := fun w1 => special_any s i w1 hs (by omega)
  rcases St.spec_cases s i with ⟨hsp, h1⟩ | hsp
  · rw [hsp] at HSp
    rw [St.elem_46 h1]
    have HO : Hid (∀ w1, Calls Try.prog 51 #[.string s, .int .i64 (i : Int)] w1 fun e w' => e = .returned (.tuple #[.int .u8 (St.oneC s i : Nat), .int .i64 (St.oneN s i : Nat), .bool (St.oneOk s i)]) ∧ ∃ n, w' = w1.drewN n) := fun w1 => one_any s i w1 hs (by omega)
    generalize St.oneC s i = oc at *
    generalize St.oneN s i = on at *
    generalize St.oneOk s i = ok at *
    clear hsp h1
    go_enter Try.func52, Try.ntmps52
    go_wp2_with fail
    refine (HSp.out _).mono ?_
    rintro x w1 ⟨rfl, rfl⟩
    go_wp2_with fail
    refine (HO.out _).mono ?_
    rintro x w1 ⟨rfl, n1, rfl⟩
    go_wp2_with fail
    exact bodyPost_ret (v := .tuple #[.int .u8 (oc : Int), .int .i64 (on : Int), .bool ok]) (by simp [results, Try.results52, go_sem]) rfl ⟨rfl, n1, rfl⟩
  · by_cases hz : St.specP s i = 0
    · rw [hz] at HSp
      have hp : St.pre2 s i 91 46 = false ∧ St.pre2 s i 91 61 = false ∧ St.pre2 s i 91 58 = false := by
        rcases hsp with h | h | h
        · omega
        · omega
        · exact h.2
      obtain ⟨p1, p2, p3⟩ := hp
      clear hsp hz
      have r0 := str_at s i (i : Int) rfl hi
      have HB0 : Hid (St.bt s i = (s[i]'hi).toNat) := St.bt_in hi
      have k0 := (s[i]'hi).toNat_lt
      by_cases h : i + 1 < s.size
      · have r1 := str_at s (i + 1) ((i : Int) + 1) (by omega) h
        have HB1 : Hid (St.bt s (i + 1) = (s[i + 1]'h).toNat) := St.bt_in h
        have d1 : decide ((i : Int) + 1 < (s.size : Int)) = true := by simp; omega
        have g1 : (i : Int) + 1 < (s.size : Int) := by omega
        generalize (s[i]'hi).toNat = x0 at *
        generalize (s[i + 1]'h).toNat = x1 at *
        cases h4 : St.pre2 s i 92 110
        · have HE : Hid (St.elemP s i = (x0, i + 1, true)) := by show _ = _; rw [St.elem_one hi p1 p2 p3 h4, HB0.out]
          rw [HE.out]
          have h5 : ¬ (x0 = 92 ∧ x1 = 110) := by
            rintro ⟨e0, e1⟩
            rw [St.pre2_of HB0.out HB1.out, e0, e1] at h4
            cases h4
          clear HE h4 p1 p2 p3
          cases b0 : ((x0 : Int) == 92)
          · go_enter Try.func52, Try.ntmps52
            go_wp2_with fail
            refine (HSp.out _).mono ?_
            rintro x w1 ⟨rfl, rfl⟩
            go_wp2_with fail
            refine (HSp.out _).mono ?_
            rintro x w1 ⟨rfl, rfl⟩
            go_wp2_with fail
            exact bodyPost_ret (v := .tuple #[.int .u8 (x0 : Int), .int .i64 ((i : Int) + 1), .bool true]) (by simp [results, Try.results52, go_sem]) rfl ⟨rfl, 0, rfl⟩
          · have b1 : ((x1 : Int) == 110) = false := by
              rw [beq_iff_eq] at b0
              rw [beq_eq_false_iff_ne]
              omega
            replace h5 : Hid (¬ (x0 = 92 ∧ x1 = 110)) := h5
            go_enter Try.func52, Try.ntmps52
            go_wp2_with fail
            refine (HSp.out _).mono ?_
            rintro x w1 ⟨rfl, rfl⟩
            go_wp2_with fail
            refine (HSp.out _).mono ?_
            rintro x w1 ⟨rfl, rfl⟩
            go_wp2_with fail
            exact bodyPost_ret (v := .tuple #[.int .u8 (x0 : Int), .int .i64 ((i : Int) + 1), .bool true]) (by simp [results, Try.results52, go_sem]) rfl ⟨rfl, 0, rfl⟩
        · have HE : Hid (St.elemP s i = (10, i + 2, true)) := St.elem_nl hi p1 p2 p3 h4
          rw [HE.out]
          have h5 : x0 = 92 ∧ x1 = 110 := by
            rw [St.pre2_of HB0.out HB1.out, Bool.and_eq_true, beq_iff_eq, beq_iff_eq] at h4
            exact h4
          have b0 : ((x0 : Int) == 92) = true := by rw [beq_iff_eq]; omega
          have b1 : ((x1 : Int) == 110) = true := by rw [beq_iff_eq]; omega
          clear HE h4 p1 p2 p3 h5
          go_enter Try.func52, Try.ntmps52
          go_wp2_with fail
          refine (HSp.out _).mono ?_
          rintro x w1 ⟨rfl, rfl⟩
          go_wp2_with fail
          refine (HSp.out _).mono ?_
          rintro x w1 ⟨rfl, rfl⟩
          go_wp2_with fail
          exact bodyPost_ret (v := .tuple #[.int .u8 10, .int .i64 ((i : Int) + 2), .bool true]) (by simp [results, Try.results52, go_sem]) rfl ⟨rfl, 0, rfl⟩
      · have d1 : decide ((i : Int) + 1 < (s.size : Int)) = false := by simp; omega
        have g1 : ¬ (i : Int) + 1 < (s.size : Int) := by omega
        have h4 : St.pre2 s i 92 110 = false := by
          unfold St.pre2
          rw [St.bt_out (s := s) (k := i + 1) (by omega)]; simp
        generalize (s[i]'hi).toNat = x0 at *
        have HE : Hid (St.elemP s i = (x0, i + 1, true)) := by show _ = _; rw [St.elem_one hi p1 p2 p3 h4, HB0.out]
        rw [HE.out]
        clear HE h4 p1 p2 p3
        go_enter Try.func52, Try.ntmps52
        go_wp2_with fail
        refine (HSp.out _).mono ?_
        rintro x w1 ⟨rfl, rfl⟩
        go_wp2_with fail
        refine (HSp.out _).mono ?_
        rintro x w1 ⟨rfl, rfl⟩
        go_wp2_with fail
        exact bodyPost_ret (v := .tuple #[.int .u8 (x0 : Int), .int .i64 ((i : Int) + 1), .bool true]) (by simp [results, Try.results52, go_sem]) rfl ⟨rfl, 0, rfl⟩
    · have hE : St.elemP s i = (0, i, false) := by
        refine St.elem_bad ?_
        rcases hsp with h | h | h
        · rw [h.2.1]; simp
        · rw [h.2.1]; simp
        · omega
      rw [hE]
      have hv : St.specP s i = 61 ∨ St.specP s i = 58 := by
        rcases hsp with h | h | h
        · exact .inl h.1
        · exact .inr h.1
        · exact absurd h.1 hz
      clear hsp hE hz
      rcases hv with hv | hv
      all_goals
        rw [hv] at HSp
        clear hv
        go_enter Try.func52, Try.ntmps52
        go_wp2_with fail
        refine (HSp.out _).mono ?_
        rintro x w1 ⟨rfl, rfl⟩
        go_wp2_with fail
        refine (HSp.out _).mono ?_
        rintro x w1 ⟨rfl, rfl⟩
        go_wp2_with fail
        exact bodyPost_ret (v := .tuple #[.int .u8 0, .int .i64 (i : Int), .bool false]) (by simp [results, Try.results52, go_sem]) rfl ⟨rfl, 0, rfl⟩
end Go.Proofs.Ytmlpfgfpmbnbeaa
