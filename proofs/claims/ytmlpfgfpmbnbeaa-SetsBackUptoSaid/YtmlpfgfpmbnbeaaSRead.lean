/- What sets.readItem answers where no class begins. -/
import Derived.Test.YtmlpfgfpmbnbeaaSItem
import Derived.Test.YtmlpfgfpmbnbeaaSRange
import Derived.Test.YtmlpfgfpmbnbeaaSRef
namespace Go.Proofs.Ytmlpfgfpmbnbeaa
open Go.RowKit

abbrev putZ (w : World) (g : Nat) : World := (((w.setCell ⟨g, 0, none⟩ (.int .u64 0)).setCell ⟨g, 1, none⟩ (.int .u64 0)).setCell ⟨g, 2, none⟩ (.int .u64 0)).setCell ⟨g, 3, none⟩ (.int .u64 0)
theorem putZ_eq (w : World) (g : Nat) : putZ w g = put4 w g (St.inL []) := by
  unfold putZ put4
  rw [wd_none, wd_none, wd_none, wd_none]; rfl
theorem SetAt.putZ {w : World} {g : Nat} {p : Nat → Bool} (h : SetAt w g p) : SetAt (putZ w g) g (St.inL []) := by rw [putZ_eq]; exact h.put
theorem putZ_below {w a : World} {g B : Nat} (h : Below B a w) (hB : B ≤ g) : Below B a (putZ w g) := by rw [putZ_eq]; exact put4_below h hB
theorem results_set3 {fn : Func} {p a b : Tmp} (h : fn.results = #[.cell p 25, .tmp a, .tmp b]) (tmps : Array Value) (w : World) (g : Nat) (q : Nat → Bool)
    (hp : tmps.getD p undef = .pointer (some ⟨g, 0, none⟩)) (hg : SetAt w g q) :
    (results fn tmps).run Try.prog w = .ok (.tuple #[St.setV q, tmps.getD a undef, tmps.getD b undef]) w := by
  have hp' : tmps[p]?.getD undef = .pointer (some ⟨g, 0, none⟩) := by simpa using hp
  have hl := run_loadVar_row (P := Try.prog) w g 25 25 (setA q) (0, 0) _ hg Try.underlying25 rfl (by kernel_rfl)
  simp [results, h, hp', asAddr, hl]
  rfl
theorem results_set4 {fn : Func} {p a b c : Tmp} (h : fn.results = #[.cell p 25, .tmp a, .tmp b, .tmp c]) (tmps : Array Value) (w : World) (g : Nat) (q : Nat → Bool)
    (hp : tmps.getD p undef = .pointer (some ⟨g, 0, none⟩)) (hg : SetAt w g q) :
    (results fn tmps).run Try.prog w = .ok (.tuple #[St.setV q, tmps.getD a undef, tmps.getD b undef, tmps.getD c undef]) w := by
  have hp' : tmps[p]?.getD undef = .pointer (some ⟨g, 0, none⟩) := by simpa using hp
  have hl := run_loadVar_row (P := Try.prog) w g 25 25 (setA q) (0, 0) _ hg Try.underlying25 rfl (by kernel_rfl)
  simp [results, h, hp', asAddr, hl]
  rfl

theorem SetAt.drewN {w : World} {g : Nat} {p : Nat → Bool} (h : SetAt w g p) (n : Nat) : SetAt (w.drewN n) g p := h
theorem Below.drewN {B : Nat} {a w : World} (h : Below B a w) (n : Nat) : Below B a (w.drewN n) := ⟨h.os, h.tape, h.output, h.size, h.block⟩

namespace St
theorem elem_lt (s : ByteArray) (i : Nat) : (elemP s i).1 < 256 := by
  unfold elemP oneC
  split
  · show 0 < 256; decide
  · rename_i h
    split
    · show 0 < 256; decide
    · split
      · show (if oneOk s i then bt s (i + 2) else 0) < 256
        split
        · rename_i h2
          unfold oneOk at h2
          rw [Bool.and_eq_true, decide_eq_true_iff] at h2
          exact bt_lt (by omega)
        · decide
      · split
        · show 10 < 256; decide
        · show bt s i < 256
          unfold bt at h ⊢
          split
          · exact UInt8.toNat_lt _
          · rename_i h3
            rw [dif_neg h3] at h
            exact absurd rfl h
theorem elem_le (s : ByteArray) (i : Nat) (hi : i ≤ s.size) : i ≤ (elemP s i).2.1 ∧ (elemP s i).2.1 ≤ s.size := by
  unfold elemP oneN
  split
  · exact ⟨Nat.le_refl _, hi⟩
  · rename_i h
    split
    · exact ⟨Nat.le_refl _, hi⟩
    · split
      · show i ≤ (if oneOk s i then i + 5 else i) ∧ (if oneOk s i then i + 5 else i) ≤ s.size
        split
        · rename_i h2
          unfold oneOk at h2
          rw [Bool.and_eq_true, decide_eq_true_iff] at h2
          omega
        · omega
      · split
        · rename_i h4
          have := pre2_room h4 (by decide) (by decide)
          show i ≤ i + 2 ∧ i + 2 ≤ s.size
          omega
        · have : i < s.size := by
            by_cases h5 : i < s.size
            · exact h5
            · rw [bt_out (by omega)] at h; exact absurd rfl h
          show i ≤ i + 1 ∧ i + 1 ≤ s.size
          omega
theorem elem_more (s : ByteArray) (i : Nat) (h : (elemP s i).2.2 = true) : i < (elemP s i).2.1 := by
  revert h
  unfold elemP oneN
  split
  · intro h; cases h
  · split
    · intro h; cases h
    · split
      · intro h
        have h : oneOk s i = true := h
        show i < (if oneOk s i then i + 5 else i)
        rw [if_pos h]; omega
      · split
        · intro _; show i < i + 2; omega
        · intro _; show i < i + 1; omega
theorem one_lt (s : ByteArray) (i : Nat) : oneC s i < 256 := by
  unfold oneC
  split
  · rename_i h2
    unfold oneOk at h2
    rw [Bool.and_eq_true, decide_eq_true_iff] at h2
    exact bt_lt (by omega)
  · decide
/-- An item at i that is no class: its set, the place behind it (or of the fault), and whether it is one. -/
def itemP (s : ByteArray) (i : Nat) : (Nat → Bool) × Nat × Bool :=
  if pre2 s i 91 61 then (rng (oneC s i) (oneC s i), oneN s i, oneOk s i)
  else if !(elemP s i).2.2 || (!pre1 s (elemP s i).2.1 45 || pre2 s (elemP s i).2.1 45 93) then (rng (elemP s i).1 (elemP s i).1, (elemP s i).2.1, (elemP s i).2.2)
  else if !(elemP s ((elemP s i).2.1 + 1)).2.2 || decide ((elemP s ((elemP s i).2.1 + 1)).1 < (elemP s i).1) then (inL [], (elemP s i).2.1 + 1, false)
  else (rng (elemP s i).1 (elemP s ((elemP s i).2.1 + 1)).1, (elemP s ((elemP s i).2.1 + 1)).2.1, true)
end St

set_option maxRecDepth 100000 in
set_option maxHeartbeats 2000000 in
theorem item_any (s : ByteArray) (i : Nat) (w : World) (hs : s.size ≤ 140737488355328) (hi : i ≤ s.size) (hcl : St.pre2 s i 91 58 = false) :
    Calls Try.prog 42 #[.string s, .int .i64 (i : Int)] w fun e w' => e = .returned (.tuple #[St.setV (St.itemP s i).1, .int .i64 ((St.itemP s i).2.1 : Nat), .bool (St.itemP s i).2.2]) ∧ Below w.heap.size w w' := by
  have P1 : Hid (∀ w1, Calls Try.prog 41 #[.string (s.extract i s.size), .string ⟨#[91, 58]⟩] w1 fun e w' => e = .returned (.bool false) ∧ w1 = w') := fun w1 => by
    have := pre2_any s i 91 58 w1 hs
    rwa [show St.pre2 s i (91 : UInt8).toNat (58 : UInt8).toNat = false from hcl] at this
  have P2 : Hid (∀ w1, Calls Try.prog 41 #[.string (s.extract i s.size), .string ⟨#[91, 61]⟩] w1 fun e w' => e = .returned (.bool (St.pre2 s i 91 61)) ∧ w1 = w') := fun w1 => pre2_any s i 91 61 w1 hs
  obtain ⟨E, hE⟩ : ∃ E, St.itemP s i = E := ⟨_, rfl⟩
  rw [hE]
  have HE : Hid (St.itemP s i = E) := hE
  clear hE
  unfold St.itemP at HE
  have A0 : SetAt (w.alloc (.cells #[.int .u64 0, .int .u64 0, .int .u64 0, .int .u64 0] 25)) w.heap.size (St.inL []) := atS0 w
  have hnx0 : Below w.heap.size w (w.alloc (.cells #[.int .u64 0, .int .u64 0, .int .u64 0, .int .u64 0] 25)) := (Below.refl _ _).alloc (Nat.le_refl _) _
  cases h2 : St.pre2 s i 91 61
  · rw [h2] at P2
    have HL1 : Hid (∀ w1, Calls Try.prog 48 #[.string s, .int .i64 (i : Int)] w1 fun e w' => e = .returned (.tuple #[.int .u8 ((St.elemP s i).1 : Nat), .int .i64 ((St.elemP s i).2.1 : Nat), .bool (St.elemP s i).2.2]) ∧ ∃ n, w' = w1.drewN n) := fun w1 => element_any s i w1 hs hi
    have hc1 := St.elem_lt s i
    have hn1 := (St.elem_le s i hi).2
    have HE : Hid ((if (!(St.elemP s i).2.2 || (!St.pre1 s (St.elemP s i).2.1 45 || St.pre2 s (St.elemP s i).2.1 45 93)) = true then (St.rng (St.elemP s i).1 (St.elemP s i).1, (St.elemP s i).2.1, (St.elemP s i).2.2)
      else if (!(St.elemP s ((St.elemP s i).2.1 + 1)).2.2 || decide ((St.elemP s ((St.elemP s i).2.1 + 1)).1 < (St.elemP s i).1)) = true then (St.inL [], (St.elemP s i).2.1 + 1, false)
      else (St.rng (St.elemP s i).1 (St.elemP s ((St.elemP s i).2.1 + 1)).1, (St.elemP s ((St.elemP s i).2.1 + 1)).2.1, true)) = E) := by have := HE.out; rw [h2] at this; exact this
    generalize St.elemP s i = e1 at *
    obtain ⟨c1, j, ok1⟩ := e1
    replace hc1 : c1 < 256 := hc1
    replace hn1 : j ≤ s.size := hn1
    have HR : Hid (∀ w1, Calls Try.prog 20 #[.int .u8 (c1 : Int), .int .u8 (c1 : Int)] w1 fun e w' => e = .returned (St.setV (St.rng c1 c1)) ∧ Below w1.heap.size w1 w') := fun w1 => range_any _ _ w1 hc1 hc1
    simp only at HL1 HE
    cases ok1
    · have HE : Hid ((St.rng c1 c1, j, false) = E) := by have := HE.out; show _ = _; simpa using this
      rw [← HE.out]
      simp only [St.setV] at HR ⊢
      go_enter Try.func42, Try.ntmps42
      go_wp2_with fail
      refine (P1.out _).mono ?_
      rintro x w1 ⟨rfl, rfl⟩
      go_wp2_with fail
      refine (P2.out _).mono ?_
      rintro x w1 ⟨rfl, rfl⟩
      go_wp2_with fail
      refine (HL1.out _).mono ?_
      rintro x w1 ⟨rfl, n1, rfl⟩
      go_wp2_with fail
      refine (HR.out _).mono ?_
      rintro x w2 ⟨rfl, hb⟩
      have S : SetAt w2 w.heap.size (St.inL []) := SetAt.under (A0.drewN n1) hb
      have hb' : Below w.heap.size w w2 := Below.more (Below.drewN hnx0 n1) hb (Below.drewN hnx0 n1).size
      clear hb
      obtain ⟨r0, r1, r2, r3⟩ := S.cells
      have f0 := S.frozen 0
      have f1 := S.frozen 1
      have f2 := S.frozen 2
      have f3 := S.frozen 3
      go_wp2_with fail
      exact bodyPost_ret (results_set3 rfl _ _ w.heap.size (St.rng c1 c1) rfl S.put) rfl ⟨rfl, put4_below hb' (Nat.le_refl _)⟩
    have Q1 : Hid (∀ w1, Calls Try.prog 41 #[.string (s.extract j s.size), .string ⟨#[45]⟩] w1 fun e w' => e = .returned (.bool (St.pre1 s j 45)) ∧ w1 = w') := fun w1 => pre1_any s j 45 w1 hs
    have Q2 : Hid (∀ w1, Calls Try.prog 41 #[.string (s.extract j s.size), .string ⟨#[45, 93]⟩] w1 fun e w' => e = .returned (.bool (St.pre2 s j 45 93)) ∧ w1 = w') := fun w1 => pre2_any s j 45 93 w1 hs
    cases h3 : St.pre1 s j 45
    · rw [h3] at Q1
      have HE : Hid ((St.rng c1 c1, j, true) = E) := by have := HE.out; show _ = _; simpa [h3] using this
      rw [← HE.out]
      simp only [St.setV] at HR ⊢
      go_enter Try.func42, Try.ntmps42
      go_wp2_with fail
      refine (P1.out _).mono ?_
      rintro x w1 ⟨rfl, rfl⟩
      go_wp2_with fail
      refine (P2.out _).mono ?_
      rintro x w1 ⟨rfl, rfl⟩
      go_wp2_with fail
      refine (HL1.out _).mono ?_
      rintro x w1 ⟨rfl, n1, rfl⟩
      go_wp2_with fail
      refine (Q1.out _).mono ?_
      rintro x w1 ⟨rfl, rfl⟩
      go_wp2_with fail
      refine (HR.out _).mono ?_
      rintro x w2 ⟨rfl, hb⟩
      have S : SetAt w2 w.heap.size (St.inL []) := SetAt.under (A0.drewN n1) hb
      have hb' : Below w.heap.size w w2 := Below.more (Below.drewN hnx0 n1) hb (Below.drewN hnx0 n1).size
      clear hb
      obtain ⟨r0, r1, r2, r3⟩ := S.cells
      have f0 := S.frozen 0
      have f1 := S.frozen 1
      have f2 := S.frozen 2
      have f3 := S.frozen 3
      go_wp2_with fail
      exact bodyPost_ret (results_set3 rfl _ _ w.heap.size (St.rng c1 c1) rfl S.put) rfl ⟨rfl, put4_below hb' (Nat.le_refl _)⟩
    rw [h3] at Q1
    by_cases h4 : St.pre2 s j 45 93 = true
    · rw [h4] at Q2
      have HE : Hid ((St.rng c1 c1, j, true) = E) := by have := HE.out; show _ = _; simpa [h3, h4] using this
      rw [← HE.out]
      simp only [St.setV] at HR ⊢
      go_enter Try.func42, Try.ntmps42
      go_wp2_with fail
      refine (P1.out _).mono ?_
      rintro x w1 ⟨rfl, rfl⟩
      go_wp2_with fail
      refine (P2.out _).mono ?_
      rintro x w1 ⟨rfl, rfl⟩
      go_wp2_with fail
      refine (HL1.out _).mono ?_
      rintro x w1 ⟨rfl, n1, rfl⟩
      go_wp2_with fail
      refine (Q1.out _).mono ?_
      rintro x w1 ⟨rfl, rfl⟩
      go_wp2_with fail
      refine (Q2.out _).mono ?_
      rintro x w1 ⟨rfl, rfl⟩
      go_wp2_with fail
      refine (HR.out _).mono ?_
      rintro x w2 ⟨rfl, hb⟩
      have S : SetAt w2 w.heap.size (St.inL []) := SetAt.under (A0.drewN n1) hb
      have hb' : Below w.heap.size w w2 := Below.more (Below.drewN hnx0 n1) hb (Below.drewN hnx0 n1).size
      clear hb
      obtain ⟨r0, r1, r2, r3⟩ := S.cells
      have f0 := S.frozen 0
      have f1 := S.frozen 1
      have f2 := S.frozen 2
      have f3 := S.frozen 3
      go_wp2_with fail
      exact bodyPost_ret (results_set3 rfl _ _ w.heap.size (St.rng c1 c1) rfl S.put) rfl ⟨rfl, put4_below hb' (Nat.le_refl _)⟩
    replace h4 : St.pre2 s j 45 93 = false := by simpa using h4
    rw [h4] at Q2
    have hj : j + 1 ≤ s.size := by
      unfold St.pre1 at h3
      rw [beq_iff_eq] at h3
      have := St.bt_lt_iff.1 (show St.bt s j < 256 by omega)
      omega
    have HL2 : Hid (∀ w1, Calls Try.prog 48 #[.string s, .int .i64 ((j : Int) + 1)] w1 fun e w' => e = .returned (.tuple #[.int .u8 ((St.elemP s (j + 1)).1 : Nat), .int .i64 ((St.elemP s (j + 1)).2.1 : Nat), .bool (St.elemP s (j + 1)).2.2]) ∧ ∃ n, w' = w1.drewN n) := fun w1 => element_any s (j + 1) w1 hs hj
    have hc2 := St.elem_lt s (j + 1)
    have HE : Hid ((if (!(St.elemP s (j + 1)).2.2 || decide ((St.elemP s (j + 1)).1 < c1)) = true then (St.inL [], j + 1, false) else (St.rng c1 (St.elemP s (j + 1)).1, (St.elemP s (j + 1)).2.1, true)) = E) := by have := HE.out; show _ = _; simpa [h3, h4] using this
    generalize St.elemP s (j + 1) = e2 at *
    obtain ⟨c2, k, ok2⟩ := e2
    replace hc2 : c2 < 256 := hc2
    simp only at HL2 HE
    have HR2 : Hid (∀ w1, Calls Try.prog 20 #[.int .u8 (c1 : Int), .int .u8 (c2 : Int)] w1 fun e w' => e = .returned (St.setV (St.rng c1 c2)) ∧ Below w1.heap.size w1 w') := fun w1 => range_any _ _ w1 hc1 hc2
    clear HR
    cases ok2
    · have HE : Hid ((St.inL [], j + 1, false) = E) := by have := HE.out; show _ = _; simpa using this
      rw [← HE.out]
      go_enter Try.func42, Try.ntmps42
      go_wp2_with fail
      refine (P1.out _).mono ?_
      rintro x w1 ⟨rfl, rfl⟩
      go_wp2_with fail
      refine (P2.out _).mono ?_
      rintro x w1 ⟨rfl, rfl⟩
      go_wp2_with fail
      refine (HL1.out _).mono ?_
      rintro x w1 ⟨rfl, n1, rfl⟩
      go_wp2_with fail
      refine (Q1.out _).mono ?_
      rintro x w1 ⟨rfl, rfl⟩
      go_wp2_with fail
      refine (Q2.out _).mono ?_
      rintro x w1 ⟨rfl, rfl⟩
      go_wp2_with fail
      refine (HL2.out _).mono ?_
      rintro x w1 ⟨rfl, n2, rfl⟩
      go_wp2_with fail
      exact bodyPost_ret (results_set3 rfl _ _ w.heap.size (St.inL []) rfl (SetAt.putZ (A0.drewN (n1 + n2)))) rfl ⟨rfl, putZ_below (Below.drewN hnx0 (n1 + n2)) (Nat.le_refl _)⟩
    by_cases h5 : c2 < c1
    · have HE : Hid ((St.inL [], j + 1, false) = E) := by have := HE.out; show _ = _; simpa [h5] using this
      rw [← HE.out]
      go_enter Try.func42, Try.ntmps42
      go_wp2_with fail
      refine (P1.out _).mono ?_
      rintro x w1 ⟨rfl, rfl⟩
      go_wp2_with fail
      refine (P2.out _).mono ?_
      rintro x w1 ⟨rfl, rfl⟩
      go_wp2_with fail
      refine (HL1.out _).mono ?_
      rintro x w1 ⟨rfl, n1, rfl⟩
      go_wp2_with fail
      refine (Q1.out _).mono ?_
      rintro x w1 ⟨rfl, rfl⟩
      go_wp2_with fail
      refine (Q2.out _).mono ?_
      rintro x w1 ⟨rfl, rfl⟩
      go_wp2_with fail
      refine (HL2.out _).mono ?_
      rintro x w1 ⟨rfl, n2, rfl⟩
      go_wp2_with fail
      exact bodyPost_ret (results_set3 rfl _ _ w.heap.size (St.inL []) rfl (SetAt.putZ (A0.drewN (n1 + n2)))) rfl ⟨rfl, putZ_below (Below.drewN hnx0 (n1 + n2)) (Nat.le_refl _)⟩
    · have HE : Hid ((St.rng c1 c2, k, true) = E) := by have := HE.out; show _ = _; simpa [h5] using this
      rw [← HE.out]
      simp only [St.setV] at HR2 ⊢
      go_enter Try.func42, Try.ntmps42
      go_wp2_with fail
      refine (P1.out _).mono ?_
      rintro x w1 ⟨rfl, rfl⟩
      go_wp2_with fail
      refine (P2.out _).mono ?_
      rintro x w1 ⟨rfl, rfl⟩
      go_wp2_with fail
      refine (HL1.out _).mono ?_
      rintro x w1 ⟨rfl, n1, rfl⟩
      go_wp2_with fail
      refine (Q1.out _).mono ?_
      rintro x w1 ⟨rfl, rfl⟩
      go_wp2_with fail
      refine (Q2.out _).mono ?_
      rintro x w1 ⟨rfl, rfl⟩
      go_wp2_with fail
      refine (HL2.out _).mono ?_
      rintro x w1 ⟨rfl, n2, rfl⟩
      go_wp2_with fail
      refine (HR2.out _).mono ?_
      rintro x w2 ⟨rfl, hb⟩
      have S : SetAt w2 w.heap.size (St.inL []) := SetAt.under (A0.drewN (n1 + n2)) hb
      have hb' : Below w.heap.size w w2 := Below.more (Below.drewN hnx0 (n1 + n2)) hb (Below.drewN hnx0 (n1 + n2)).size
      clear hb
      obtain ⟨r0, r1, r2, r3⟩ := S.cells
      have f0 := S.frozen 0
      have f1 := S.frozen 1
      have f2 := S.frozen 2
      have f3 := S.frozen 3
      go_wp2_with fail
      exact bodyPost_ret (results_set3 rfl _ _ w.heap.size (St.rng c1 c2) rfl S.put) rfl ⟨rfl, put4_below hb' (Nat.le_refl _)⟩
  · rw [h2] at P2
    have HE : Hid ((St.rng (St.oneC s i) (St.oneC s i), St.oneN s i, St.oneOk s i) = E) := by have := HE.out; rw [h2] at this; exact this
    rw [← HE.out]
    have hlt := St.one_lt s i
    have HO : Hid (∀ w1, Calls Try.prog 47 #[.string s, .int .i64 (i : Int)] w1 fun e w' => e = .returned (.tuple #[.int .u8 (St.oneC s i : Nat), .int .i64 (St.oneN s i : Nat), .bool (St.oneOk s i)]) ∧ ∃ n, w' = w1.drewN n) := fun w1 => enclosed_any s i w1 hs (St.pre2_room h2 (by decide) (by decide))
    have HR : Hid (∀ w1, Calls Try.prog 20 #[.int .u8 (St.oneC s i : Int), .int .u8 (St.oneC s i : Int)] w1 fun e w' => e = .returned (St.setV (St.rng (St.oneC s i) (St.oneC s i))) ∧ Below w1.heap.size w1 w') := fun w1 => range_any _ _ w1 hlt hlt
    simp only [St.setV] at HR ⊢
    generalize St.oneC s i = oc at *
    generalize St.oneN s i = on at *
    generalize St.oneOk s i = ok at *
    go_enter Try.func42, Try.ntmps42
    go_wp2_with fail
    refine (P1.out _).mono ?_
    rintro x w1 ⟨rfl, rfl⟩
    go_wp2_with fail
    refine (P2.out _).mono ?_
    rintro x w1 ⟨rfl, rfl⟩
    go_wp2_with fail
    refine (HO.out _).mono ?_
    rintro x w1 ⟨rfl, n1, rfl⟩
    go_wp2_with fail
    refine (HR.out _).mono ?_
    rintro x w2 ⟨rfl, hb⟩
    have S : SetAt w2 w.heap.size (St.inL []) := SetAt.under (A0.drewN n1) hb
    have hb' : Below w.heap.size w w2 := Below.more (Below.drewN hnx0 n1) hb (Below.drewN hnx0 n1).size
    clear hb
    obtain ⟨r0, r1, r2, r3⟩ := S.cells
    have f0 := S.frozen 0
    have f1 := S.frozen 1
    have f2 := S.frozen 2
    have f3 := S.frozen 3
    go_wp2_with fail
    exact bodyPost_ret (results_set3 rfl _ _ w.heap.size (St.rng oc oc) rfl S.put) rfl ⟨rfl, put4_below hb' (Nat.le_refl _)⟩
end Go.Proofs.Ytmlpfgfpmbnbeaa
