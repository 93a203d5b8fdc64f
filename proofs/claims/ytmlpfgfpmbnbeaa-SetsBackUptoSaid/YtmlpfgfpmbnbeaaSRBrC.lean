/- What the reference's class and item answer. -/
import Derived.Test.YtmlpfgfpmbnbeaaSRBrB
namespace Go.Proofs.Ytmlpfgfpmbnbeaa
open Go.RowKit

namespace St
def clsF (s : ByteArray) (i : Nat) : Option Nat → (Nat → Bool) × Nat × Bool
  | none => (inL [], i, false)
  | some k => (clsV (cutL s (i + 2) k), k + 2, clsB (cutL s (i + 2) k))
def clsR (s : ByteArray) (i : Nat) : (Nat → Bool) × Nat × Bool := clsF s i (endC s s.size (i + 2))
theorem endC_out {s : ByteArray} : ∀ {f k : Nat}, s.size ≤ k + 1 → endC s f k = none
  | 0, _, _ => rfl
  | f + 1, k, h => by
    rw [endC, if_neg, endC_out (by omega)]
    unfold pre2
    rw [bt_out (s := s) (k := k + 1) (by omega)]
    simp
theorem endC_hit {s : ByteArray} {f k : Nat} (h : pre2 s k 58 93 = true) : endC s (f + 1) k = some k := by rw [endC, if_pos h]
theorem endC_go {s : ByteArray} {f k : Nat} (h : pre2 s k 58 93 = false) : endC s (f + 1) k = endC s f (k + 1) := by rw [endC, if_neg (by rw [h]; simp)]
end St

set_option maxRecDepth 100000 in
set_option maxHeartbeats 2000000 in
theorem rclassI_any (s : ByteArray) (i : Nat) (w : World) (hs : s.size ≤ 140737488355328) (hi : i + 2 ≤ s.size) :
    Calls Try.prog 50 #[.string s, .int .i64 (i : Int)] w fun e w' => e = .returned (.tuple #[St.setV (St.clsR s i).1, .int .i64 ((St.clsR s i).2.1 : Nat), .bool (St.clsR s i).2.2]) ∧ Below w.heap.size w w' := by
  obtain ⟨R, hR⟩ : ∃ R, St.endC s s.size (i + 2) = R := ⟨_, rfl⟩
  have HR : Hid (St.endC s s.size (i + 2) = R) := hR
  have HV : Hid (St.clsR s i = St.clsF s i R) := by rw [← hR]; rfl
  generalize St.clsR s i = E at *
  clear hR
  have A0 := atS0 w
  have hb0 : Below w.heap.size w (w.alloc (.cells #[.int .u64 0, .int .u64 0, .int .u64 0, .int .u64 0] 25)) := (Below.refl _ _).alloc (Nat.le_refl _) _
  go_enter Try.func50, Try.ntmps50
  go_wp2_with fail
  go_loopw [7] (fun v wr => ∃ k f : Nat, i + 2 ≤ k ∧ k ≤ s.size ∧ v = .int .i64 k ∧ s.size ≤ k + f ∧ Hid (St.endC s f k = R) ∧ SetAt wr w.heap.size (St.inL []) ∧ Below w.heap.size w wr) (fun v _ => s.size - (intOf v).toNat)
  case atStart => exact ⟨i + 2, s.size, Nat.le_refl _, hi, by go_num, by omega, HR, A0, hb0⟩
  case round =>
    clear HR A0 hb0
    obtain ⟨k, f0, hik, hk, rfl, hf, HC, S0, hnx⟩ := hrel
    by_cases hlt : k + 1 < s.size
    · obtain ⟨f, rfl⟩ : ∃ f, f0 = f + 1 := ⟨f0 - 1, by omega⟩
      have y0 : k < s.size := by omega
      have r0 := str_at s k (k : Int) rfl y0
      have r1 := str_at s (k + 1) ((k : Int) + 1) (by omega) hlt
      have HP : Hid (St.pre2 s k 58 93 = _) := St.pre2_of (St.bt_in y0) (St.bt_in hlt)
      generalize (s[k]'y0).toNat = x0 at *
      generalize (s[k + 1]'hlt).toNat = x1 at *
      have g1 : (k : Int) + 1 < (s.size : Int) := by omega
      cases hp : St.pre2 s k 58 93
      · replace HC : Hid (St.endC s f (k + 1) = R) := by have := HC.out; rwa [St.endC_go hp] at this
        have h5 : (x0 == 58 && x1 == 93) = false := by rw [← HP.out]; exact hp
        clear HP hp
        cases b0 : ((x0 : Int) == 58)
        · go_wp2_with fail
          refine ⟨⟨k + 1, f, by omega, by omega, by go_num, by omega, HC, S0, hnx⟩, ?_⟩
          simp [intOf]; omega
        · have b1 : ((x1 : Int) == 93) = false := by
            rw [beq_iff_eq] at b0
            have e0 : x0 = 58 := by omega
            rw [e0] at h5
            simp at h5
            rw [beq_eq_false_iff_ne]
            omega
          clear h5
          go_wp2_with fail
          refine ⟨⟨k + 1, f, by omega, by omega, by go_num, by omega, HC, S0, hnx⟩, ?_⟩
          simp [intOf]; omega
      · replace HC : Hid (some k = R) := by have := HC.out; rwa [St.endC_hit hp] at this
        have h5 : x0 = 58 ∧ x1 = 93 := by
          rw [HP.out, Bool.and_eq_true, beq_iff_eq, beq_iff_eq] at hp
          exact hp
        have b0 : ((x0 : Int) == 58) = true := by rw [beq_iff_eq]; omega
        have b1 : ((x1 : Int) == 93) = true := by rw [beq_iff_eq]; omega
        have hre := HC.out
        subst hre
        have hv := HV.out
        simp only [St.clsF] at hv
        subst hv
        clear HP hp h5 HV HC
        have hXd : (s.extract (i + 2) k).data.toList = St.cutL s (i + 2) k := by
          unfold St.cutL
          simp only [ByteArray.data_extract, Array.toList_extract, List.extract_eq_take_drop]
        have HCl : Hid (∀ w1, Calls Try.prog 10 #[.string (s.extract (i + 2) k)] w1 fun e w' => e = .returned (.tuple #[St.setV (St.clsV (St.cutL s (i + 2) k)), .bool (St.clsB (St.cutL s (i + 2) k))]) ∧ Below w1.heap.size w1 w') := fun w1 => by
          have := rclass_any (s.extract (i + 2) k) w1
          rwa [hXd] at this
        clear hXd
        obtain ⟨q, hq⟩ : ∃ q, q = St.clsV (St.cutL s (i + 2) k) := ⟨_, rfl⟩
        obtain ⟨kn, hkn⟩ : ∃ kn, kn = St.clsB (St.cutL s (i + 2) k) := ⟨_, rfl⟩
        rw [← hq, ← hkn] at HCl
        have HQ : Hid (q = St.clsV (St.cutL s (i + 2) k) ∧ kn = St.clsB (St.cutL s (i + 2) k)) := ⟨hq, hkn⟩
        clear hq hkn
        simp only [St.setV] at HCl
        have q1 : (0 : Int) ≤ (i : Int) + 2 := by omega
        have q2 : (i : Int) + 2 ≤ (k : Int) := by omega
        have q3 : (k : Int) ≤ (s.size : Int) := by omega
        go_wp2_with fail
        refine (HCl.out _).mono ?_
        rintro x w2 ⟨rfl, hb2⟩
        have S2 := S0.under hb2
        have hB2 := hnx.trans (hb2.mono (by have := S0.lt; omega))
        have hlt2 := S2.lt
        clear hb2
        obtain ⟨t0, t1, t2, t3⟩ := S2.cells
        have f0' := S2.frozen 0
        have f1 := S2.frozen 1
        have f2 := S2.frozen 2
        have f3 := S2.frozen 3
        go_wp2_with fail
        (try simp only [Exit.inBlock, Exit.then])
        have hB3 := put4_below (q := q) hB2 (Nat.le_refl _)
        refine bodyPost_ret (results_set3 rfl _ _ w.heap.size q rfl ((S2.put (q := q)).alloc _)) rfl ⟨?_, hB3.alloc hB3.size _⟩
        show Ending.returned (.tuple #[St.setV q, .int .i64 ((k : Int) + 2), .bool kn]) = _
        rw [HQ.out.1, HQ.out.2]
    · replace HC : Hid (none = R) := by have := HC.out; rwa [St.endC_out (by omega)] at this
      have g1 : ¬ (k : Int) + 1 < (s.size : Int) := by omega
      have hre := HC.out
      subst hre
      have hv := HV.out
      simp only [St.clsF] at hv
      subst hv
      obtain ⟨t0, t1, t2, t3⟩ := S0.cells
      have f1 := S0.frozen 0
      have f2 := S0.frozen 1
      have f3 := S0.frozen 2
      have f4 := S0.frozen 3
      go_wp2_with fail
      (try simp only [Exit.inBlock, Exit.then])
      exact bodyPost_ret (results_set3 rfl _ _ w.heap.size (St.inL []) rfl S0.putZ) rfl ⟨rfl, putZ_below hnx (Nat.le_refl _)⟩
end Go.Proofs.Ytmlpfgfpmbnbeaa
