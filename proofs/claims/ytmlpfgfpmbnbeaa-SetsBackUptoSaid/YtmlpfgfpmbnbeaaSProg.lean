/- What sets.And, sets.Or and sets.Not answer. -/
import Derived.Test.YtmlpfgfpmbnbeaaSRef
import Derived.BigRegion
namespace Go.Proofs.Ytmlpfgfpmbnbeaa
open Go.RowKit

namespace St
/-- The first k words are those of r, the others those of p. -/
def mix (p r : Nat → Bool) (k c : Nat) : Bool := if c / 64 < k then r c else p c
theorem mix_low (p r : Nat → Bool) {k i : Nat} (h : i < k) : wd (mix p r k) i = wd r i := word_congr (fun j hj => by
  show (if _ then _ else _) = _
  rw [if_pos (by omega)])
theorem mix_high (p r : Nat → Bool) {k i : Nat} (h : k ≤ i) : wd (mix p r k) i = wd p i := word_congr (fun j hj => by
  show (if _ then _ else _) = _
  rw [if_neg (by omega)])
theorem mix_done (p r : Nat → Bool) {k c : Nat} (hk : 4 ≤ k) (hc : c < 256) : mix p r k c = r c := by unfold mix; rw [if_pos (by omega)]
theorem mix_zero (p r : Nat → Bool) (c : Nat) : p c = mix p r 0 c := by unfold mix; rw [if_neg (by omega)]
end St
theorem SetAt.cell {w : World} {g : Nat} {p : Nat → Bool} (h : SetAt w g p) {k : Nat} (hk : k < 4) : w.cell? ⟨g, k, none⟩ = some (.int .u64 (St.wd p k : Nat)) := by
  obtain ⟨q0, q1, q2, q3⟩ := h.cells
  obtain rfl | rfl | rfl | rfl : k = 0 ∨ k = 1 ∨ k = 2 ∨ k = 3 := by omega
  · exact q0
  · exact q1
  · exact q2
  · exact q3
theorem SetAt.word {w : World} {g : Nat} {p r : Nat → Bool} {k : Nat} (h : SetAt w g (St.mix p r k)) (hk : k < 4) {x : Int} (hx : x = (St.wd r k : Nat)) : SetAt (w.setCell ⟨g, k, none⟩ (.int .u64 x)) g (St.mix p r (k + 1)) := by
  have h0 := heap_setCell_same w g k _ _ (.int .u64 x) h
  subst hx
  unfold SetAt
  rw [h0]
  congr 2
  unfold setA
  obtain rfl | rfl | rfl | rfl : k = 0 ∨ k = 1 ∨ k = 2 ∨ k = 3 := by omega
  · rw [St.mix_low p r (show 0 < 0 + 1 by decide), St.mix_high p r (show 0 + 1 ≤ 1 by decide), St.mix_high p r (show 0 + 1 ≤ 2 by decide), St.mix_high p r (show 0 + 1 ≤ 3 by decide), St.mix_high p r (show 0 ≤ 1 by decide), St.mix_high p r (show 0 ≤ 2 by decide), St.mix_high p r (show 0 ≤ 3 by decide)]; rfl
  · rw [St.mix_low p r (show 0 < 1 + 1 by decide), St.mix_low p r (show 1 < 1 + 1 by decide), St.mix_high p r (show 1 + 1 ≤ 2 by decide), St.mix_high p r (show 1 + 1 ≤ 3 by decide), St.mix_low p r (show 0 < 1 by decide), St.mix_high p r (show 1 ≤ 2 by decide), St.mix_high p r (show 1 ≤ 3 by decide)]; rfl
  · rw [St.mix_low p r (show 0 < 2 + 1 by decide), St.mix_low p r (show 1 < 2 + 1 by decide), St.mix_low p r (show 2 < 2 + 1 by decide), St.mix_high p r (show 2 + 1 ≤ 3 by decide), St.mix_low p r (show 0 < 2 by decide), St.mix_low p r (show 1 < 2 by decide), St.mix_high p r (show 2 ≤ 3 by decide)]; rfl
  · rw [St.mix_low p r (show 0 < 3 + 1 by decide), St.mix_low p r (show 1 < 3 + 1 by decide), St.mix_low p r (show 2 < 3 + 1 by decide), St.mix_low p r (show 3 < 3 + 1 by decide), St.mix_low p r (show 0 < 3 by decide), St.mix_low p r (show 1 < 3 by decide), St.mix_low p r (show 2 < 3 by decide)]; rfl

set_option maxRecDepth 100000 in
set_option maxHeartbeats 1000000 in
theorem and_any (p q : Nat → Bool) (w : World) :
    Calls Try.prog 22 #[St.setV p, St.setV q] w fun e w' => e = .returned (St.setV (fun x => p x && q x)) ∧ Below w.heap.size w w' := by
  simp only [St.setV]
  go_enter Try.func22, Try.ntmps22
  go_wp2_with fail
  go_loopw [6] (fun i wr => ∃ k : Nat, k ≤ 4 ∧ i = .int .i64 k ∧ SetAt wr w.heap.size (St.mix p (fun x => p x && q x) k) ∧ SetAt wr (w.heap.size + 1) q ∧ SetAt wr (w.heap.size + 1 + 1) (St.inL []) ∧ Below w.heap.size w wr) (fun i _ => 4 - (intOf i).toNat)
  case atStart => exact ⟨0, by omega, rfl, (((at_new' p rfl).alloc _).alloc _).congr (fun c _ => St.mix_zero _ _ c), (at_new' q (by simp)).alloc _, at_zero' (by simp), (((Below.refl _ _).alloc (Nat.le_refl _) _).alloc (by simp) _).alloc (by simp; omega) _⟩
  case round =>
    obtain ⟨k, hk, rfl, S1, S0, S2, hnx⟩ := hrel
    have hl1 := S2.lt
    by_cases hlt : k < 4
    · have ca := S1.cell hlt
      rw [St.mix_high p _ (Nat.le_refl k)] at ca
      have cb := S0.cell hlt
      have fa := S1.frozen k
      have hvA := St.wd_lt p k
      have hvB := St.wd_lt q k
      have HV : Hid (bits .and .u64 (St.wd p k : Int) (St.wd q k : Int) = (St.wd (fun x => p x && q x) k : Nat)) := by show _ = _; rw [u64_and_nat _ _ hvA hvB, St.wd_and2]
      go_wp2_with fail
      go_region
      go_wp2_with fail
      refine ⟨⟨k + 1, by omega, by go_num, S1.word hlt HV.out, S0.setCell _ (by show _ ≠ w.heap.size; omega), S2.setCell _ (by show _ ≠ w.heap.size; omega), (hnx.setCell (p := ⟨w.heap.size, k, none⟩) (Nat.le_refl _) _).drew⟩, ?_⟩
      simp [intOf]; omega
    · obtain ⟨q0, q1, q2, q3⟩ := S1.cells
      obtain ⟨r0, r1, r2, r3⟩ := S2.cells
      have f0 := S2.frozen 0
      have f1 := S2.frozen 1
      have f2 := S2.frozen 2
      have f3 := S2.frozen 3
      have HE : Hid (St.setV (St.mix p (fun x => p x && q x) k) = St.setV (fun x => p x && q x)) := St.setV_congr (fun c hc => St.mix_done _ _ (by omega) hc)
      go_wp2_with fail
      refine bodyPost_ret (results_cell_row rfl _ _ (w.heap.size + 1 + 1) _ _ _ _ rfl (S2.put (q := St.mix p (fun x => p x && q x) k)) Try.underlying25 rfl (by kernel_rfl)) rfl ?_
      exact ⟨congrArg _ HE.out, put4_below hnx (by omega)⟩

set_option maxRecDepth 100000 in
set_option maxHeartbeats 1000000 in
theorem or_any (p q : Nat → Bool) (w : World) :
    Calls Try.prog 24 #[St.setV p, St.setV q] w fun e w' => e = .returned (St.setV (fun x => p x || q x)) ∧ Below w.heap.size w w' := by
  simp only [St.setV]
  go_enter Try.func24, Try.ntmps24
  go_wp2_with fail
  go_loopw [6] (fun i wr => ∃ k : Nat, k ≤ 4 ∧ i = .int .i64 k ∧ SetAt wr w.heap.size (St.mix p (fun x => p x || q x) k) ∧ SetAt wr (w.heap.size + 1) q ∧ SetAt wr (w.heap.size + 1 + 1) (St.inL []) ∧ Below w.heap.size w wr) (fun i _ => 4 - (intOf i).toNat)
  case atStart => exact ⟨0, by omega, rfl, (((at_new' p rfl).alloc _).alloc _).congr (fun c _ => St.mix_zero _ _ c), (at_new' q (by simp)).alloc _, at_zero' (by simp), (((Below.refl _ _).alloc (Nat.le_refl _) _).alloc (by simp) _).alloc (by simp; omega) _⟩
  case round =>
    obtain ⟨k, hk, rfl, S1, S0, S2, hnx⟩ := hrel
    have hl1 := S2.lt
    by_cases hlt : k < 4
    · have ca := S1.cell hlt
      rw [St.mix_high p _ (Nat.le_refl k)] at ca
      have cb := S0.cell hlt
      have fa := S1.frozen k
      have hvA := St.wd_lt p k
      have hvB := St.wd_lt q k
      have HV : Hid (bits .or .u64 (St.wd p k : Int) (St.wd q k : Int) = (St.wd (fun x => p x || q x) k : Nat)) := by show _ = _; rw [u64_or_nat _ _ hvA hvB, St.wd_or2]
      go_wp2_with fail
      go_region
      go_wp2_with fail
      refine ⟨⟨k + 1, by omega, by go_num, S1.word hlt HV.out, S0.setCell _ (by show _ ≠ w.heap.size; omega), S2.setCell _ (by show _ ≠ w.heap.size; omega), (hnx.setCell (p := ⟨w.heap.size, k, none⟩) (Nat.le_refl _) _).drew⟩, ?_⟩
      simp [intOf]; omega
    · obtain ⟨q0, q1, q2, q3⟩ := S1.cells
      obtain ⟨r0, r1, r2, r3⟩ := S2.cells
      have f0 := S2.frozen 0
      have f1 := S2.frozen 1
      have f2 := S2.frozen 2
      have f3 := S2.frozen 3
      have HE : Hid (St.setV (St.mix p (fun x => p x || q x) k) = St.setV (fun x => p x || q x)) := St.setV_congr (fun c hc => St.mix_done _ _ (by omega) hc)
      go_wp2_with fail
      refine bodyPost_ret (results_cell_row rfl _ _ (w.heap.size + 1 + 1) _ _ _ _ rfl (S2.put (q := St.mix p (fun x => p x || q x) k)) Try.underlying25 rfl (by kernel_rfl)) rfl ?_
      exact ⟨congrArg _ HE.out, put4_below hnx (by omega)⟩

theorem xor_word (p : Nat → Bool) : 18446744073709551615 ^^^ St.word p 64 = St.word (fun j => !p j) 64 := by
  apply Nat.eq_of_testBit_eq
  intro j
  rw [Nat.testBit_xor, St.testBit_word, St.testBit_word, show (18446744073709551615 : Nat) = 2 ^ 64 - 1 from rfl, Nat.testBit_two_pow_sub_one]
  by_cases h : j < 64
  · rw [decide_eq_true h, Bool.true_and, Bool.true_and]; cases p j <;> rfl
  · rw [decide_eq_false h]; rfl
theorem not_bit (p : Nat → Bool) (k : Nat) : Hid (bits .xor .u64 (if IntKind.u64.signed = true then -1 else IntKind.u64.max) (St.wd p k : Int) = (St.wd (fun x => !p x) k : Nat)) := by
  show bits .xor .u64 (((18446744073709551615 : Nat) : Int)) (St.wd p k : Int) = _
  rw [u64_xor_nat _ _ (by decide) (St.wd_lt p k)]
  exact congrArg _ (xor_word _)

set_option maxRecDepth 100000 in
set_option maxHeartbeats 1000000 in
theorem not_any (p : Nat → Bool) (w : World) :
    Calls Try.prog 26 #[St.setV p] w fun e w' => e = .returned (St.setV (fun x => !p x)) ∧ Below w.heap.size w w' := by
  simp only [St.setV]
  go_enter Try.func26, Try.ntmps26
  go_wp2_with fail
  go_loopw [4] (fun i wr => ∃ k : Nat, k ≤ 4 ∧ i = .int .i64 k ∧ SetAt wr w.heap.size (St.mix p (fun x => !p x) k) ∧ SetAt wr (w.heap.size + 1) (St.inL []) ∧ Below w.heap.size w wr) (fun i _ => 4 - (intOf i).toNat)
  case atStart => exact ⟨0, by omega, rfl, ((at_new' p rfl).alloc _).congr (fun c _ => St.mix_zero _ _ c), at_zero' (by simp), ((Below.refl _ _).alloc (Nat.le_refl _) _).alloc (by simp) _⟩
  case round =>
    obtain ⟨k, hk, rfl, S1, S2, hnx⟩ := hrel
    have hl1 := S2.lt
    by_cases hlt : k < 4
    · have ca := S1.cell hlt
      rw [St.mix_high p _ (Nat.le_refl k)] at ca
      have fa := S1.frozen k
      have hvA := St.wd_lt p k
      have HV := not_bit p k
      go_wp2_with fail
      refine ⟨⟨k + 1, by omega, by go_num, S1.word hlt HV.out, S2.setCell _ (by show _ ≠ w.heap.size; omega), hnx.setCell (p := ⟨w.heap.size, k, none⟩) (Nat.le_refl _) _⟩, ?_⟩
      simp [intOf]; omega
    · obtain ⟨q0, q1, q2, q3⟩ := S1.cells
      obtain ⟨r0, r1, r2, r3⟩ := S2.cells
      have f0 := S2.frozen 0
      have f1 := S2.frozen 1
      have f2 := S2.frozen 2
      have f3 := S2.frozen 3
      have HE : Hid (St.setV (St.mix p (fun x => !p x) k) = St.setV (fun x => !p x)) := St.setV_congr (fun c hc => St.mix_done _ _ (by omega) hc)
      go_wp2_with fail
      refine bodyPost_ret (results_cell_row rfl _ _ (w.heap.size + 1) _ _ _ _ rfl (S2.put (q := St.mix p (fun x => !p x) k)) Try.underlying25 rfl (by kernel_rfl)) rfl ?_
      exact ⟨congrArg _ HE.out, put4_below hnx (by omega)⟩

theorem wrap_small {x : Int} (h0 : 0 ≤ x) (h1 : x < 18446744073709551616) : IntKind.u64.wrap x = x := by rw [IntKind.wrap_u64]; omega
theorem and_sum (a b m : Nat) (ha : a < 18446744073709551616) (hb : b < 18446744073709551616) (hm : m + m < 18446744073709551616) :
    IntKind.u64.wrap (bits .and .u64 (a : Int) (m : Int) + bits .and .u64 (b : Int) (m : Int)) = (((a &&& m) + (b &&& m) : Nat) : Int) := by
  have h1 : a &&& m ≤ m := Nat.and_le_right
  have h2 : b &&& m ≤ m := Nat.and_le_right
  rw [u64_and_nat _ _ ha (by omega), u64_and_nat _ _ hb (by omega), wrap_small (by omega) (by omega)]
  omega
theorem and_i64 (x : Nat) (hx : x < 9223372036854775808) : bits .and .i64 (x : Int) 127 = ((x % 128 : Nat) : Int) := by
  have h1 : (BitVec.ofInt 64 (x : Int)).toNat = x := by
    rw [BitVec.ofInt_natCast, BitVec.toNat_ofNat]; exact Nat.mod_eq_of_lt (by omega)
  show IntKind.i64.wrap ((BitVec.ofInt 64 (x : Int) &&& BitVec.ofInt 64 127).toNat : Int) = _
  rw [BitVec.toNat_and, h1]
  rw [show (BitVec.ofInt 64 127).toNat = 127 from rfl, nat_mask7]
  have h2 : x % 128 < 128 := Nat.mod_lt _ (by decide)
  generalize x % 128 = y at *
  rw [IntKind.wrap_i64]
  omega

set_option maxRecDepth 100000 in
set_option maxHeartbeats 1000000 in
theorem ones_any (x : Nat) (w : World) (hx : x < 18446744073709551616) :
    Calls Try.prog 37 #[.int .u64 (x : Int)] w fun e w' => e = .returned (.int .i64 (St.ones x : Nat)) ∧ w = w' := by
  have HO : Hid (St.ones x = St.ones x) := rfl
  unfold St.ones at HO
  obtain ⟨x1, h1⟩ : ∃ x1, ((x / 2) &&& 0x5555555555555555) + (x &&& 0x5555555555555555) = x1 := ⟨_, rfl⟩
  have l1 : x1 ≤ 0x5555555555555555 + 0x5555555555555555 := by rw [← h1]; exact Nat.add_le_add Nat.and_le_right Nat.and_le_right
  have e1 : IntKind.u64.wrap (bits .and .u64 ((x : Int) / 2) 6148914691236517205 + bits .and .u64 (x : Int) 6148914691236517205) = (x1 : Int) := by
    rw [← h1]; exact and_sum (x / 2) x 6148914691236517205 (by omega) hx (by decide)
  obtain ⟨x2, h2⟩ : ∃ x2, ((x1 / 4) &&& 0x3333333333333333) + (x1 &&& 0x3333333333333333) = x2 := ⟨_, rfl⟩
  have l2 : x2 ≤ 0x3333333333333333 + 0x3333333333333333 := by rw [← h2]; exact Nat.add_le_add Nat.and_le_right Nat.and_le_right
  have e2 : IntKind.u64.wrap (bits .and .u64 ((x1 : Int) / 4) 3689348814741910323 + bits .and .u64 (x1 : Int) 3689348814741910323) = (x2 : Int) := by
    rw [← h2]; exact and_sum (x1 / 4) x1 3689348814741910323 (by omega) (by omega) (by decide)
  obtain ⟨x3, h3⟩ : ∃ x3, (x2 / 16 + x2) &&& 0x0f0f0f0f0f0f0f0f = x3 := ⟨_, rfl⟩
  have l3 : x3 ≤ 0x0f0f0f0f0f0f0f0f := by rw [← h3]; exact Nat.and_le_right
  have e3 : bits .and .u64 ((x2 : Int) / 16 + (x2 : Int)) 1085102592571150095 = (x3 : Int) := by
    rw [← h3]
    exact u64_and_nat (x2 / 16 + x2) 1085102592571150095 (by omega) (by decide)
  obtain ⟨x4, h4⟩ : ∃ x4, x3 + x3 / 256 = x4 := ⟨_, rfl⟩
  have e4 : (x3 : Int) + (x3 : Int) / 256 = (x4 : Int) := by omega
  have l4 : x4 < 9223372036854775808 := by omega
  obtain ⟨x5, h5⟩ : ∃ x5, x4 + x4 / 65536 = x5 := ⟨_, rfl⟩
  have e5 : (x4 : Int) + (x4 : Int) / 65536 = (x5 : Int) := by omega
  have l5 : x5 < 9223372036854775808 := by omega
  obtain ⟨x6, h6⟩ : ∃ x6, x5 + x5 / 4294967296 = x6 := ⟨_, rfl⟩
  have e6 : (x5 : Int) + (x5 : Int) / 4294967296 = (x6 : Int) := by omega
  have l6 : x6 < 9223372036854775808 := by omega
  have e7 := and_i64 x6 l6
  have HR : Hid (St.ones x = x6 % 128) := by
    show St.ones x = _
    unfold St.ones
    simp only []
    rw [h1, h2, h3, h4, h5, h6]
  clear h1 h2 h3 h4 h5 h6 HO
  go_enter Try.func37, Try.ntmps37
  go_wp2_with fail
  go_ret
  rw [HR.out]
  exact ⟨rfl, rfl⟩
end Go.Proofs.Ytmlpfgfpmbnbeaa
