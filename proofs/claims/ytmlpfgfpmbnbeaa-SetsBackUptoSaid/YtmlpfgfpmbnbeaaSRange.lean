/- What sets.Range and the reference's Of and Range answer. -/
import Derived.Test.YtmlpfgfpmbnbeaaSRow
namespace Go.Proofs.Ytmlpfgfpmbnbeaa
open Go.RowKit

namespace St
def rng (a b x : Nat) : Bool := decide (a ≤ x) && decide (x ≤ b)
def rngTo (a k x : Nat) : Bool := decide (a ≤ x) && decide (x < k)
theorem rng_step (a k c : Nat) (h : a ≤ k) : (rngTo a k c || c == k) = rngTo a (k + 1) c := by
  unfold rngTo
  rw [Bool.eq_iff_iff]
  simp
  omega
theorem rng_done (a b k : Nat) (h1 : b < k) (h2 : k = a ∨ k ≤ b + 1) (c : Nat) : rngTo a k c = rng a b c := by
  unfold rngTo rng
  rw [Bool.eq_iff_iff]
  simp
  omega
theorem rng_none (a c : Nat) : inL [] c = rngTo a a c := by
  unfold rngTo inL
  rw [Bool.eq_iff_iff]
  simp
end St
theorem wrap_byte {c : Nat} (h : c < 256) : IntKind.u8.wrap (c : Int) = c := by rw [IntKind.wrap_u8']; omega

set_option maxRecDepth 100000 in
set_option maxHeartbeats 1000000 in
theorem range_any (a b : Nat) (w : World) (ha : a < 256) (hb : b < 256) :
    Calls Try.prog 20 #[.int .u8 (a : Int), .int .u8 (b : Int)] w fun e w' => e = .returned (St.setV (St.rng a b)) ∧ Below w.heap.size w w' := by
  go_enter Try.func20, Try.ntmps20
  go_wp2_with fail
  go_loopw [6] (fun i wr => ∃ k : Nat, a ≤ k ∧ (k = a ∨ k ≤ b + 1) ∧ i = .int .i64 k ∧ SetAt wr (w.heap.size + 1) (St.rngTo a k) ∧ SetAt wr w.heap.size (St.inL []) ∧ Below w.heap.size w wr) (fun i _ => 256 - (intOf i).toNat)
  case atStart => exact ⟨a, Nat.le_refl _, .inl rfl, rfl, (atS2 w).congr (fun c _ => St.rng_none a c), atS1 w, ((Below.refl _ _).alloc (Nat.le_refl _) _).alloc (by simp) _⟩
  case round =>
    obtain ⟨k, hak, hk, rfl, S1, S2, hnx⟩ := hrel
    obtain ⟨q0, q1, q2, q3⟩ := S1.cells
    have hl1 := S1.lt
    by_cases hlt : k ≤ b
    · have hk6 : k < 256 := by omega
      have hw := wrap_byte hk6
      go_wp2_with (go_at_call 36; refine (with_any _ _ hk6 _).mono ?_; rintro x w1 ⟨rfl, hb⟩; simp only [St.setV]; have f0 := (S1.under hb).frozen 0; have f1 := (S1.under hb).frozen 1; have f2 := (S1.under hb).frozen 2; have f3 := (S1.under hb).frozen 3; obtain ⟨r0, r1, r2, r3⟩ := (S1.under hb).cells)
      have hs := hb.size
      refine ⟨⟨k + 1, by omega, by omega, by go_num, (S1.under hb).put.congr (fun c _ => St.rng_step a k c hak), (S2.under hb).other (by omega), put4_below (Below.more hnx hb (by omega)) (by omega)⟩, ?_⟩
      simp [intOf]; omega
    · obtain ⟨r0, r1, r2, r3⟩ := S2.cells
      have f0 := S2.frozen 0
      have f1 := S2.frozen 1
      have f2 := S2.frozen 2
      have f3 := S2.frozen 3
      have HE : Hid (St.setV (St.rngTo a k) = St.setV (St.rng a b)) := St.setV_congr (fun c _ => St.rng_done a b k (by omega) (by omega) c)
      go_wp2_with fail
      refine bodyPost_ret (results_cell_row rfl _ _ w.heap.size _ _ _ _ rfl (S2.put (q := St.rngTo a k)) Try.underlying25 rfl (by kernel_rfl)) rfl ?_
      refine ⟨?_, put4_below hnx (Nat.le_refl _)⟩
      exact congrArg _ HE.out

set_option maxRecDepth 100000 in
set_option maxHeartbeats 1000000 in
theorem rrange_any (a b : Nat) (w : World) (ha : a < 256) (hb : b < 256) :
    Calls Try.prog 21 #[.int .u8 (a : Int), .int .u8 (b : Int)] w fun e w' => e = .returned (St.setV (St.rng a b)) ∧ Below w.heap.size w w' := by
  go_enter Try.func21, Try.ntmps21
  go_wp2_with fail
  go_loopw [6] (fun i wr => ∃ k : Nat, a ≤ k ∧ (k = a ∨ k ≤ b + 1) ∧ i = .int .i64 k ∧ SetAt wr (w.heap.size + 1) (St.rngTo a k) ∧ SetAt wr w.heap.size (St.inL []) ∧ Below w.heap.size w wr) (fun i _ => 256 - (intOf i).toNat)
  case atStart => exact ⟨a, Nat.le_refl _, .inl rfl, rfl, (atS2 w).congr (fun c _ => St.rng_none a c), atS1 w, ((Below.refl _ _).alloc (Nat.le_refl _) _).alloc (by simp) _⟩
  case round =>
    obtain ⟨k, hak, hk, rfl, S1, S2, hnx⟩ := hrel
    obtain ⟨q0, q1, q2, q3⟩ := S1.cells
    have hl1 := S1.lt
    by_cases hlt : k ≤ b
    · have hk6 : k < 256 := by omega
      have hw := wrap_byte hk6
      go_wp2_with (go_at_call 35; refine (radd_any _ _ hk6 _).mono ?_; rintro x w1 ⟨rfl, hb⟩; simp only [St.setV]; have f0 := (S1.under hb).frozen 0; have f1 := (S1.under hb).frozen 1; have f2 := (S1.under hb).frozen 2; have f3 := (S1.under hb).frozen 3; obtain ⟨r0, r1, r2, r3⟩ := (S1.under hb).cells)
      have hs := hb.size
      refine ⟨⟨k + 1, by omega, by omega, by go_num, (S1.under hb).put.congr (fun c _ => St.rng_step a k c hak), (S2.under hb).other (by omega), put4_below (Below.more hnx hb (by omega)) (by omega)⟩, ?_⟩
      simp [intOf]; omega
    · obtain ⟨r0, r1, r2, r3⟩ := S2.cells
      have f0 := S2.frozen 0
      have f1 := S2.frozen 1
      have f2 := S2.frozen 2
      have f3 := S2.frozen 3
      have HE : Hid (St.setV (St.rngTo a k) = St.setV (St.rng a b)) := St.setV_congr (fun c _ => St.rng_done a b k (by omega) (by omega) c)
      go_wp2_with fail
      refine bodyPost_ret (results_cell_row rfl _ _ w.heap.size _ _ _ _ rfl (S2.put (q := St.rngTo a k)) Try.underlying25 rfl (by kernel_rfl)) rfl ?_
      refine ⟨?_, put4_below hnx (Nat.le_refl _)⟩
      exact congrArg _ HE.out

set_option maxRecDepth 100000 in
set_option maxHeartbeats 1000000 in
theorem rof_any (a : Option Addr) (cap : Nat) (l : List UInt8) (w : World) (h : Bys w a l) :
    Calls Try.prog 13 #[.slice a l.length cap] w fun e w' => e = .returned (St.setV (St.inL l)) ∧ Below w.heap.size w w' := by
  have hl := h.len
  go_enter Try.func13, Try.ntmps13
  go_wp2_with fail
  go_loopw [8] (fun i wr => ∃ k : Nat, k ≤ l.length ∧ i = .int .i64 k ∧ SetAt wr (w.heap.size + 1) (St.inL (l.take k)) ∧ SetAt wr w.heap.size (St.inL []) ∧ Below w.heap.size w wr) (fun i _ => l.length - (intOf i).toNat)
  case atStart => exact ⟨0, Nat.zero_le _, rfl, atS2 w, atS1 w, ((Below.refl _ _).alloc (Nat.le_refl _) _).alloc (by simp) _⟩
  case round =>
    obtain ⟨k, hk, rfl, S1, S2, hnx⟩ := hrel
    obtain ⟨q0, q1, q2, q3⟩ := S1.cells
    have hl1 := S1.lt
    by_cases hlt : k < l.length
    · obtain ⟨b, off, rfl, hb0, hc⟩ := (h.below hnx).cells k hlt
      go_wp2_with (go_at_call 35; refine (radd_any _ _ (l[k]'hlt).toNat_lt _).mono ?_; rintro x w1 ⟨rfl, hb⟩; simp only [St.setV]; have f0 := (S1.under hb).frozen 0; have f1 := (S1.under hb).frozen 1; have f2 := (S1.under hb).frozen 2; have f3 := (S1.under hb).frozen 3; obtain ⟨r0, r1, r2, r3⟩ := (S1.under hb).cells)
      have hs := hb.size
      refine ⟨⟨k + 1, by omega, by go_num, (S1.under hb).put.congr (fun c _ => St.inL_step hlt c), (S2.under hb).other (by omega), put4_below (Below.more hnx hb (by omega)) (by omega)⟩, ?_⟩
      simp [intOf]; omega
    · obtain ⟨r0, r1, r2, r3⟩ := S2.cells
      have f0 := S2.frozen 0
      have f1 := S2.frozen 1
      have f2 := S2.frozen 2
      have f3 := S2.frozen 3
      have HE : Hid (l.take k = l) := List.take_of_length_le (by omega)
      go_wp2_with fail
      refine bodyPost_ret (results_cell_row rfl _ _ w.heap.size _ _ _ _ rfl (S2.put (q := St.inL (l.take k))) Try.underlying25 rfl (by kernel_rfl)) rfl ?_
      refine ⟨?_, put4_below hnx (Nat.le_refl _)⟩
      rw [HE.out]; rfl
end Go.Proofs.Ytmlpfgfpmbnbeaa
