/- What the reference's some answers: whether a byte that is told by octal digits goes on so. -/
import Derived.Test.YtmbpebdceaihaaaDoorLRTold
namespace Go.Proofs.YtmbpebdceaihaaaDoor
open Go.RowKit

namespace Ln
def t4 (b : Nat) : Bool := (toldL (UInt8.ofNat b)).length == 4
theorem t4_iff : ∀ b : Fin 256, t4 b.val = decide (b.val < 7 ∨ (13 < b.val ∧ b.val < 32) ∨ 126 < b.val) := by decide +kernel
theorem t4_is {b : Nat} (h : b < 256) : t4 b = true ↔ (b < 7 ∨ (13 < b ∧ b < 32) ∨ 126 < b) := by
  have := t4_iff ⟨b, h⟩
  simp only at this
  rw [this, decide_eq_true_iff]
theorem some_yes {b v rest : Nat} (hb : b < 256) (h4 : t4 b = true) (hr : 0 < rest) (h : b / rest = v) : octB (v * rest : Nat) (v * rest + rest - 1 : Nat) = true := by
  have h4 := (t4_is hb).1 h4
  have h1 := Nat.div_mul_le_self b rest
  have h2 := Nat.lt_div_mul_add (a := b) hr
  rw [h] at h1 h2
  simp only [octB, Bool.or_eq_true, Bool.and_eq_true, decide_eq_true_eq]
  omega
theorem some_no {v rest : Nat} (hr : 0 < rest) (h : ∀ b, b < 256 → t4 b = true → ¬ b / rest = v) : octB (v * rest : Nat) (v * rest + rest - 1 : Nat) = false := by
  by_cases hq : octB (v * rest : Nat) (v * rest + rest - 1 : Nat) = true
  · exfalso
    have key : ∀ b, b < 256 → (b < 7 ∨ (13 < b ∧ b < 32) ∨ 126 < b) → v * rest ≤ b → b < v * rest + rest → False := fun b h1 h2 h3 h4 => by
      refine h b h1 ((t4_is h1).2 h2) ?_
      rw [Nat.div_eq_iff hr]
      constructor <;> omega
    simp only [octB, Bool.or_eq_true, Bool.and_eq_true, decide_eq_true_eq] at hq
    rcases hq with (⟨a, b⟩ | ⟨a, b⟩) | ⟨a, b⟩
    · exact key (v * rest) (by omega) (by omega) (by omega) (by omega)
    · by_cases c : v * rest ≤ 14
      · exact key 14 (by omega) (by omega) (by omega) (by omega)
      · exact key (v * rest) (by omega) (by omega) (by omega) (by omega)
    · by_cases c : v * rest ≤ 127
      · exact key 127 (by omega) (by omega) (by omega) (by omega)
      · exact key (v * rest) (by omega) (by omega) (by omega) (by omega)
  · simpa using hq
end Ln

theorem rtold_nat (b : Nat) (hb : b < 256) (w : World) :
    Calls Tryd.prog 30 #[.int .u8 (b : Int)] w fun e w' => e = .returned (.string (Ln.bs (Ln.toldL (UInt8.ofNat b)))) ∧ Below w.heap.size w w' := by
  have h := rtold_any (UInt8.ofNat b) w
  rwa [show ((UInt8.ofNat b).toNat : Int) = (b : Int) by simp; omega] at h

theorem wrap_small (n : Nat) (h : n ≤ 1073741824) : IntKind.i64.wrap (n : Int) = (n : Int) := by
  simp [IntKind.wrap, IntKind.signed, IntKind.bits]; omega

set_option maxRecDepth 100000 in
set_option maxHeartbeats 1000000 in
theorem rsome_any (n k : Nat) (c : UInt8) (w : World) (hn : n ≤ 64) (hk : k ≤ 2) (h1 : 48 ≤ c.toNat) (h2 : c.toNat ≤ 55) :
    Calls Tryd.prog 33 #[.int .i64 n, .int .u8 c.toNat, .int .i64 k] w fun e w' => e = .returned (.bool (Ln.octB ((n * 8 + (c.toNat - 48)) * 8 ^ (2 - k) : Nat) ((n * 8 + (c.toNat - 48)) * 8 ^ (2 - k) + 8 ^ (2 - k) - 1 : Nat))) ∧ Below w.heap.size w w' := by
  obtain ⟨v, hv⟩ : ∃ v, n * 8 + (c.toNat - 48) = v := ⟨_, rfl⟩
  obtain ⟨rest, hrest⟩ : ∃ r, 8 ^ (2 - k) = r := ⟨_, rfl⟩
  have hr : 0 < rest := by rw [← hrest]; exact Nat.pow_pos (by decide)
  obtain ⟨R, hR⟩ : ∃ R, Ln.octB (v * rest : Nat) (v * rest + rest - 1 : Nat) = R := ⟨_, rfl⟩
  rw [hv, hrest, hR]
  have cv : 8 * (n : Int) + ((c.toNat : Int) - 48) = (v : Int) := by omega
  have v1 : v ≤ 1024 := by omega
  go_enter Tryd.func33, Tryd.ntmps33
  go_wp2
  go_loopw [7] (fun i wr => ∃ b : Nat, b ≤ 256 ∧ i = .int .i64 b ∧ Hid (∀ x, x < b → Ln.t4 x = true → ¬ x / rest = v) ∧ Below w.heap.size w wr) (fun i _ => 256 - (intOf i).toNat)
  case atStart => exact ⟨0, by omega, rfl, (fun x hx => absurd hx (by omega)), Below.refl _ _⟩
  case round =>
    obtain ⟨b, hb, rfl, HC, hnx⟩ := hrel
    have hsz := hnx.size
    by_cases hlt : b < 256
    · have i1 : (b : Int) < 256 := by omega
      have HT : Hid (Ln.t4 b = ((Ln.bs (Ln.toldL (UInt8.ofNat b))).size == 4)) := by show _ = _; rw [Ln.bs_size]; rfl
      obtain ⟨t, ht⟩ : ∃ t, Ln.bs (Ln.toldL (UInt8.ofNat b)) = t := ⟨_, rfl⟩
      rw [ht] at HT
      have HTT : Hid (Ln.bs (Ln.toldL (UInt8.ofNat b)) = t) := ht
      clear ht
      by_cases h4 : t.size = 4
      · have q4 : ((t.size : Int) != 4) = false := by rw [h4]; rfl
        have HT4 : Hid (Ln.t4 b = true) := by have := HT.out; rw [h4] at this; exact this
        go_wp2_with (go_at_call 30; refine (rtold_nat b hlt _).mono ?_; rw [HTT.out]; rintro e w1 ⟨rfl, hb1⟩)
        have hB1 := hnx.trans (hb1.mono hsz)
        go_loopw [9, 10] (fun lv jv wr => ∃ j q : Nat, k ≤ j ∧ j ≤ 2 ∧ q ≤ 256 ∧ jv = .int .i64 j ∧ lv = .int .i64 q ∧ Hid (q = b / 8 ^ (2 - j)) ∧ Below w.heap.size w wr) (fun _ jv _ => (intOf jv).toNat)
        case atStart => exact ⟨2, b, hk, Nat.le_refl _, by omega, rfl, rfl, by simp [Hid], hB1⟩
        case round =>
          obtain ⟨j, q, hj1, hj2, hq, rfl, rfl, HQ, hB2⟩ := hrel
          by_cases hjk : k < j
          · have i2 : (j : Int) > (k : Int) := by omega
            have d1 : IntKind.i64.wrap ((q : Int).tdiv 8) = ((q / 8 : Nat) : Int) := by
              rw [Int.tdiv_eq_ediv_of_nonneg (by omega), show (q : Int) / 8 = ((q / 8 : Nat) : Int) by omega]
              exact wrap_small _ (by omega)
            go_wp2
            go_roundw
            case rel =>
              refine ⟨j - 1, q / 8, by omega, by omega, by omega, by first | (congr 1; omega) | go_num, by first | rfl | (congr 1; omega) | go_num, ?_, hB2⟩
              show q / 8 = _
              rw [HQ.out, Nat.div_div_eq_div_mul, ← Nat.pow_succ]
              congr 2
              omega
            case measure => simp [intOf]; omega
          · have i2 : ¬ (j : Int) > (k : Int) := by omega
            have hjk' : j = k := by omega
            have HQ2 : Hid (q = b / rest) := by show q = _; rw [HQ.out, hjk', hrest]
            cases hqv : ((q : Int) == (v : Int))
            · have HN : Hid (¬ b / rest = v) := by
                show ¬ _
                rw [← HQ2.out]; intro e; rw [e] at hqv; simp at hqv
              go_wp2
              go_roundw
              case rel =>
                refine ⟨b + 1, by omega, by go_num, fun x hx hx4 => ?_, hB2⟩
                by_cases hxb : x = b
                · subst hxb; exact HN.out
                · exact HC.out x (by omega) hx4
              case measure => simp [intOf]; omega
            · have HE : Hid (R = true) := by
                show R = true
                rw [← hR]
                refine Ln.some_yes hlt HT4.out hr ?_
                rw [← HQ2.out]
                have : (q : Int) = (v : Int) := by simpa using hqv
                omega
              go_wp2
              go_ret
              exact ⟨ret_bool HE.out.symm, hB2⟩
      · have q4 : ((t.size : Int) != 4) = true := by rw [bne_iff_ne]; omega
        have HT4 : Hid (Ln.t4 b = false) := by have := HT.out; rw [show (t.size == 4) = false by simpa using h4] at this; exact this
        go_wp2_with (go_at_call 30; refine (rtold_nat b hlt _).mono ?_; rw [HTT.out]; rintro e w1 ⟨rfl, hb1⟩)
        go_roundw
        case rel =>
          refine ⟨b + 1, by omega, by go_num, fun x hx hx4 => ?_, hnx.trans (hb1.mono hsz)⟩
          by_cases hxb : x = b
          · subst hxb; rw [HT4.out] at hx4; cases hx4
          · exact HC.out x (by omega) hx4
        case measure => simp [intOf]; omega
    · have HE : Hid (R = false) := by
        show R = false
        rw [← hR]
        exact Ln.some_no hr (fun x hx => HC.out x (by omega))
      have i2 : ¬ (b : Int) < 256 := by omega
      clear hlt
      go_wp2
      go_ret
      exact ⟨ret_bool HE.out.symm, hnx⟩
end Go.Proofs.YtmbpebdceaihaaaDoor
