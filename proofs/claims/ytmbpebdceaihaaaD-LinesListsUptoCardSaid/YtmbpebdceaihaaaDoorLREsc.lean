/- What the reference's escape answers. -/
import Derived.Test.YtmbpebdceaihaaaDoorLRSome
namespace Go.Proofs.YtmbpebdceaihaaaDoor
open Go.RowKit

namespace Ln
def escP (l : List UInt8) (off : Nat) : UInt8 × Nat × Bool :=
  match l with
  | [] => (0, off, false)
  | d :: r => if d = 92 then (92, off + 1, true) else if letF d 14 < 14 then (UInt8.ofNat (letF d 14), off + 1, true) else octP (d :: r) off
theorem unt_esc (r : List UInt8) (off : Nat) : untP (92 :: r) off = escP r (off + 1) := by
  cases r <;> rfl
def pls : List Nat := [92, 97, 98, 102, 110, 114, 116, 118]
def mns : List Nat := [92, 7, 8, 12, 10, 13, 9, 11]
theorem esc_hits : ∀ d : UInt8, ∀ k : Fin 8, d.toNat = pls.getD k.val 0 → (if d = 92 then some 92 else if letF d 14 < 14 then some (UInt8.ofNat (letF d 14)) else none) = some (UInt8.ofNat (mns.getD k.val 0)) := all_bytes (by decide +kernel)
theorem esc_hit {d : UInt8} {k : Nat} (hk : k < 8) (h : d.toNat = pls.getD k 0) (r : List UInt8) (off : Nat) : escP (d :: r) off = (UInt8.ofNat (mns.getD k 0), off + 1, true) := by
  have h1 := esc_hits d ⟨k, hk⟩ h
  simp only [escP]
  split at h1
  · rename_i h2; rw [if_pos h2]; simp only [Option.some.injEq] at h1; rw [← h1]
  · rename_i h2
    rw [if_neg h2]
    split at h1
    · rename_i h3; rw [if_pos h3]; simp only [Option.some.injEq] at h1; rw [← h1]
    · cases h1
theorem esc_misses : ∀ d : UInt8, (∀ k : Fin 8, ¬ d.toNat = pls.getD k.val 0) → d ≠ 92 ∧ ¬ letF d 14 < 14 := all_bytes (by decide +kernel)
theorem esc_miss {d : UInt8} (h : ∀ k, k < 8 → ¬ d.toNat = pls.getD k 0) (r : List UInt8) (off : Nat) : escP (d :: r) off = octP (d :: r) off := by
  obtain ⟨h1, h2⟩ := esc_misses d (fun k => h k.val k.isLt)
  simp only [escP, if_neg h1, if_neg h2]
theorem mns_small (k : Nat) : mns.getD k 0 < 256 := by
  by_cases h : k < 8
  · match k, h with
    | 0, _ | 1, _ | 2, _ | 3, _ | 4, _ | 5, _ | 6, _ | 7, _ => decide
  · have : mns.length ≤ k := by simp [mns]; omega
    simp [List.getD, List.getElem?_eq_none this]
theorem oct_past {s : ByteArray} {i j x : Nat} (hj : j < 3) (h : i + j = s.size) : octGo (3 - j) (8 ^ (2 - j)) x (s.data.toList.drop (i + j)) (i + j) = (0, i + j, false) := by
  rw [List.drop_eq_nil_of_le (by rw [szL]; omega)]
  rcases (show j = 0 ∨ j = 1 ∨ j = 2 by omega) with rfl | rfl | rfl <;> rfl
theorem oct_bad {s : ByteArray} {i j x : Nat} (hj : j < 3) (h : i + j < s.size) (hc : s[i + j].toNat < 48 ∨ 55 < s[i + j].toNat) : octGo (3 - j) (8 ^ (2 - j)) x (s.data.toList.drop (i + j)) (i + j) = (0, i + j, false) := by
  rw [drop_cons s _ h]
  rcases (show j = 0 ∨ j = 1 ∨ j = 2 by omega) with rfl | rfl | rfl <;> exact octGo_no hc
theorem oct_off {s : ByteArray} {i j x : Nat} (hj : j < 3) (h : i + j < s.size) (hc : ¬ (s[i + j].toNat < 48 ∨ 55 < s[i + j].toNat)) (h2 : octB ((x * 8 + (s[i + j].toNat - 48)) * 8 ^ (2 - j) : Nat) ((x * 8 + (s[i + j].toNat - 48)) * 8 ^ (2 - j) + 8 ^ (2 - j) - 1 : Nat) = false) :
    octGo (3 - j) (8 ^ (2 - j)) x (s.data.toList.drop (i + j)) (i + j) = (0, i + j, false) := by
  rw [drop_cons s _ h]
  rcases (show j = 0 ∨ j = 1 ∨ j = 2 by omega) with rfl | rfl | rfl <;> exact octGo_out hc h2
theorem oct_step {s : ByteArray} {i j x : Nat} (hj : j < 3) (h : i + j < s.size) (hc : ¬ (s[i + j].toNat < 48 ∨ 55 < s[i + j].toNat)) (h2 : octB ((x * 8 + (s[i + j].toNat - 48)) * 8 ^ (2 - j) : Nat) ((x * 8 + (s[i + j].toNat - 48)) * 8 ^ (2 - j) + 8 ^ (2 - j) - 1 : Nat) = true) :
    octGo (3 - j) (8 ^ (2 - j)) x (s.data.toList.drop (i + j)) (i + j) = octGo (3 - (j + 1)) (8 ^ (2 - (j + 1))) (x * 8 + (s[i + j].toNat - 48)) (s.data.toList.drop (i + (j + 1))) (i + (j + 1)) := by
  rw [drop_cons s _ h]
  rcases (show j = 0 ∨ j = 1 ∨ j = 2 by omega) with rfl | rfl | rfl <;> exact (octGo_on hc h2).trans rfl
def plB : ByteArray := ⟨#[92, 97, 98, 102, 110, 114, 116, 118]⟩
theorem plB_size : plB.size = 8 := rfl
theorem plB_get : ∀ (k : Nat) (h : k < plB.size), (plB[k]'h).toNat = pls.getD k 0
  | 0, _ | 1, _ | 2, _ | 3, _ | 4, _ | 5, _ | 6, _ | 7, _ => rfl
  | k + 8, h => absurd h (by rw [plB_size]; omega)
end Ln
def mnO : Obj := .cells #[.int .u8 92, .int .u8 7, .int .u8 8, .int .u8 12, .int .u8 10, .int .u8 13, .int .u8 9, .int .u8 11] 5
theorem mnO_cell (w : World) (m : Nat) {k : Nat} (hk : k < 8) : ((w.alloc mnO).drewN m).cell? ⟨w.heap.size, k, none⟩ = some (.int .u8 (Ln.mns.getD k 0 : Nat)) := by
  match k, hk with
  | 0, _ | 1, _ | 2, _ | 3, _ | 4, _ | 5, _ | 6, _ | 7, _ => simp [mnO, Ln.mns]

set_option maxRecDepth 100000 in
set_option maxHeartbeats 2000000 in
theorem resc_any (s : ByteArray) (i : Nat) (w : World) (hs : s.size ≤ 1048576) (hi : i ≤ s.size) :
    Calls Tryd.prog 28 #[.string s, .int .i64 i] w fun e w' => e = TOLD (Ln.escP (s.data.toList.drop i) i) ∧ Below w.heap.size w w' := by
  by_cases h0 : i < s.size
  · have hcb : s[i].toNat < 256 := s[i].toNat_lt
    have g1 : ¬ (i : Int) ≥ (s.size : Int) := by omega
    have HR0 : Hid (Ln.escP (s.data.toList.drop i) i = Ln.escP (s[i] :: s.data.toList.drop (i + 1)) i) := by show _ = _; rw [Ln.drop_cons s i h0]
    obtain ⟨R, hR⟩ : ∃ R, Ln.escP (s.data.toList.drop i) i = R := ⟨_, rfl⟩
    rw [hR] at HR0 ⊢
    clear hR
    go_enter Tryd.func28, Tryd.ntmps28
    go_wp2
    rw [show (⟨#[92, 97, 98, 102, 110, 114, 116, 118]⟩ : ByteArray) = Ln.plB from rfl, show (Obj.cells #[.int .u8 92, .int .u8 7, .int .u8 8, .int .u8 12, .int .u8 10, .int .u8 13, .int .u8 9, .int .u8 11] 5) = mnO from rfl]
    have hps := Ln.plB_size
    have hpg : Hid (∀ (k : Nat) (h : k < Ln.plB.size), (Ln.plB[k]'h).toNat = Ln.pls.getD k 0) := Ln.plB_get
    generalize Ln.plB = PL at hps hpg ⊢
    have hmc : Hid (∀ m k, k < 8 → ((w.alloc mnO).drewN m).cell? ⟨w.heap.size, k, none⟩ = some (.int .u8 (Ln.mns.getD k 0 : Nat))) := fun m k hk => mnO_cell w m hk
    have hw0 : Below w.heap.size w (w.alloc mnO) := (Below.refl _ _).alloc (Nat.le_refl _) _
    generalize w.alloc mnO = w1 at hmc hw0 ⊢
    go_loopw [9] (fun kv wr => ∃ k m : Nat, k ≤ 8 ∧ kv = .int .i64 k ∧ Hid (∀ j, j < k → ¬ s[i].toNat = Ln.pls.getD j 0) ∧ wr = w1.drewN m) (fun kv _ => 8 - (intOf kv).toNat)
    case atStart => exact ⟨0, 0, by omega, rfl, (fun j hj => absurd hj (by omega)), rfl⟩
    case round =>
      obtain ⟨k, m, hk, rfl, HC, rfl⟩ := hrel
      have hB : Below w.heap.size w (w1.drewN m) := below_drewN hw0 m
      by_cases hlt : k < 8
      · have hit : Hid (s[i].toNat = Ln.pls.getD k 0 → R = (UInt8.ofNat (Ln.mns.getD k 0), i + 1, true)) := fun h => HR0.out.trans (Ln.esc_hit hlt h _ _)
        have next : Hid (¬ s[i].toNat = Ln.pls.getD k 0 → ∀ j, j < k + 1 → ¬ s[i].toNat = Ln.pls.getD j 0) := fun h j hj => by
          by_cases e : j = k
          · subst e; exact h
          · exact HC.out j (by omega)
        have hc := hmc.out m k hlt
        have hp : k < PL.size := by omega
        have hpk : (PL[k]'hp).toNat = Ln.pls.getD k 0 := hpg.out k hp
        have i1 : (k : Int) < 8 := by omega
        rw [← hpk] at hit next
        clear hpk
        cases hq : ((s[i].toNat : Int) == ((PL[k]'hp).toNat : Int))
        · have HN : Hid (∀ j, j < k + 1 → ¬ s[i].toNat = Ln.pls.getD j 0) := next.out (by intro e; rw [e] at hq; simp at hq)
          clear hit next HC
          go_wp2_with fail
          go_quiet (fail)
          go_wp2_with fail
          go_roundw
          case rel => exact ⟨k + 1, m + nq, by omega, by go_num, HN, rfl⟩
          case measure => simp [intOf]; omega
        · have hR := hit.out (by have : (s[i].toNat : Int) = ((PL[k]'hp).toNat : Int) := by simpa using hq
                                 omega)
          have hm256 : Ln.mns.getD k 0 < 256 := Ln.mns_small k
          have hmc2 : Hid (∀ m, (w1.drewN m).cell? ⟨w.heap.size, k, none⟩ = some (.int .u8 (Ln.mns.getD k 0 : Nat))) := fun m => hmc.out m k hlt
          generalize Ln.mns.getD k 0 = mn at hR hm256 hmc2
          clear hit next HC hc hmc
          go_wp2_with fail
          go_quiet (fail)
          have hc := hmc2.out (m + nq)
          go_wp2_with fail
          have e2 : ((UInt8.ofNat mn).toNat : Int) = (mn : Int) := by simp; omega
          have hB2 := below_drewN hw0 (m + nq)
          go_ret3
          refine ⟨?_, hB2⟩
          rw [hR]
          show Ending.returned (.tuple #[.int .u8 (mn : Int), .int .i64 ((i : Int) + 1), .bool true]) = .returned (.tuple #[.int .u8 ((UInt8.ofNat mn).toNat : Int), .int .i64 ((i + 1 : Nat) : Int), .bool true])
          rw [e2]
          rfl
      · have HR : Hid (Ln.octGo 3 64 0 (s.data.toList.drop i) i = R) := by
          show _ = R
          rw [HR0.out, Ln.esc_miss (fun j hj => HC.out j (by omega)), Ln.drop_cons s i h0]; rfl
        clear HR0 HC hmc
        have i1 : ¬ (k : Int) < 8 := by omega
        clear hlt
        go_wp2_with fail
        clear i1
        go_loopw [10, 11] (fun nv kv wr => ∃ j x : Nat, j ≤ 3 ∧ i + j ≤ s.size ∧ kv = .int .i64 j ∧ nv = .int .i64 x ∧ Hid (x < 8 ^ j) ∧ Hid (Ln.octGo (3 - j) (8 ^ (2 - j)) x (s.data.toList.drop (i + j)) (i + j) = R) ∧ Below w.heap.size w wr) (fun _ kv _ => 3 - (intOf kv).toNat)
        case atStart => exact ⟨0, 0, by omega, by omega, rfl, rfl, (show 0 < 8 ^ 0 by decide), HR, hB⟩
        case round =>
          obtain ⟨j, x, hj, hij, rfl, rfl, HX, HJ, hnx⟩ := hrel
          have hsz := hnx.size
          by_cases hj3 : j < 3
          · have i1 : (j : Int) < 3 := by omega
            have hx : x ≤ 63 := by
              have h8 : 8 ^ j ≤ 8 ^ 2 := Nat.pow_le_pow_right (by decide) (by omega)
              have := HX.out
              omega
            by_cases hlt : i + j < s.size
            · have hcb2 : s[i + j].toNat < 256 := s[i + j].toNat_lt
              have i2 : ¬ (i : Int) + (j : Int) ≥ (s.size : Int) := by omega
              by_cases h1 : s[i + j].toNat < 48
              · have hR : R = (0, i + j, false) := HJ.out.symm.trans (Ln.oct_bad hj3 hlt (.inl h1))
                have h1' : (s[i + j].toNat : Int) < 48 := by omega
                go_wp2_with fail
                go_ret3
                exact ⟨by rw [hR]; rfl, hnx⟩
              by_cases h2 : 55 < s[i + j].toNat
              · have hR : R = (0, i + j, false) := HJ.out.symm.trans (Ln.oct_bad hj3 hlt (.inr h2))
                have h1' : ¬ (s[i + j].toNat : Int) < 48 := by omega
                have h2' : (s[i + j].toNat : Int) > 55 := by omega
                go_wp2_with fail
                go_ret3
                exact ⟨by rw [hR]; rfl, hnx⟩
              have h1' : ¬ (s[i + j].toNat : Int) < 48 := by omega
              have h2' : ¬ (s[i + j].toNat : Int) > 55 := by omega
              have HS := rsome_any x j s[i + j] wr (by omega) (by omega) (by omega) (by omega)
              have HOF : Hid (Ln.octB ((x * 8 + (s[i + j].toNat - 48)) * 8 ^ (2 - j) : Nat) ((x * 8 + (s[i + j].toNat - 48)) * 8 ^ (2 - j) + 8 ^ (2 - j) - 1 : Nat) = false → R = (0, i + j, false)) := fun h => HJ.out.symm.trans (Ln.oct_off hj3 hlt (by omega) h)
              have HON : Hid (Ln.octB ((x * 8 + (s[i + j].toNat - 48)) * 8 ^ (2 - j) : Nat) ((x * 8 + (s[i + j].toNat - 48)) * 8 ^ (2 - j) + 8 ^ (2 - j) - 1 : Nat) = true → Ln.octGo (3 - (j + 1)) (8 ^ (2 - (j + 1))) (x * 8 + (s[i + j].toNat - 48)) (s.data.toList.drop (i + (j + 1))) (i + (j + 1)) = R) := fun h => (Ln.oct_step hj3 hlt (by omega) h).symm.trans HJ.out
              generalize Ln.octB ((x * 8 + (s[i + j].toNat - 48)) * 8 ^ (2 - j) : Nat) ((x * 8 + (s[i + j].toNat - 48)) * 8 ^ (2 - j) + 8 ^ (2 - j) - 1 : Nat) = O at HS HOF HON
              have HSH : Hid (Calls Tryd.prog 33 #[.int .i64 x, .int .u8 s[i + j].toNat, .int .i64 j] wr fun e w' => e = .returned (.bool O) ∧ Below wr.heap.size wr w') := HS
              clear HS HJ
              cases O
              · have hR := HOF.out rfl
                go_wp2_with (go_at_call 33; refine HSH.out.mono ?_; rintro e w2 ⟨rfl, hb2⟩)
                go_ret3
                exact ⟨by rw [hR]; rfl, hnx.trans (hb2.mono hsz)⟩
              · have HN : Hid _ := HON.out rfl
                have HX2 : Hid (x * 8 + (s[i + j].toNat - 48) < 8 ^ (j + 1)) := by
                  show _ < _
                  have := HX.out
                  rw [Nat.pow_succ]
                  omega
                go_wp2_with (go_at_call 33; refine HSH.out.mono ?_; rintro e w2 ⟨rfl, hb2⟩)
                go_roundw
                case rel => exact ⟨j + 1, x * 8 + (s[i + j].toNat - 48), by omega, by omega, by go_num, by go_num, HX2, HN, hnx.trans (hb2.mono hsz)⟩
                case measure => simp [intOf]; omega
            · have hR : R = (0, i + j, false) := HJ.out.symm.trans (Ln.oct_past hj3 (by omega))
              have i2 : (i : Int) + (j : Int) ≥ (s.size : Int) := by omega
              have hsj : (s.size : Int) = ((i + j : Nat) : Int) := by omega
              have HSJ : Hid ((s.size : Int) = ((i + j : Nat) : Int)) := hsj
              clear hsj
              go_wp2_with fail
              go_ret3
              refine ⟨?_, hnx⟩
              rw [hR]
              show Ending.returned (.tuple #[.int .u8 0, .int .i64 (s.size : Int), .bool false]) = .returned (.tuple #[.int .u8 ((0 : UInt8).toNat : Int), .int .i64 ((i + j : Nat) : Int), .bool false])
              rw [HSJ.out]; rfl
          · obtain rfl : j = 3 := by omega
            have hR : R = (UInt8.ofNat x, i + 3, true) := HJ.out.symm
            have hx : x < 512 := HX.out
            clear HJ HX
            go_wp2_with fail
            go_ret3
            refine ⟨?_, hnx⟩
            rw [hR]
            have e : ((UInt8.ofNat x).toNat : Int) = (x : Int) % 256 := by simp
            show Ending.returned (.tuple #[.int .u8 ((x : Int) % 256), .int .i64 ((i : Int) + 3), .bool true]) = .returned (.tuple #[.int .u8 ((UInt8.ofNat x).toNat : Int), .int .i64 ((i + 3 : Nat) : Int), .bool true])
            rw [e]; rfl
  · obtain rfl : i = s.size := by omega
    have HR : Hid (Ln.escP (s.data.toList.drop s.size) s.size = (0, s.size, false)) := by show _ = _; rw [List.drop_eq_nil_of_le (by rw [Ln.szL]; exact Nat.le_refl _)]; rfl
    go_enter Tryd.func28, Tryd.ntmps28
    go_wp2
    go_ret3
    exact ⟨by rw [HR.out]; rfl, Below.refl _ _⟩
end Go.Proofs.YtmbpebdceaihaaaDoor
