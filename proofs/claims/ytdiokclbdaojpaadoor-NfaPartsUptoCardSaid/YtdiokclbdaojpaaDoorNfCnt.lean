/- What the reference's Count answers. -/
import Derived.Test.YtdiokclbdaojpaaDoorNfM1
namespace Go.Proofs.YtdiokclbdaojpaaDoor
open Go.RowKit

namespace Nt
theorem cnt_eq (T : NT) : cnt T = 1 + (kinds.kindsL T.kids).length := by rw [cnt, kinds_eq, List.length_cons]; omega
theorem cntL_take {T : NT} {i : Nat} (h : i < T.kids.length) : (kinds.kindsL (T.kids.take (i + 1))).length = (kinds.kindsL (T.kids.take i)).length + cnt (T.kids[i]) := by rw [kindsL_take h, List.length_append, cnt]
theorem cntL_le (T : NT) (i : Nat) : (kinds.kindsL (T.kids.take i)).length ≤ (kinds.kindsL T.kids).length := List.IsPrefix.length_le (kindsL_pre T.kids i)
end Nt
set_option maxRecDepth 100000 in
set_option maxHeartbeats 2000000 in
theorem rcount_any (T : Nt.NT) : ∀ (a : Option Addr) (cap : Nat) (w : World), Nt.Nd w (· < w.heap.size) T a cap → Nt.cnt T < 4611686018427387904 →
    Calls Tryd.prog 51 #[Nt.ndV T a cap] w fun e w' => (∃ c : Nat, e = .returned (.int .i64 (c : Nat)) ∧ c ≤ Nt.cnt T ∧ (c ≤ 8192 → c = Nt.cnt T)) ∧ Below w.heap.size w w' := by
  induction T using Nt.NT.ind with
  | h T ih =>
  intro a cap w hN hg
  have IH : Hid _ := ih
  clear ih
  have HQ := Nt.cnt_eq T
  have HL : Hid _ := Nt.cntL_le T
  have HG : Hid (1 + (Nt.kinds.kindsL T.kids).length < 4611686018427387904) := by show _ < _; omega
  have HQ : Hid _ := HQ
  clear hg
  have hlm := hN.room.1
  have N0 := Nt.node_new w T a cap
  have hB0 : Below w.heap.size w (w.alloc (.cells (Nt.ndA T a cap) 28)) := (Below.refl w.heap.size w).alloc (Nat.le_refl _) _
  simp only [Nt.ndV, Nt.ndA] at N0 hB0 ⊢
  obtain ⟨W, hW⟩ : ∃ W, W = w.alloc (.cells #[.int .u8 (T.k : Int), .int .u64 (St.wd T.s 0 : Nat), .int .u64 (St.wd T.s 1 : Nat), .int .u64 (St.wd T.s 2 : Nat), .int .u64 (St.wd T.s 3 : Nat), .int .i64 T.mn, .int .i64 T.mx, .int .i64 T.gr, .slice a T.kids.length cap] 28) := ⟨_, rfl⟩
  rw [← hW] at N0 hB0
  have hN1 : Nt.Nd W (· < w.heap.size) T a cap := hN.under hB0
  obtain ⟨q0, q1, q2, q3, q4, q5, q6, q7, q8⟩ := N0.nine
  go_enter Tryd.func51, Tryd.ntmps51
  go_wp2_with fail
  rw [← hW]
  clear hW q0 q1 q2 q3 q4 q5 q6 q7 q8 N0
  go_loopw [3, 9] (fun sv iv wr => ∃ (i s : Nat), i ≤ T.kids.length ∧ iv = .int .i64 (i : Int) ∧ sv = .int .i64 (s : Nat) ∧ Hid (s ≤ 1 + (Nt.kinds.kindsL (T.kids.take i)).length ∧ (s ≤ 8192 → s = 1 + (Nt.kinds.kindsL (T.kids.take i)).length)) ∧ Nt.Nd wr (· < w.heap.size) T a cap ∧ Below w.heap.size w wr) (fun _ iv _ => T.kids.length - (intOf iv).toNat)
  case atStart => exact ⟨0, 1, by omega, rfl, rfl, ⟨by simp, fun _ => by simp [Nt.kinds.kindsL]⟩, hN1, hB0⟩
  case round =>
    clear hN1 hB0
    obtain ⟨i, s, hi, rfl, rfl, HS, ND, hB⟩ := hrel
    by_cases hlt : i < T.kids.length
    · obtain ⟨b, off, a', cap', rfl, hbB, h9, hk⟩ := ND.kid hlt
      have hsz := hB.size
      have HT : Hid _ := Nt.cntL_take hlt
      obtain ⟨r0, r1, r2, r3, r4, r5, r6, r7, r8⟩ := h9
      have K1 := Nt.node_new wr (T.kids[i]) a' cap'
      have hA : Below wr.heap.size wr (wr.alloc (.cells (Nt.ndA (T.kids[i]) a' cap') 28)) := (Below.refl _ _).alloc (Nat.le_refl _) _
      have hsA : (wr.alloc (.cells (Nt.ndA (T.kids[i]) a' cap') 28)).heap.size = wr.heap.size + 1 := by simp
      have HI : Hid _ := IH.out i hlt a' cap' (wr.alloc (.cells (Nt.ndA (T.kids[i]) a' cap') 28)) (hk.same (fun b (h : b < _) => hA.block b (by omega)) (fun b (h : b < _) => by omega)) (by have h1 := HT.out; have h2 := HL.out (i + 1); have h3 := HG.out; omega)
      simp only [Nt.ndV, Nt.ndA] at K1 hA hsA HI
      obtain ⟨k0, k1, k2, k3, k4, k5, k6, k7, k8⟩ := K1.nine
      have HA : Hid _ := hA
      clear hk K1 hA IH
      have hs62 : (s : Int) < 4611686018427387904 := by have h1 := HS.out.1; have h2 := HL.out i; have h3 := HG.out; omega
      by_cases h8 : 8192 < s
      · have h8d : decide ((8192 : Int) < (s : Int)) = true := by simp; omega
        go_wp2_with fail
        go_ret
        exact ⟨⟨s, rfl, by have h1 := HS.out.1; have h2 := HL.out i; have h3 := HQ.out; omega, fun h => absurd h (by omega)⟩, hB.trans (HA.out.mono hsz)⟩
      · have h8d : decide ((8192 : Int) < (s : Int)) = false := by simp; omega
        have h8e : ((8192 : Int) < (s : Int)) = False := by simp; omega
        go_wp2_with fail
        refine Calls.mono HI.out ?_
        rintro x w2 ⟨⟨c, rfl, hc1, hc2⟩, hb2⟩
        have hc62 : (c : Int) + (s : Int) < 4611686018427387904 := by have h1 := HT.out; have h2 := HL.out (i + 1); have h3 := HG.out; have h4 := HS.out.1; omega
        have HS2 : Hid (s + c ≤ 1 + (Nt.kinds.kindsL (T.kids.take (i + 1))).length ∧ (s + c ≤ 8192 → s + c = 1 + (Nt.kinds.kindsL (T.kids.take (i + 1))).length)) := by
          have h1 := HT.out
          have h2 := HS.out
          refine ⟨by omega, fun h => ?_⟩
          have e1 := h2.2 (by omega)
          have e2 := hc2 (by omega)
          omega
        have hB2 : Below wr.heap.size wr w2 := HA.out.trans (hb2.mono HA.out.size)
        clear HI hc1 hc2 k0 k1 k2 k3 k4 k5 k6 k7 k8 r0 r1 r2 r3 r4 r5 r6 r7 r8
        go_wp2_with fail
        refine ⟨⟨i + 1, s + c, by omega, by simp, by simp, HS2, ND.under (hB2.mono hsz), hB.trans (hB2.mono hsz)⟩, ?_⟩
        simp only [intOf]
        omega
    · obtain rfl : i = T.kids.length := by omega
      go_wp2_with fail
      go_ret
      exact ⟨⟨s, rfl, by have h1 := HS.out.1; rw [List.take_length] at h1; have := HQ.out; omega, fun h => by have h1 := HS.out.2 h; rw [List.take_length] at h1; have := HQ.out; omega⟩, hB⟩
end Go.Proofs.YtdiokclbdaojpaaDoor
