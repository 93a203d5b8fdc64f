/- What the reference's hunk answers. -/
import Derived.Test.YtpoimhkfajppmaaDoorLRPlace
import Derived.Test.YtpoimhkfajppmaaDoorLSlice
import Derived.Test.YtpoimhkfajppmaaDoorLPlainV
import Derived.Lib.QuietBelow
import Derived.BigQuiet
namespace Go.Proofs.YtpoimhkfajppmaaDoor
open Go.RowKit

theorem chs_take {w : World} {b cap f : Nat} {l : List Ln.Chg} (h : Chs w (some ⟨b, 0, none⟩) cap l) (h2 : f ≤ l.length) : Chs w (some ⟨b, 0, none⟩) cap (l.take f) := by
  have := chs_sub h (Nat.zero_le f) h2
  have e : Ln.sub l 0 f = l.take f := by simp [Ln.sub]
  rw [e] at this
  simpa using this
theorem sub_mem {l : List Ln.Chg} {f t : Nat} {x : Ln.Chg} (h : x ∈ Ln.sub l f t) : x ∈ l := List.mem_of_mem_drop (List.mem_of_mem_take h)

set_option maxRecDepth 100000 in
set_option maxHeartbeats 2000000 in
theorem rhunk_any (b cap : Nat) (D : List Ln.Chg) (f t : Nat) (w : World) (h : Chs w (some ⟨b, 0, none⟩) cap D) (HK : Hid (∀ x ∈ D, x.1 = 1 ∨ x.1 = 2 ∨ x.1 = 3)) (hft : f < t) (ht : t ≤ D.length) (hDl : D.length ≤ 8192) (HDt : Hid (Ln.tot (D.map (·.2)) ≤ 4194304)) :
    Calls Tryd.prog 31 #[.slice (some ⟨b, 0, none⟩) D.length cap, .int .i64 (f : Int), .int .i64 (t : Int)] w fun e w' => e = .returned (.string (Ln.bs (Ln.hunkB D f t))) ∧ Below w.heap.size w w' := by
  have hr := h.room
  have hm := h.most
  unfold maxLen at hm
  have HHB : Hid (Ln.hunkB D f t = [64, 64, 32, 45] ++ Ln.placeP (Ln.cntO (D.take f)) (Ln.cntO (Ln.sub D f t)) ++ [32, 43] ++ Ln.placeP (Ln.cntN (D.take f)) (Ln.cntN (Ln.sub D f t)) ++ [32, 64, 64, 10] ++ (Ln.sub D f t).flatMap Ln.chB) := rfl
  have HPL : Hid (∀ i, (((Ln.sub D f t).take i).flatMap Ln.chB).length ≤ 4500000) := fun i => Ln.part_len D f t i hDl HDt.out
  have hls : (Ln.sub D f t).length = t - f := Ln.sub_length (Nat.le_of_lt hft) ht
  have hlt0 : (D.take f).length = f := by simp; omega
  have b1 := Ln.cntO_le (D.take f)
  have b2 := Ln.cntN_le (D.take f)
  have b3 := Ln.cntO_le (Ln.sub D f t)
  have b4 := Ln.cntN_le (Ln.sub D f t)
  rw [hlt0] at b1 b2
  rw [hls] at b3 b4
  have ne1 : ¬ cap = f := by omega
  have HCH : Hid (∀ w1, Below w.heap.size w w1 → Chs w1 (some ⟨b, 0, none⟩) cap (D.take f) ∧ Chs w1 (some ⟨b, f * 3, none⟩) (cap - f) (Ln.sub D f t)) := by
    intro w1 hb
    have h' := h.below hb
    refine ⟨chs_take h' (by omega), ?_⟩
    have := chs_sub h' (Nat.le_of_lt hft) ht
    rwa [if_neg ne1, Nat.zero_add] at this
  have HKT : Hid (∀ x ∈ D.take f, x.1 = 1 ∨ x.1 = 2 ∨ x.1 = 3) := fun x hx => HK.out x (List.mem_of_mem_take hx)
  have HKS : Hid (∀ x ∈ Ln.sub D f t, x.1 = 1 ∨ x.1 = 2 ∨ x.1 = 3) := fun x hx => HK.out x (sub_mem hx)
  have HA1 : Hid (∀ w1, Below w.heap.size w w1 → Calls Tryd.prog 39 #[.slice (some ⟨b, 0, none⟩) f cap, .int .u8 1, .int .u8 2] w1 fun e w' => e = .returned (.int .i64 (Ln.cntO (D.take f) : Nat)) ∧ Below w1.heap.size w1 w') := by
    intro w1 hb
    have := counted_O _ _ _ w1 (HCH.out w1 hb).1 HKT
    rwa [hlt0] at this
  have HA2 : Hid (∀ w1, Below w.heap.size w w1 → Calls Tryd.prog 39 #[.slice (some ⟨b, f * 3, none⟩) (t - f) (cap - f), .int .u8 1, .int .u8 2] w1 fun e w' => e = .returned (.int .i64 (Ln.cntO (Ln.sub D f t) : Nat)) ∧ Below w1.heap.size w1 w') := by
    intro w1 hb
    have := counted_O _ _ _ w1 (HCH.out w1 hb).2 HKS
    rwa [hls] at this
  have HB1 : Hid (∀ w1, Below w.heap.size w w1 → Calls Tryd.prog 39 #[.slice (some ⟨b, 0, none⟩) f cap, .int .u8 1, .int .u8 3] w1 fun e w' => e = .returned (.int .i64 (Ln.cntN (D.take f) : Nat)) ∧ Below w1.heap.size w1 w') := by
    intro w1 hb
    have := counted_N _ _ _ w1 (HCH.out w1 hb).1 HKT
    rwa [hlt0] at this
  have HB2 : Hid (∀ w1, Below w.heap.size w w1 → Calls Tryd.prog 39 #[.slice (some ⟨b, f * 3, none⟩) (t - f) (cap - f), .int .u8 1, .int .u8 3] w1 fun e w' => e = .returned (.int .i64 (Ln.cntN (Ln.sub D f t) : Nat)) ∧ Below w1.heap.size w1 w') := by
    intro w1 hb
    have := counted_N _ _ _ w1 (HCH.out w1 hb).2 HKS
    rwa [hls] at this
  have HL : Hid ((Ln.sub D f t).length = t - f) := hls
  clear hls hlt0 h
  generalize Ln.cntO (D.take f) = p1 at *
  generalize Ln.cntN (D.take f) = p2 at *
  generalize Ln.cntO (Ln.sub D f t) = o2 at *
  generalize Ln.cntN (Ln.sub D f t) = n2 at *
  have y1 := Ln.place_len p1 o2
  have y2 := Ln.place_len p2 n2
  have HC1 : Hid (∀ w1, Calls Tryd.prog 38 #[.int .i64 (p1 : Int), .int .i64 (o2 : Int)] w1 fun e w' => e = .returned (.string (Ln.bs (Ln.placeP p1 o2))) ∧ Below w1.heap.size w1 w') := fun w1 => spot_any p1 o2 w1 (by omega) (by omega)
  have HC2 : Hid (∀ w1, Calls Tryd.prog 38 #[.int .i64 (p2 : Int), .int .i64 (n2 : Int)] w1 fun e w' => e = .returned (.string (Ln.bs (Ln.placeP p2 n2))) ∧ Below w1.heap.size w1 w') := fun w1 => spot_any p2 n2 w1 (by omega) (by omega)
  have v1 : (Ln.placeP p1 o2).length ≤ 100000 := by omega
  have v2 : (Ln.placeP p2 n2).length ≤ 100000 := by omega
  have x1 : (Ln.bs (Ln.placeP p1 o2)).size ≤ 100000 := by simp [Ln.bs, ByteArray.size]; omega
  have x2 : (Ln.bs (Ln.placeP p2 n2)).size ≤ 100000 := by simp [Ln.bs, ByteArray.size]; omega
  generalize hP1 : Ln.placeP p1 o2 = P1 at *
  generalize hP2 : Ln.placeP p2 n2 = P2 at *
  have HB0 : Hid (Below w.heap.size w w) := Below.refl _ _
  clear y1 y2 hP1 hP2
  obtain ⟨S1, hS1⟩ : ∃ S1, (⟨#[64, 64, 32, 45]⟩ : ByteArray) ++ Ln.bs P1 = S1 := ⟨_, rfl⟩
  have HS1 : Hid (S1.data.toList = [64, 64, 32, 45] ++ P1) := by show _ = _; rw [← hS1]; simp [Ln.bs]
  have hz1 : S1.size ≤ 100100 := by rw [← Ln.szL, HS1.out]; simp; omega
  obtain ⟨S2, hS2⟩ : ∃ S2, S1 ++ (⟨#[32, 43]⟩ : ByteArray) ++ Ln.bs P2 ++ ⟨#[32, 64, 64, 10]⟩ = S2 := ⟨_, rfl⟩
  have HS2 : Hid (S2.data.toList = [64, 64, 32, 45] ++ P1 ++ [32, 43] ++ P2 ++ [32, 64, 64, 10]) := by show _ = _; rw [← hS2]; simp [Ln.bs, HS1.out]
  have hz2 : S2.size ≤ 300000 := by rw [← Ln.szL, HS2.out]; simp; omega
  go_enter Tryd.func31, Tryd.ntmps31
  go_wp2_with fail
  refine wp_region_quiet_below (by kernel_rfl) (by kernel_rfl) ?_
  iterate 3 (go_big_quiet_step (fail))
  go_big_quiet_step ((go_at_call 39; exact Calls.regrown_of (HA1.out _ (below_regrown _ _ _))))
  iterate 4 (go_big_quiet_step (fail))
  go_big_quiet_step ((go_at_call 39; exact Calls.regrown_of (HA2.out _ (below_regrown _ _ _))))
  go_big_quiet_step ((go_at_call 38; exact Calls.regrown_of (HC1.out _)))
  iterate 2 (go_big_quiet_step (fail))
  refine wpQuiet_nil ?_
  intro _ hw'
  obtain ⟨⟨dq, osq⟩, hw''⟩ := hw'
  subst hw''
  have HW1 : Hid (Below w.heap.size w (Sort.grow (redrawn w dq) osq)) := below_regrown w dq osq
  change Exit.then _ _ _ _ (Sort.grow (redrawn w dq) osq)
  generalize Sort.grow (redrawn w dq) osq = w1 at *
  go_wp2_with fail
  refine wp_region_quiet_below (by kernel_rfl) (by kernel_rfl) ?_
  iterate 5 (go_big_quiet_step (fail))
  go_big_quiet_step ((go_at_call 39; exact Calls.regrown_of (HB1.out _ (HW1.out.trans ((below_regrown _ _ _).mono HW1.out.size)))))
  iterate 4 (go_big_quiet_step (fail))
  go_big_quiet_step ((go_at_call 39; exact Calls.regrown_of (HB2.out _ (HW1.out.trans ((below_regrown _ _ _).mono HW1.out.size)))))
  go_big_quiet_step ((go_at_call 38; exact Calls.regrown_of (HC2.out _)))
  iterate 3 (go_big_quiet_step (fail))
  refine wpQuiet_nil ?_
  intro _ hw'
  obtain ⟨⟨dr, osr⟩, hw''⟩ := hw'
  subst hw''
  have HW2 : Hid (Below w.heap.size w (Sort.grow (redrawn w1 dr) osr)) := HW1.out.trans ((below_regrown w1 dr osr).mono HW1.out.size)
  change Exit.then _ _ _ _ (Sort.grow (redrawn w1 dr) osr)
  generalize Sort.grow (redrawn w1 dr) osr = w2 at *
  clear hS1 hS2 HS1 HC1 HC2 HA1 HA2 HB1 HB2 HW1
  obtain ⟨SB, hSB⟩ : ∃ SB, Ln.sub D f t = SB := ⟨_, rfl⟩
  have HSB : Hid (Ln.sub D f t = SB) := hSB
  rw [hSB] at HPL HCH HKS HL
  clear hSB
  have hB2 := HW2.out
  go_wp2_with fail
  go_loopw [7, 40] (fun v i wr => ∃ (k : Nat) (S : ByteArray), k ≤ t - f ∧ i = .int .i64 k ∧ v = .string S ∧ S.size ≤ 5000000 ∧ Hid (S.data.toList = S2.data.toList ++ (SB.take k).flatMap Ln.chB) ∧ Below w.heap.size w wr) (fun _ i _ => (t - f) - (intOf i).toNat)
  case atStart => exact ⟨0, S2, Nat.zero_le _, rfl, rfl, by omega, by simp [Hid], hB2⟩
  case round =>
    obtain ⟨k, S, hk, rfl, rfl, hS, HS, hnx⟩ := hrel
    have hsz := hnx.size
    by_cases hlt : k < t - f
    · have hlt2 : k < SB.length := by rw [HL.out]; exact hlt
      have ch := (HCH.out wr hnx).2
      obtain ⟨bz, oz, hez, hbz, d1, d2, d3⟩ := ch.cells k hlt2
      obtain ⟨rfl, rfl⟩ : b = bz ∧ f * 3 = oz := by cases hez; exact ⟨rfl, rfl⟩
      have hkd := HKS.out _ (List.getElem_mem hlt2)
      have hxs := ch.size _ (List.getElem_mem hlt2)
      have HT : Hid (SB.take (k + 1) = SB.take k ++ [SB[k]'hlt2]) := List.take_succ_eq_append_getElem hlt2
      clear hez ch
      generalize SB[k]'hlt2 = x at *
      obtain ⟨kd, x1, x2⟩ := x
      simp only at d1 d2 d3 hkd hxs
      have cj : (k : Int) < ((t - f : Nat) : Int) := by omega
      have HE : Hid (∀ S' : ByteArray, S'.data.toList = S.data.toList ++ Ln.chB (kd, (x1, x2)) → Hid (S'.data.toList = S2.data.toList ++ (SB.take (k + 1)).flatMap Ln.chB) ∧ S'.size ≤ 5000000) := by
        intro S' e
        have e' : S'.data.toList = S2.data.toList ++ (SB.take (k + 1)).flatMap Ln.chB := by rw [e, HT.out, HS.out]; simp
        refine ⟨e', ?_⟩
        rw [← Ln.szL, e', List.length_append, Ln.szL]
        have := HPL.out (k + 1)
        omega
      clear HT
      rcases hkd with rfl | rfl | rfl <;> cases x2
      all_goals
        go_wp2_with fail
        go_roundw
        case rel =>
          refine ⟨k + 1, _, by omega, by go_num, rfl, (HE.out _ ?e1).2, (HE.out _ ?e1).1, hnx.alloc hsz _⟩
          case e1 => simp [Ln.chB, Ln.signP, Ln.noNl]
        case measure => simp [intOf]; omega
    · have cj : ¬ (k : Int) < ((t - f : Nat) : Int) := by omega
      have HF : Hid (Ln.bs (Ln.hunkB D f t) = S) := by
        show _ = _
        rw [HHB.out, HSB.out]
        have e := HS.out
        rw [List.take_of_length_le (by have := HL.out; omega), HS2.out] at e
        apply ByteArray.ext
        apply Array.toList_inj.1
        rw [e]
        simp [Ln.bs]
      go_wp2_with fail
      go_ret
      rw [HF.out]
      exact ⟨rfl, hnx⟩
end Go.Proofs.YtpoimhkfajppmaaDoor
