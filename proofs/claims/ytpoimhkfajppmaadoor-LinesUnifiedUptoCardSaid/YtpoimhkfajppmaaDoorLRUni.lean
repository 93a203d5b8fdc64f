/- What the reference's Unified answers. -/
import Derived.Test.YtpoimhkfajppmaaDoorLUni
import Derived.Test.YtpoimhkfajppmaaDoorLRHunk
import Derived.Test.YtpoimhkfajppmaaDoorLRQuote
import Derived.Test.YtpoimhkfajppmaaDoorLRDiff
import Derived.Test.YtpoimhkfajppmaaDoorLPlainX
namespace Go.Proofs.YtpoimhkfajppmaaDoor
open Go.RowKit

theorem rhunk_at (b cap : Nat) (D : List Ln.Chg) (f t : Nat) (fi ti : Int) (G : ByteArray) (w : World) (hf : fi = (f : Int)) (ht0 : ti = (t : Int)) (hG : Ln.bs (Ln.hunkB D f t) = G) (h : Chs w (some ⟨b, 0, none⟩) cap D) (HK : Hid (∀ x ∈ D, x.1 = 1 ∨ x.1 = 2 ∨ x.1 = 3)) (hft : f < t) (ht : t ≤ D.length) (hDl : D.length ≤ 8192) (HDt : Hid (Ln.tot (D.map (·.2)) ≤ 4194304)) :
    Calls Tryd.prog 31 #[.slice (some ⟨b, 0, none⟩) D.length cap, .int .i64 fi, .int .i64 ti] w fun e w' => e = .returned (.string G) ∧ Below w.heap.size w w' := by
  subst hf ht0 hG
  exact rhunk_any b cap D f t w h HK hft ht hDl HDt
theorem uni_step {S G HDR : ByteArray} {D : List Ln.Chg} {H : List (Nat × Nat)} {A i last : Nat} (HS : S.data.toList = HDR.data.toList ++ (H.map (Ln.clampP A D.length)).flatMap fun h => Ln.hunkB D h.1 h.2) (hG : Ln.bs (Ln.hunkB D (i - A) (min (last + 1 + A) D.length)) = G) :
    (S ++ G).data.toList = HDR.data.toList ++ ((H ++ [(i, last + 1)]).map (Ln.clampP A D.length)).flatMap fun h => Ln.hunkB D h.1 h.2 := by
  rw [← hG]
  simp [HS, Ln.bs, Ln.clampP]
theorem uni_size {S G : ByteArray} {D : List Ln.Chg} {f t i last : Nat} (hS : S.size ≤ 10000000 + i * 5000000) (hG : Ln.bs (Ln.hunkB D f t) = G) (hDl : D.length ≤ 8192) (ht : Ln.tot (D.map (·.2)) ≤ 4194304) (hi : i ≤ last) : G.size ≤ 5000000 ∧ (S ++ G).size ≤ 10000000 + (last + 1) * 5000000 := by
  have h := Ln.hunk_len D f t hDl ht
  have e : G.size ≤ 5000000 := by rw [← hG]; simpa [Ln.bs, ByteArray.size] using h
  refine ⟨e, ?_⟩
  rw [ByteArray.size_append]
  have h2 := Nat.mul_le_mul_right 5000000 hi
  rw [Nat.succ_mul]
  exact Nat.le_trans (Nat.add_le_add (Nat.le_trans hS (Nat.add_le_add_left h2 _)) e) (by rw [Nat.add_assoc]; exact Nat.le_refl _)
theorem uni_most {S : ByteArray} {k : Nat} (h : S.size ≤ 10000000 + k * 5000000) (hk : k ≤ 8192) : S.size ≤ 60000000000 :=
  Nat.le_trans h (Nat.le_trans (Nat.add_le_add_left (Nat.mul_le_mul_right 5000000 hk) _) (by decide))
theorem uni_next {S : ByteArray} {i : Nat} (h : S.size ≤ 10000000 + i * 5000000) : S.size ≤ 10000000 + (i + 1) * 5000000 :=
  Nat.le_trans h (Nat.add_le_add_left (Nat.mul_le_mul_right 5000000 (Nat.le_succ i)) _)

set_option maxRecDepth 100000 in
set_option maxHeartbeats 2000000 in
theorem runi_any (nm s t : ByteArray) (ar : Int) (w : World) (hnm : nm.size ≤ 1048576) (hs : s.size ≤ 1048576) (ht : t.size ≤ 1048576) :
    Calls Tryd.prog 13 #[.string nm, .string s, .string t, .int .i64 ar] w fun e w' => e = .returned (.tuple #[.string (Ln.bs (Ln.uniR nm s t ar).1), .int .i64 ((Ln.uniR nm s t ar).2 : Nat)]) ∧ Below w.heap.size w w' := by
  by_cases h0 : ar < 0 ∨ 4096 < ar
  · have HR : Hid (Ln.uniR nm s t ar = ([], 2)) := by show _ = _; unfold Ln.uniR; rw [if_pos h0]
    rcases h0 with h0 | h0
    · go_enter Tryd.func13, Tryd.ntmps13
      go_wp2_with fail
      go_ret2
      rw [HR.out]
      exact ⟨rfl, Below.refl _ _⟩
    · have h1 : ¬ ar < 0 := by omega
      go_enter Tryd.func13, Tryd.ntmps13
      go_wp2_with fail
      go_ret2
      rw [HR.out]
      exact ⟨rfl, Below.refl _ _⟩
  obtain ⟨A, rfl⟩ : ∃ A : Nat, ar = (A : Int) := ⟨ar.toNat, by omega⟩
  have hA : A ≤ 4096 := by omega
  have hA1 : ¬ (A : Int) < 0 := by omega
  have hA2 : ¬ 4096 < (A : Int) := by omega
  obtain ⟨D, dc, hD⟩ : ∃ D dc, Ln.diffR (Ln.splB s) (Ln.splB t) = (D, dc) := ⟨_, _, rfl⟩
  have HD : Hid (Ln.diffR (Ln.splB s) (Ln.splB t) = (D, dc)) := hD
  have hdc : dc = 0 ∨ dc = 3 := by
    unfold Ln.diffR at hD
    split at hD <;> cases hD <;> simp
  have HU : Hid (Ln.uniR nm s t (A : Int) = if dc ≠ 0 then ([], dc) else if (s.toList == t.toList) = true then ([], 0) else (Ln.uniB (Ln.quoP nm).data.toList D A, 0)) := by
    show _ = _
    unfold Ln.uniR
    rw [if_neg h0, hD]
    rfl
  clear hD h0
  go_enter Tryd.func13, Tryd.ntmps13
  go_wp2_with fail
  refine (rdiff_any s t _ (by omega) (by omega)).mono ?_
  rw [HD.out]
  rintro e w1 ⟨v1, rfl, od, hb⟩
  have hB1 : Below w.heap.size w w1 := hb
  clear hb
  rcases hdc with rfl | rfl
  · cases hq : (s.toList == t.toList)
    · have HU2 : Hid (Ln.uniR nm s t (A : Int) = (Ln.uniB (Ln.quoP nm).data.toList D A, 0)) := by show _ = _; rw [HU.out, if_neg (by simp), hq]; rfl
      clear HU
      obtain ⟨-, hDl, HDk, HDs, HDt, HDn⟩ := Ln.told_of HD.out hs ht
      have HK : Hid (∀ x ∈ D, x.1 = 1 ∨ x.1 = 2 ∨ x.1 = 3) := Ln.told_kind HD.out
      have hDp : 0 < D.length := by
        rcases Nat.eq_zero_or_pos D.length with e | e
        · have := HDn (List.eq_nil_of_length_eq_zero e)
          subst this
          simp at hq
        · exact e
      have HDk : Hid (∀ x ∈ D, x.1 < 256) := HDk
      have HDs : Hid (∀ x ∈ D, x.2.1.size ≤ 67108864) := HDs
      have HDt : Hid (Ln.tot (D.map (·.2)) ≤ 4194304) := HDt
      have hqz := Ln.quoP_size nm
      clear HDn
      simp only at od
      obtain ⟨gd', cd, hvd, hgd1, hgd2⟩ := od.form (by omega)
      subst hvd
      go_wp2_with fail
      refine (rquote_any nm _ (by omega)).mono ?_
      rintro e w2 ⟨rfl, hb⟩
      replace od := own_below od hb
      have hB2 := hB1.trans (hb.mono hB1.size)
      clear hb
      go_wp2_with fail
      refine (rquote_any nm _ (by omega)).mono ?_
      rintro e w3 ⟨rfl, hb⟩
      replace od := own_below od hb
      have hB3 := hB2.trans (hb.mono hB2.size)
      clear hb hB1 hB2
      obtain ⟨HDR, hHDR⟩ : ∃ HDR, (⟨#[45, 45, 45, 32]⟩ : ByteArray) ++ Ln.quoP nm ++ ⟨#[10, 43, 43, 43, 32]⟩ ++ Ln.quoP nm ++ ⟨#[10]⟩ = HDR := ⟨_, rfl⟩
      have HH : Hid (HDR.data.toList = [45, 45, 45, 32] ++ (Ln.quoP nm).data.toList ++ [10, 43, 43, 43, 32] ++ (Ln.quoP nm).data.toList ++ [10]) := by show _ = _; rw [← hHDR]; simp
      have hHz : HDR.size ≤ 10000000 := by rw [← Ln.szL, HH.out]; simp only [List.length_append, Ln.szL, List.length_cons, List.length_nil]; omega
      obtain ⟨ad4, cd4, hvd4, chs⟩ := own_chs od (by omega) HDs.out HDk.out
      obtain ⟨rfl, rfl⟩ : some (⟨gd', 0, none⟩ : Addr) = ad4 ∧ cd = cd4 := by cases hvd4; exact ⟨rfl, rfl⟩
      have hcr := chs.room
      have hcm := chs.most
      unfold maxLen at hcm
      have HCH : Hid (Chs w3 (some ⟨gd', 0, none⟩) cd D) := chs
      have s3 := hB3.size
      have HHZ : Hid (HDR.size ≤ 10000000 + 0 * 5000000) := by show _ ≤ _; rw [Nat.zero_mul]; exact hHz
      clear hvd4 chs od HD HDk HDs
      go_wp2_with fail
      go_loopw [12, 13] (fun v i wr => ∃ (k : Nat) (H : List (Nat × Nat)) (S : ByteArray), k ≤ D.length ∧ i = .int .i64 k ∧ v = .string S ∧ Hid (S.size ≤ 10000000 + k * 5000000) ∧ Hid (Ln.UInv A D k H) ∧ Hid (S.data.toList = HDR.data.toList ++ (H.map (Ln.clampP A D.length)).flatMap fun h => Ln.hunkB D h.1 h.2) ∧ Below w3.heap.size w3 wr) (fun _ i _ => D.length - (intOf i).toNat)
      case atStart => exact ⟨0, [], HDR, Nat.zero_le _, rfl, rfl, HHZ, Ln.u_start _ _, by simp [Hid], Below.refl _ _⟩
      case round =>
        obtain ⟨i, H, S, hi, rfl, rfl, hS, HI, HS, hnx⟩ := hrel
        have hsz := hnx.size
        have hSm := uni_most hS.out (by omega)
        clear hHDR
        by_cases hlt : i < D.length
        · have ch := HCH.out.below hnx
          obtain ⟨bz, oz, hez, hbz, d1, -, -⟩ := ch.cells i hlt
          obtain ⟨rfl, rfl⟩ : gd' = bz ∧ 0 = oz := by cases hez; exact ⟨rfl, rfl⟩
          have hkd := HK.out _ (List.getElem_mem hlt)
          have HK1 : Hid ((D[i]'hlt).1 = 1 → Ln.IsKeep D i) := Ln.isKeep_of hlt
          have HK2 : Hid ((D[i]'hlt).1 ≠ 1 → ¬ Ln.IsKeep D i) := Ln.noKeep_of hlt
          clear hez ch
          rw [Nat.zero_add] at d1
          generalize D[i]'hlt = x at *
          obtain ⟨kd, x1, x2⟩ := x
          simp only at d1 hkd HK1 HK2
          have ci : (i : Int) < (D.length : Int) := by omega
          by_cases hk1 : kd = 1
          · subst hk1
            have HN : Hid (Ln.UInv A D (i + 1) H) := Ln.u_skip HI.out (HK1.out rfl)
            have hS' : Hid (S.size ≤ 10000000 + (i + 1) * 5000000) := uni_next hS.out
            go_wp2_with fail
            go_roundw
            case rel => exact ⟨i + 1, H, S, by omega, by go_num, rfl, hS', HN, HS, hnx⟩
            case measure => simp [intOf]; omega
          · have HV : Hid (Ln.VInv A D i H i i) := Ln.v_start HI.out hlt (HK2.out hk1)
            have hkk : ((kd : Int) == 1) = false := by simp; omega
            obtain ⟨wo, hwo⟩ : ∃ wo, wo = wr := ⟨_, rfl⟩
            subst hwo
            go_wp2_with fail
            go_loopw [14, 15] (fun lv kv wx => ∃ (last k : Nat), last ≤ k ∧ i ≤ last ∧ last < D.length ∧ k ≤ D.length ∧ kv = .int .i64 k ∧ lv = .int .i64 last ∧ Hid (Ln.VInv A D i H k last) ∧ wx = wo) (fun _ kv _ => D.length - (intOf kv).toNat)
            case atStart => exact ⟨i, i, Nat.le_refl _, Nat.le_refl _, hlt, by omega, rfl, rfl, HV, rfl⟩
            case round =>
              obtain ⟨last, k, hlk, hil, hll, hkl, rfl, rfl, HV1, rfl⟩ := hrel
              clear HV HK1 HK2 d1 hkk
              obtain ⟨G, hG⟩ : ∃ G, Ln.bs (Ln.hunkB D (i - A) (min (last + 1 + A) D.length)) = G := ⟨_, rfl⟩
              have HG : Hid (Ln.bs (Ln.hunkB D (i - A) (min (last + 1 + A) D.length)) = G) := hG
              have HST := uni_step HS.out hG
              have hGz := (uni_size hS.out hG hDl HDt.out hil).1
              have hSz := (uni_size hS.out hG hDl HDt.out hil).2
              have HST : Hid ((S ++ G).data.toList = HDR.data.toList ++ ((H ++ [(i, last + 1)]).map (Ln.clampP A D.length)).flatMap fun h => Ln.hunkB D h.1 h.2) := HST
              have HSZ : Hid ((S ++ G).size ≤ 10000000 + (last + 1) * 5000000) := hSz
              have r0 : last + 1 ≤ D.length := by omega
              clear hG hSz
              by_cases hc1 : k < D.length
              · by_cases hc2 : k - last ≤ 2 * A + 1
                · have ch := HCH.out.below hnx
                  obtain ⟨bz, oz, hez, hbz, d1, -, -⟩ := ch.cells k hc1
                  obtain ⟨rfl, rfl⟩ : gd' = bz ∧ 0 = oz := by cases hez; exact ⟨rfl, rfl⟩
                  have HK1 : Hid ((D[k]'hc1).1 = 1 → Ln.IsKeep D k) := Ln.isKeep_of hc1
                  have HK2 : Hid ((D[k]'hc1).1 ≠ 1 → ¬ Ln.IsKeep D k) := Ln.noKeep_of hc1
                  have hkd2 := HK.out _ (List.getElem_mem hc1)
                  clear hez ch
                  rw [Nat.zero_add] at d1
                  generalize D[k]'hc1 = y at *
                  obtain ⟨kd2, y1, y2⟩ := y
                  simp only at d1 hkd2 HK1 HK2
                  have ck : (k : Int) < (D.length : Int) := by omega
                  have ck2 : (k : Int) - (last : Int) ≤ 2 * (A : Int) + 1 := by omega
                  by_cases hk2 : kd2 = 1
                  · subst hk2
                    have HN : Hid (Ln.VInv A D i H (k + 1) last) := Ln.v_keep HV1.out (HK1.out rfl)
                    have r1 : last ≤ k + 1 := by omega
                    have r2 : k + 1 ≤ D.length := by omega
                    go_wp2_with fail
                    go_roundw
                    case rel => exact ⟨last, k + 1, r1, hil, hll, r2, by go_num, rfl, HN, by first | rfl | trivial⟩
                    case measure => simp [intOf]; omega
                  · have HN : Hid (Ln.VInv A D i H (k + 1) k) := Ln.v_turn HV1.out (HK2.out hk2) hlk (by omega)
                    have r1 : k ≤ k + 1 := by omega
                    have r2 : k + 1 ≤ D.length := by omega
                    have r3 : i ≤ k := by omega
                    have hkk : ((kd2 : Int) != 1) = true := by simp; omega
                    go_wp2_with fail
                    go_roundw
                    case rel => exact ⟨k, k + 1, r1, r3, hc1, r2, by go_num, rfl, HN, by first | rfl | trivial⟩
                    case measure => simp [intOf]; omega
                · have ck : (k : Int) < (D.length : Int) := by omega
                  have ck2 : ¬ (k : Int) - (last : Int) ≤ 2 * (A : Int) + 1 := by omega
                  have HN : Hid (Ln.UInv A D (last + 1) (H ++ [(i, last + 1)])) := Ln.u_of_v HV1.out (.inr (by omega))
                  go_wp2_with fail
                  refine (rhunk_at gd' cd D (i - A) (min (last + 1 + A) D.length) _ _ G _ ?n1 ?n2 HG.out (HCH.out.below hnx) HK (by omega) (by omega) hDl HDt).mono ?_
                  case n1 => omega
                  case n2 => omega
                  rintro e w5 ⟨rfl, hb⟩
                  have hnx5 := hnx.trans (hb.mono hsz)
                  go_wp2_with fail
                  go_roundw
                  case rel => exact ⟨last + 1, H ++ [(i, last + 1)], S ++ G, r0, by go_num, rfl, HSZ, HN, HST, hnx5⟩
                  case measure => simp [intOf]; omega
              · have ck : ¬ (k : Int) < (D.length : Int) := by omega
                have HN : Hid (Ln.UInv A D (last + 1) (H ++ [(i, last + 1)])) := Ln.u_of_v HV1.out (.inl (by omega))
                go_wp2_with fail
                refine (rhunk_at gd' cd D (i - A) (min (last + 1 + A) D.length) _ _ G _ ?m1 ?m2 HG.out (HCH.out.below hnx) HK (by omega) (by omega) hDl HDt).mono ?_
                case m1 => omega
                case m2 => omega
                rintro e w5 ⟨rfl, hb⟩
                have hnx5 := hnx.trans (hb.mono hsz)
                go_wp2_with fail
                go_roundw
                case rel => exact ⟨last + 1, H ++ [(i, last + 1)], S ++ G, r0, by go_num, rfl, HSZ, HN, HST, hnx5⟩
                case measure => simp [intOf]; omega
        · have ci : ¬ (i : Int) < (D.length : Int) := by omega
          obtain rfl : i = D.length := by omega
          have HF : Hid (Ln.bs (Ln.uniB (Ln.quoP nm).data.toList D A) = S) := by
            show _ = _
            unfold Ln.uniB Ln.hunksP
            have e := HS.out
            rw [HH.out, ← HI.out.1] at e
            apply ByteArray.ext
            apply Array.toList_inj.1
            rw [e]
            simp [Ln.bs]
          go_wp2_with fail
          go_ret2
          rw [HU2.out]
          simp only
          rw [HF.out]
          exact ⟨rfl, hB3.trans (hnx.mono s3)⟩
    · have HU2 : Hid (Ln.uniR nm s t (A : Int) = ([], 0)) := by show _ = _; rw [HU.out, if_neg (by simp), hq]; rfl
      clear HU
      go_wp2_with fail
      go_ret2
      rw [HU2.out]
      exact ⟨rfl, hB1⟩
  · have HU2 : Hid (Ln.uniR nm s t (A : Int) = ([], 3)) := by show _ = _; rw [HU.out, if_pos (by simp)]
    clear HU
    go_wp2_with fail
    go_ret2
    rw [HU2.out]
    exact ⟨rfl, hB1⟩
end Go.Proofs.YtpoimhkfajppmaaDoor
