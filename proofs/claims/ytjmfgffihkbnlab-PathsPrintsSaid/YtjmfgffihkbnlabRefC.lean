/- What the reference's Relative answers: the same as paths.Relative. -/
import Derived.Test.YtjmfgffihkbnlabRefB
namespace Go.Proofs.Ytjmfgffihkbnlab
open Go.RowKit

set_option maxHeartbeats 4000000 in
theorem rrel_any (a1 a2 : Option Addr) (c1 c2 : Nat) (l p : List ByteArray) (w : World) (h1 : Strs w a1 c1 l) (h2 : Strs w a2 c2 p) :
    Calls Try.prog 16 #[.slice a1 l.length c1, .slice a2 p.length c2] w fun e w' => e = .returned (.tuple #[.string (Pl.relP l p).1, .int .i64 (Pl.relP l p).2]) ∧ Below w.heap.size w w' := by
  have ll := h1.len
  have lp := h2.len
  cases r1 : Pl.rightP l
  · rw [Pl.rel_wrong (.inl r1)]
    go_enter Try.func16, Try.ntmps16
    go_wp2_with fail
    refine (rright_any _ _ l _ h1).mono ?_
    rintro e w' ⟨rfl, rfl⟩
    go_wp2_with fail
    refine (rright_any _ _ p _ h2).mono ?_
    rintro e w' ⟨rfl, rfl⟩
    go_wp2_with fail
    go_ret2
    exact ⟨rfl, Below.refl _ _⟩
  cases r2 : Pl.rightP p
  · rw [Pl.rel_wrong (.inr r2)]
    go_enter Try.func16, Try.ntmps16
    go_wp2_with fail
    refine (rright_any _ _ l _ h1).mono ?_
    rintro e w' ⟨rfl, rfl⟩
    go_wp2_with fail
    refine (rright_any _ _ p _ h2).mono ?_
    rintro e w' ⟨rfl, rfl⟩
    go_wp2_with fail
    go_ret2
    exact ⟨rfl, Below.refl _ _⟩
  have hco := Pl.com_le l p
  have l1 := Pl.right_len r1
  have l2 := Pl.right_len r2
  have su := Pl.right_sum r2
  have HS0 := @Pl.rel_same l p r1 r2
  have HF0 := @Pl.rel_far l p r1 r2
  have HO0 := @Pl.rel_ok l p r1 r2
  have HNE0 := @Pl.steps_ne l p
  have HSH := fun wx => both_any a1 a2 c1 c2 l p wx
  simp only [Pl.stepsP] at HF0 HO0 HNE0
  obtain ⟨R, hR⟩ : ∃ R, Pl.relP l p = R := ⟨_, rfl⟩
  obtain ⟨k, hk⟩ : ∃ k, Pl.com l p = k := ⟨_, rfl⟩
  rw [hR] at HS0 HF0 HO0 ⊢
  rw [hk] at hco HS0 HF0 HO0 HNE0 HSH
  have HSH' : Hid (∀ wx, Strs wx a1 c1 l → Strs wx a2 c2 p → Calls Try.prog 27 #[.slice a1 l.length c1, .slice a2 p.length c2] wx fun e w' => e = .returned (.int .i64 (k : Nat)) ∧ ∃ n, w' = wx.drewN n) := HSH
  have HS : Hid (k = l.length ∧ k = p.length → R = (Pl.bs [46], 0)) := HS0
  have HF : Hid (¬ (k = l.length ∧ k = p.length) → 1024 < (Pl.flat (Pl.ups (l.length - k) ++ p.drop k)).length - 1 → R = (Pl.bs [], 4)) := HF0
  have HO : Hid (¬ (k = l.length ∧ k = p.length) → ¬ 1024 < (Pl.flat (Pl.ups (l.length - k) ++ p.drop k)).length - 1 → R = (Pl.bs (Pl.flat (Pl.ups (l.length - k) ++ p.drop k)).dropLast, 0)) := HO0
  have HNE : Hid (¬ (k = l.length ∧ k = p.length) → Pl.ups (l.length - k) ++ p.drop k ≠ []) := HNE0
  obtain ⟨hk2, hk1⟩ := hco
  clear hR hk HSH HS0 HF0 HO0 HNE0
  go_enter Try.func16, Try.ntmps16
  go_wp2_with fail
  refine (rright_any _ _ l _ h1).mono ?_
  rintro e w' ⟨rfl, rfl⟩
  go_wp2_with fail
  refine (rright_any _ _ p _ h2).mono ?_
  rintro e w' ⟨rfl, rfl⟩
  go_wp2_with fail
  refine (HSH'.out _ h1 h2).mono ?_
  rintro e w' ⟨rfl, n, rfl⟩
  clear HSH'
  go_wp2_with fail
  go_loop [9, 10] (fun v i => ∃ (j : Nat) (u : ByteArray), j ≤ l.length - k ∧ i = .int .i64 (k + j : Nat) ∧ v = .string u ∧ u.size ≤ 3 * j ∧ Hid (u = Pl.bs (Pl.flat (Pl.ups j)))) (fun _ i => l.length - (intOf i).toNat)
  case atStart => exact ⟨0, ⟨#[]⟩, Nat.zero_le _, rfl, rfl, Nat.le_refl _, rfl⟩
  case round =>
    obtain ⟨j, u, hj, rfl, rfl, hu, HU⟩ := hrel
    by_cases hlt : k + j < l.length
    · have HT : Hid (u ++ ⟨#[46, 46, 47]⟩ = Pl.bs (Pl.flat (Pl.ups (j + 1)))) := by
        show _ = _
        rw [Pl.flat_ups_snoc]
        exact app2 u _ [46, 46, 47] HU.out
      have a1 : u.size + (⟨#[46, 46, 47]⟩ : ByteArray).size ≤ 9223372036854775807 := by show u.size + 3 ≤ _; omega
      have HZ : Hid ((u ++ ⟨#[46, 46, 47]⟩ : ByteArray).size ≤ 3 * (j + 1)) := by show _ ≤ _; rw [ByteArray.size_append]; show u.size + 3 ≤ _; omega
      go_wp2
      go_round
      case rel => exact ⟨j + 1, _, by omega, by go_num, rfl, HZ.out, HT⟩
      case measure => simp [intOf]; omega
    have hjj : j = l.length - k := by omega
    rw [hjj] at HU
    go_wp2_with fail
    go_loop [9, 11] (fun v i => ∃ (i2 : Nat) (u2 : ByteArray), i2 ≤ p.length - k ∧ i = .int .i64 (k + i2 : Nat) ∧ v = .string u2 ∧ u2.size ≤ 4096 ∧ Hid (u2 = Pl.bs (Pl.flat (Pl.ups (l.length - k) ++ (p.drop k).take i2)))) (fun _ i => p.length - (intOf i).toNat)
    case atStart => exact ⟨0, u, Nat.zero_le _, rfl, rfl, by omega, by rw [List.take_zero, List.append_nil]; exact HU⟩
    case round =>
      clear hu HU hlt hj hjj
      obtain ⟨j2, u, hj, rfl, rfl, hu, HU⟩ := hrel
      by_cases hlt : k + j2 < p.length
      · obtain ⟨b, off, rfl, hb0, hc⟩ := h2.cells (k + j2) hlt
        have HT : Hid (u ++ (p[k + j2]'hlt) ++ ⟨#[47]⟩ = Pl.bs (Pl.flat (Pl.ups (l.length - k) ++ (p.drop k).take (j2 + 1)))) := by
          show _ = _
          rw [List.take_succ_eq_append_getElem (by simp; omega), ← List.append_assoc, Pl.flat_snoc]
          simp only [List.getElem_drop]
          exact app3' u _ _ [47] HU.out
        have hz : (u ++ (p[k + j2]'hlt) ++ ⟨#[47]⟩ : ByteArray).size ≤ 4096 := by
          rw [HT.out, Pl.bs_size, Pl.flat_length, Pl.sumP_append, Pl.ups_sum]
          have h3 := Pl.sumP_append (p.take k) (p.drop k)
          rw [List.take_append_drop] at h3
          have h5 := Pl.sumP_take_le (p.drop k) (j2 + 1)
          omega
        have hz2 : u.size + (p[k + j2]'hlt).size + 1 ≤ 4096 := by
          rw [ByteArray.size_append, ByteArray.size_append] at hz
          exact hz
        generalize p[k + j2]'hlt = x at *
        have a1 : u.size + x.size ≤ 9223372036854775807 := by omega
        have a2 : (u ++ x : ByteArray).size + (⟨#[47]⟩ : ByteArray).size ≤ 9223372036854775807 := by rw [ByteArray.size_append]; show u.size + x.size + 1 ≤ _; omega
        have HZ : Hid ((u ++ x ++ ⟨#[47]⟩ : ByteArray).size ≤ 4096) := hz
        clear hz
        go_wp2
        go_round
        case rel => exact ⟨j2 + 1, _, by omega, by go_num, rfl, HZ.out, HT⟩
        case measure => simp [intOf]; omega
      have hd : (p.drop k).take j2 = p.drop k := List.take_of_length_le (by simp; omega)
      rw [hd] at HU
      clear hd
      obtain ⟨T, hT⟩ : ∃ T, T = Pl.flat (Pl.ups (l.length - k) ++ p.drop k) := ⟨_, rfl⟩
      have HT : Hid (T = Pl.flat (Pl.ups (l.length - k) ++ p.drop k)) := hT
      rw [← hT] at HU
      clear hT
      by_cases hs : k = l.length ∧ k = p.length
      · have hR := HS.out hs
        subst hR
        have he : T = [] := by
          have h1 : Pl.ups (l.length - k) ++ p.drop k = [] := by rw [List.drop_eq_nil_of_le (by omega), show l.length - k = 0 from by omega]; rfl
          rw [HT.out, h1]; rfl
        have hue : u.toList = [] := by rw [HU.out, Pl.bs_toList]; exact he
        clear he
        go_wp2
        go_ret2
        exact ⟨rfl, below_drewN (Below.refl _ _) n⟩
      · have hpos : 0 < T.length := by rw [HT.out]; exact Pl.flat_pos (HNE.out hs)
        have hsz : u.size = T.length := by rw [HU.out, Pl.bs_size]
        obtain ⟨m, hm⟩ : ∃ m, u.size = m + 1 := ⟨u.size - 1, by omega⟩
        have hue : u.toList.isEmpty = false := by
          rw [HU.out, Pl.bs_toList]
          cases hT : T with
          | nil => rw [hT] at hpos; simp at hpos
          | cons a b => rfl
        have hex : u.extract 0 m = Pl.bs T.dropLast := by
          apply Pl.data_inj
          rw [Lib.extract_data, HU.out, Pl.data_bs, Pl.data_bs, List.drop_zero, List.dropLast_eq_take]
          congr 1
          omega
        have HEX : Hid (u.extract 0 m = Pl.bs T.dropLast) := hex
        have hmb : m ≤ 4096 := by omega
        by_cases hbig : 1024 < m
        · have hR := HF.out hs (by rw [← HT.out]; omega)
          subst hR
          have hbi : (1024 : Int) < (m : Int) := by omega
          clear hex hsz hpos
          go_wp2_with fail
          go_ret2
          exact ⟨rfl, below_drewN (Below.refl _ _) n⟩
        · have hR := HO.out hs (by rw [← HT.out]; omega)
          subst hR
          have hbi : ¬ (1024 : Int) < (m : Int) := by omega
          clear hex hsz hpos
          go_wp2_with fail
          go_ret2
          refine ⟨?_, below_drewN (Below.refl _ _) n⟩
          show Ending.returned (.tuple #[.string (u.extract 0 m), .int .i64 0]) = Ending.returned (.tuple #[.string (Pl.bs (Pl.flat (Pl.ups (l.length - k) ++ p.drop k)).dropLast), .int .i64 0])
          rw [HEX.out, HT.out]
end Go.Proofs.Ytjmfgffihkbnlab
