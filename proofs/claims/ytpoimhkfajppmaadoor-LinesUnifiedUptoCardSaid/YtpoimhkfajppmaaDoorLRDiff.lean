/- What the reference's Diff and Changes answer. -/
import Derived.Test.YtpoimhkfajppmaaDoorLMost
namespace Go.Proofs.YtpoimhkfajppmaaDoor
open Go.RowKit

set_option maxRecDepth 100000 in
set_option maxHeartbeats 8000000 in
theorem rdiff_any (s t : ByteArray) (w : World) (hs : s.size ≤ 16777216) (ht : t.size ≤ 16777216) :
    Calls Tryd.prog 7 #[.string s, .string t] w fun e w' => ∃ v, e = .returned (.tuple #[v, .int .i64 ((Ln.diffR (Ln.splB s) (Ln.splB t)).2 : Nat)]) ∧ w'.ownsRow w.heap.size 40 3 v (Ln.diffR (Ln.splB s) (Ln.splB t)).1.length (ccells (Ln.diffR (Ln.splB s) (Ln.splB t)).1) ∧ Below w.heap.size w w' := by
  have hB : Below w.heap.size w w := Below.refl _ _
  have hn1 := Ln.splB_len s
  have hn2 := Ln.splB_len t
  have HM1 : Hid (∀ x ∈ Ln.splB s, x.1.size ≤ 67108864) := fun x hx => Nat.le_trans (Ln.splB_mem s x hx) (by omega)
  have HM2 : Hid (∀ x ∈ Ln.splB t, x.1.size ≤ 67108864) := fun x hx => Nat.le_trans (Ln.splB_mem t x hx) (by omega)
  obtain ⟨S, hS⟩ : ∃ S, Ln.splB s = S := ⟨_, rfl⟩
  obtain ⟨T, hT⟩ : ∃ T, Ln.splB t = T := ⟨_, rfl⟩
  rw [hS] at hn1 HM1 ⊢
  rw [hT] at hn2 HM2 ⊢
  have HS : Hid (Ln.splB s = S) := hS
  have HT : Hid (Ln.splB t = T) := hT
  clear hS hT
  have HD1 : Hid (4096 < S.length ∨ 4096 < T.length → Ln.diffR S T = ([], 3)) := fun h => by unfold Ln.diffR; rw [if_pos h]
  have HD2 : Hid (¬ (4096 < S.length ∨ 4096 < T.length) → Ln.diffR S T = (Ln.diffP S T, 0)) := fun h => by unfold Ln.diffR; rw [if_neg h]
  go_enter Tryd.func7, Tryd.ntmps7
  go_wp2_with fail
  refine (rsplit_any s _ (by omega)).mono ?_
  rw [HS.out]
  rintro e w1 ⟨v1, rfl, hown, hb⟩
  obtain ⟨a1, c1, rfl, s1⟩ := own_lns hown (by omega) HM1.out
  replace hB := hB.trans (hb.mono hB.size); clear hb hown
  go_wp2_with fail
  refine (rsplit_any t _ (by omega)).mono ?_
  rw [HT.out]
  rintro e w2 ⟨v2, rfl, hown, hb⟩
  obtain ⟨a2, c2, rfl, s2⟩ := own_lns hown (by omega) HM2.out
  replace s1 := s1.below hb; replace hB := hB.trans (hb.mono hB.size); clear hb hown
  by_cases hm1 : 4096 < S.length
  · have HD : Hid (Ln.diffR S T = ([], 3)) := HD1.out (.inl hm1)
    have h1i : (4096 : Int) < (S.length : Int) := by omega
    go_wp2_with fail
    go_ret2
    rw [HD.out]
    exact ⟨_, rfl, World.ownsRow_nil _ _ _ _, hB⟩
  by_cases hm2 : 4096 < T.length
  · have HD : Hid (Ln.diffR S T = ([], 3)) := HD1.out (.inr hm2)
    have h1i : ¬ (4096 : Int) < (S.length : Int) := by omega
    have h2i : (4096 : Int) < (T.length : Int) := by omega
    go_wp2_with fail
    go_ret2
    rw [HD.out]
    exact ⟨_, rfl, World.ownsRow_nil _ _ _ _, hB⟩
  have HD : Hid (Ln.diffR S T = (Ln.diffP S T, 0)) := HD2.out (by omega)
  have h1i : ¬ (4096 : Int) < (S.length : Int) := by omega
  have h2i : ¬ (4096 : Int) < (T.length : Int) := by omega
  clear HD1 HD2
  go_wp2_with fail
  refine (most_any _ _ _ _ S T _ s1 s2 (by omega) (by omega)).mono ?_
  rintro e w4 ⟨G, R, rfl, HMO, hb⟩
  replace s1 := s1.below hb; replace s2 := s2.below hb; replace hB := hB.trans (hb.mono hB.size); clear hb
  have hs4 := hB.size
  have HM : Hid (MostAt w4 G R S T) := HMO
  clear HMO
  go_wp2_with fail
  go_loopw [9, 10, 11] (fun v ii jj wr => ∃ (i j : Nat) (J : List (Nat × (ByteArray × Bool))), i ≤ S.length ∧ j ≤ T.length ∧ ii = .int .i64 i ∧ jj = .int .i64 j ∧ J.length ≤ i + j ∧ Hid (Ln.DiffInv S T i j J) ∧ wr.ownsRow w4.heap.size 40 3 v J.length (ccells J) ∧ Below w4.heap.size w4 wr) (fun _ ii jj _ => (S.length - (intOf ii).toNat) + (T.length - (intOf jj).toNat))
  case atStart => exact ⟨0, 0, [], Nat.zero_le _, Nat.zero_le _, rfl, rfl, Nat.zero_le _, Ln.diff_start S T, World.ownsRow_nil _ _ _ _, Below.refl _ _⟩
  case round =>
    obtain ⟨i, j, J, hi, hj, rfl, rfl, hJ, HI, hown, hnx⟩ := hrel
    have hsz := hnx.size
    have hS1 := s1.len
    by_cases hi1 : i < S.length
    · obtain ⟨bs1, o1, rfl, hb1, p1, p2⟩ := s1.cells i hi1
      have d1 : wr.cell? ⟨bs1, o1 + i * 2, none⟩ = some (.string (S[i]'hi1).1) := (hnx.cell (p := ⟨bs1, o1 + i * 2, none⟩) hb1).trans p1
      have d2 : wr.cell? ⟨bs1, o1 + i * 2 + 1, none⟩ = some (.bool (S[i]'hi1).2) := (hnx.cell (p := ⟨bs1, o1 + i * 2 + 1, none⟩) hb1).trans p2
      have gb1 : bs1 < wr.heap.size := by omega
      clear p1 p2
      have m1 := HM.out (i + 1) (by omega)
      have m0 := HM.out i (by omega)
      have gR1 := World.block_lt_of_cell? w4 _ (m1.2 j (by omega))
      have gR0 := World.block_lt_of_cell? w4 _ (m0.2 j (by omega))
      have gG := World.block_lt_of_cell? w4 _ m0.1
      simp only at gR1 gR0 gG
      have k1 := (hnx.cell (p := ⟨G, i + 1, none⟩) gG).trans m1.1
      have k0 := (hnx.cell (p := ⟨G, i, none⟩) gG).trans m0.1
      have q1 := (hnx.cell (p := ⟨R (i + 1), j, none⟩) gR1).trans (m1.2 j (by omega))
      have q0 := (hnx.cell (p := ⟨R i, j, none⟩) gR0).trans (m0.2 j (by omega))
      clear m1 m0
      generalize R (i + 1) = R1 at *
      generalize R i = R0 at *
      have x1 : (i : Int) + 1 < (S.length : Int) + 1 := by omega
      have x0 : (i : Int) < (S.length : Int) + 1 := by omega
      have x2 : (j : Int) < (T.length : Int) + 1 := by omega
      have hwi1 : IntKind.i64.wrap ((i : Int) + 1) = (i : Int) + 1 := by rw [IntKind.wrap_i64]; omega
      have t1 : decide ((i : Int) < (S.length : Int)) = true := by simp; omega
      by_cases hj1 : j < T.length
      · obtain ⟨b2, o2, rfl, hb2, p1, p2⟩ := s2.cells j hj1
        have d3 : wr.cell? ⟨b2, o2 + j * 2, none⟩ = some (.string (T[j]'hj1).1) := (hnx.cell (p := ⟨b2, o2 + j * 2, none⟩) hb2).trans p1
        have d4 : wr.cell? ⟨b2, o2 + j * 2 + 1, none⟩ = some (.bool (T[j]'hj1).2) := (hnx.cell (p := ⟨b2, o2 + j * 2 + 1, none⟩) hb2).trans p2
        have gb2 : b2 < wr.heap.size := by omega
        have t2 : decide ((j : Int) < (T.length : Int)) = true := by simp; omega
        clear p1 p2
        by_cases he : S[i]'hi1 = T[j]'hj1
        · have HN2 : Hid (Ln.DiffInv S T (i + 1) (j + 1) (J ++ [(1, S[i]'hi1)])) := Ln.diff_keep HI.out hi1 hj1 he
          rw [← he] at d3 d4
          clear he
          generalize S[i]'hi1 = x at *
          obtain ⟨x1, x2⟩ := x
          have heq := fun wx => line_eql x1 x1 x2 x2 wx
          go_wp2_with fail
          go_quiet (fail)
          go_wp2_with (at_builtin; refine app_ch _ rfl _ _ rfl w4.heap.size _ J rfl ?yh _ _ 1 x1 x2 rfl ?yc0 ?yc1 ?yc2 ?yc3 ?yc4 ?_)
          case yh => first | exact (own_drewN hown _).alloc _ | exact (own_drewN (own_drewN hown _) _).alloc _
          case yc0 => exact cell_at_new _ _ _ _ _ _ (by simp) rfl
          case yc1 => exact cell_at_new _ _ _ _ _ _ (by simp) rfl
          case yc2 => exact cell_at_new _ _ _ _ _ _ (by simp) rfl
          case yc3 => omega
          case yc4 => first | omega | (simp; omega)
          intro v5 w5 ho5 hg
          have hB5 : Below w4.heap.size w4 w5 := by
            first | exact ((below_drewN hnx _).alloc (by simp; omega) _).grown hg (by simp; omega) (fun g hg => (hown.lt g hg).1) | exact ((below_drewN (below_drewN hnx _) _).alloc (by simp; omega) _).grown hg (by simp; omega) (fun g hg => (hown.lt g hg).1)
          clear hg
          go_wp2_with fail
          go_roundw
          case rel => exact ⟨i + 1, j + 1, J ++ [(1, (x1, x2))], by omega, by omega, by go_num, by go_num, by simp; omega, HN2, by simpa using ho5, hB5⟩
          case measure => simp [intOf]; omega
        · have gen : ∃ V1 V0, Ln.lcs (S.drop (i + 1)) (T.drop j) = V1 ∧ Ln.lcs (S.drop i) (T.drop j) = V0 := ⟨_, _, rfl, rfl⟩
          obtain ⟨V1, V0, hV1, hV0⟩ := gen
          rw [hV1] at q1
          rw [hV0] at q0
          have HV1 : Hid (Ln.lcs (S.drop (i + 1)) (T.drop j) = V1) := hV1
          have HV0 : Hid (Ln.lcs (S.drop i) (T.drop j) = V0) := hV0
          have HNE : Hid (¬ S[i]'hi1 = T[j]'hj1) := he
          have HX : Hid (∃ z, z = S[i]'hi1) := ⟨_, rfl⟩
          have hqq : (((S[i]'hi1).1.toList == (T[j]'hj1).1.toList) && ((S[i]'hi1).2 == (T[j]'hj1).2)) = false := by
            cases hz : (((S[i]'hi1).1.toList == (T[j]'hj1).1.toList) && ((S[i]'hi1).2 == (T[j]'hj1).2))
            · rfl
            · exact absurd ((Ln.line_eq _ _).2 hz) he
          have HDR : Hid (V1 = V0 → Ln.DiffInv S T (i + 1) j (J ++ [(2, S[i]'hi1)])) := fun e => Ln.diff_drop HI.out hi1 (fun _ => he) (by rw [hV1, hV0, e])
          have HAD : Hid (¬ V1 = V0 → Ln.DiffInv S T i (j + 1) (J ++ [(3, T[j]'hj1)])) := fun e => Ln.diff_add HI.out hj1 (fun _ => ⟨he, by rw [hV1, hV0]; exact e⟩)
          clear he hV1 hV0 HX HNE
          generalize S[i]'hi1 = x at *
          generalize T[j]'hj1 = y at *
          obtain ⟨x1, x2⟩ := x
          obtain ⟨y1, y2⟩ := y
          have heq := fun wx => line_eql x1 y1 x2 y2 wx
          rw [hqq] at heq
          clear hqq
          go_wp2_with fail
          go_quiet (fail)
          obtain ⟨wq, hwq⟩ : ∃ wq, wq = wr.drewN nq := ⟨_, rfl⟩
          rw [← hwq]
          have hbq : Below wr.heap.size wr wq := by rw [hwq]; exact below_drewN (Below.refl _ _) nq
          clear hwq
          have hqs := hbq.size
          have k1' := (hbq.cell (p := ⟨G, i + 1, none⟩) (by show G < _; omega)).trans k1
          have k0' := (hbq.cell (p := ⟨G, i, none⟩) (by show G < _; omega)).trans k0
          have q1' := (hbq.cell (p := ⟨R1, j, none⟩) (by show R1 < _; omega)).trans q1
          have q0' := (hbq.cell (p := ⟨R0, j, none⟩) (by show R0 < _; omega)).trans q0
          go_wp2_with fail
          go_quiet (fail)
          obtain ⟨wz, hwz⟩ : ∃ wz, wz = wq.drewN nq := ⟨_, rfl⟩
          rw [← hwz]
          have hbz : Below wr.heap.size wr wz := by rw [hwz]; exact hbq.trans ((below_drewN (Below.refl _ _) _).mono hqs)
          have hBz : Below w4.heap.size w4 wz := hnx.trans (hbz.mono hsz)
          have hsz5 := hBz.size
          have hq5 := own_below hown hbz
          clear hwz
          by_cases hv : V1 = V0
          · have HD2 := HDR.out hv
            have hv' : ((V1 : Int) == (V0 : Int)) = true := by simp [hv]
            have HD2 : Hid (Ln.DiffInv S T (i + 1) j (J ++ [(2, (x1, x2))])) := HD2
            have z1 := (hbz.cell (p := ⟨bs1, o1 + i * 2, none⟩) gb1).trans d1
            have z2 := (hbz.cell (p := ⟨bs1, o1 + i * 2 + 1, none⟩) gb1).trans d2
            go_wp2_with (at_builtin; refine app_ch _ rfl _ _ rfl w4.heap.size _ J rfl ?dah _ _ 2 x1 x2 rfl ?dac0 ?dac1 ?dac2 ?dac3 ?dac4 ?_)
            case dah => exact hq5.alloc _
            case dac0 => exact cell_at_new _ _ _ _ _ _ (by simp) rfl
            case dac1 => exact cell_at_new _ _ _ _ _ _ (by simp) rfl
            case dac2 => exact cell_at_new _ _ _ _ _ _ (by simp) rfl
            case dac3 => omega
            case dac4 => first | omega | (simp; omega)
            intro v5 w5 ho5 hg
            have hB5 : Below w4.heap.size w4 w5 := (hBz.alloc (by omega) _).grown hg (by simp; omega) (fun g hg => (hown.lt g hg).1)
            clear hg
            go_wp2_with fail
            go_roundw
            case rel => exact ⟨i + 1, j, J ++ [(2, (x1, x2))], by omega, by omega, by go_num, rfl, by simp; omega, HD2, by simpa using ho5, hB5⟩
            case measure => simp [intOf]; omega
          · have HA2 : Hid (Ln.DiffInv S T i (j + 1) (J ++ [(3, (y1, y2))])) := HAD.out hv
            have hv' : ((V1 : Int) == (V0 : Int)) = false := by simp; omega
            have z3 := (hbz.cell (p := ⟨b2, o2 + j * 2, none⟩) gb2).trans d3
            have z4 := (hbz.cell (p := ⟨b2, o2 + j * 2 + 1, none⟩) gb2).trans d4
            go_wp2_with (at_builtin; refine app_ch _ rfl _ _ rfl w4.heap.size _ J rfl ?adh _ _ 3 y1 y2 rfl ?adc0 ?adc1 ?adc2 ?adc3 ?adc4 ?_)
            case adh => exact hq5.alloc _
            case adc0 => exact cell_at_new _ _ _ _ _ _ (by simp) rfl
            case adc1 => exact cell_at_new _ _ _ _ _ _ (by simp) rfl
            case adc2 => exact cell_at_new _ _ _ _ _ _ (by simp) rfl
            case adc3 => omega
            case adc4 => first | omega | (simp; omega)
            intro v5 w5 ho5 hg
            have hB5 : Below w4.heap.size w4 w5 := (hBz.alloc (by omega) _).grown hg (by simp; omega) (fun g hg => (hown.lt g hg).1)
            clear hg
            go_wp2_with fail
            go_roundw
            case rel => exact ⟨i, j + 1, J ++ [(3, (y1, y2))], by omega, by omega, rfl, by go_num, by simp; omega, HA2, by simpa using ho5, hB5⟩
            case measure => simp [intOf]; omega
      · have HD2 : Hid (Ln.DiffInv S T (i + 1) j (J ++ [(2, S[i]'hi1)])) := Ln.diff_drop HI.out hi1 (fun h => absurd h hj1) (Ln.diff_no (by omega))
        have hVV := Ln.diff_no (a := S) (b := T) (i := i) (j := j) (by omega)
        obtain ⟨V1, hV1⟩ : ∃ V1, Ln.lcs (S.drop (i + 1)) (T.drop j) = V1 := ⟨_, rfl⟩
        obtain ⟨V0, hV0⟩ : ∃ V0, Ln.lcs (S.drop i) (T.drop j) = V0 := ⟨_, rfl⟩
        rw [hV1, hV0] at hVV
        rw [hV1] at q1
        rw [hV0] at q0
        have hv' : ((V1 : Int) == (V0 : Int)) = true := by simp [hVV]
        clear hV1 hV0 hVV
        generalize S[i]'hi1 = x at *
        obtain ⟨x1, x2⟩ := x
        have g1 : decide ((j : Int) < (T.length : Int)) = false := by simp; omega
        have g2 : decide (j < T.length) = false := by simp; omega
        have g3 : (j < T.length) = False := by simp; omega
        go_wp2_with fail
        go_quiet (fail)
        obtain ⟨wq, hwq⟩ : ∃ wq, wq = wr.drewN nq := ⟨_, rfl⟩
        rw [← hwq]
        have hbq : Below wr.heap.size wr wq := by rw [hwq]; exact below_drewN (Below.refl _ _) nq
        clear hwq
        have hqs := hbq.size
        have k1' := (hbq.cell (p := ⟨G, i + 1, none⟩) (by show G < _; omega)).trans k1
        have k0' := (hbq.cell (p := ⟨G, i, none⟩) (by show G < _; omega)).trans k0
        have q1' := (hbq.cell (p := ⟨R1, j, none⟩) (by show R1 < _; omega)).trans q1
        have q0' := (hbq.cell (p := ⟨R0, j, none⟩) (by show R0 < _; omega)).trans q0
        go_wp2_with fail
        go_quiet (fail)
        obtain ⟨wz, hwz⟩ : ∃ wz, wz = wq.drewN nq := ⟨_, rfl⟩
        rw [← hwz]
        have hbz : Below wr.heap.size wr wz := by rw [hwz]; exact hbq.trans ((below_drewN (Below.refl _ _) _).mono hqs)
        have hBz : Below w4.heap.size w4 wz := hnx.trans (hbz.mono hsz)
        have hsz5 := hBz.size
        have hq5 := own_below hown hbz
        clear hwz
        have z1 := (hbz.cell (p := ⟨bs1, o1 + i * 2, none⟩) gb1).trans d1
        have z2 := (hbz.cell (p := ⟨bs1, o1 + i * 2 + 1, none⟩) gb1).trans d2
        go_wp2_with (at_builtin; refine app_ch _ rfl _ _ rfl w4.heap.size _ J rfl ?dbh _ _ 2 x1 x2 rfl ?dbc0 ?dbc1 ?dbc2 ?dbc3 ?dbc4 ?_)
        case dbh => exact hq5.alloc _
        case dbc0 => exact cell_at_new _ _ _ _ _ _ (by simp) rfl
        case dbc1 => exact cell_at_new _ _ _ _ _ _ (by simp) rfl
        case dbc2 => exact cell_at_new _ _ _ _ _ _ (by simp) rfl
        case dbc3 => omega
        case dbc4 => first | omega | (simp; omega)
        intro v5 w5 ho5 hg
        have hB5 : Below w4.heap.size w4 w5 := (hBz.alloc (by omega) _).grown hg (by simp; omega) (fun g hg => (hown.lt g hg).1)
        clear hg
        go_wp2_with fail
        go_roundw
        case rel => exact ⟨i + 1, j, J ++ [(2, (x1, x2))], by omega, by omega, by go_num, rfl, by simp; omega, HD2, by simpa using ho5, hB5⟩
        case measure => simp [intOf]; omega
    · by_cases hj1 : j < T.length
      · obtain ⟨b2, o2, rfl, hb2, p1, p2⟩ := s2.cells j hj1
        have d3 : wr.cell? ⟨b2, o2 + j * 2, none⟩ = some (.string (T[j]'hj1).1) := (hnx.cell (p := ⟨b2, o2 + j * 2, none⟩) hb2).trans p1
        have d4 : wr.cell? ⟨b2, o2 + j * 2 + 1, none⟩ = some (.bool (T[j]'hj1).2) := (hnx.cell (p := ⟨b2, o2 + j * 2 + 1, none⟩) hb2).trans p2
        have gb2 : b2 < wr.heap.size := by omega
        clear p1 p2
        have HN2 : Hid (Ln.DiffInv S T i (j + 1) (J ++ [(3, T[j]'hj1)])) := Ln.diff_add HI.out hj1 (fun h => absurd h hi1)
        generalize T[j]'hj1 = y at *
        obtain ⟨y1, y2⟩ := y
        have g1 : decide ((i : Int) < (S.length : Int)) = false := by simp; omega
        have g2 : decide (i < S.length) = false := by simp; omega
        have g3 : (i < S.length) = False := by simp; omega
        go_wp2_with fail
        go_quiet (fail)
        go_wp2_with fail
        go_quiet (fail)
        go_wp2_with (at_builtin; refine app_ch _ rfl _ _ rfl w4.heap.size _ J rfl ?xh _ _ 3 y1 y2 rfl ?xc0 ?xc1 ?xc2 ?xc3 ?xc4 ?_)
        case xh => first | exact (own_drewN hown _).alloc _ | exact (own_drewN (own_drewN hown _) _).alloc _
        case xc0 => exact cell_at_new _ _ _ _ _ _ (by simp) rfl
        case xc1 => exact cell_at_new _ _ _ _ _ _ (by simp) rfl
        case xc2 => exact cell_at_new _ _ _ _ _ _ (by simp) rfl
        case xc3 => omega
        case xc4 => first | omega | (simp; omega)
        intro v5 w5 ho5 hg
        have hB5 : Below w4.heap.size w4 w5 := by
          first | exact ((below_drewN hnx _).alloc (by simp; omega) _).grown hg (by simp; omega) (fun g hg => (hown.lt g hg).1) | exact ((below_drewN (below_drewN hnx _) _).alloc (by simp; omega) _).grown hg (by simp; omega) (fun g hg => (hown.lt g hg).1)
        clear hg
        go_wp2_with fail
        go_roundw
        case rel => exact ⟨i, j + 1, J ++ [(3, (y1, y2))], by omega, by omega, rfl, by go_num, by simp; omega, HN2, by simpa using ho5, hB5⟩
        case measure => simp [intOf]; omega
      · have HE : Hid (J = Ln.diffP S T) := Ln.diff_end HI.out (by omega) (by omega)
        go_wp2_with fail
        go_ret2
        rw [HD.out]
        exact ⟨_, rfl, by rw [← HE.out]; exact own_base hown (by omega), hB.trans (hnx.mono (by omega))⟩
end Go.Proofs.YtpoimhkfajppmaaDoor
