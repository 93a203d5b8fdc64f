/- LinesChanged answers true for every two texts and every list of changes that are not too long: the walk of the law over its callees' contracts. -/
import Derived.Test.YtpoimhkfajppmaaDoorLTold
import Derived.Test.YtpoimhkfajppmaaDoorLPlainW
import Derived.Test.YtpoimhkfajppmaaDoorLApply
namespace Go.Proofs.YtpoimhkfajppmaaDoor
open Go.RowKit

set_option maxRecDepth 100000 in
set_option maxHeartbeats 8000000 in
theorem lawChanged_any (s t : ByteArray) (al : Option Addr) (cl : Nat) (l : List Ln.Chg) (w : World) (TT : Tabs2 w) (hs : s.size ≤ 1048576) (ht : t.size ≤ 1048576) (hl : Chs w al cl l) (hll : l.length ≤ 1048576) (htot : Ln.tot (l.map (·.2)) ≤ 4194304) :
    Calls Tryd.prog 5 #[.string s, .string t, .slice al l.length cl] w fun e w' => e = .returned (.bool true) ∧ Below w.heap.size w w' := by
  have hB : Below w.heap.size w w := Below.refl _ _
  have hn1 := Ln.splB_len s
  have hn2 := Ln.splB_len t
  have HMT : Hid (∀ x ∈ Ln.splB t, x.1.size ≤ 67108864) := fun x hx => Nat.le_trans (Ln.splB_mem t x hx) (by omega)
  have hcs := Ln.diffR_cases (Ln.splB s) (Ln.splB t)
  have HAT : Hid (Ln.applyR (Ln.splB s) (Ln.diffP (Ln.splB s) (Ln.splB t)) = (t.data.toList, 0)) := Ln.apply_told s t
  have HKD : Hid (Ln.keptP (Ln.diffP (Ln.splB s) (Ln.splB t)) = Ln.lcs (Ln.splB s) (Ln.splB t)) := Ln.kept_told _ _
  have HTO := @Ln.told_of s t
  have HUN := fun (D : List Ln.Chg) (h : Ln.diffR (Ln.splB s) (Ln.splB t) = (D, 0)) => (show Ln.uniR ⟨#[120]⟩ s t 1 = if (s.toList == t.toList) = true then ([], 0) else (Ln.uniB (Ln.quoP ⟨#[120]⟩).data.toList D 1, 0) by
    unfold Ln.uniR
    rw [if_neg (by decide), h]
    rfl)
  have HSE : Hid ((s.toList == t.toList) = true → Ln.splB s = Ln.splB t) := fun h => by
    have : s = t := Ln.bytes_ext (by simpa using h)
    rw [this]
  obtain ⟨S, hS⟩ : ∃ S, Ln.splB s = S := ⟨_, rfl⟩
  obtain ⟨T, hT⟩ : ∃ T, Ln.splB t = T := ⟨_, rfl⟩
  rw [hS] at hn1 hcs HAT HKD HTO HUN HSE
  rw [hT] at hn2 hcs HAT HKD HTO HUN HMT HSE
  have HS : Hid (Ln.splB s = S) := hS
  have HT : Hid (Ln.splB t = T) := hT
  clear hS hT
  go_enter Tryd.func5, Tryd.ntmps5
  go_wp2_with fail
  refine (told_any _ TT).mono ?_
  rintro e w1 ⟨rfl, hb⟩
  replace TT := TT.below hb; replace hl := hl.below hb; replace hB := hB.trans (hb.mono hB.size); clear hb
  go_wp2_with fail
  refine (diff_any s t _ (by omega) (by omega)).mono ?_
  rw [HS.out, HT.out]
  rcases hcs with ⟨hd, hm⟩ | ⟨hd, hm1, hm2⟩
  · rw [hd]
    rintro e w2 ⟨v2, rfl, od, hb⟩
    replace hB := hB.trans (hb.mono hB.size)
    clear HTO HUN hd hb
    obtain ⟨a2, c2, rfl, _, _⟩ := own_slice od
    simp only [List.length_nil]
    by_cases h1 : 4096 < S.length
    · have h1i : (4096 : Int) < (S.length : Int) := by omega
      go_wp2_with fail
      refine (count_any s _ (by omega)).mono ?_
      rw [HS.out]
      rintro e w' ⟨rfl, rfl⟩
      go_wp2_with fail
      go_ret
      exact ⟨rfl, hB⟩
    · have h2 : 4096 < T.length := by omega
      have h1i : ¬ (4096 : Int) < (S.length : Int) := by omega
      have h2i : (4096 : Int) < (T.length : Int) := by omega
      go_wp2_with fail
      refine (count_any s _ (by omega)).mono ?_
      rw [HS.out]
      rintro e w' ⟨rfl, rfl⟩
      go_wp2_with fail
      refine (count_any t _ (by omega)).mono ?_
      rw [HT.out]
      rintro e w' ⟨rfl, rfl⟩
      go_wp2_with fail
      go_ret
      exact ⟨rfl, hB⟩
  · rw [hd]
    obtain ⟨-, hDl, hDk, hDs, hDt, -⟩ := HTO hd hs ht
    have hun := HUN _ hd
    clear HTO HUN
    generalize Ln.diffP S T = D at *
    have HU0 : Hid (Ln.uniR ⟨#[120]⟩ s t 1 = if (s.toList == t.toList) = true then ([], 0) else (Ln.uniB (Ln.quoP ⟨#[120]⟩).data.toList D 1, 0)) := hun
    clear hun hd
    rintro e w2 ⟨v2, rfl, od, hb⟩
    obtain ⟨a2, c2, rfl, dx⟩ := own_chs od (by simp only; omega) hDs hDk
    replace TT := TT.below hb; replace hl := hl.below hb; replace hB := hB.trans (hb.mono hB.size); clear hb od hDs hDk
    simp only
    go_wp2_with fail
    refine (apply_any s _ _ D _ dx (by omega) (Nat.le_trans hDt (by omega))).mono ?_
    rw [HS.out, HAT.out, Ln.bs_data]
    rintro e w3 ⟨rfl, hb⟩
    replace TT := TT.below hb; replace hl := hl.below hb; replace dx := dx.below hb; replace hB := hB.trans (hb.mono hB.size); clear hb
    cases hq : (s.toList == t.toList)
    · have HU : Hid (Ln.uniR ⟨#[120]⟩ s t 1 = (Ln.uniB (Ln.quoP ⟨#[120]⟩).data.toList D 1, 0)) := by show _ = _; rw [HU0.out, hq]; rfl
      have HNE : (Ln.bs (Ln.uniB (Ln.quoP ⟨#[120]⟩).data.toList D 1)).toList.isEmpty = false := by rw [Ln.toL]; simp [Ln.bs, Ln.uniB]
      have HNE2 : ((Ln.bs (Ln.uniB (Ln.quoP ⟨#[120]⟩).data.toList D 1)).toList == []) = false := by rw [Ln.toL]; simp [Ln.bs, Ln.uniB]
      clear HU0
      go_wp2_with fail
      refine (apply_any s _ _ l _ hl (by omega) (Nat.le_trans htot (by omega))).mono ?_
      rw [HS.out]
      obtain ⟨Y, yc, hY⟩ : ∃ Y yc, Ln.applyR S l = (Y, yc) := ⟨_, _, rfl⟩
      have HY : Hid (Ln.applyR S l = (Y, yc)) := hY
      have hyc : yc = 0 ∨ yc = 11 := by
        unfold Ln.applyR at hY
        split at hY <;> cases hY <;> simp
      rw [hY]
      clear hY
      rintro e w5 ⟨rfl, hb⟩
      replace TT := TT.below hb; replace hl := hl.below hb; replace dx := dx.below hb; replace hB := hB.trans (hb.mono hB.size); clear hb
      rcases hyc with rfl | rfl
      · simp only
        cases hz : ((Ln.bs Y).toList == t.toList)
        · go_wp2_with fail
          refine (uni_any ⟨#[120]⟩ s t 1 _ TT (by decide) hs ht).mono ?_
          rw [HU.out]
          rintro e wz ⟨rfl, hb⟩
          replace hB := hB.trans (hb.mono hB.size); clear hb
          go_wp2_with fail
          go_ret
          exact ⟨by first | rfl | exact ret_bool (by rw [Ln.toL]; rfl), hB⟩
        · by_cases hk : Ln.lcs S T < Ln.keptP l
          · have HM : Hid (Ln.sameL (Ln.putP l) T = false) := Ln.more_kept (by rw [HY.out]) hk
            have hkI : ((Ln.lcs S T : Nat) : Int) < ((Ln.keptP l : Nat) : Int) := by omega
            go_wp2_with fail
            refine (kept_any _ _ l _ hl).mono ?_
            rintro e wk ⟨rfl, hb⟩
            replace TT := TT.below hb; replace hl := hl.below hb; replace dx := dx.below hb; replace hB := hB.trans (hb.mono hB.size); clear hb
            go_wp2_with fail
            refine (kept_any _ _ D _ dx).mono ?_
            rw [HKD.out]
            rintro e wk2 ⟨rfl, hb⟩
            replace TT := TT.below hb; replace hl := hl.below hb; replace hB := hB.trans (hb.mono hB.size); clear hb
            go_wp2_with fail
            have hls := hB.size
            obtain ⟨w6, hw6⟩ : ∃ w6, w6 = wk2 := ⟨_, rfl⟩
            subst hw6
            go_loopw [11, 87] (fun v i wr => ∃ k : Nat, k ≤ l.length ∧ i = .int .i64 k ∧ wr.ownsRow w6.heap.size 38 2 v (Ln.putP (l.take k)).length (lcells (Ln.putP (l.take k))) ∧ Below w6.heap.size w6 wr) (fun _ i _ => l.length - (intOf i).toNat)
            case atStart => exact ⟨0, Nat.zero_le _, rfl, World.ownsRow_nil _ _ _ _, Below.refl _ _⟩
            case round =>
              obtain ⟨k, hk2, rfl, hown, hnx⟩ := hrel
              have hsz := hnx.size
              by_cases hlt : k < l.length
              · obtain ⟨b, off, rfl, hb0, hc1, hc2, hc3⟩ := hl.cells k hlt
                have d1 : wr.cell? ⟨b, off + k * 3, none⟩ = some (.int .u8 ((l[k]'hlt).1 : Int)) := (hnx.cell (p := ⟨b, off + k * 3, none⟩) hb0).trans hc1
                have d2 : wr.cell? ⟨b, off + k * 3 + 1, none⟩ = some (.string (l[k]'hlt).2.1) := (hnx.cell (p := ⟨b, off + k * 3 + 1, none⟩) hb0).trans hc2
                have d3 : wr.cell? ⟨b, off + k * 3 + 2, none⟩ = some (.bool (l[k]'hlt).2.2) := (hnx.cell (p := ⟨b, off + k * 3 + 2, none⟩) hb0).trans hc3
                have HT2 := Ln.putP_snoc l k hlt
                have hkd : (l[k]'hlt).1 < 256 := hl.kind _ (List.getElem_mem hlt)
                have hpl := Ln.putP_len (l.take k)
                have hpt : (l.take k).length ≤ k := List.length_take_le _ _
                have HT3 : Hid (Ln.putP (l.take (k + 1)) = Ln.putP (l.take k) ++ (if (l[k]'hlt).1 = 2 then [] else [(l[k]'hlt).2])) := HT2
                clear hc1 hc2 hc3 HT2
                generalize l[k]'hlt = x at *
                obtain ⟨kd, x1, x2⟩ := x
                simp only at d1 d2 d3 hkd
                generalize Ln.putP (l.take k) = J at *
                by_cases e2 : kd = 2
                · subst e2
                  have HJ : Hid (Ln.putP (l.take (k + 1)) = J) := by show _ = _; rw [HT3.out]; simp
                  go_wp2_with fail
                  go_roundw
                  case rel => exact ⟨k + 1, by omega, by go_num, by rw [HJ.out]; exact hown.alloc _, hnx.alloc hsz _⟩
                  case measure => simp [intOf]; omega
                · have HJ : Hid (Ln.putP (l.take (k + 1)) = J ++ [(x1, x2)]) := by show _ = _; rw [HT3.out, if_neg e2]
                  have g2 : ((kd : Int) != 2) = true := by simp; omega
                  go_wp2_with (at_builtin; refine app_line _ rfl (.tmp 94) (.tmp 97) rfl w6.heap.size _ J rfl ((hown.alloc _).alloc _) _ _ x1 x2 rfl ?pa ?pb ?pc ?pd ?_)
                  case pc => omega
                  case pd => first | omega | (simp; omega)
                  intro v7 w7 ho7 hg
                  have hB7 : Below w6.heap.size w6 w7 := ((hnx.alloc hsz _).alloc (by simp; omega) _).grown hg (by simp; omega) (fun g hg => (hown.lt g hg).1)
                  go_wp2_with fail
                  go_roundw
                  case rel => exact ⟨k + 1, by omega, by go_num, by rw [HJ.out]; simpa using ho7, hB7⟩
                  case measure => simp [intOf]; omega
              · have htk : l.take k = l := List.take_of_length_le (by omega)
                rw [htk] at hown
                clear htk
                have hpl := Ln.putP_len l
                obtain ⟨ap, cp, rfl, sp⟩ := own_lns hown (by omega) (fun x hx => by obtain ⟨c, hc, rfl⟩ := Ln.putP_mem hx; exact hl.size c hc)
                generalize Ln.putP l = J at *
                go_wp2_with fail
                refine (split_any t _ (by omega)).mono ?_
                rw [HT.out]
                rintro e w8 ⟨v8, rfl, ho8, hb8⟩
                obtain ⟨a8, c8, rfl, s8⟩ := own_lns ho8 (by omega) HMT.out
                replace sp := sp.below hb8
                have hB8 := hnx.trans (hb8.mono hsz)
                have hs8 := hB8.size
                clear hb8
                go_wp2_with fail
                refine (lsame_b _ _ _ _ J T _ sp s8).mono ?_
                rw [HM.out]
                rintro e w9 ⟨rfl, hb9⟩
                go_wp2_with fail
                go_ret
                exact ⟨rfl, hB.trans ((hB8.trans (hb9.mono hs8)).mono hls)⟩
          · have hkI : ¬ ((Ln.lcs S T : Nat) : Int) < ((Ln.keptP l : Nat) : Int) := by omega
            go_wp2_with fail
            refine (kept_any _ _ l _ hl).mono ?_
            rintro e wk ⟨rfl, hb⟩
            replace TT := TT.below hb; replace hl := hl.below hb; replace dx := dx.below hb; replace hB := hB.trans (hb.mono hB.size); clear hb
            go_wp2_with fail
            refine (kept_any _ _ D _ dx).mono ?_
            rw [HKD.out]
            rintro e wk2 ⟨rfl, hb⟩
            replace TT := TT.below hb; replace hl := hl.below hb; replace hB := hB.trans (hb.mono hB.size); clear hb
            go_wp2_with fail
            refine (uni_any ⟨#[120]⟩ s t 1 _ TT (by decide) hs ht).mono ?_
            rw [HU.out]
            rintro e wz ⟨rfl, hb⟩
            replace hB := hB.trans (hb.mono hB.size); clear hb
            go_wp2_with fail
            go_ret
            exact ⟨by first | rfl | exact ret_bool (by rw [Ln.toL]; rfl), hB⟩
      · simp only
        go_wp2_with fail
        refine (uni_any ⟨#[120]⟩ s t 1 _ TT (by decide) hs ht).mono ?_
        rw [HU.out]
        rintro e wz ⟨rfl, hb⟩
        replace hB := hB.trans (hb.mono hB.size); clear hb
        go_wp2_with fail
        go_ret
        exact ⟨by first | rfl | exact ret_bool (by rw [Ln.toL]; rfl), hB⟩
    · have HU : Hid (Ln.uniR ⟨#[120]⟩ s t 1 = ([], 0)) := by show _ = _; rw [HU0.out, hq]; rfl
      have hST : S = T := HSE.out hq
      have HKL : Hid (Ln.lcs S T = S.length) := by rw [← hST]; exact Ln.lcs_self S
      clear HU0 hST
      go_wp2_with fail
      refine (kept_any _ _ D _ dx).mono ?_
      rw [HKD.out, HKL.out]
      rintro e w4 ⟨rfl, hb⟩
      replace TT := TT.below hb; replace hl := hl.below hb; replace dx := dx.below hb; replace hB := hB.trans (hb.mono hB.size); clear hb
      go_wp2_with fail
      refine (count_any s _ (by omega)).mono ?_
      rw [HS.out]
      rintro e w' ⟨rfl, rfl⟩
      go_wp2_with fail
      refine (apply_any s _ _ l _ hl (by omega) (Nat.le_trans htot (by omega))).mono ?_
      rw [HS.out]
      obtain ⟨Y, yc, hY⟩ : ∃ Y yc, Ln.applyR S l = (Y, yc) := ⟨_, _, rfl⟩
      have HY : Hid (Ln.applyR S l = (Y, yc)) := hY
      have hyc : yc = 0 ∨ yc = 11 := by
        unfold Ln.applyR at hY
        split at hY <;> cases hY <;> simp
      rw [hY]
      clear hY
      rintro e w5 ⟨rfl, hb⟩
      replace TT := TT.below hb; replace hl := hl.below hb; replace dx := dx.below hb; replace hB := hB.trans (hb.mono hB.size); clear hb
      rcases hyc with rfl | rfl
      · simp only
        cases hz : ((Ln.bs Y).toList == t.toList)
        · go_wp2_with fail
          refine (uni_any ⟨#[120]⟩ s t 1 _ TT (by decide) hs ht).mono ?_
          rw [HU.out]
          rintro e wz ⟨rfl, hb⟩
          replace hB := hB.trans (hb.mono hB.size); clear hb
          go_wp2_with fail
          go_ret
          exact ⟨by first | rfl | exact ret_bool (by rw [Ln.toL]; rfl), hB⟩
        · by_cases hk : Ln.lcs S T < Ln.keptP l
          · have HM : Hid (Ln.sameL (Ln.putP l) T = false) := Ln.more_kept (by rw [HY.out]) hk
            have hkI : ((Ln.lcs S T : Nat) : Int) < ((Ln.keptP l : Nat) : Int) := by omega
            go_wp2_with fail
            refine (kept_any _ _ l _ hl).mono ?_
            rintro e wk ⟨rfl, hb⟩
            replace TT := TT.below hb; replace hl := hl.below hb; replace dx := dx.below hb; replace hB := hB.trans (hb.mono hB.size); clear hb
            go_wp2_with fail
            refine (kept_any _ _ D _ dx).mono ?_
            rw [HKD.out]
            rintro e wk2 ⟨rfl, hb⟩
            replace TT := TT.below hb; replace hl := hl.below hb; replace hB := hB.trans (hb.mono hB.size); clear hb
            go_wp2_with fail
            have hls := hB.size
            obtain ⟨w6, hw6⟩ : ∃ w6, w6 = wk2 := ⟨_, rfl⟩
            subst hw6
            go_loopw [11, 87] (fun v i wr => ∃ k : Nat, k ≤ l.length ∧ i = .int .i64 k ∧ wr.ownsRow w6.heap.size 38 2 v (Ln.putP (l.take k)).length (lcells (Ln.putP (l.take k))) ∧ Below w6.heap.size w6 wr) (fun _ i _ => l.length - (intOf i).toNat)
            case atStart => exact ⟨0, Nat.zero_le _, rfl, World.ownsRow_nil _ _ _ _, Below.refl _ _⟩
            case round =>
              obtain ⟨k, hk2, rfl, hown, hnx⟩ := hrel
              have hsz := hnx.size
              by_cases hlt : k < l.length
              · obtain ⟨b, off, rfl, hb0, hc1, hc2, hc3⟩ := hl.cells k hlt
                have d1 : wr.cell? ⟨b, off + k * 3, none⟩ = some (.int .u8 ((l[k]'hlt).1 : Int)) := (hnx.cell (p := ⟨b, off + k * 3, none⟩) hb0).trans hc1
                have d2 : wr.cell? ⟨b, off + k * 3 + 1, none⟩ = some (.string (l[k]'hlt).2.1) := (hnx.cell (p := ⟨b, off + k * 3 + 1, none⟩) hb0).trans hc2
                have d3 : wr.cell? ⟨b, off + k * 3 + 2, none⟩ = some (.bool (l[k]'hlt).2.2) := (hnx.cell (p := ⟨b, off + k * 3 + 2, none⟩) hb0).trans hc3
                have HT2 := Ln.putP_snoc l k hlt
                have hkd : (l[k]'hlt).1 < 256 := hl.kind _ (List.getElem_mem hlt)
                have hpl := Ln.putP_len (l.take k)
                have hpt : (l.take k).length ≤ k := List.length_take_le _ _
                have HT3 : Hid (Ln.putP (l.take (k + 1)) = Ln.putP (l.take k) ++ (if (l[k]'hlt).1 = 2 then [] else [(l[k]'hlt).2])) := HT2
                clear hc1 hc2 hc3 HT2
                generalize l[k]'hlt = x at *
                obtain ⟨kd, x1, x2⟩ := x
                simp only at d1 d2 d3 hkd
                generalize Ln.putP (l.take k) = J at *
                by_cases e2 : kd = 2
                · subst e2
                  have HJ : Hid (Ln.putP (l.take (k + 1)) = J) := by show _ = _; rw [HT3.out]; simp
                  go_wp2_with fail
                  go_roundw
                  case rel => exact ⟨k + 1, by omega, by go_num, by rw [HJ.out]; exact hown.alloc _, hnx.alloc hsz _⟩
                  case measure => simp [intOf]; omega
                · have HJ : Hid (Ln.putP (l.take (k + 1)) = J ++ [(x1, x2)]) := by show _ = _; rw [HT3.out, if_neg e2]
                  have g2 : ((kd : Int) != 2) = true := by simp; omega
                  go_wp2_with (at_builtin; refine app_line _ rfl (.tmp 94) (.tmp 97) rfl w6.heap.size _ J rfl ((hown.alloc _).alloc _) _ _ x1 x2 rfl ?qa ?qb ?qc ?qd ?_)
                  case qc => omega
                  case qd => first | omega | (simp; omega)
                  intro v7 w7 ho7 hg
                  have hB7 : Below w6.heap.size w6 w7 := ((hnx.alloc hsz _).alloc (by simp; omega) _).grown hg (by simp; omega) (fun g hg => (hown.lt g hg).1)
                  go_wp2_with fail
                  go_roundw
                  case rel => exact ⟨k + 1, by omega, by go_num, by rw [HJ.out]; simpa using ho7, hB7⟩
                  case measure => simp [intOf]; omega
              · have htk : l.take k = l := List.take_of_length_le (by omega)
                rw [htk] at hown
                clear htk
                have hpl := Ln.putP_len l
                obtain ⟨ap, cp, rfl, sp⟩ := own_lns hown (by omega) (fun x hx => by obtain ⟨c, hc, rfl⟩ := Ln.putP_mem hx; exact hl.size c hc)
                generalize Ln.putP l = J at *
                go_wp2_with fail
                refine (split_any t _ (by omega)).mono ?_
                rw [HT.out]
                rintro e w8 ⟨v8, rfl, ho8, hb8⟩
                obtain ⟨a8, c8, rfl, s8⟩ := own_lns ho8 (by omega) HMT.out
                replace sp := sp.below hb8
                have hB8 := hnx.trans (hb8.mono hsz)
                have hs8 := hB8.size
                clear hb8
                go_wp2_with fail
                refine (lsame_b _ _ _ _ J T _ sp s8).mono ?_
                rw [HM.out]
                rintro e w9 ⟨rfl, hb9⟩
                go_wp2_with fail
                go_ret
                exact ⟨rfl, hB.trans ((hB8.trans (hb9.mono hs8)).mono hls)⟩
          · have hkI : ¬ ((Ln.lcs S T : Nat) : Int) < ((Ln.keptP l : Nat) : Int) := by omega
            go_wp2_with fail
            refine (kept_any _ _ l _ hl).mono ?_
            rintro e wk ⟨rfl, hb⟩
            replace TT := TT.below hb; replace hl := hl.below hb; replace dx := dx.below hb; replace hB := hB.trans (hb.mono hB.size); clear hb
            go_wp2_with fail
            refine (kept_any _ _ D _ dx).mono ?_
            rw [HKD.out]
            rintro e wk2 ⟨rfl, hb⟩
            replace TT := TT.below hb; replace hl := hl.below hb; replace hB := hB.trans (hb.mono hB.size); clear hb
            go_wp2_with fail
            refine (uni_any ⟨#[120]⟩ s t 1 _ TT (by decide) hs ht).mono ?_
            rw [HU.out]
            rintro e wz ⟨rfl, hb⟩
            replace hB := hB.trans (hb.mono hB.size); clear hb
            go_wp2_with fail
            go_ret
            exact ⟨by first | rfl | exact ret_bool (by rw [Ln.toL]; rfl), hB⟩
      · simp only
        go_wp2_with fail
        refine (uni_any ⟨#[120]⟩ s t 1 _ TT (by decide) hs ht).mono ?_
        rw [HU.out]
        rintro e wz ⟨rfl, hb⟩
        replace hB := hB.trans (hb.mono hB.size); clear hb
        go_wp2_with fail
        go_ret
        exact ⟨by first | rfl | exact ret_bool (by rw [Ln.toL]; rfl), hB⟩
end Go.Proofs.YtpoimhkfajppmaaDoor
