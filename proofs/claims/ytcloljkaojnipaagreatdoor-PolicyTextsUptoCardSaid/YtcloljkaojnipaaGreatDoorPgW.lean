/- What the reference's take does with a line that begins with memory. What the reference's take does with a line that begins with output. What the reference's take does with a line that begins with each. What the reference's take does with any line. -/
import Derived.Test.YtcloljkaojnipaaGreatDoorPgU
import Derived.Test.YtcloljkaojnipaaGreatDoorPgV
namespace Go.Proofs.YtcloljkaojnipaaGreatDoor
open Go Go.RowKit

set_option maxRecDepth 100000 in
set_option maxHeartbeats 4000000 in
theorem rtake_3 (N g : Nat) (S : Pl.PSt) (vR vW : Value) (s : ByteArray) (w : World) (b0 o0 c0 : Nat) (hw : WT w b0 o0 c0) (h : Rst w N g S vR vW) (hs : s.size ≤ 16777216) (hl : S.R.length ≤ 1024 ∧ S.W.length ≤ 1024) (hno : ∀ k, k < 3 → ¬ (Pl.wd k ++ [32]) <+: s.data.toList) (hp : (Pl.wd 3 ++ [32]) <+: s.data.toList) :
    Calls Tryz.prog 48 #[.agg (stC S vR vW g), .string s] w (TkE w N g (Pl.lineR S s.data.toList)) := by
  obtain ⟨ar, cr, hvR, _⟩ := h.rows.R.row.pts (by omega)
  obtain ⟨aw, cw, hvW, _⟩ := h.rows.W.row.pts (by omega)
  subst hvR hvW
  obtain ⟨wa, hwa⟩ : ∃ wa, wa = (w.alloc (stO (.slice ar S.R.length cr) (.slice aw S.W.length cw) (.int .i64 (S.q 0 : Nat)) (.int .i64 (S.q 1 : Nat)) (.int .i64 (S.q 2 : Nat)) (.int .i64 (S.q 3 : Nat)) (.slice (some ⟨g, 0, none⟩) 6 6))).alloc zSt := ⟨_, rfl⟩
  have hB : Below w.heap.size w wa := by rw [hwa]; exact ((Below.refl _ w).alloc (Nat.le_refl _) _).alloc (by simp) _
  have hZ : Bz w.heap.size wa (.slice ar S.R.length cr) (.slice aw S.W.length cw) (.int .i64 (S.q 0 : Nat)) (.int .i64 (S.q 1 : Nat)) (.int .i64 (S.q 2 : Nat)) (.int .i64 (S.q 3 : Nat)) (.slice (some ⟨g, 0, none⟩) 6 6) := by rw [hwa]; exact bz_new w _ _ _ _ _ _ _
  have HW : Hid (wa = (w.alloc (stO (.slice ar S.R.length cr) (.slice aw S.W.length cw) (.int .i64 (S.q 0 : Nat)) (.int .i64 (S.q 1 : Nat)) (.int .i64 (S.q 2 : Nat)) (.int .i64 (S.q 3 : Nat)) (.slice (some ⟨g, 0, none⟩) 6 6))).alloc zSt) := hwa
  have HA : Hid (Below w.heap.size w wa ∧ Bz w.heap.size wa (.slice ar S.R.length cr) (.slice aw S.W.length cw) (.int .i64 (S.q 0 : Nat)) (.int .i64 (S.q 1 : Nat)) (.int .i64 (S.q 2 : Nat)) (.int .i64 (S.q 3 : Nat)) (.slice (some ⟨g, 0, none⟩) 6 6) ∧ Rst wa N g S (.slice ar S.R.length cr) (.slice aw S.W.length cw) ∧ WT wa b0 o0 c0 ∧ N ≤ w.heap.size) := ⟨hB, hZ, h.below hB, hw.below hB, h.NN⟩
  have HNo : Hid (∀ k, k < 3 → ¬ (Pl.wd k ++ [32]) <+: s.data.toList) := hno
  have hgn : g < w.heap.size := Nat.lt_of_lt_of_le h.gN h.NN
  have hR0 := Pl.rest_is hp
  have HR : Hid (Pl.lineR S s.data.toList = Pl.actR S 3 (s.extract 7 s.size).data.toList) := by
    show _ = _
    rw [hR0, Pl.line_word (by omega)]
    rfl
  have HY := Pl.pre_yes hp
  have hL5 : 7 ≤ s.size := HY.1
  have HYb : Hid (((s.extract 0 (Ln.bs (Pl.wd 3 ++ [32])).size).toList == (Ln.bs (Pl.wd 3 ++ [32])).toList) = true) := HY.2
  clear hR0 HY hp
  have HN : Hid (N ≤ w.heap.size) := h.NN
  have hx0 : (s.extract 7 s.size).size ≤ 16777216 := by rw [ByteArray.size_extract]; omega
  have HC : Hid (∀ w1, Calls Tryz.prog 78 #[.string (s.extract 7 s.size)] w1 fun e w' => e = .returned (.tuple #[.int .i64 (if Pl.isNum (s.extract 7 s.size).data.toList = true then Pl.cntV (s.extract 7 s.size).data.toList else 0), .bool (Pl.isNum (s.extract 7 s.size).data.toList)]) ∧ w1 = w') := fun w1 => rcount_any _ w1 hx0
  have HR2 : Hid (Pl.lineR S s.data.toList = Pl.numR S 1 (s.extract 7 s.size).data.toList) := HR.out
  clear HR
  have HF : Hid (_ → _) := Pl.numR_form (S := S) (i := 1) (l := (s.extract 7 s.size).data.toList)
  have HM : Hid (_ → _ → _) := Pl.numR_most (S := S) (i := 1) (l := (s.extract 7 s.size).data.toList)
  have HT : Hid (_ → _ → _ → _) := Pl.numR_twice (S := S) (i := 1) (l := (s.extract 7 s.size).data.toList)
  have HO : Hid (_ → _ → _ → _) := Pl.numR_ok (S := S) (i := 1) (l := (s.extract 7 s.size).data.toList)
  have HV : Hid (Pl.cntV (s.extract 7 s.size).data.toList = if Pl.valN (s.extract 7 s.size).data.toList ≤ 4294967296 then (Pl.valN (s.extract 7 s.size).data.toList : Int) else -1) := rfl
  generalize hxs : s.extract 7 s.size = x at HC HR2 HF HM HT HO HV hx0
  have HXS : Hid (s.extract 7 s.size = x) := hxs
  clear hxs
  generalize Pl.numR S 1 x.data.toList = Z at *
  generalize Pl.cntV x.data.toList = cv at *
  generalize Pl.valN x.data.toList = v at *
  generalize Pl.isNum x.data.toList = nb at *
  clear hwa hB hZ hw h hno
  simp only [zSt, stO] at HW
  go_enter Tryz.func48, Tryz.ntmps48
  go_upto_region 1 with fail
  rw [← HW.out]
  clear HW
  go_wp2_with fail
  go_loopw [6] (fun kv wr => ∃ k m : Nat, k ≤ 3 ∧ kv = .int .i64 (k : Int) ∧ wr = wa.drewN m) (fun kv _ => 6 - (intOf kv).toNat)
  case atStart => exact ⟨0, 0, Nat.zero_le _, rfl, rfl⟩
  case round =>
    obtain ⟨k, m, hk, rfl, rfl⟩ := hrel
    have v0 : wa.cell? ⟨0, 0, none⟩ = some (.slice (some ⟨b0, o0, none⟩) 6 c0) := HA.out.2.2.2.1.v
    by_cases hlt : k < 3
    · have hk6 : k < 6 := by omega
      have c1 : wa.cell? ⟨b0, o0 + k, none⟩ = some (.string (Ln.bs (Pl.wd k ++ [32]))) := HA.out.2.2.2.1.c k hk6
      have n1 : ((s.extract 0 (Ln.bs (Pl.wd k ++ [32])).size).toList == (Ln.bs (Pl.wd k ++ [32])).toList) = false := by rw [Ln.bs_size]; exact Pl.pre_no (HNo.out k hlt)
      generalize Ln.bs (Pl.wd k ++ [32]) = wk at *
      have i1 : (k : Int) < 6 := by omega
      have d1 : decide ((k : Int) < 6) = true := decide_eq_true i1
      by_cases hz : s.size < wk.size
      · have e1 : decide ((s.size : Int) < (wk.size : Int)) = true := decide_eq_true (by omega)
        go_wp2_with fail
        go_quiet (fail)
        go_wp2_with fail
        go_roundw
        case rel => exact ⟨k + 1, m + nq, by omega, by go_num, by first | rfl | simp⟩
        case measure => simp [intOf]; omega
      · have e1 : decide ((s.size : Int) < (wk.size : Int)) = false := decide_eq_false (by omega)
        have e2 : (wk.size : Int) ≤ (s.size : Int) := by omega
        go_wp2_with fail
        go_quiet (fail)
        go_wp2_with fail
        go_roundw
        case rel => exact ⟨k + 1, m + nq, by omega, by go_num, by first | rfl | simp⟩
        case measure => simp [intOf]; omega
    · obtain rfl : k = 3 := by omega
      clear hlt hk
      have c1 : wa.cell? ⟨b0, o0 + 3, none⟩ = some (.string (Ln.bs (Pl.wd 3 ++ [32]))) := HA.out.2.2.2.1.c 3 (by omega)
      have hsz : (Ln.bs (Pl.wd 3 ++ [32])).size = 7 := rfl
      have n1 := HYb.out
      generalize Ln.bs (Pl.wd 3 ++ [32]) = wk at *
      rw [hsz] at n1
      have e1 : decide ((s.size : Int) < 7) = false := decide_eq_false (by omega)
      have e2 : (7 : Int) ≤ (s.size : Int) := by omega
      go_wp2_with fail
      go_quiet (fail)
      go_wp2_with fail
      rw [HXS.out]
      refine (HC.out _).mono ?_
      rintro e w1 ⟨rfl, rfl⟩
      have HT1 : Hid (Tu (fun k => k = g ∨ N ≤ k) w (wa.drewN (m + nq))) := (Tu.of_below HA.out.1).drewN _
      have HB1 : Hid (Bz w.heap.size (wa.drewN (m + nq)) (.slice ar S.R.length cr) (.slice aw S.W.length cw) (.int .i64 (S.q 0 : Nat)) (.int .i64 (S.q 1 : Nat)) (.int .i64 (S.q 2 : Nat)) (.int .i64 (S.q 3 : Nat)) (.slice (some ⟨g, 0, none⟩) 6 6)) := HA.out.2.1.drewN _
      clear HXS c1 v0 n1 hsz e1 e2 HC
      obtain ⟨⟨a0, a1, a2, a3, a4, a5, a6⟩, af⟩ := cells_st (HA.out.2.1).x
      obtain ⟨⟨az0, az1, az2, az3, az4, az5, az6⟩, azf⟩ := cells_st (show _ = some (stO _ _ _ _ _ _ _) from (HA.out.2.1).z)
      cases nb
      · have HE : Hid (Pl.lineR S s.data.toList = (2, S)) := by show _ = _; rw [HR2.out, HF.out rfl]
        clear HF HM HT HO HV HR2
        go_wp2_with fail
        obtain ⟨y0, _⟩ := put7_at (HB1.out).z (.slice ar S.R.length cr) (.slice aw S.W.length cw) (.int .i64 (S.q 0 : Nat)) (.int .i64 (S.q 1 : Nat)) (.int .i64 (S.q 2 : Nat)) (.int .i64 (S.q 3 : Nat)) (.slice (some ⟨g, 0, none⟩) 6 6)
        refine bodyPost_ret (results_st rfl _ _ (w.heap.size + 1) _ _ _ _ _ _ _ rfl y0) rfl ?_
        rw [HE.out]
        exact tk_bad (r := (2, _)) HN.out (by simp) (HB1.out) (HT1.out)
      · have hcv : cv = if v ≤ 4294967296 then (v : Int) else -1 := HV.out
        clear HV
        by_cases hv : v ≤ 4294967296
        · rw [if_pos hv] at hcv
          subst hcv
          have p0 : ¬ (v : Int) < 0 := by omega
          have p0' : decide ((v : Int) < 0) = false := decide_eq_false p0
          by_cases h3 : 1073741824 < v
          · have q1 : (1073741824 : Int) < (v : Int) := by omega
            have q1' : decide ((1073741824 : Int) < (v : Int)) = true := decide_eq_true q1
            have HE : Hid (Pl.lineR S s.data.toList = (3, S)) := by show _ = _; rw [HR2.out, HM.out rfl (by rw [show Pl.mostN 1 = 1073741824 from rfl]; omega)]
            clear HF HM HT HO HR2 h3 hv
            go_wp2_with fail
            obtain ⟨y0, _⟩ := put7_at (HB1.out).z (.slice ar S.R.length cr) (.slice aw S.W.length cw) (.int .i64 (S.q 0 : Nat)) (.int .i64 (S.q 1 : Nat)) (.int .i64 (S.q 2 : Nat)) (.int .i64 (S.q 3 : Nat)) (.slice (some ⟨g, 0, none⟩) 6 6)
            refine bodyPost_ret (results_st rfl _ _ (w.heap.size + 1) _ _ _ _ _ _ _ rfl y0) rfl ?_
            rw [HE.out]
            exact tk_bad (r := (3, _)) HN.out (by simp) (HB1.out) (HT1.out)
          have q1 : ¬ (1073741824 : Int) < (v : Int) := by omega
          have q1' : decide ((1073741824 : Int) < (v : Int)) = false := decide_eq_false q1
          have hmn : ¬ Pl.mostN 1 < v := by rw [show Pl.mostN 1 = 1073741824 from rfl]; omega
          have sc : wa.cell? ⟨g, 3, none⟩ = some (.bool (S.t 1)) := HA.out.2.2.1.sc 1 (by omega)
          have sf : ∀ j, wa.frozen? ⟨g, j, none⟩ = false := HA.out.2.2.1.sf
          have hg1 : g ≠ w.heap.size := by omega
          have hg2 : w.heap.size ≠ g := by omega
          cases ht : S.t 1
          · have HE : Hid (Pl.lineR S s.data.toList = (0, { S with q := Pl.upd S.q 1 v, t := Pl.upd S.t 1 true })) := by show _ = _; rw [HR2.out, HO.out rfl hmn ht]
            rw [ht] at sc
            obtain ⟨w4, hw4⟩ : ∃ w4, w4 = ((wa.drewN (m + nq)).setCell ⟨g, 3, none⟩ (.bool true)).setCell ⟨w.heap.size, 3, none⟩ (.int .i64 (v : Int)) := ⟨_, rfl⟩
            have HW4 : Hid (w4 = ((wa.drewN (m + nq)).setCell ⟨g, 3, none⟩ (.bool true)).setCell ⟨w.heap.size, 3, none⟩ (.int .i64 (v : Int))) := hw4
            have HA4 : Hid (Bz w.heap.size w4 (.slice ar S.R.length cr) (.slice aw S.W.length cw) (.int .i64 (Pl.upd S.q 1 v 0 : Nat)) (.int .i64 (Pl.upd S.q 1 v 1 : Nat)) (.int .i64 (Pl.upd S.q 1 v 2 : Nat)) (.int .i64 (Pl.upd S.q 1 v 3 : Nat)) (.slice (some ⟨g, 0, none⟩) 6 6) ∧ Rst w4 N g { S with q := Pl.upd S.q 1 v, t := Pl.upd S.t 1 true } (.slice ar S.R.length cr) (.slice aw S.W.length cw) ∧ Tu (fun k => k = g ∨ N ≤ k) w w4) := by
              have k := tk_num HB1.out (HA.out.2.2.1.drewN (m + nq)) HN.out 1 (by omega) v
              rw [hw4]
              exact ⟨k.1, k.2.1, HT1.out.trans k.2.2 (fun k _ e => e)⟩
            clear HF HM HT HO HR2 hmn ht hw4 HA HB1 HT1
            go_upto_region 36 with fail
            rw [← HW4.out]
            clear HW4 sc sf a0 a1 a2 a3 a4 a5 a6 af az0 az1 az2 az3 az4 az5 az6 azf
            obtain ⟨⟨a0, a1, a2, a3, a4, a5, a6⟩, af⟩ := cells_st (HA4.out.1).x
            obtain ⟨⟨az0, az1, az2, az3, az4, az5, az6⟩, azf⟩ := cells_st (show _ = some (stO _ _ _ _ _ _ _) from (HA4.out.1).z)
            go_wp2_with fail
            obtain ⟨y0, _⟩ := put7_at (HA4.out.1).z (.slice ar S.R.length cr) (.slice aw S.W.length cw) (.int .i64 (Pl.upd S.q 1 v 0 : Nat)) (.int .i64 (Pl.upd S.q 1 v 1 : Nat)) (.int .i64 (Pl.upd S.q 1 v 2 : Nat)) (.int .i64 (Pl.upd S.q 1 v 3 : Nat)) (.slice (some ⟨g, 0, none⟩) 6 6)
            refine bodyPost_ret (results_st rfl _ _ (w.heap.size + 1) _ _ _ _ _ _ _ rfl y0) rfl ?_
            rw [HE.out]
            exact tk_ok (S := { S with q := Pl.upd S.q 1 v, t := Pl.upd S.t 1 true }) HN.out HA4.out.1 HA4.out.2.2 HA4.out.2.1
          · have HE : Hid (Pl.lineR S s.data.toList = (4, S)) := by show _ = _; rw [HR2.out, HT.out rfl hmn ht]
            rw [ht] at sc
            clear HF HM HT HO HR2 hmn ht
            go_wp2_with fail
            obtain ⟨y0, _⟩ := put7_at (HB1.out).z (.slice ar S.R.length cr) (.slice aw S.W.length cw) (.int .i64 (S.q 0 : Nat)) (.int .i64 (S.q 1 : Nat)) (.int .i64 (S.q 2 : Nat)) (.int .i64 (S.q 3 : Nat)) (.slice (some ⟨g, 0, none⟩) 6 6)
            refine bodyPost_ret (results_st rfl _ _ (w.heap.size + 1) _ _ _ _ _ _ _ rfl y0) rfl ?_
            rw [HE.out]
            exact tk_bad (r := (4, _)) HN.out (by simp) (HB1.out) (HT1.out)
        · rw [if_neg hv] at hcv
          subst hcv
          have HE : Hid (Pl.lineR S s.data.toList = (3, S)) := by show _ = _; rw [HR2.out, HM.out rfl (by rw [show Pl.mostN 1 = 1073741824 from rfl]; omega)]
          clear HF HM HT HO HR2 hv
          go_wp2_with fail
          obtain ⟨y0, _⟩ := put7_at (HB1.out).z (.slice ar S.R.length cr) (.slice aw S.W.length cw) (.int .i64 (S.q 0 : Nat)) (.int .i64 (S.q 1 : Nat)) (.int .i64 (S.q 2 : Nat)) (.int .i64 (S.q 3 : Nat)) (.slice (some ⟨g, 0, none⟩) 6 6)
          refine bodyPost_ret (results_st rfl _ _ (w.heap.size + 1) _ _ _ _ _ _ _ rfl y0) rfl ?_
          rw [HE.out]
          exact tk_bad (r := (3, _)) HN.out (by simp) (HB1.out) (HT1.out)
end Go.Proofs.YtcloljkaojnipaaGreatDoor
namespace Go.Proofs.YtcloljkaojnipaaGreatDoor
open Go Go.RowKit

set_option maxRecDepth 100000 in
set_option maxHeartbeats 4000000 in
theorem rtake_4 (N g : Nat) (S : Pl.PSt) (vR vW : Value) (s : ByteArray) (w : World) (b0 o0 c0 : Nat) (hw : WT w b0 o0 c0) (h : Rst w N g S vR vW) (hs : s.size ≤ 16777216) (hl : S.R.length ≤ 1024 ∧ S.W.length ≤ 1024) (hno : ∀ k, k < 4 → ¬ (Pl.wd k ++ [32]) <+: s.data.toList) (hp : (Pl.wd 4 ++ [32]) <+: s.data.toList) :
    Calls Tryz.prog 48 #[.agg (stC S vR vW g), .string s] w (TkE w N g (Pl.lineR S s.data.toList)) := by
  obtain ⟨ar, cr, hvR, _⟩ := h.rows.R.row.pts (by omega)
  obtain ⟨aw, cw, hvW, _⟩ := h.rows.W.row.pts (by omega)
  subst hvR hvW
  obtain ⟨wa, hwa⟩ : ∃ wa, wa = (w.alloc (stO (.slice ar S.R.length cr) (.slice aw S.W.length cw) (.int .i64 (S.q 0 : Nat)) (.int .i64 (S.q 1 : Nat)) (.int .i64 (S.q 2 : Nat)) (.int .i64 (S.q 3 : Nat)) (.slice (some ⟨g, 0, none⟩) 6 6))).alloc zSt := ⟨_, rfl⟩
  have hB : Below w.heap.size w wa := by rw [hwa]; exact ((Below.refl _ w).alloc (Nat.le_refl _) _).alloc (by simp) _
  have hZ : Bz w.heap.size wa (.slice ar S.R.length cr) (.slice aw S.W.length cw) (.int .i64 (S.q 0 : Nat)) (.int .i64 (S.q 1 : Nat)) (.int .i64 (S.q 2 : Nat)) (.int .i64 (S.q 3 : Nat)) (.slice (some ⟨g, 0, none⟩) 6 6) := by rw [hwa]; exact bz_new w _ _ _ _ _ _ _
  have HW : Hid (wa = (w.alloc (stO (.slice ar S.R.length cr) (.slice aw S.W.length cw) (.int .i64 (S.q 0 : Nat)) (.int .i64 (S.q 1 : Nat)) (.int .i64 (S.q 2 : Nat)) (.int .i64 (S.q 3 : Nat)) (.slice (some ⟨g, 0, none⟩) 6 6))).alloc zSt) := hwa
  have HA : Hid (Below w.heap.size w wa ∧ Bz w.heap.size wa (.slice ar S.R.length cr) (.slice aw S.W.length cw) (.int .i64 (S.q 0 : Nat)) (.int .i64 (S.q 1 : Nat)) (.int .i64 (S.q 2 : Nat)) (.int .i64 (S.q 3 : Nat)) (.slice (some ⟨g, 0, none⟩) 6 6) ∧ Rst wa N g S (.slice ar S.R.length cr) (.slice aw S.W.length cw) ∧ WT wa b0 o0 c0 ∧ N ≤ w.heap.size) := ⟨hB, hZ, h.below hB, hw.below hB, h.NN⟩
  have HNo : Hid (∀ k, k < 4 → ¬ (Pl.wd k ++ [32]) <+: s.data.toList) := hno
  have hgn : g < w.heap.size := Nat.lt_of_lt_of_le h.gN h.NN
  have hR0 := Pl.rest_is hp
  have HR : Hid (Pl.lineR S s.data.toList = Pl.actR S 4 (s.extract 7 s.size).data.toList) := by
    show _ = _
    rw [hR0, Pl.line_word (by omega)]
    rfl
  have HY := Pl.pre_yes hp
  have hL5 : 7 ≤ s.size := HY.1
  have HYb : Hid (((s.extract 0 (Ln.bs (Pl.wd 4 ++ [32])).size).toList == (Ln.bs (Pl.wd 4 ++ [32])).toList) = true) := HY.2
  clear hR0 HY hp
  have HN : Hid (N ≤ w.heap.size) := h.NN
  have hx0 : (s.extract 7 s.size).size ≤ 16777216 := by rw [ByteArray.size_extract]; omega
  have HC : Hid (∀ w1, Calls Tryz.prog 78 #[.string (s.extract 7 s.size)] w1 fun e w' => e = .returned (.tuple #[.int .i64 (if Pl.isNum (s.extract 7 s.size).data.toList = true then Pl.cntV (s.extract 7 s.size).data.toList else 0), .bool (Pl.isNum (s.extract 7 s.size).data.toList)]) ∧ w1 = w') := fun w1 => rcount_any _ w1 hx0
  have HR2 : Hid (Pl.lineR S s.data.toList = Pl.numR S 2 (s.extract 7 s.size).data.toList) := HR.out
  clear HR
  have HF : Hid (_ → _) := Pl.numR_form (S := S) (i := 2) (l := (s.extract 7 s.size).data.toList)
  have HM : Hid (_ → _ → _) := Pl.numR_most (S := S) (i := 2) (l := (s.extract 7 s.size).data.toList)
  have HT : Hid (_ → _ → _ → _) := Pl.numR_twice (S := S) (i := 2) (l := (s.extract 7 s.size).data.toList)
  have HO : Hid (_ → _ → _ → _) := Pl.numR_ok (S := S) (i := 2) (l := (s.extract 7 s.size).data.toList)
  have HV : Hid (Pl.cntV (s.extract 7 s.size).data.toList = if Pl.valN (s.extract 7 s.size).data.toList ≤ 4294967296 then (Pl.valN (s.extract 7 s.size).data.toList : Int) else -1) := rfl
  generalize hxs : s.extract 7 s.size = x at HC HR2 HF HM HT HO HV hx0
  have HXS : Hid (s.extract 7 s.size = x) := hxs
  clear hxs
  generalize Pl.numR S 2 x.data.toList = Z at *
  generalize Pl.cntV x.data.toList = cv at *
  generalize Pl.valN x.data.toList = v at *
  generalize Pl.isNum x.data.toList = nb at *
  clear hwa hB hZ hw h hno
  simp only [zSt, stO] at HW
  go_enter Tryz.func48, Tryz.ntmps48
  go_upto_region 1 with fail
  rw [← HW.out]
  clear HW
  go_wp2_with fail
  go_loopw [6] (fun kv wr => ∃ k m : Nat, k ≤ 4 ∧ kv = .int .i64 (k : Int) ∧ wr = wa.drewN m) (fun kv _ => 6 - (intOf kv).toNat)
  case atStart => exact ⟨0, 0, Nat.zero_le _, rfl, rfl⟩
  case round =>
    obtain ⟨k, m, hk, rfl, rfl⟩ := hrel
    have v0 : wa.cell? ⟨0, 0, none⟩ = some (.slice (some ⟨b0, o0, none⟩) 6 c0) := HA.out.2.2.2.1.v
    by_cases hlt : k < 4
    · have hk6 : k < 6 := by omega
      have c1 : wa.cell? ⟨b0, o0 + k, none⟩ = some (.string (Ln.bs (Pl.wd k ++ [32]))) := HA.out.2.2.2.1.c k hk6
      have n1 : ((s.extract 0 (Ln.bs (Pl.wd k ++ [32])).size).toList == (Ln.bs (Pl.wd k ++ [32])).toList) = false := by rw [Ln.bs_size]; exact Pl.pre_no (HNo.out k hlt)
      generalize Ln.bs (Pl.wd k ++ [32]) = wk at *
      have i1 : (k : Int) < 6 := by omega
      have d1 : decide ((k : Int) < 6) = true := decide_eq_true i1
      by_cases hz : s.size < wk.size
      · have e1 : decide ((s.size : Int) < (wk.size : Int)) = true := decide_eq_true (by omega)
        go_wp2_with fail
        go_quiet (fail)
        go_wp2_with fail
        go_roundw
        case rel => exact ⟨k + 1, m + nq, by omega, by go_num, by first | rfl | simp⟩
        case measure => simp [intOf]; omega
      · have e1 : decide ((s.size : Int) < (wk.size : Int)) = false := decide_eq_false (by omega)
        have e2 : (wk.size : Int) ≤ (s.size : Int) := by omega
        go_wp2_with fail
        go_quiet (fail)
        go_wp2_with fail
        go_roundw
        case rel => exact ⟨k + 1, m + nq, by omega, by go_num, by first | rfl | simp⟩
        case measure => simp [intOf]; omega
    · obtain rfl : k = 4 := by omega
      clear hlt hk
      have c1 : wa.cell? ⟨b0, o0 + 4, none⟩ = some (.string (Ln.bs (Pl.wd 4 ++ [32]))) := HA.out.2.2.2.1.c 4 (by omega)
      have hsz : (Ln.bs (Pl.wd 4 ++ [32])).size = 7 := rfl
      have n1 := HYb.out
      generalize Ln.bs (Pl.wd 4 ++ [32]) = wk at *
      rw [hsz] at n1
      have e1 : decide ((s.size : Int) < 7) = false := decide_eq_false (by omega)
      have e2 : (7 : Int) ≤ (s.size : Int) := by omega
      go_wp2_with fail
      go_quiet (fail)
      go_wp2_with fail
      rw [HXS.out]
      refine (HC.out _).mono ?_
      rintro e w1 ⟨rfl, rfl⟩
      have HT1 : Hid (Tu (fun k => k = g ∨ N ≤ k) w (wa.drewN (m + nq))) := (Tu.of_below HA.out.1).drewN _
      have HB1 : Hid (Bz w.heap.size (wa.drewN (m + nq)) (.slice ar S.R.length cr) (.slice aw S.W.length cw) (.int .i64 (S.q 0 : Nat)) (.int .i64 (S.q 1 : Nat)) (.int .i64 (S.q 2 : Nat)) (.int .i64 (S.q 3 : Nat)) (.slice (some ⟨g, 0, none⟩) 6 6)) := HA.out.2.1.drewN _
      clear HXS c1 v0 n1 hsz e1 e2 HC
      obtain ⟨⟨a0, a1, a2, a3, a4, a5, a6⟩, af⟩ := cells_st (HA.out.2.1).x
      obtain ⟨⟨az0, az1, az2, az3, az4, az5, az6⟩, azf⟩ := cells_st (show _ = some (stO _ _ _ _ _ _ _) from (HA.out.2.1).z)
      cases nb
      · have HE : Hid (Pl.lineR S s.data.toList = (2, S)) := by show _ = _; rw [HR2.out, HF.out rfl]
        clear HF HM HT HO HV HR2
        go_wp2_with fail
        obtain ⟨y0, _⟩ := put7_at (HB1.out).z (.slice ar S.R.length cr) (.slice aw S.W.length cw) (.int .i64 (S.q 0 : Nat)) (.int .i64 (S.q 1 : Nat)) (.int .i64 (S.q 2 : Nat)) (.int .i64 (S.q 3 : Nat)) (.slice (some ⟨g, 0, none⟩) 6 6)
        refine bodyPost_ret (results_st rfl _ _ (w.heap.size + 1) _ _ _ _ _ _ _ rfl y0) rfl ?_
        rw [HE.out]
        exact tk_bad (r := (2, _)) HN.out (by simp) (HB1.out) (HT1.out)
      · have hcv : cv = if v ≤ 4294967296 then (v : Int) else -1 := HV.out
        clear HV
        by_cases hv : v ≤ 4294967296
        · rw [if_pos hv] at hcv
          subst hcv
          have p0 : ¬ (v : Int) < 0 := by omega
          have p0' : decide ((v : Int) < 0) = false := decide_eq_false p0
          have hmn : ¬ Pl.mostN 2 < v := by rw [show Pl.mostN 2 = 4294967296 from rfl]; omega
          have sc : wa.cell? ⟨g, 4, none⟩ = some (.bool (S.t 2)) := HA.out.2.2.1.sc 2 (by omega)
          have sf : ∀ j, wa.frozen? ⟨g, j, none⟩ = false := HA.out.2.2.1.sf
          have hg1 : g ≠ w.heap.size := by omega
          have hg2 : w.heap.size ≠ g := by omega
          cases ht : S.t 2
          · have HE : Hid (Pl.lineR S s.data.toList = (0, { S with q := Pl.upd S.q 2 v, t := Pl.upd S.t 2 true })) := by show _ = _; rw [HR2.out, HO.out rfl hmn ht]
            rw [ht] at sc
            obtain ⟨w4, hw4⟩ : ∃ w4, w4 = ((wa.drewN (m + nq)).setCell ⟨g, 4, none⟩ (.bool true)).setCell ⟨w.heap.size, 4, none⟩ (.int .i64 (v : Int)) := ⟨_, rfl⟩
            have HW4 : Hid (w4 = ((wa.drewN (m + nq)).setCell ⟨g, 4, none⟩ (.bool true)).setCell ⟨w.heap.size, 4, none⟩ (.int .i64 (v : Int))) := hw4
            have HA4 : Hid (Bz w.heap.size w4 (.slice ar S.R.length cr) (.slice aw S.W.length cw) (.int .i64 (Pl.upd S.q 2 v 0 : Nat)) (.int .i64 (Pl.upd S.q 2 v 1 : Nat)) (.int .i64 (Pl.upd S.q 2 v 2 : Nat)) (.int .i64 (Pl.upd S.q 2 v 3 : Nat)) (.slice (some ⟨g, 0, none⟩) 6 6) ∧ Rst w4 N g { S with q := Pl.upd S.q 2 v, t := Pl.upd S.t 2 true } (.slice ar S.R.length cr) (.slice aw S.W.length cw) ∧ Tu (fun k => k = g ∨ N ≤ k) w w4) := by
              have k := tk_num HB1.out (HA.out.2.2.1.drewN (m + nq)) HN.out 2 (by omega) v
              rw [hw4]
              exact ⟨k.1, k.2.1, HT1.out.trans k.2.2 (fun k _ e => e)⟩
            clear HF HM HT HO HR2 hmn ht hw4 HA HB1 HT1
            go_upto_region 36 with fail
            rw [← HW4.out]
            clear HW4 sc sf a0 a1 a2 a3 a4 a5 a6 af az0 az1 az2 az3 az4 az5 az6 azf
            obtain ⟨⟨a0, a1, a2, a3, a4, a5, a6⟩, af⟩ := cells_st (HA4.out.1).x
            obtain ⟨⟨az0, az1, az2, az3, az4, az5, az6⟩, azf⟩ := cells_st (show _ = some (stO _ _ _ _ _ _ _) from (HA4.out.1).z)
            go_wp2_with fail
            obtain ⟨y0, _⟩ := put7_at (HA4.out.1).z (.slice ar S.R.length cr) (.slice aw S.W.length cw) (.int .i64 (Pl.upd S.q 2 v 0 : Nat)) (.int .i64 (Pl.upd S.q 2 v 1 : Nat)) (.int .i64 (Pl.upd S.q 2 v 2 : Nat)) (.int .i64 (Pl.upd S.q 2 v 3 : Nat)) (.slice (some ⟨g, 0, none⟩) 6 6)
            refine bodyPost_ret (results_st rfl _ _ (w.heap.size + 1) _ _ _ _ _ _ _ rfl y0) rfl ?_
            rw [HE.out]
            exact tk_ok (S := { S with q := Pl.upd S.q 2 v, t := Pl.upd S.t 2 true }) HN.out HA4.out.1 HA4.out.2.2 HA4.out.2.1
          · have HE : Hid (Pl.lineR S s.data.toList = (4, S)) := by show _ = _; rw [HR2.out, HT.out rfl hmn ht]
            rw [ht] at sc
            clear HF HM HT HO HR2 hmn ht
            go_wp2_with fail
            obtain ⟨y0, _⟩ := put7_at (HB1.out).z (.slice ar S.R.length cr) (.slice aw S.W.length cw) (.int .i64 (S.q 0 : Nat)) (.int .i64 (S.q 1 : Nat)) (.int .i64 (S.q 2 : Nat)) (.int .i64 (S.q 3 : Nat)) (.slice (some ⟨g, 0, none⟩) 6 6)
            refine bodyPost_ret (results_st rfl _ _ (w.heap.size + 1) _ _ _ _ _ _ _ rfl y0) rfl ?_
            rw [HE.out]
            exact tk_bad (r := (4, _)) HN.out (by simp) (HB1.out) (HT1.out)
        · rw [if_neg hv] at hcv
          subst hcv
          have HE : Hid (Pl.lineR S s.data.toList = (3, S)) := by show _ = _; rw [HR2.out, HM.out rfl (by rw [show Pl.mostN 2 = 4294967296 from rfl]; omega)]
          clear HF HM HT HO HR2 hv
          go_wp2_with fail
          obtain ⟨y0, _⟩ := put7_at (HB1.out).z (.slice ar S.R.length cr) (.slice aw S.W.length cw) (.int .i64 (S.q 0 : Nat)) (.int .i64 (S.q 1 : Nat)) (.int .i64 (S.q 2 : Nat)) (.int .i64 (S.q 3 : Nat)) (.slice (some ⟨g, 0, none⟩) 6 6)
          refine bodyPost_ret (results_st rfl _ _ (w.heap.size + 1) _ _ _ _ _ _ _ rfl y0) rfl ?_
          rw [HE.out]
          exact tk_bad (r := (3, _)) HN.out (by simp) (HB1.out) (HT1.out)
end Go.Proofs.YtcloljkaojnipaaGreatDoor
namespace Go.Proofs.YtcloljkaojnipaaGreatDoor
open Go Go.RowKit

set_option maxRecDepth 100000 in
set_option maxHeartbeats 4000000 in
theorem rtake_5 (N g : Nat) (S : Pl.PSt) (vR vW : Value) (s : ByteArray) (w : World) (b0 o0 c0 : Nat) (hw : WT w b0 o0 c0) (h : Rst w N g S vR vW) (hs : s.size ≤ 16777216) (hl : S.R.length ≤ 1024 ∧ S.W.length ≤ 1024) (hno : ∀ k, k < 5 → ¬ (Pl.wd k ++ [32]) <+: s.data.toList) (hp : (Pl.wd 5 ++ [32]) <+: s.data.toList) :
    Calls Tryz.prog 48 #[.agg (stC S vR vW g), .string s] w (TkE w N g (Pl.lineR S s.data.toList)) := by
  obtain ⟨ar, cr, hvR, _⟩ := h.rows.R.row.pts (by omega)
  obtain ⟨aw, cw, hvW, _⟩ := h.rows.W.row.pts (by omega)
  subst hvR hvW
  obtain ⟨wa, hwa⟩ : ∃ wa, wa = (w.alloc (stO (.slice ar S.R.length cr) (.slice aw S.W.length cw) (.int .i64 (S.q 0 : Nat)) (.int .i64 (S.q 1 : Nat)) (.int .i64 (S.q 2 : Nat)) (.int .i64 (S.q 3 : Nat)) (.slice (some ⟨g, 0, none⟩) 6 6))).alloc zSt := ⟨_, rfl⟩
  have hB : Below w.heap.size w wa := by rw [hwa]; exact ((Below.refl _ w).alloc (Nat.le_refl _) _).alloc (by simp) _
  have hZ : Bz w.heap.size wa (.slice ar S.R.length cr) (.slice aw S.W.length cw) (.int .i64 (S.q 0 : Nat)) (.int .i64 (S.q 1 : Nat)) (.int .i64 (S.q 2 : Nat)) (.int .i64 (S.q 3 : Nat)) (.slice (some ⟨g, 0, none⟩) 6 6) := by rw [hwa]; exact bz_new w _ _ _ _ _ _ _
  have HW : Hid (wa = (w.alloc (stO (.slice ar S.R.length cr) (.slice aw S.W.length cw) (.int .i64 (S.q 0 : Nat)) (.int .i64 (S.q 1 : Nat)) (.int .i64 (S.q 2 : Nat)) (.int .i64 (S.q 3 : Nat)) (.slice (some ⟨g, 0, none⟩) 6 6))).alloc zSt) := hwa
  have HA : Hid (Below w.heap.size w wa ∧ Bz w.heap.size wa (.slice ar S.R.length cr) (.slice aw S.W.length cw) (.int .i64 (S.q 0 : Nat)) (.int .i64 (S.q 1 : Nat)) (.int .i64 (S.q 2 : Nat)) (.int .i64 (S.q 3 : Nat)) (.slice (some ⟨g, 0, none⟩) 6 6) ∧ Rst wa N g S (.slice ar S.R.length cr) (.slice aw S.W.length cw) ∧ WT wa b0 o0 c0 ∧ N ≤ w.heap.size) := ⟨hB, hZ, h.below hB, hw.below hB, h.NN⟩
  have HNo : Hid (∀ k, k < 5 → ¬ (Pl.wd k ++ [32]) <+: s.data.toList) := hno
  have hgn : g < w.heap.size := Nat.lt_of_lt_of_le h.gN h.NN
  have hR0 := Pl.rest_is hp
  have HR : Hid (Pl.lineR S s.data.toList = Pl.actR S 5 (s.extract 5 s.size).data.toList) := by
    show _ = _
    rw [hR0, Pl.line_word (by omega)]
    rfl
  have HY := Pl.pre_yes hp
  have hL5 : 5 ≤ s.size := HY.1
  have HYb : Hid (((s.extract 0 (Ln.bs (Pl.wd 5 ++ [32])).size).toList == (Ln.bs (Pl.wd 5 ++ [32])).toList) = true) := HY.2
  clear hR0 HY hp
  have HN : Hid (N ≤ w.heap.size) := h.NN
  have hx0 : (s.extract 5 s.size).size ≤ 16777216 := by rw [ByteArray.size_extract]; omega
  have HC : Hid (∀ w1, Calls Tryz.prog 78 #[.string (s.extract 5 s.size)] w1 fun e w' => e = .returned (.tuple #[.int .i64 (if Pl.isNum (s.extract 5 s.size).data.toList = true then Pl.cntV (s.extract 5 s.size).data.toList else 0), .bool (Pl.isNum (s.extract 5 s.size).data.toList)]) ∧ w1 = w') := fun w1 => rcount_any _ w1 hx0
  have HR2 : Hid (Pl.lineR S s.data.toList = Pl.numR S 3 (s.extract 5 s.size).data.toList) := HR.out
  clear HR
  have HF : Hid (_ → _) := Pl.numR_form (S := S) (i := 3) (l := (s.extract 5 s.size).data.toList)
  have HM : Hid (_ → _ → _) := Pl.numR_most (S := S) (i := 3) (l := (s.extract 5 s.size).data.toList)
  have HT : Hid (_ → _ → _ → _) := Pl.numR_twice (S := S) (i := 3) (l := (s.extract 5 s.size).data.toList)
  have HO : Hid (_ → _ → _ → _) := Pl.numR_ok (S := S) (i := 3) (l := (s.extract 5 s.size).data.toList)
  have HV : Hid (Pl.cntV (s.extract 5 s.size).data.toList = if Pl.valN (s.extract 5 s.size).data.toList ≤ 4294967296 then (Pl.valN (s.extract 5 s.size).data.toList : Int) else -1) := rfl
  generalize hxs : s.extract 5 s.size = x at HC HR2 HF HM HT HO HV hx0
  have HXS : Hid (s.extract 5 s.size = x) := hxs
  clear hxs
  generalize Pl.numR S 3 x.data.toList = Z at *
  generalize Pl.cntV x.data.toList = cv at *
  generalize Pl.valN x.data.toList = v at *
  generalize Pl.isNum x.data.toList = nb at *
  clear hwa hB hZ hw h hno
  simp only [zSt, stO] at HW
  go_enter Tryz.func48, Tryz.ntmps48
  go_upto_region 1 with fail
  rw [← HW.out]
  clear HW
  go_wp2_with fail
  go_loopw [6] (fun kv wr => ∃ k m : Nat, k ≤ 5 ∧ kv = .int .i64 (k : Int) ∧ wr = wa.drewN m) (fun kv _ => 6 - (intOf kv).toNat)
  case atStart => exact ⟨0, 0, Nat.zero_le _, rfl, rfl⟩
  case round =>
    obtain ⟨k, m, hk, rfl, rfl⟩ := hrel
    have v0 : wa.cell? ⟨0, 0, none⟩ = some (.slice (some ⟨b0, o0, none⟩) 6 c0) := HA.out.2.2.2.1.v
    by_cases hlt : k < 5
    · have hk6 : k < 6 := by omega
      have c1 : wa.cell? ⟨b0, o0 + k, none⟩ = some (.string (Ln.bs (Pl.wd k ++ [32]))) := HA.out.2.2.2.1.c k hk6
      have n1 : ((s.extract 0 (Ln.bs (Pl.wd k ++ [32])).size).toList == (Ln.bs (Pl.wd k ++ [32])).toList) = false := by rw [Ln.bs_size]; exact Pl.pre_no (HNo.out k hlt)
      generalize Ln.bs (Pl.wd k ++ [32]) = wk at *
      have i1 : (k : Int) < 6 := by omega
      have d1 : decide ((k : Int) < 6) = true := decide_eq_true i1
      by_cases hz : s.size < wk.size
      · have e1 : decide ((s.size : Int) < (wk.size : Int)) = true := decide_eq_true (by omega)
        go_wp2_with fail
        go_quiet (fail)
        go_wp2_with fail
        go_roundw
        case rel => exact ⟨k + 1, m + nq, by omega, by go_num, by first | rfl | simp⟩
        case measure => simp [intOf]; omega
      · have e1 : decide ((s.size : Int) < (wk.size : Int)) = false := decide_eq_false (by omega)
        have e2 : (wk.size : Int) ≤ (s.size : Int) := by omega
        go_wp2_with fail
        go_quiet (fail)
        go_wp2_with fail
        go_roundw
        case rel => exact ⟨k + 1, m + nq, by omega, by go_num, by first | rfl | simp⟩
        case measure => simp [intOf]; omega
    · obtain rfl : k = 5 := by omega
      clear hlt hk
      have c1 : wa.cell? ⟨b0, o0 + 5, none⟩ = some (.string (Ln.bs (Pl.wd 5 ++ [32]))) := HA.out.2.2.2.1.c 5 (by omega)
      have hsz : (Ln.bs (Pl.wd 5 ++ [32])).size = 5 := rfl
      have n1 := HYb.out
      generalize Ln.bs (Pl.wd 5 ++ [32]) = wk at *
      rw [hsz] at n1
      have e1 : decide ((s.size : Int) < 5) = false := decide_eq_false (by omega)
      have e2 : (5 : Int) ≤ (s.size : Int) := by omega
      go_wp2_with fail
      go_quiet (fail)
      go_wp2_with fail
      rw [HXS.out]
      refine (HC.out _).mono ?_
      rintro e w1 ⟨rfl, rfl⟩
      have HT1 : Hid (Tu (fun k => k = g ∨ N ≤ k) w (wa.drewN (m + nq))) := (Tu.of_below HA.out.1).drewN _
      have HB1 : Hid (Bz w.heap.size (wa.drewN (m + nq)) (.slice ar S.R.length cr) (.slice aw S.W.length cw) (.int .i64 (S.q 0 : Nat)) (.int .i64 (S.q 1 : Nat)) (.int .i64 (S.q 2 : Nat)) (.int .i64 (S.q 3 : Nat)) (.slice (some ⟨g, 0, none⟩) 6 6)) := HA.out.2.1.drewN _
      clear HXS c1 v0 n1 hsz e1 e2 HC
      obtain ⟨⟨a0, a1, a2, a3, a4, a5, a6⟩, af⟩ := cells_st (HA.out.2.1).x
      obtain ⟨⟨az0, az1, az2, az3, az4, az5, az6⟩, azf⟩ := cells_st (show _ = some (stO _ _ _ _ _ _ _) from (HA.out.2.1).z)
      cases nb
      · have HE : Hid (Pl.lineR S s.data.toList = (2, S)) := by show _ = _; rw [HR2.out, HF.out rfl]
        clear HF HM HT HO HV HR2
        go_wp2_with fail
        obtain ⟨y0, _⟩ := put7_at (HB1.out).z (.slice ar S.R.length cr) (.slice aw S.W.length cw) (.int .i64 (S.q 0 : Nat)) (.int .i64 (S.q 1 : Nat)) (.int .i64 (S.q 2 : Nat)) (.int .i64 (S.q 3 : Nat)) (.slice (some ⟨g, 0, none⟩) 6 6)
        refine bodyPost_ret (results_st rfl _ _ (w.heap.size + 1) _ _ _ _ _ _ _ rfl y0) rfl ?_
        rw [HE.out]
        exact tk_bad (r := (2, _)) HN.out (by simp) (HB1.out) (HT1.out)
      · have hcv : cv = if v ≤ 4294967296 then (v : Int) else -1 := HV.out
        clear HV
        by_cases hv : v ≤ 4294967296
        · rw [if_pos hv] at hcv
          subst hcv
          have p0 : ¬ (v : Int) < 0 := by omega
          have p0' : decide ((v : Int) < 0) = false := decide_eq_false p0
          have hmn : ¬ Pl.mostN 3 < v := by rw [show Pl.mostN 3 = 4294967296 from rfl]; omega
          have sc : wa.cell? ⟨g, 5, none⟩ = some (.bool (S.t 3)) := HA.out.2.2.1.sc 3 (by omega)
          have sf : ∀ j, wa.frozen? ⟨g, j, none⟩ = false := HA.out.2.2.1.sf
          have hg1 : g ≠ w.heap.size := by omega
          have hg2 : w.heap.size ≠ g := by omega
          cases ht : S.t 3
          · have HE : Hid (Pl.lineR S s.data.toList = (0, { S with q := Pl.upd S.q 3 v, t := Pl.upd S.t 3 true })) := by show _ = _; rw [HR2.out, HO.out rfl hmn ht]
            rw [ht] at sc
            obtain ⟨w4, hw4⟩ : ∃ w4, w4 = ((wa.drewN (m + nq)).setCell ⟨g, 5, none⟩ (.bool true)).setCell ⟨w.heap.size, 5, none⟩ (.int .i64 (v : Int)) := ⟨_, rfl⟩
            have HW4 : Hid (w4 = ((wa.drewN (m + nq)).setCell ⟨g, 5, none⟩ (.bool true)).setCell ⟨w.heap.size, 5, none⟩ (.int .i64 (v : Int))) := hw4
            have HA4 : Hid (Bz w.heap.size w4 (.slice ar S.R.length cr) (.slice aw S.W.length cw) (.int .i64 (Pl.upd S.q 3 v 0 : Nat)) (.int .i64 (Pl.upd S.q 3 v 1 : Nat)) (.int .i64 (Pl.upd S.q 3 v 2 : Nat)) (.int .i64 (Pl.upd S.q 3 v 3 : Nat)) (.slice (some ⟨g, 0, none⟩) 6 6) ∧ Rst w4 N g { S with q := Pl.upd S.q 3 v, t := Pl.upd S.t 3 true } (.slice ar S.R.length cr) (.slice aw S.W.length cw) ∧ Tu (fun k => k = g ∨ N ≤ k) w w4) := by
              have k := tk_num HB1.out (HA.out.2.2.1.drewN (m + nq)) HN.out 3 (by omega) v
              rw [hw4]
              exact ⟨k.1, k.2.1, HT1.out.trans k.2.2 (fun k _ e => e)⟩
            clear HF HM HT HO HR2 hmn ht hw4 HA HB1 HT1
            go_upto_region 36 with fail
            rw [← HW4.out]
            clear HW4 sc sf a0 a1 a2 a3 a4 a5 a6 af az0 az1 az2 az3 az4 az5 az6 azf
            obtain ⟨⟨a0, a1, a2, a3, a4, a5, a6⟩, af⟩ := cells_st (HA4.out.1).x
            obtain ⟨⟨az0, az1, az2, az3, az4, az5, az6⟩, azf⟩ := cells_st (show _ = some (stO _ _ _ _ _ _ _) from (HA4.out.1).z)
            go_wp2_with fail
            obtain ⟨y0, _⟩ := put7_at (HA4.out.1).z (.slice ar S.R.length cr) (.slice aw S.W.length cw) (.int .i64 (Pl.upd S.q 3 v 0 : Nat)) (.int .i64 (Pl.upd S.q 3 v 1 : Nat)) (.int .i64 (Pl.upd S.q 3 v 2 : Nat)) (.int .i64 (Pl.upd S.q 3 v 3 : Nat)) (.slice (some ⟨g, 0, none⟩) 6 6)
            refine bodyPost_ret (results_st rfl _ _ (w.heap.size + 1) _ _ _ _ _ _ _ rfl y0) rfl ?_
            rw [HE.out]
            exact tk_ok (S := { S with q := Pl.upd S.q 3 v, t := Pl.upd S.t 3 true }) HN.out HA4.out.1 HA4.out.2.2 HA4.out.2.1
          · have HE : Hid (Pl.lineR S s.data.toList = (4, S)) := by show _ = _; rw [HR2.out, HT.out rfl hmn ht]
            rw [ht] at sc
            clear HF HM HT HO HR2 hmn ht
            go_wp2_with fail
            obtain ⟨y0, _⟩ := put7_at (HB1.out).z (.slice ar S.R.length cr) (.slice aw S.W.length cw) (.int .i64 (S.q 0 : Nat)) (.int .i64 (S.q 1 : Nat)) (.int .i64 (S.q 2 : Nat)) (.int .i64 (S.q 3 : Nat)) (.slice (some ⟨g, 0, none⟩) 6 6)
            refine bodyPost_ret (results_st rfl _ _ (w.heap.size + 1) _ _ _ _ _ _ _ rfl y0) rfl ?_
            rw [HE.out]
            exact tk_bad (r := (4, _)) HN.out (by simp) (HB1.out) (HT1.out)
        · rw [if_neg hv] at hcv
          subst hcv
          have HE : Hid (Pl.lineR S s.data.toList = (3, S)) := by show _ = _; rw [HR2.out, HM.out rfl (by rw [show Pl.mostN 3 = 4294967296 from rfl]; omega)]
          clear HF HM HT HO HR2 hv
          go_wp2_with fail
          obtain ⟨y0, _⟩ := put7_at (HB1.out).z (.slice ar S.R.length cr) (.slice aw S.W.length cw) (.int .i64 (S.q 0 : Nat)) (.int .i64 (S.q 1 : Nat)) (.int .i64 (S.q 2 : Nat)) (.int .i64 (S.q 3 : Nat)) (.slice (some ⟨g, 0, none⟩) 6 6)
          refine bodyPost_ret (results_st rfl _ _ (w.heap.size + 1) _ _ _ _ _ _ _ rfl y0) rfl ?_
          rw [HE.out]
          exact tk_bad (r := (3, _)) HN.out (by simp) (HB1.out) (HT1.out)
end Go.Proofs.YtcloljkaojnipaaGreatDoor
namespace Go.Proofs.YtcloljkaojnipaaGreatDoor
open Go Go.RowKit

theorem rtake_any (N g : Nat) (S : Pl.PSt) (vR vW : Value) (s : ByteArray) (w : World) (b0 o0 c0 : Nat) (hw : WT w b0 o0 c0) (h : Rst w N g S vR vW) (hs : s.size ≤ 16777216) (hl : S.R.length ≤ 1024 ∧ S.W.length ≤ 1024) :
    Calls Tryz.prog 48 #[.agg (stC S vR vW g), .string s] w (TkE w N g (Pl.lineR S s.data.toList)) := by
  have step : ∀ (K : Nat), (∀ k, k < K → ¬ (Pl.wd k ++ [32]) <+: s.data.toList) → ¬ (Pl.wd K ++ [32]) <+: s.data.toList → ∀ k, k < K + 1 → ¬ (Pl.wd k ++ [32]) <+: s.data.toList := fun K h1 h2 k hk => by
    rcases Nat.lt_or_ge k K with q | q
    · exact h1 k q
    · obtain rfl : k = K := by omega
      exact h2
  have n0 : ∀ k, k < 0 → ¬ (Pl.wd k ++ [32]) <+: s.data.toList := fun k hk => absurd hk (by omega)
  by_cases p0 : (Pl.wd 0 ++ [32]) <+: s.data.toList
  · exact rtake_0 N g S vR vW s w b0 o0 c0 hw h hs hl n0 p0
  have n1 := step 0 n0 p0
  by_cases p1 : (Pl.wd 1 ++ [32]) <+: s.data.toList
  · exact rtake_1 N g S vR vW s w b0 o0 c0 hw h hs hl n1 p1
  have n2 := step 1 n1 p1
  by_cases p2 : (Pl.wd 2 ++ [32]) <+: s.data.toList
  · exact rtake_2 N g S vR vW s w b0 o0 c0 hw h hs hl n2 p2
  have n3 := step 2 n2 p2
  by_cases p3 : (Pl.wd 3 ++ [32]) <+: s.data.toList
  · exact rtake_3 N g S vR vW s w b0 o0 c0 hw h hs hl n3 p3
  have n4 := step 3 n3 p3
  by_cases p4 : (Pl.wd 4 ++ [32]) <+: s.data.toList
  · exact rtake_4 N g S vR vW s w b0 o0 c0 hw h hs hl n4 p4
  have n5 := step 4 n4 p4
  by_cases p5 : (Pl.wd 5 ++ [32]) <+: s.data.toList
  · exact rtake_5 N g S vR vW s w b0 o0 c0 hw h hs hl n5 p5
  exact rtake_none N g S vR vW s w b0 o0 c0 hw h hs hl (step 5 n5 p5)
end Go.Proofs.YtcloljkaojnipaaGreatDoor
