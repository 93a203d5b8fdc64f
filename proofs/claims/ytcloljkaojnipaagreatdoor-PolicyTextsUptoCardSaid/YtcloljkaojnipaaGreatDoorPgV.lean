/- What the reference's take does with a line that begins with no word. What the reference's take does with a line that begins with read. What the reference's take does with a line that begins with write. What the reference's take does with a line that begins with fuel. -/
import Derived.Test.YtcloljkaojnipaaGreatDoorPgU
namespace Go.Proofs.YtcloljkaojnipaaGreatDoor
open Go Go.RowKit

set_option maxRecDepth 100000 in
set_option maxHeartbeats 4000000 in
theorem rtake_none (N g : Nat) (S : Pl.PSt) (vR vW : Value) (s : ByteArray) (w : World) (b0 o0 c0 : Nat) (hw : WT w b0 o0 c0) (h : Rst w N g S vR vW) (_hs : s.size ≤ 16777216) (hl : S.R.length ≤ 1024 ∧ S.W.length ≤ 1024) (hno : ∀ k, k < 6 → ¬ (Pl.wd k ++ [32]) <+: s.data.toList) :
    Calls Tryz.prog 48 #[.agg (stC S vR vW g), .string s] w (TkE w N g (Pl.lineR S s.data.toList)) := by
  obtain ⟨ar, cr, hvR, _⟩ := h.rows.R.row.pts (by omega)
  obtain ⟨aw, cw, hvW, _⟩ := h.rows.W.row.pts (by omega)
  subst hvR hvW
  obtain ⟨wa, hwa⟩ : ∃ wa, wa = (w.alloc (stO (.slice ar S.R.length cr) (.slice aw S.W.length cw) (.int .i64 (S.q 0 : Nat)) (.int .i64 (S.q 1 : Nat)) (.int .i64 (S.q 2 : Nat)) (.int .i64 (S.q 3 : Nat)) (.slice (some ⟨g, 0, none⟩) 6 6))).alloc zSt := ⟨_, rfl⟩
  have hB : Below w.heap.size w wa := by rw [hwa]; exact ((Below.refl _ w).alloc (Nat.le_refl _) _).alloc (by simp) _
  have hZ : Bz w.heap.size wa (.slice ar S.R.length cr) (.slice aw S.W.length cw) (.int .i64 (S.q 0 : Nat)) (.int .i64 (S.q 1 : Nat)) (.int .i64 (S.q 2 : Nat)) (.int .i64 (S.q 3 : Nat)) (.slice (some ⟨g, 0, none⟩) 6 6) := by rw [hwa]; exact bz_new w _ _ _ _ _ _ _
  have HW : Hid (wa = (w.alloc (stO (.slice ar S.R.length cr) (.slice aw S.W.length cw) (.int .i64 (S.q 0 : Nat)) (.int .i64 (S.q 1 : Nat)) (.int .i64 (S.q 2 : Nat)) (.int .i64 (S.q 3 : Nat)) (.slice (some ⟨g, 0, none⟩) 6 6))).alloc zSt) := hwa
  have HA : Hid (Below w.heap.size w wa ∧ Bz w.heap.size wa (.slice ar S.R.length cr) (.slice aw S.W.length cw) (.int .i64 (S.q 0 : Nat)) (.int .i64 (S.q 1 : Nat)) (.int .i64 (S.q 2 : Nat)) (.int .i64 (S.q 3 : Nat)) (.slice (some ⟨g, 0, none⟩) 6 6) ∧ Rst wa N g S (.slice ar S.R.length cr) (.slice aw S.W.length cw) ∧ WT wa b0 o0 c0 ∧ N ≤ w.heap.size) := ⟨hB, hZ, h.below hB, hw.below hB, h.NN⟩
  have HNo : Hid (∀ k, k < 6 → ¬ (Pl.wd k ++ [32]) <+: s.data.toList) := hno
  have hgn : g < w.heap.size := Nat.lt_of_lt_of_le h.gN h.NN
  have HR : Hid (Pl.lineR S s.data.toList = (1, S)) := Pl.line_none hno
  have HN : Hid (N ≤ w.heap.size) := h.NN
  clear hwa hB hZ hw h hno
  simp only [zSt, stO] at HW
  go_enter Tryz.func48, Tryz.ntmps48
  go_upto_region 1 with fail
  rw [← HW.out]
  clear HW
  go_wp2_with fail
  go_loopw [6] (fun kv wr => ∃ k m : Nat, k ≤ 6 ∧ kv = .int .i64 (k : Int) ∧ wr = wa.drewN m) (fun kv _ => 6 - (intOf kv).toNat)
  case atStart => exact ⟨0, 0, Nat.zero_le _, rfl, rfl⟩
  case round =>
    obtain ⟨k, m, hk, rfl, rfl⟩ := hrel
    have v0 : wa.cell? ⟨0, 0, none⟩ = some (.slice (some ⟨b0, o0, none⟩) 6 c0) := HA.out.2.2.2.1.v
    by_cases hlt : k < 6
    · have hk6 : k < 6 := by omega
      have c1 : wa.cell? ⟨b0, o0 + k, none⟩ = some (.string (Ln.bs (Pl.wd k ++ [32]))) := HA.out.2.2.2.1.c k hk6
      have n1 : ((s.extract 0 (Ln.bs (Pl.wd k ++ [32])).size).toList == (Ln.bs (Pl.wd k ++ [32])).toList) = false := by rw [Ln.bs_size]; exact Pl.pre_no (HNo.out k hlt)
      generalize Ln.bs (Pl.wd k ++ [32]) = wk at *
      have i1 : (k : Int) < 6 := by omega
      have d1 : decide ((k : Int) < 6) = true := decide_eq_true i1
      by_cases hz : s.size < wk.size
      · have e1 : decide ((s.size : Int) < (wk.size : Int)) = true := decide_eq_true (by omega)
        go_wp2_with fail
        go_quiet (fail)
        go_wp2_with fail
        go_roundw
        case rel => exact ⟨k + 1, m + nq, by omega, by go_num, by first | rfl | simp⟩
        case measure => simp [intOf]; omega
      · have e1 : decide ((s.size : Int) < (wk.size : Int)) = false := decide_eq_false (by omega)
        have e2 : (wk.size : Int) ≤ (s.size : Int) := by omega
        go_wp2_with fail
        go_quiet (fail)
        go_wp2_with fail
        go_roundw
        case rel => exact ⟨k + 1, m + nq, by omega, by go_num, by first | rfl | simp⟩
        case measure => simp [intOf]; omega
    · obtain rfl : k = 6 := by omega
      clear hlt hk
      have d1 : decide ((6 : Int) < 6) = false := rfl
      go_wp2_with fail
      go_quiet (fail)
      have HT : Hid (Tu (fun k => k = g ∨ N ≤ k) w (wa.drewN (m + nq))) := (Tu.of_below HA.out.1).drewN _
      have HBz : Hid (Bz w.heap.size (wa.drewN (m + nq)) (.slice ar S.R.length cr) (.slice aw S.W.length cw) (.int .i64 (S.q 0 : Nat)) (.int .i64 (S.q 1 : Nat)) (.int .i64 (S.q 2 : Nat)) (.int .i64 (S.q 3 : Nat)) (.slice (some ⟨g, 0, none⟩) 6 6)) := HA.out.2.1.drewN _
      obtain ⟨⟨a0, a1, a2, a3, a4, a5, a6⟩, af⟩ := cells_st (HA.out.2.1).x
      obtain ⟨⟨az0, az1, az2, az3, az4, az5, az6⟩, azf⟩ := cells_st (show _ = some (stO _ _ _ _ _ _ _) from (HA.out.2.1).z)
      go_wp2_with fail
      obtain ⟨y0, _⟩ := put7_at (HBz.out).z (.slice ar S.R.length cr) (.slice aw S.W.length cw) (.int .i64 (S.q 0 : Nat)) (.int .i64 (S.q 1 : Nat)) (.int .i64 (S.q 2 : Nat)) (.int .i64 (S.q 3 : Nat)) (.slice (some ⟨g, 0, none⟩) 6 6)
      refine bodyPost_ret (results_st rfl _ _ (w.heap.size + 1) _ _ _ _ _ _ _ rfl y0) rfl ?_
      rw [HR.out]
      exact tk_bad (r := (1, _)) HN.out (by simp) (HBz.out) (HT.out)
end Go.Proofs.YtcloljkaojnipaaGreatDoor
namespace Go.Proofs.YtcloljkaojnipaaGreatDoor
open Go Go.RowKit

set_option maxRecDepth 100000 in
set_option maxHeartbeats 4000000 in
theorem rtake_0 (N g : Nat) (S : Pl.PSt) (vR vW : Value) (s : ByteArray) (w : World) (b0 o0 c0 : Nat) (hw : WT w b0 o0 c0) (h : Rst w N g S vR vW) (hs : s.size ≤ 16777216) (hl : S.R.length ≤ 1024 ∧ S.W.length ≤ 1024) (hno : ∀ k, k < 0 → ¬ (Pl.wd k ++ [32]) <+: s.data.toList) (hp : (Pl.wd 0 ++ [32]) <+: s.data.toList) :
    Calls Tryz.prog 48 #[.agg (stC S vR vW g), .string s] w (TkE w N g (Pl.lineR S s.data.toList)) := by
  obtain ⟨ar, cr, hvR, _⟩ := h.rows.R.row.pts (by omega)
  obtain ⟨aw, cw, hvW, _⟩ := h.rows.W.row.pts (by omega)
  subst hvR hvW
  obtain ⟨wa, hwa⟩ : ∃ wa, wa = (w.alloc (stO (.slice ar S.R.length cr) (.slice aw S.W.length cw) (.int .i64 (S.q 0 : Nat)) (.int .i64 (S.q 1 : Nat)) (.int .i64 (S.q 2 : Nat)) (.int .i64 (S.q 3 : Nat)) (.slice (some ⟨g, 0, none⟩) 6 6))).alloc zSt := ⟨_, rfl⟩
  have hB : Below w.heap.size w wa := by rw [hwa]; exact ((Below.refl _ w).alloc (Nat.le_refl _) _).alloc (by simp) _
  have hZ : Bz w.heap.size wa (.slice ar S.R.length cr) (.slice aw S.W.length cw) (.int .i64 (S.q 0 : Nat)) (.int .i64 (S.q 1 : Nat)) (.int .i64 (S.q 2 : Nat)) (.int .i64 (S.q 3 : Nat)) (.slice (some ⟨g, 0, none⟩) 6 6) := by rw [hwa]; exact bz_new w _ _ _ _ _ _ _
  have HW : Hid (wa = (w.alloc (stO (.slice ar S.R.length cr) (.slice aw S.W.length cw) (.int .i64 (S.q 0 : Nat)) (.int .i64 (S.q 1 : Nat)) (.int .i64 (S.q 2 : Nat)) (.int .i64 (S.q 3 : Nat)) (.slice (some ⟨g, 0, none⟩) 6 6))).alloc zSt) := hwa
  have HA : Hid (Below w.heap.size w wa ∧ Bz w.heap.size wa (.slice ar S.R.length cr) (.slice aw S.W.length cw) (.int .i64 (S.q 0 : Nat)) (.int .i64 (S.q 1 : Nat)) (.int .i64 (S.q 2 : Nat)) (.int .i64 (S.q 3 : Nat)) (.slice (some ⟨g, 0, none⟩) 6 6) ∧ Rst wa N g S (.slice ar S.R.length cr) (.slice aw S.W.length cw) ∧ WT wa b0 o0 c0 ∧ N ≤ w.heap.size) := ⟨hB, hZ, h.below hB, hw.below hB, h.NN⟩
  have HNo : Hid (∀ k, k < 0 → ¬ (Pl.wd k ++ [32]) <+: s.data.toList) := hno
  have hgn : g < w.heap.size := Nat.lt_of_lt_of_le h.gN h.NN
  have hR0 := Pl.rest_is hp
  have HR : Hid (Pl.lineR S s.data.toList = Pl.actR S 0 (s.extract 5 s.size).data.toList) := by
    show _ = _
    rw [hR0, Pl.line_word (by omega)]
    rfl
  have HY := Pl.pre_yes hp
  have hL5 : 5 ≤ s.size := HY.1
  have HYb : Hid (((s.extract 0 (Ln.bs (Pl.wd 0 ++ [32])).size).toList == (Ln.bs (Pl.wd 0 ++ [32])).toList) = true) := HY.2
  clear hR0 HY hp
  have HN : Hid (N ≤ w.heap.size) := h.NN
  obtain ⟨i0, hi0, hz0, hz1, hz2⟩ := info_parts Tryz.infoPath
  have hx0 : (s.extract 5 s.size).size ≤ 16777216 := by rw [ByteArray.size_extract]; omega
  have HU : Hid (∀ w1, Calls Tryz.prog 76 #[.string (s.extract 5 s.size)] w1 fun e w' => e = .returned (.tuple #[.string (Ln.bs (Ln.unqP (s.extract 5 s.size)).1), .int .i64 ((Ln.unqP (s.extract 5 s.size)).2.1 : Nat), .int .i64 (Ln.unqP (s.extract 5 s.size)).2.2.1, .int .i64 ((Ln.unqP (s.extract 5 s.size)).2.2.2 : Nat)]) ∧ Below w1.heap.size w1 w') := fun w1 => runq_any _ w1 hx0
  have hul := Ln.unqP_len (s.extract 5 s.size)
  have hun := Ln.unqP_le (s.extract 5 s.size)
  have HR2 : Hid (Pl.lineR S s.data.toList = ((Pl.pathR S.R (s.extract 5 s.size)).1, { S with R := (Pl.pathR S.R (s.extract 5 s.size)).2 })) := by
    show _ = _
    rw [HR.out]
    show ((Pl.pathR S.R (Ln.bs (s.extract 5 s.size).data.toList)).1, _) = _
    rw [Ln.bs_data]
  clear HR
  have HF : Hid (_ → _) := Pl.pathR_form (l := S.R) (s := s.extract 5 s.size)
  have HP : Hid (_ → _ → _) := Pl.pathR_path (l := S.R) (s := s.extract 5 s.size)
  have HM : Hid (_ → _ → _ → _) := Pl.pathR_many (l := S.R) (s := s.extract 5 s.size)
  have HO : Hid (_ → _ → _ → _) := Pl.pathR_ok (l := S.R) (s := s.extract 5 s.size)
  generalize hxs : s.extract 5 s.size = x at HU hul hun HR2 HF HP HM HO hx0
  have HXS : Hid (s.extract 5 s.size = x) := hxs
  clear hxs
  generalize Ln.unqP x = U at *
  obtain ⟨u, nn, why, at0⟩ := U
  simp only at HU hul hun HF HP HM HO
  clear hwa hB hZ hw h hno
  simp only [zSt, stO] at HW
  go_enter Tryz.func48, Tryz.ntmps48
  go_upto_region 1 with fail
  rw [← HW.out]
  clear HW
  go_wp2_with fail
  go_loopw [6] (fun kv wr => ∃ k m : Nat, k ≤ 0 ∧ kv = .int .i64 (k : Int) ∧ wr = wa.drewN m) (fun kv _ => 6 - (intOf kv).toNat)
  case atStart => exact ⟨0, 0, Nat.zero_le _, rfl, rfl⟩
  case round =>
    obtain ⟨k, m, hk, rfl, rfl⟩ := hrel
    have v0 : wa.cell? ⟨0, 0, none⟩ = some (.slice (some ⟨b0, o0, none⟩) 6 c0) := HA.out.2.2.2.1.v
    by_cases hlt : k < 0
    · have hk6 : k < 6 := by omega
      have c1 : wa.cell? ⟨b0, o0 + k, none⟩ = some (.string (Ln.bs (Pl.wd k ++ [32]))) := HA.out.2.2.2.1.c k hk6
      have n1 : ((s.extract 0 (Ln.bs (Pl.wd k ++ [32])).size).toList == (Ln.bs (Pl.wd k ++ [32])).toList) = false := by rw [Ln.bs_size]; exact Pl.pre_no (HNo.out k hlt)
      generalize Ln.bs (Pl.wd k ++ [32]) = wk at *
      have i1 : (k : Int) < 6 := by omega
      have d1 : decide ((k : Int) < 6) = true := decide_eq_true i1
      by_cases hz : s.size < wk.size
      · have e1 : decide ((s.size : Int) < (wk.size : Int)) = true := decide_eq_true (by omega)
        go_wp2_with fail
        go_quiet (fail)
        go_wp2_with fail
        go_roundw
        case rel => exact ⟨k + 1, m + nq, by omega, by go_num, by first | rfl | simp⟩
        case measure => simp [intOf]; omega
      · have e1 : decide ((s.size : Int) < (wk.size : Int)) = false := decide_eq_false (by omega)
        have e2 : (wk.size : Int) ≤ (s.size : Int) := by omega
        go_wp2_with fail
        go_quiet (fail)
        go_wp2_with fail
        go_roundw
        case rel => exact ⟨k + 1, m + nq, by omega, by go_num, by first | rfl | simp⟩
        case measure => simp [intOf]; omega
    · obtain rfl : k = 0 := by omega
      clear hlt hk
      have c1 : wa.cell? ⟨b0, o0, none⟩ = some (.string (Ln.bs (Pl.wd 0 ++ [32]))) := HA.out.2.2.2.1.c 0 (by omega)
      have hsz : (Ln.bs (Pl.wd 0 ++ [32])).size = 5 := rfl
      have n1 := HYb.out
      generalize Ln.bs (Pl.wd 0 ++ [32]) = wk at *
      rw [hsz] at n1
      have e1 : decide ((s.size : Int) < 5) = false := decide_eq_false (by omega)
      have e2 : (5 : Int) ≤ (s.size : Int) := by omega
      go_wp2_with fail
      go_quiet (fail)
      go_wp2_with fail
      rw [HXS.out]
      refine (HU.out _).mono ?_
      rintro e w1 ⟨rfl, hb1⟩
      have hB1 : Below (wa.drewN (m + nq)).heap.size (wa.drewN (m + nq)) w1 := hb1
      have HA1 : Hid (Tu (fun k => k = g ∨ N ≤ k) w w1 ∧ Bz w.heap.size w1 (.slice ar S.R.length cr) (.slice aw S.W.length cw) (.int .i64 (S.q 0 : Nat)) (.int .i64 (S.q 1 : Nat)) (.int .i64 (S.q 2 : Nat)) (.int .i64 (S.q 3 : Nat)) (.slice (some ⟨g, 0, none⟩) 6 6) ∧ Rst w1 N g S (.slice ar S.R.length cr) (.slice aw S.W.length cw)) := ⟨((Tu.of_below HA.out.1).drewN _).trans (Tu.of_below (O := fun k => k = g ∨ N ≤ k) hB1) (fun k _ e => e), (HA.out.2.1.drewN _).under hB1, (HA.out.2.2.1.drewN _).below hB1⟩
      clear HA hb1 hB1 HXS c1 v0 n1 hsz e1 e2 HU
      obtain ⟨⟨a0, a1, a2, a3, a4, a5, a6⟩, af⟩ := cells_st (HA1.out.2.1).x
      obtain ⟨⟨az0, az1, az2, az3, az4, az5, az6⟩, azf⟩ := cells_st (show _ = some (stO _ _ _ _ _ _ _) from (HA1.out.2.1).z)
      by_cases c1 : why = 0
      · subst c1
        by_cases c2 : nn = x.size
        · have d2 : ((nn : Int) != (x.size : Int)) = false := by rw [c2]; simp
          have G1 : Hid (¬ (¬ (0 : Int) = 0 ∨ nn < x.size)) := by unfold Hid; omega
          have HH : Hid ((Ln.bs u).data.toList.head? = u.head?) := rfl
          have hub : (Ln.bs u).size ≤ 16777216 := by rw [Ln.bs_size]; omega
          have HNo2 : Hid (∀ w1, Calls Tryz.prog 77 #[.slice none 0 0, .string (Ln.bs u)] w1 fun e w' => ∃ a c, e = .returned (.tuple #[.slice a (Pl.normalP [] (Ln.bs u)).1.length c, .bool (Pl.normalP [] (Ln.bs u)).2.1, .int .i64 (Pl.normalP [] (Ln.bs u)).2.2]) ∧ Strs w' a c (Pl.normalP [] (Ln.bs u)).1 ∧ (∀ ad : Addr, a = some ad → w1.heap.size ≤ ad.block ∧ ad.block < w'.heap.size) ∧ Below w1.heap.size w1 w') := fun w1 => rnormal_nil (Ln.bs u) w1 hub
          have HRt : Hid ((Pl.normalP [] (Ln.bs u)).2.2 = 0 → 0 < (Ln.bs u).size) := fun q => Pl.size_pos (Pl.normal_right q).2.2.2
          have hnl := (Pl.normal_names [] (Ln.bs u)).2
          clear c2 hub
          generalize hub2 : Ln.bs u = z at *
          clear hub2
          generalize Pl.normalP [] z = P at *
          obtain ⟨p, dir, wy⟩ := P
          simp only at HNo2 HRt hnl HP HM HO
          go_wp2_with fail
          refine (HNo2.out w1).mono ?_
          rintro e w2 ⟨a, c, rfl, hst, had, hb2⟩
          have hr1 := HA1.out.2.2
          have HA2 : Hid (Tu (fun k => k = g ∨ N ≤ k) w w2 ∧ Bz w.heap.size w2 (.slice ar S.R.length cr) (.slice aw S.W.length cw) (.int .i64 (S.q 0 : Nat)) (.int .i64 (S.q 1 : Nat)) (.int .i64 (S.q 2 : Nat)) (.int .i64 (S.q 3 : Nat)) (.slice (some ⟨g, 0, none⟩) 6 6) ∧ Rst w2 N g S (.slice ar S.R.length cr) (.slice aw S.W.length cw)) := ⟨HA1.out.1.trans (Tu.of_below (O := fun k => k = g ∨ N ≤ k) hb2) (fun k _ e => e), HA1.out.2.1.under hb2, HA1.out.2.2.below hb2⟩
          have off : ∀ v : Value, (∀ b, v.ownBlock = some b → b < w1.heap.size) → Off a p v.ownBlock := fun v hv hp ad e q => by
            have k1 := (had ad e).1
            have k2 := hv _ q.symm
            omega
          have off1 : Off a p (Value.slice ar S.R.length cr).ownBlock := off (.slice ar S.R.length cr) (fun b hb => by obtain ⟨ys, k, _⟩ := hr1.rows.R; exact (k.lt b hb).2)
          have off2 : Off a p (Value.slice aw S.W.length cw).ownBlock := off (.slice aw S.W.length cw) (fun b hb => by obtain ⟨ys, k, _⟩ := hr1.rows.W; exact (k.lt b hb).2)
          have HOff : Hid (Strs w2 a c p ∧ Off a p (Value.slice ar S.R.length cr).ownBlock ∧ Off a p (Value.slice aw S.W.length cw).ownBlock) := ⟨hst, off1, off2⟩
          have hpl := hst.len
          clear hst had hb2 hr1 off off1 off2 HNo2 HA1 a0 a1 a2 a3 a4 a5 a6 af az0 az1 az2 az3 az4 az5 az6 azf
          obtain ⟨⟨a0, a1, a2, a3, a4, a5, a6⟩, af⟩ := cells_st (HA2.out.2.1).x
          obtain ⟨⟨az0, az1, az2, az3, az4, az5, az6⟩, azf⟩ := cells_st (show _ = some (stO _ _ _ _ _ _ _) from (HA2.out.2.1).z)
          by_cases c3 : wy = 0
          · subst c3
            have hpos := HRt.out rfl
            have HB : Hid (z.data.toList.head? = some z[0]) := Pl.head_byte hpos
            have hposI : (0 : Int) < (z.size : Int) := by omega
            by_cases c4 : z[0] = 47
            · have G2 : Hid (¬ (¬ (0 : Int) = 0 ∨ ¬ u.head? = some 47)) := by
                unfold Hid
                rw [← HH.out, HB.out, c4]; simp
              have d4 : ((z[0].toNat : Int) != 47) = false := by rw [c4]; rfl
              clear c4
              obtain ⟨xs, ox, ex, ex'⟩ := HA2.out.2.2.rows.R
              have HOx : Hid _ := ox
              have hlx : S.R.length ≤ 1024 := hl.1
              have hly : S.W.length ≤ 1024 := hl.2
              have Hfin : Hid (∀ (o : Obj) (v' : Value) (w3 : World), w3.ownsRow N 26 1 v' (S.R.length + 1) (xs ++ [.slice a p.length c]) → (w2.alloc o).grownBy w3 (Value.slice ar S.R.length cr).ownBlock → (v'.ownBlock = (Value.slice ar S.R.length cr).ownBlock ∨ v'.ownBlock = some (w2.alloc o).heap.size) → (∀ s, v' ≠ .string s) → _) := fun o v' w3 k1 k2 k3 k4 => tk_appR HA2.out.2.1 HA2.out.2.2 HN.out ox ex ex' HOff.out.1 HOff.out.2.1 HOff.out.2.2 k1 k2 k3 k4
              clear ex ex' ox
              have hbs := HA2.out.2.2.NN
              go_upto_region 15 with fail
              go_wp2_with (at_builtin; refine wpList_append_own_at _ rfl _ _ 22 rfl N 26 i0 (.slice none 0 0) 1 24 Tryz.underlying22 hi0 hz0 hz1 hz2 rfl (by decide) _ _ _ rfl (World.ownsRow.alloc HOx.out _) ⟨w2.heap.size, 0, none⟩ 1 1 [.slice a p.length c] rfl rfl (cell_one_new _ _ _) ?q2 ?q3 ?q4 ?q5 ?_)
              case q2 => first | rfl | (intro u hu; simp at hu; subst hu; rfl)
              case q3 => unfold maxLen; omega
              case q4 => omega
              case q5 => first | omega | (simp; omega)
              intro v' w3 hown hgrow _ hat
              rcases Go.Joins.ownsRow_forms hown with ⟨_, e⟩ | ⟨g3, c3, rfl⟩
              · omega
              have K3 := Hfin.out _ _ w3 hown hgrow (by simpa using hat) (fun s => by simp)
              obtain ⟨w4, hw4⟩ : ∃ w4, w4 = w3.setCell ⟨w.heap.size, 0, none⟩ (.slice (some ⟨g3, 0, none⟩) (S.R.length + 1) c3) := ⟨_, rfl⟩
              have HW4 : Hid (w4 = w3.setCell ⟨w.heap.size, 0, none⟩ (.slice (some ⟨g3, 0, none⟩) (S.R.length + 1) c3)) := hw4
              have HA4 : Hid (Tu (fun k => k = g ∨ N ≤ k) w w4 ∧ Bz w.heap.size w4 (.slice (some ⟨g3, 0, none⟩) (S.R.length + 1) c3) (.slice aw S.W.length cw) (.int .i64 (S.q 0 : Nat)) (.int .i64 (S.q 1 : Nat)) (.int .i64 (S.q 2 : Nat)) (.int .i64 (S.q 3 : Nat)) (.slice (some ⟨g, 0, none⟩) 6 6) ∧ Rst w4 N g { S with R := S.R ++ [p] } (.slice (some ⟨g3, 0, none⟩) (S.R.length + 1) c3) (.slice aw S.W.length cw)) := by rw [hw4]; exact ⟨HA2.out.1.trans K3.2.2.2 (fun k _ e => e), K3.2.1, K3.2.2.1⟩
              clear a0 a1 a2 a3 a4 a5 a6 af az0 az1 az2 az3 az4 az5 az6 azf
              obtain ⟨⟨b0', b1', _⟩, bf'⟩ := cells_st K3.1.x
              clear K3 Hfin hown hgrow hat hw4 HOx HA2 HOff
              go_upto_region 17 with fail
              rw [← HW4.out]
              clear b0' b1' bf' HW4
              obtain ⟨⟨a0, a1, a2, a3, a4, a5, a6⟩, af⟩ := cells_st (HA4.out.2.1).x
              obtain ⟨⟨az0, az1, az2, az3, az4, az5, az6⟩, azf⟩ := cells_st (show _ = some (stO _ _ _ _ _ _ _) from (HA4.out.2.1).z)
              by_cases c5 : S.R.length = 1024
              · have HE : Hid (Pl.lineR S s.data.toList = (6, { S with R := S.R })) := by
                  show _ = _
                  rw [HR2.out, HM.out (by first | exact G1.out | (simpa using G1.out)) (by first | exact G2.out | (simpa using G2.out)) c5]
                have e5 : (1024 : Int) < (S.R.length : Int) + 1 := by omega
                have e5' : decide ((1024 : Int) < (S.R.length : Int) + 1) = true := decide_eq_true e5
                have e6 : ¬ (1024 : Int) < (S.W.length : Int) := by omega
                have e6' : decide ((1024 : Int) < (S.W.length : Int)) = false := decide_eq_false e6
                clear c5 HM HO HP HF
                go_wp2_with fail
                obtain ⟨y0, _⟩ := put7_at (HA4.out.2.1).z (.slice (some ⟨g3, 0, none⟩) (S.R.length + 1) c3) (.slice aw S.W.length cw) (.int .i64 (S.q 0 : Nat)) (.int .i64 (S.q 1 : Nat)) (.int .i64 (S.q 2 : Nat)) (.int .i64 (S.q 3 : Nat)) (.slice (some ⟨g, 0, none⟩) 6 6)
                refine bodyPost_ret (results_st rfl _ _ (w.heap.size + 1) _ _ _ _ _ _ _ rfl y0) rfl ?_
                rw [HE.out]
                exact tk_bad (r := (6, _)) HN.out (by simp) (HA4.out.2.1) (HA4.out.1)
              · have HE : Hid (Pl.lineR S s.data.toList = (0, { S with R := S.R ++ [p] })) := by
                  show _ = _
                  rw [HR2.out, HO.out (by first | exact G1.out | (simpa using G1.out)) (by first | exact G2.out | (simpa using G2.out)) c5]
                have e5 : ¬ (1024 : Int) < (S.R.length : Int) + 1 := by omega
                have e5' : decide ((1024 : Int) < (S.R.length : Int) + 1) = false := decide_eq_false e5
                have e6 : ¬ (1024 : Int) < (S.W.length : Int) := by omega
                have e6' : decide ((1024 : Int) < (S.W.length : Int)) = false := decide_eq_false e6
                clear c5 HM HO HP HF
                go_wp2_with fail
                obtain ⟨y0, _⟩ := put7_at (HA4.out.2.1).z (.slice (some ⟨g3, 0, none⟩) (S.R.length + 1) c3) (.slice aw S.W.length cw) (.int .i64 (S.q 0 : Nat)) (.int .i64 (S.q 1 : Nat)) (.int .i64 (S.q 2 : Nat)) (.int .i64 (S.q 3 : Nat)) (.slice (some ⟨g, 0, none⟩) 6 6)
                refine bodyPost_ret (results_st rfl _ _ (w.heap.size + 1) _ _ _ _ _ _ _ rfl y0) rfl ?_
                rw [HE.out]
                exact tk_ok (S := { S with R := S.R ++ [p] }) HN.out HA4.out.2.1 HA4.out.1 HA4.out.2.2
            · have HE : Hid (Pl.lineR S s.data.toList = (5, { S with R := S.R })) := by
                show _ = _
                rw [HR2.out, HP.out (by first | exact G1.out | (simpa using G1.out)) (.inr (by rw [← HH.out, HB.out]; exact fun e => c4 (Option.some.inj e)))]
              have d4 : ((z[0].toNat : Int) != 47) = true := by
                rw [bne_iff_ne]
                intro e
                exact c4 (UInt8.toNat_inj.1 (by have : z[0].toNat = 47 := by omega
                                                rw [this]; rfl))
              clear c4 HM HO HP HF
              go_wp2_with fail
              obtain ⟨y0, _⟩ := put7_at (HA2.out.2.1).z (.slice ar S.R.length cr) (.slice aw S.W.length cw) (.int .i64 (S.q 0 : Nat)) (.int .i64 (S.q 1 : Nat)) (.int .i64 (S.q 2 : Nat)) (.int .i64 (S.q 3 : Nat)) (.slice (some ⟨g, 0, none⟩) 6 6)
              refine bodyPost_ret (results_st rfl _ _ (w.heap.size + 1) _ _ _ _ _ _ _ rfl y0) rfl ?_
              rw [HE.out]
              exact tk_bad (r := (5, _)) HN.out (by simp) (HA2.out.2.1) (HA2.out.1)
          · have HE : Hid (Pl.lineR S s.data.toList = (5, { S with R := S.R })) := by
              show _ = _
              rw [HR2.out, HP.out (by first | exact G1.out | (simpa using G1.out)) (.inl c3)]
            have d3 : (wy != 0) = true := by rw [bne_iff_ne]; exact c3
            clear c3 HM HO HP HF HRt
            go_wp2_with fail
            obtain ⟨y0, _⟩ := put7_at (HA2.out.2.1).z (.slice ar S.R.length cr) (.slice aw S.W.length cw) (.int .i64 (S.q 0 : Nat)) (.int .i64 (S.q 1 : Nat)) (.int .i64 (S.q 2 : Nat)) (.int .i64 (S.q 3 : Nat)) (.slice (some ⟨g, 0, none⟩) 6 6)
            refine bodyPost_ret (results_st rfl _ _ (w.heap.size + 1) _ _ _ _ _ _ _ rfl y0) rfl ?_
            rw [HE.out]
            exact tk_bad (r := (5, _)) HN.out (by simp) (HA2.out.2.1) (HA2.out.1)
        · have HE : Hid (Pl.lineR S s.data.toList = (2, { S with R := S.R })) := by
            show _ = _
            rw [HR2.out, HF.out (.inr (by omega))]
          have d2 : ((nn : Int) != (x.size : Int)) = true := by rw [bne_iff_ne]; omega
          clear c2 HM HO HP HF
          go_wp2_with fail
          obtain ⟨y0, _⟩ := put7_at (HA1.out.2.1).z (.slice ar S.R.length cr) (.slice aw S.W.length cw) (.int .i64 (S.q 0 : Nat)) (.int .i64 (S.q 1 : Nat)) (.int .i64 (S.q 2 : Nat)) (.int .i64 (S.q 3 : Nat)) (.slice (some ⟨g, 0, none⟩) 6 6)
          refine bodyPost_ret (results_st rfl _ _ (w.heap.size + 1) _ _ _ _ _ _ _ rfl y0) rfl ?_
          rw [HE.out]
          exact tk_bad (r := (2, _)) HN.out (by simp) (HA1.out.2.1) (HA1.out.1)
      · have HE : Hid (Pl.lineR S s.data.toList = (2, { S with R := S.R })) := by
          show _ = _
          rw [HR2.out, HF.out (.inl c1)]
        have d1 : (why != 0) = true := by rw [bne_iff_ne]; exact c1
        clear c1 HM HO HP HF
        go_wp2_with fail
        obtain ⟨y0, _⟩ := put7_at (HA1.out.2.1).z (.slice ar S.R.length cr) (.slice aw S.W.length cw) (.int .i64 (S.q 0 : Nat)) (.int .i64 (S.q 1 : Nat)) (.int .i64 (S.q 2 : Nat)) (.int .i64 (S.q 3 : Nat)) (.slice (some ⟨g, 0, none⟩) 6 6)
        refine bodyPost_ret (results_st rfl _ _ (w.heap.size + 1) _ _ _ _ _ _ _ rfl y0) rfl ?_
        rw [HE.out]
        exact tk_bad (r := (2, _)) HN.out (by simp) (HA1.out.2.1) (HA1.out.1)
end Go.Proofs.YtcloljkaojnipaaGreatDoor
namespace Go.Proofs.YtcloljkaojnipaaGreatDoor
open Go Go.RowKit

set_option maxRecDepth 100000 in
set_option maxHeartbeats 4000000 in
theorem rtake_1 (N g : Nat) (S : Pl.PSt) (vR vW : Value) (s : ByteArray) (w : World) (b0 o0 c0 : Nat) (hw : WT w b0 o0 c0) (h : Rst w N g S vR vW) (hs : s.size ≤ 16777216) (hl : S.R.length ≤ 1024 ∧ S.W.length ≤ 1024) (hno : ∀ k, k < 1 → ¬ (Pl.wd k ++ [32]) <+: s.data.toList) (hp : (Pl.wd 1 ++ [32]) <+: s.data.toList) :
    Calls Tryz.prog 48 #[.agg (stC S vR vW g), .string s] w (TkE w N g (Pl.lineR S s.data.toList)) := by
  obtain ⟨ar, cr, hvR, _⟩ := h.rows.R.row.pts (by omega)
  obtain ⟨aw, cw, hvW, _⟩ := h.rows.W.row.pts (by omega)
  subst hvR hvW
  obtain ⟨wa, hwa⟩ : ∃ wa, wa = (w.alloc (stO (.slice ar S.R.length cr) (.slice aw S.W.length cw) (.int .i64 (S.q 0 : Nat)) (.int .i64 (S.q 1 : Nat)) (.int .i64 (S.q 2 : Nat)) (.int .i64 (S.q 3 : Nat)) (.slice (some ⟨g, 0, none⟩) 6 6))).alloc zSt := ⟨_, rfl⟩
  have hB : Below w.heap.size w wa := by rw [hwa]; exact ((Below.refl _ w).alloc (Nat.le_refl _) _).alloc (by simp) _
  have hZ : Bz w.heap.size wa (.slice ar S.R.length cr) (.slice aw S.W.length cw) (.int .i64 (S.q 0 : Nat)) (.int .i64 (S.q 1 : Nat)) (.int .i64 (S.q 2 : Nat)) (.int .i64 (S.q 3 : Nat)) (.slice (some ⟨g, 0, none⟩) 6 6) := by rw [hwa]; exact bz_new w _ _ _ _ _ _ _
  have HW : Hid (wa = (w.alloc (stO (.slice ar S.R.length cr) (.slice aw S.W.length cw) (.int .i64 (S.q 0 : Nat)) (.int .i64 (S.q 1 : Nat)) (.int .i64 (S.q 2 : Nat)) (.int .i64 (S.q 3 : Nat)) (.slice (some ⟨g, 0, none⟩) 6 6))).alloc zSt) := hwa
  have HA : Hid (Below w.heap.size w wa ∧ Bz w.heap.size wa (.slice ar S.R.length cr) (.slice aw S.W.length cw) (.int .i64 (S.q 0 : Nat)) (.int .i64 (S.q 1 : Nat)) (.int .i64 (S.q 2 : Nat)) (.int .i64 (S.q 3 : Nat)) (.slice (some ⟨g, 0, none⟩) 6 6) ∧ Rst wa N g S (.slice ar S.R.length cr) (.slice aw S.W.length cw) ∧ WT wa b0 o0 c0 ∧ N ≤ w.heap.size) := ⟨hB, hZ, h.below hB, hw.below hB, h.NN⟩
  have HNo : Hid (∀ k, k < 1 → ¬ (Pl.wd k ++ [32]) <+: s.data.toList) := hno
  have hgn : g < w.heap.size := Nat.lt_of_lt_of_le h.gN h.NN
  have hR0 := Pl.rest_is hp
  have HR : Hid (Pl.lineR S s.data.toList = Pl.actR S 1 (s.extract 6 s.size).data.toList) := by
    show _ = _
    rw [hR0, Pl.line_word (by omega)]
    rfl
  have HY := Pl.pre_yes hp
  have hL5 : 6 ≤ s.size := HY.1
  have HYb : Hid (((s.extract 0 (Ln.bs (Pl.wd 1 ++ [32])).size).toList == (Ln.bs (Pl.wd 1 ++ [32])).toList) = true) := HY.2
  clear hR0 HY hp
  have HN : Hid (N ≤ w.heap.size) := h.NN
  obtain ⟨i0, hi0, hz0, hz1, hz2⟩ := info_parts Tryz.infoPath
  have hx0 : (s.extract 6 s.size).size ≤ 16777216 := by rw [ByteArray.size_extract]; omega
  have HU : Hid (∀ w1, Calls Tryz.prog 76 #[.string (s.extract 6 s.size)] w1 fun e w' => e = .returned (.tuple #[.string (Ln.bs (Ln.unqP (s.extract 6 s.size)).1), .int .i64 ((Ln.unqP (s.extract 6 s.size)).2.1 : Nat), .int .i64 (Ln.unqP (s.extract 6 s.size)).2.2.1, .int .i64 ((Ln.unqP (s.extract 6 s.size)).2.2.2 : Nat)]) ∧ Below w1.heap.size w1 w') := fun w1 => runq_any _ w1 hx0
  have hul := Ln.unqP_len (s.extract 6 s.size)
  have hun := Ln.unqP_le (s.extract 6 s.size)
  have HR2 : Hid (Pl.lineR S s.data.toList = ((Pl.pathR S.W (s.extract 6 s.size)).1, { S with W := (Pl.pathR S.W (s.extract 6 s.size)).2 })) := by
    show _ = _
    rw [HR.out]
    show ((Pl.pathR S.W (Ln.bs (s.extract 6 s.size).data.toList)).1, _) = _
    rw [Ln.bs_data]
  clear HR
  have HF : Hid (_ → _) := Pl.pathR_form (l := S.W) (s := s.extract 6 s.size)
  have HP : Hid (_ → _ → _) := Pl.pathR_path (l := S.W) (s := s.extract 6 s.size)
  have HM : Hid (_ → _ → _ → _) := Pl.pathR_many (l := S.W) (s := s.extract 6 s.size)
  have HO : Hid (_ → _ → _ → _) := Pl.pathR_ok (l := S.W) (s := s.extract 6 s.size)
  generalize hxs : s.extract 6 s.size = x at HU hul hun HR2 HF HP HM HO hx0
  have HXS : Hid (s.extract 6 s.size = x) := hxs
  clear hxs
  generalize Ln.unqP x = U at *
  obtain ⟨u, nn, why, at0⟩ := U
  simp only at HU hul hun HF HP HM HO
  clear hwa hB hZ hw h hno
  simp only [zSt, stO] at HW
  go_enter Tryz.func48, Tryz.ntmps48
  go_upto_region 1 with fail
  rw [← HW.out]
  clear HW
  go_wp2_with fail
  go_loopw [6] (fun kv wr => ∃ k m : Nat, k ≤ 1 ∧ kv = .int .i64 (k : Int) ∧ wr = wa.drewN m) (fun kv _ => 6 - (intOf kv).toNat)
  case atStart => exact ⟨0, 0, Nat.zero_le _, rfl, rfl⟩
  case round =>
    obtain ⟨k, m, hk, rfl, rfl⟩ := hrel
    have v0 : wa.cell? ⟨0, 0, none⟩ = some (.slice (some ⟨b0, o0, none⟩) 6 c0) := HA.out.2.2.2.1.v
    by_cases hlt : k < 1
    · have hk6 : k < 6 := by omega
      have c1 : wa.cell? ⟨b0, o0 + k, none⟩ = some (.string (Ln.bs (Pl.wd k ++ [32]))) := HA.out.2.2.2.1.c k hk6
      have n1 : ((s.extract 0 (Ln.bs (Pl.wd k ++ [32])).size).toList == (Ln.bs (Pl.wd k ++ [32])).toList) = false := by rw [Ln.bs_size]; exact Pl.pre_no (HNo.out k hlt)
      generalize Ln.bs (Pl.wd k ++ [32]) = wk at *
      have i1 : (k : Int) < 6 := by omega
      have d1 : decide ((k : Int) < 6) = true := decide_eq_true i1
      by_cases hz : s.size < wk.size
      · have e1 : decide ((s.size : Int) < (wk.size : Int)) = true := decide_eq_true (by omega)
        go_wp2_with fail
        go_quiet (fail)
        go_wp2_with fail
        go_roundw
        case rel => exact ⟨k + 1, m + nq, by omega, by go_num, by first | rfl | simp⟩
        case measure => simp [intOf]; omega
      · have e1 : decide ((s.size : Int) < (wk.size : Int)) = false := decide_eq_false (by omega)
        have e2 : (wk.size : Int) ≤ (s.size : Int) := by omega
        go_wp2_with fail
        go_quiet (fail)
        go_wp2_with fail
        go_roundw
        case rel => exact ⟨k + 1, m + nq, by omega, by go_num, by first | rfl | simp⟩
        case measure => simp [intOf]; omega
    · obtain rfl : k = 1 := by omega
      clear hlt hk
      have c1 : wa.cell? ⟨b0, o0 + 1, none⟩ = some (.string (Ln.bs (Pl.wd 1 ++ [32]))) := HA.out.2.2.2.1.c 1 (by omega)
      have hsz : (Ln.bs (Pl.wd 1 ++ [32])).size = 6 := rfl
      have n1 := HYb.out
      generalize Ln.bs (Pl.wd 1 ++ [32]) = wk at *
      rw [hsz] at n1
      have e1 : decide ((s.size : Int) < 6) = false := decide_eq_false (by omega)
      have e2 : (6 : Int) ≤ (s.size : Int) := by omega
      go_wp2_with fail
      go_quiet (fail)
      go_wp2_with fail
      rw [HXS.out]
      refine (HU.out _).mono ?_
      rintro e w1 ⟨rfl, hb1⟩
      have hB1 : Below (wa.drewN (m + nq)).heap.size (wa.drewN (m + nq)) w1 := hb1
      have HA1 : Hid (Tu (fun k => k = g ∨ N ≤ k) w w1 ∧ Bz w.heap.size w1 (.slice ar S.R.length cr) (.slice aw S.W.length cw) (.int .i64 (S.q 0 : Nat)) (.int .i64 (S.q 1 : Nat)) (.int .i64 (S.q 2 : Nat)) (.int .i64 (S.q 3 : Nat)) (.slice (some ⟨g, 0, none⟩) 6 6) ∧ Rst w1 N g S (.slice ar S.R.length cr) (.slice aw S.W.length cw)) := ⟨((Tu.of_below HA.out.1).drewN _).trans (Tu.of_below (O := fun k => k = g ∨ N ≤ k) hB1) (fun k _ e => e), (HA.out.2.1.drewN _).under hB1, (HA.out.2.2.1.drewN _).below hB1⟩
      clear HA hb1 hB1 HXS c1 v0 n1 hsz e1 e2 HU
      obtain ⟨⟨a0, a1, a2, a3, a4, a5, a6⟩, af⟩ := cells_st (HA1.out.2.1).x
      obtain ⟨⟨az0, az1, az2, az3, az4, az5, az6⟩, azf⟩ := cells_st (show _ = some (stO _ _ _ _ _ _ _) from (HA1.out.2.1).z)
      by_cases c1 : why = 0
      · subst c1
        by_cases c2 : nn = x.size
        · have d2 : ((nn : Int) != (x.size : Int)) = false := by rw [c2]; simp
          have G1 : Hid (¬ (¬ (0 : Int) = 0 ∨ nn < x.size)) := by unfold Hid; omega
          have HH : Hid ((Ln.bs u).data.toList.head? = u.head?) := rfl
          have hub : (Ln.bs u).size ≤ 16777216 := by rw [Ln.bs_size]; omega
          have HNo2 : Hid (∀ w1, Calls Tryz.prog 77 #[.slice none 0 0, .string (Ln.bs u)] w1 fun e w' => ∃ a c, e = .returned (.tuple #[.slice a (Pl.normalP [] (Ln.bs u)).1.length c, .bool (Pl.normalP [] (Ln.bs u)).2.1, .int .i64 (Pl.normalP [] (Ln.bs u)).2.2]) ∧ Strs w' a c (Pl.normalP [] (Ln.bs u)).1 ∧ (∀ ad : Addr, a = some ad → w1.heap.size ≤ ad.block ∧ ad.block < w'.heap.size) ∧ Below w1.heap.size w1 w') := fun w1 => rnormal_nil (Ln.bs u) w1 hub
          have HRt : Hid ((Pl.normalP [] (Ln.bs u)).2.2 = 0 → 0 < (Ln.bs u).size) := fun q => Pl.size_pos (Pl.normal_right q).2.2.2
          have hnl := (Pl.normal_names [] (Ln.bs u)).2
          clear c2 hub
          generalize hub2 : Ln.bs u = z at *
          clear hub2
          generalize Pl.normalP [] z = P at *
          obtain ⟨p, dir, wy⟩ := P
          simp only at HNo2 HRt hnl HP HM HO
          go_wp2_with fail
          refine (HNo2.out w1).mono ?_
          rintro e w2 ⟨a, c, rfl, hst, had, hb2⟩
          have hr1 := HA1.out.2.2
          have HA2 : Hid (Tu (fun k => k = g ∨ N ≤ k) w w2 ∧ Bz w.heap.size w2 (.slice ar S.R.length cr) (.slice aw S.W.length cw) (.int .i64 (S.q 0 : Nat)) (.int .i64 (S.q 1 : Nat)) (.int .i64 (S.q 2 : Nat)) (.int .i64 (S.q 3 : Nat)) (.slice (some ⟨g, 0, none⟩) 6 6) ∧ Rst w2 N g S (.slice ar S.R.length cr) (.slice aw S.W.length cw)) := ⟨HA1.out.1.trans (Tu.of_below (O := fun k => k = g ∨ N ≤ k) hb2) (fun k _ e => e), HA1.out.2.1.under hb2, HA1.out.2.2.below hb2⟩
          have off : ∀ v : Value, (∀ b, v.ownBlock = some b → b < w1.heap.size) → Off a p v.ownBlock := fun v hv hp ad e q => by
            have k1 := (had ad e).1
            have k2 := hv _ q.symm
            omega
          have off1 : Off a p (Value.slice aw S.W.length cw).ownBlock := off (.slice aw S.W.length cw) (fun b hb => by obtain ⟨ys, k, _⟩ := hr1.rows.W; exact (k.lt b hb).2)
          have off2 : Off a p (Value.slice ar S.R.length cr).ownBlock := off (.slice ar S.R.length cr) (fun b hb => by obtain ⟨ys, k, _⟩ := hr1.rows.R; exact (k.lt b hb).2)
          have HOff : Hid (Strs w2 a c p ∧ Off a p (Value.slice aw S.W.length cw).ownBlock ∧ Off a p (Value.slice ar S.R.length cr).ownBlock) := ⟨hst, off1, off2⟩
          have hpl := hst.len
          clear hst had hb2 hr1 off off1 off2 HNo2 HA1 a0 a1 a2 a3 a4 a5 a6 af az0 az1 az2 az3 az4 az5 az6 azf
          obtain ⟨⟨a0, a1, a2, a3, a4, a5, a6⟩, af⟩ := cells_st (HA2.out.2.1).x
          obtain ⟨⟨az0, az1, az2, az3, az4, az5, az6⟩, azf⟩ := cells_st (show _ = some (stO _ _ _ _ _ _ _) from (HA2.out.2.1).z)
          by_cases c3 : wy = 0
          · subst c3
            have hpos := HRt.out rfl
            have HB : Hid (z.data.toList.head? = some z[0]) := Pl.head_byte hpos
            have hposI : (0 : Int) < (z.size : Int) := by omega
            by_cases c4 : z[0] = 47
            · have G2 : Hid (¬ (¬ (0 : Int) = 0 ∨ ¬ u.head? = some 47)) := by
                unfold Hid
                rw [← HH.out, HB.out, c4]; simp
              have d4 : ((z[0].toNat : Int) != 47) = false := by rw [c4]; rfl
              clear c4
              obtain ⟨xs, ox, ex, ex'⟩ := HA2.out.2.2.rows.W
              have HOx : Hid _ := ox
              have hlx : S.W.length ≤ 1024 := hl.2
              have hly : S.R.length ≤ 1024 := hl.1
              have Hfin : Hid (∀ (o : Obj) (v' : Value) (w3 : World), w3.ownsRow N 26 1 v' (S.W.length + 1) (xs ++ [.slice a p.length c]) → (w2.alloc o).grownBy w3 (Value.slice aw S.W.length cw).ownBlock → (v'.ownBlock = (Value.slice aw S.W.length cw).ownBlock ∨ v'.ownBlock = some (w2.alloc o).heap.size) → (∀ s, v' ≠ .string s) → _) := fun o v' w3 k1 k2 k3 k4 => tk_appW HA2.out.2.1 HA2.out.2.2 HN.out ox ex ex' HOff.out.1 HOff.out.2.1 HOff.out.2.2 k1 k2 k3 k4
              clear ex ex' ox
              have hbs := HA2.out.2.2.NN
              go_upto_region 16 with fail
              go_wp2_with (at_builtin; refine wpList_append_own_at _ rfl _ _ 22 rfl N 26 i0 (.slice none 0 0) 1 24 Tryz.underlying22 hi0 hz0 hz1 hz2 rfl (by decide) _ _ _ rfl (World.ownsRow.alloc HOx.out _) ⟨w2.heap.size, 0, none⟩ 1 1 [.slice a p.length c] rfl rfl (cell_one_new _ _ _) ?q2 ?q3 ?q4 ?q5 ?_)
              case q2 => first | rfl | (intro u hu; simp at hu; subst hu; rfl)
              case q3 => unfold maxLen; omega
              case q4 => omega
              case q5 => first | omega | (simp; omega)
              intro v' w3 hown hgrow _ hat
              rcases Go.Joins.ownsRow_forms hown with ⟨_, e⟩ | ⟨g3, c3, rfl⟩
              · omega
              have K3 := Hfin.out _ _ w3 hown hgrow (by simpa using hat) (fun s => by simp)
              obtain ⟨w4, hw4⟩ : ∃ w4, w4 = w3.setCell ⟨w.heap.size, 1, none⟩ (.slice (some ⟨g3, 0, none⟩) (S.W.length + 1) c3) := ⟨_, rfl⟩
              have HW4 : Hid (w4 = w3.setCell ⟨w.heap.size, 1, none⟩ (.slice (some ⟨g3, 0, none⟩) (S.W.length + 1) c3)) := hw4
              have HA4 : Hid (Tu (fun k => k = g ∨ N ≤ k) w w4 ∧ Bz w.heap.size w4 (.slice ar S.R.length cr) (.slice (some ⟨g3, 0, none⟩) (S.W.length + 1) c3) (.int .i64 (S.q 0 : Nat)) (.int .i64 (S.q 1 : Nat)) (.int .i64 (S.q 2 : Nat)) (.int .i64 (S.q 3 : Nat)) (.slice (some ⟨g, 0, none⟩) 6 6) ∧ Rst w4 N g { S with W := S.W ++ [p] } (.slice ar S.R.length cr) (.slice (some ⟨g3, 0, none⟩) (S.W.length + 1) c3)) := by rw [hw4]; exact ⟨HA2.out.1.trans K3.2.2.2 (fun k _ e => e), K3.2.1, K3.2.2.1⟩
              clear a0 a1 a2 a3 a4 a5 a6 af az0 az1 az2 az3 az4 az5 az6 azf
              obtain ⟨⟨b0', b1', _⟩, bf'⟩ := cells_st K3.1.x
              clear K3 Hfin hown hgrow hat hw4 HOx HA2 HOff
              go_upto_region 17 with fail
              rw [← HW4.out]
              clear b0' b1' bf' HW4
              obtain ⟨⟨a0, a1, a2, a3, a4, a5, a6⟩, af⟩ := cells_st (HA4.out.2.1).x
              obtain ⟨⟨az0, az1, az2, az3, az4, az5, az6⟩, azf⟩ := cells_st (show _ = some (stO _ _ _ _ _ _ _) from (HA4.out.2.1).z)
              by_cases c5 : S.W.length = 1024
              · have HE : Hid (Pl.lineR S s.data.toList = (6, { S with W := S.W })) := by
                  show _ = _
                  rw [HR2.out, HM.out (by first | exact G1.out | (simpa using G1.out)) (by first | exact G2.out | (simpa using G2.out)) c5]
                have e5 : (1024 : Int) < (S.W.length : Int) + 1 := by omega
                have e5' : decide ((1024 : Int) < (S.W.length : Int) + 1) = true := decide_eq_true e5
                have e6 : ¬ (1024 : Int) < (S.R.length : Int) := by omega
                have e6' : decide ((1024 : Int) < (S.R.length : Int)) = false := decide_eq_false e6
                clear c5 HM HO HP HF
                go_wp2_with fail
                obtain ⟨y0, _⟩ := put7_at (HA4.out.2.1).z (.slice ar S.R.length cr) (.slice (some ⟨g3, 0, none⟩) (S.W.length + 1) c3) (.int .i64 (S.q 0 : Nat)) (.int .i64 (S.q 1 : Nat)) (.int .i64 (S.q 2 : Nat)) (.int .i64 (S.q 3 : Nat)) (.slice (some ⟨g, 0, none⟩) 6 6)
                refine bodyPost_ret (results_st rfl _ _ (w.heap.size + 1) _ _ _ _ _ _ _ rfl y0) rfl ?_
                rw [HE.out]
                exact tk_bad (r := (6, _)) HN.out (by simp) (HA4.out.2.1) (HA4.out.1)
              · have HE : Hid (Pl.lineR S s.data.toList = (0, { S with W := S.W ++ [p] })) := by
                  show _ = _
                  rw [HR2.out, HO.out (by first | exact G1.out | (simpa using G1.out)) (by first | exact G2.out | (simpa using G2.out)) c5]
                have e5 : ¬ (1024 : Int) < (S.W.length : Int) + 1 := by omega
                have e5' : decide ((1024 : Int) < (S.W.length : Int) + 1) = false := decide_eq_false e5
                have e6 : ¬ (1024 : Int) < (S.R.length : Int) := by omega
                have e6' : decide ((1024 : Int) < (S.R.length : Int)) = false := decide_eq_false e6
                clear c5 HM HO HP HF
                go_wp2_with fail
                obtain ⟨y0, _⟩ := put7_at (HA4.out.2.1).z (.slice ar S.R.length cr) (.slice (some ⟨g3, 0, none⟩) (S.W.length + 1) c3) (.int .i64 (S.q 0 : Nat)) (.int .i64 (S.q 1 : Nat)) (.int .i64 (S.q 2 : Nat)) (.int .i64 (S.q 3 : Nat)) (.slice (some ⟨g, 0, none⟩) 6 6)
                refine bodyPost_ret (results_st rfl _ _ (w.heap.size + 1) _ _ _ _ _ _ _ rfl y0) rfl ?_
                rw [HE.out]
                exact tk_ok (S := { S with W := S.W ++ [p] }) HN.out HA4.out.2.1 HA4.out.1 HA4.out.2.2
            · have HE : Hid (Pl.lineR S s.data.toList = (5, { S with W := S.W })) := by
                show _ = _
                rw [HR2.out, HP.out (by first | exact G1.out | (simpa using G1.out)) (.inr (by rw [← HH.out, HB.out]; exact fun e => c4 (Option.some.inj e)))]
              have d4 : ((z[0].toNat : Int) != 47) = true := by
                rw [bne_iff_ne]
                intro e
                exact c4 (UInt8.toNat_inj.1 (by have : z[0].toNat = 47 := by omega
                                                rw [this]; rfl))
              clear c4 HM HO HP HF
              go_wp2_with fail
              obtain ⟨y0, _⟩ := put7_at (HA2.out.2.1).z (.slice ar S.R.length cr) (.slice aw S.W.length cw) (.int .i64 (S.q 0 : Nat)) (.int .i64 (S.q 1 : Nat)) (.int .i64 (S.q 2 : Nat)) (.int .i64 (S.q 3 : Nat)) (.slice (some ⟨g, 0, none⟩) 6 6)
              refine bodyPost_ret (results_st rfl _ _ (w.heap.size + 1) _ _ _ _ _ _ _ rfl y0) rfl ?_
              rw [HE.out]
              exact tk_bad (r := (5, _)) HN.out (by simp) (HA2.out.2.1) (HA2.out.1)
          · have HE : Hid (Pl.lineR S s.data.toList = (5, { S with W := S.W })) := by
              show _ = _
              rw [HR2.out, HP.out (by first | exact G1.out | (simpa using G1.out)) (.inl c3)]
            have d3 : (wy != 0) = true := by rw [bne_iff_ne]; exact c3
            clear c3 HM HO HP HF HRt
            go_wp2_with fail
            obtain ⟨y0, _⟩ := put7_at (HA2.out.2.1).z (.slice ar S.R.length cr) (.slice aw S.W.length cw) (.int .i64 (S.q 0 : Nat)) (.int .i64 (S.q 1 : Nat)) (.int .i64 (S.q 2 : Nat)) (.int .i64 (S.q 3 : Nat)) (.slice (some ⟨g, 0, none⟩) 6 6)
            refine bodyPost_ret (results_st rfl _ _ (w.heap.size + 1) _ _ _ _ _ _ _ rfl y0) rfl ?_
            rw [HE.out]
            exact tk_bad (r := (5, _)) HN.out (by simp) (HA2.out.2.1) (HA2.out.1)
        · have HE : Hid (Pl.lineR S s.data.toList = (2, { S with W := S.W })) := by
            show _ = _
            rw [HR2.out, HF.out (.inr (by omega))]
          have d2 : ((nn : Int) != (x.size : Int)) = true := by rw [bne_iff_ne]; omega
          clear c2 HM HO HP HF
          go_wp2_with fail
          obtain ⟨y0, _⟩ := put7_at (HA1.out.2.1).z (.slice ar S.R.length cr) (.slice aw S.W.length cw) (.int .i64 (S.q 0 : Nat)) (.int .i64 (S.q 1 : Nat)) (.int .i64 (S.q 2 : Nat)) (.int .i64 (S.q 3 : Nat)) (.slice (some ⟨g, 0, none⟩) 6 6)
          refine bodyPost_ret (results_st rfl _ _ (w.heap.size + 1) _ _ _ _ _ _ _ rfl y0) rfl ?_
          rw [HE.out]
          exact tk_bad (r := (2, _)) HN.out (by simp) (HA1.out.2.1) (HA1.out.1)
      · have HE : Hid (Pl.lineR S s.data.toList = (2, { S with W := S.W })) := by
          show _ = _
          rw [HR2.out, HF.out (.inl c1)]
        have d1 : (why != 0) = true := by rw [bne_iff_ne]; exact c1
        clear c1 HM HO HP HF
        go_wp2_with fail
        obtain ⟨y0, _⟩ := put7_at (HA1.out.2.1).z (.slice ar S.R.length cr) (.slice aw S.W.length cw) (.int .i64 (S.q 0 : Nat)) (.int .i64 (S.q 1 : Nat)) (.int .i64 (S.q 2 : Nat)) (.int .i64 (S.q 3 : Nat)) (.slice (some ⟨g, 0, none⟩) 6 6)
        refine bodyPost_ret (results_st rfl _ _ (w.heap.size + 1) _ _ _ _ _ _ _ rfl y0) rfl ?_
        rw [HE.out]
        exact tk_bad (r := (2, _)) HN.out (by simp) (HA1.out.2.1) (HA1.out.1)
end Go.Proofs.YtcloljkaojnipaaGreatDoor
namespace Go.Proofs.YtcloljkaojnipaaGreatDoor
open Go Go.RowKit

set_option maxRecDepth 100000 in
set_option maxHeartbeats 4000000 in
theorem rtake_2 (N g : Nat) (S : Pl.PSt) (vR vW : Value) (s : ByteArray) (w : World) (b0 o0 c0 : Nat) (hw : WT w b0 o0 c0) (h : Rst w N g S vR vW) (hs : s.size ≤ 16777216) (hl : S.R.length ≤ 1024 ∧ S.W.length ≤ 1024) (hno : ∀ k, k < 2 → ¬ (Pl.wd k ++ [32]) <+: s.data.toList) (hp : (Pl.wd 2 ++ [32]) <+: s.data.toList) :
    Calls Tryz.prog 48 #[.agg (stC S vR vW g), .string s] w (TkE w N g (Pl.lineR S s.data.toList)) := by
  obtain ⟨ar, cr, hvR, _⟩ := h.rows.R.row.pts (by omega)
  obtain ⟨aw, cw, hvW, _⟩ := h.rows.W.row.pts (by omega)
  subst hvR hvW
  obtain ⟨wa, hwa⟩ : ∃ wa, wa = (w.alloc (stO (.slice ar S.R.length cr) (.slice aw S.W.length cw) (.int .i64 (S.q 0 : Nat)) (.int .i64 (S.q 1 : Nat)) (.int .i64 (S.q 2 : Nat)) (.int .i64 (S.q 3 : Nat)) (.slice (some ⟨g, 0, none⟩) 6 6))).alloc zSt := ⟨_, rfl⟩
  have hB : Below w.heap.size w wa := by rw [hwa]; exact ((Below.refl _ w).alloc (Nat.le_refl _) _).alloc (by simp) _
  have hZ : Bz w.heap.size wa (.slice ar S.R.length cr) (.slice aw S.W.length cw) (.int .i64 (S.q 0 : Nat)) (.int .i64 (S.q 1 : Nat)) (.int .i64 (S.q 2 : Nat)) (.int .i64 (S.q 3 : Nat)) (.slice (some ⟨g, 0, none⟩) 6 6) := by rw [hwa]; exact bz_new w _ _ _ _ _ _ _
  have HW : Hid (wa = (w.alloc (stO (.slice ar S.R.length cr) (.slice aw S.W.length cw) (.int .i64 (S.q 0 : Nat)) (.int .i64 (S.q 1 : Nat)) (.int .i64 (S.q 2 : Nat)) (.int .i64 (S.q 3 : Nat)) (.slice (some ⟨g, 0, none⟩) 6 6))).alloc zSt) := hwa
  have HA : Hid (Below w.heap.size w wa ∧ Bz w.heap.size wa (.slice ar S.R.length cr) (.slice aw S.W.length cw) (.int .i64 (S.q 0 : Nat)) (.int .i64 (S.q 1 : Nat)) (.int .i64 (S.q 2 : Nat)) (.int .i64 (S.q 3 : Nat)) (.slice (some ⟨g, 0, none⟩) 6 6) ∧ Rst wa N g S (.slice ar S.R.length cr) (.slice aw S.W.length cw) ∧ WT wa b0 o0 c0 ∧ N ≤ w.heap.size) := ⟨hB, hZ, h.below hB, hw.below hB, h.NN⟩
  have HNo : Hid (∀ k, k < 2 → ¬ (Pl.wd k ++ [32]) <+: s.data.toList) := hno
  have hgn : g < w.heap.size := Nat.lt_of_lt_of_le h.gN h.NN
  have hR0 := Pl.rest_is hp
  have HR : Hid (Pl.lineR S s.data.toList = Pl.actR S 2 (s.extract 5 s.size).data.toList) := by
    show _ = _
    rw [hR0, Pl.line_word (by omega)]
    rfl
  have HY := Pl.pre_yes hp
  have hL5 : 5 ≤ s.size := HY.1
  have HYb : Hid (((s.extract 0 (Ln.bs (Pl.wd 2 ++ [32])).size).toList == (Ln.bs (Pl.wd 2 ++ [32])).toList) = true) := HY.2
  clear hR0 HY hp
  have HN : Hid (N ≤ w.heap.size) := h.NN
  have hx0 : (s.extract 5 s.size).size ≤ 16777216 := by rw [ByteArray.size_extract]; omega
  have HC : Hid (∀ w1, Calls Tryz.prog 78 #[.string (s.extract 5 s.size)] w1 fun e w' => e = .returned (.tuple #[.int .i64 (if Pl.isNum (s.extract 5 s.size).data.toList = true then Pl.cntV (s.extract 5 s.size).data.toList else 0), .bool (Pl.isNum (s.extract 5 s.size).data.toList)]) ∧ w1 = w') := fun w1 => rcount_any _ w1 hx0
  have HR2 : Hid (Pl.lineR S s.data.toList = Pl.numR S 0 (s.extract 5 s.size).data.toList) := HR.out
  clear HR
  have HF : Hid (_ → _) := Pl.numR_form (S := S) (i := 0) (l := (s.extract 5 s.size).data.toList)
  have HM : Hid (_ → _ → _) := Pl.numR_most (S := S) (i := 0) (l := (s.extract 5 s.size).data.toList)
  have HT : Hid (_ → _ → _ → _) := Pl.numR_twice (S := S) (i := 0) (l := (s.extract 5 s.size).data.toList)
  have HO : Hid (_ → _ → _ → _) := Pl.numR_ok (S := S) (i := 0) (l := (s.extract 5 s.size).data.toList)
  have HV : Hid (Pl.cntV (s.extract 5 s.size).data.toList = if Pl.valN (s.extract 5 s.size).data.toList ≤ 4294967296 then (Pl.valN (s.extract 5 s.size).data.toList : Int) else -1) := rfl
  generalize hxs : s.extract 5 s.size = x at HC HR2 HF HM HT HO HV hx0
  have HXS : Hid (s.extract 5 s.size = x) := hxs
  clear hxs
  generalize Pl.numR S 0 x.data.toList = Z at *
  generalize Pl.cntV x.data.toList = cv at *
  generalize Pl.valN x.data.toList = v at *
  generalize Pl.isNum x.data.toList = nb at *
  clear hwa hB hZ hw h hno
  simp only [zSt, stO] at HW
  go_enter Tryz.func48, Tryz.ntmps48
  go_upto_region 1 with fail
  rw [← HW.out]
  clear HW
  go_wp2_with fail
  go_loopw [6] (fun kv wr => ∃ k m : Nat, k ≤ 2 ∧ kv = .int .i64 (k : Int) ∧ wr = wa.drewN m) (fun kv _ => 6 - (intOf kv).toNat)
  case atStart => exact ⟨0, 0, Nat.zero_le _, rfl, rfl⟩
  case round =>
    obtain ⟨k, m, hk, rfl, rfl⟩ := hrel
    have v0 : wa.cell? ⟨0, 0, none⟩ = some (.slice (some ⟨b0, o0, none⟩) 6 c0) := HA.out.2.2.2.1.v
    by_cases hlt : k < 2
    · have hk6 : k < 6 := by omega
      have c1 : wa.cell? ⟨b0, o0 + k, none⟩ = some (.string (Ln.bs (Pl.wd k ++ [32]))) := HA.out.2.2.2.1.c k hk6
      have n1 : ((s.extract 0 (Ln.bs (Pl.wd k ++ [32])).size).toList == (Ln.bs (Pl.wd k ++ [32])).toList) = false := by rw [Ln.bs_size]; exact Pl.pre_no (HNo.out k hlt)
      generalize Ln.bs (Pl.wd k ++ [32]) = wk at *
      have i1 : (k : Int) < 6 := by omega
      have d1 : decide ((k : Int) < 6) = true := decide_eq_true i1
      by_cases hz : s.size < wk.size
      · have e1 : decide ((s.size : Int) < (wk.size : Int)) = true := decide_eq_true (by omega)
        go_wp2_with fail
        go_quiet (fail)
        go_wp2_with fail
        go_roundw
        case rel => exact ⟨k + 1, m + nq, by omega, by go_num, by first | rfl | simp⟩
        case measure => simp [intOf]; omega
      · have e1 : decide ((s.size : Int) < (wk.size : Int)) = false := decide_eq_false (by omega)
        have e2 : (wk.size : Int) ≤ (s.size : Int) := by omega
        go_wp2_with fail
        go_quiet (fail)
        go_wp2_with fail
        go_roundw
        case rel => exact ⟨k + 1, m + nq, by omega, by go_num, by first | rfl | simp⟩
        case measure => simp [intOf]; omega
    · obtain rfl : k = 2 := by omega
      clear hlt hk
      have c1 : wa.cell? ⟨b0, o0 + 2, none⟩ = some (.string (Ln.bs (Pl.wd 2 ++ [32]))) := HA.out.2.2.2.1.c 2 (by omega)
      have hsz : (Ln.bs (Pl.wd 2 ++ [32])).size = 5 := rfl
      have n1 := HYb.out
      generalize Ln.bs (Pl.wd 2 ++ [32]) = wk at *
      rw [hsz] at n1
      have e1 : decide ((s.size : Int) < 5) = false := decide_eq_false (by omega)
      have e2 : (5 : Int) ≤ (s.size : Int) := by omega
      go_wp2_with fail
      go_quiet (fail)
      go_wp2_with fail
      rw [HXS.out]
      refine (HC.out _).mono ?_
      rintro e w1 ⟨rfl, rfl⟩
      have HT1 : Hid (Tu (fun k => k = g ∨ N ≤ k) w (wa.drewN (m + nq))) := (Tu.of_below HA.out.1).drewN _
      have HB1 : Hid (Bz w.heap.size (wa.drewN (m + nq)) (.slice ar S.R.length cr) (.slice aw S.W.length cw) (.int .i64 (S.q 0 : Nat)) (.int .i64 (S.q 1 : Nat)) (.int .i64 (S.q 2 : Nat)) (.int .i64 (S.q 3 : Nat)) (.slice (some ⟨g, 0, none⟩) 6 6)) := HA.out.2.1.drewN _
      clear HXS c1 v0 n1 hsz e1 e2 HC
      obtain ⟨⟨a0, a1, a2, a3, a4, a5, a6⟩, af⟩ := cells_st (HA.out.2.1).x
      obtain ⟨⟨az0, az1, az2, az3, az4, az5, az6⟩, azf⟩ := cells_st (show _ = some (stO _ _ _ _ _ _ _) from (HA.out.2.1).z)
      cases nb
      · have HE : Hid (Pl.lineR S s.data.toList = (2, S)) := by show _ = _; rw [HR2.out, HF.out rfl]
        clear HF HM HT HO HV HR2
        go_wp2_with fail
        obtain ⟨y0, _⟩ := put7_at (HB1.out).z (.slice ar S.R.length cr) (.slice aw S.W.length cw) (.int .i64 (S.q 0 : Nat)) (.int .i64 (S.q 1 : Nat)) (.int .i64 (S.q 2 : Nat)) (.int .i64 (S.q 3 : Nat)) (.slice (some ⟨g, 0, none⟩) 6 6)
        refine bodyPost_ret (results_st rfl _ _ (w.heap.size + 1) _ _ _ _ _ _ _ rfl y0) rfl ?_
        rw [HE.out]
        exact tk_bad (r := (2, _)) HN.out (by simp) (HB1.out) (HT1.out)
      · have hcv : cv = if v ≤ 4294967296 then (v : Int) else -1 := HV.out
        clear HV
        by_cases hv : v ≤ 4294967296
        · rw [if_pos hv] at hcv
          subst hcv
          have p0 : ¬ (v : Int) < 0 := by omega
          have p0' : decide ((v : Int) < 0) = false := decide_eq_false p0
          by_cases h3 : 1073741824 < v
          · have q1 : (1073741824 : Int) < (v : Int) := by omega
            have q1' : decide ((1073741824 : Int) < (v : Int)) = true := decide_eq_true q1
            have HE : Hid (Pl.lineR S s.data.toList = (3, S)) := by show _ = _; rw [HR2.out, HM.out rfl (by rw [show Pl.mostN 0 = 1073741824 from rfl]; omega)]
            clear HF HM HT HO HR2 h3 hv
            go_wp2_with fail
            obtain ⟨y0, _⟩ := put7_at (HB1.out).z (.slice ar S.R.length cr) (.slice aw S.W.length cw) (.int .i64 (S.q 0 : Nat)) (.int .i64 (S.q 1 : Nat)) (.int .i64 (S.q 2 : Nat)) (.int .i64 (S.q 3 : Nat)) (.slice (some ⟨g, 0, none⟩) 6 6)
            refine bodyPost_ret (results_st rfl _ _ (w.heap.size + 1) _ _ _ _ _ _ _ rfl y0) rfl ?_
            rw [HE.out]
            exact tk_bad (r := (3, _)) HN.out (by simp) (HB1.out) (HT1.out)
          have q1 : ¬ (1073741824 : Int) < (v : Int) := by omega
          have q1' : decide ((1073741824 : Int) < (v : Int)) = false := decide_eq_false q1
          have hmn : ¬ Pl.mostN 0 < v := by rw [show Pl.mostN 0 = 1073741824 from rfl]; omega
          have sc : wa.cell? ⟨g, 2, none⟩ = some (.bool (S.t 0)) := HA.out.2.2.1.sc 0 (by omega)
          have sf : ∀ j, wa.frozen? ⟨g, j, none⟩ = false := HA.out.2.2.1.sf
          have hg1 : g ≠ w.heap.size := by omega
          have hg2 : w.heap.size ≠ g := by omega
          cases ht : S.t 0
          · have HE : Hid (Pl.lineR S s.data.toList = (0, { S with q := Pl.upd S.q 0 v, t := Pl.upd S.t 0 true })) := by show _ = _; rw [HR2.out, HO.out rfl hmn ht]
            rw [ht] at sc
            obtain ⟨w4, hw4⟩ : ∃ w4, w4 = ((wa.drewN (m + nq)).setCell ⟨g, 2, none⟩ (.bool true)).setCell ⟨w.heap.size, 2, none⟩ (.int .i64 (v : Int)) := ⟨_, rfl⟩
            have HW4 : Hid (w4 = ((wa.drewN (m + nq)).setCell ⟨g, 2, none⟩ (.bool true)).setCell ⟨w.heap.size, 2, none⟩ (.int .i64 (v : Int))) := hw4
            have HA4 : Hid (Bz w.heap.size w4 (.slice ar S.R.length cr) (.slice aw S.W.length cw) (.int .i64 (Pl.upd S.q 0 v 0 : Nat)) (.int .i64 (Pl.upd S.q 0 v 1 : Nat)) (.int .i64 (Pl.upd S.q 0 v 2 : Nat)) (.int .i64 (Pl.upd S.q 0 v 3 : Nat)) (.slice (some ⟨g, 0, none⟩) 6 6) ∧ Rst w4 N g { S with q := Pl.upd S.q 0 v, t := Pl.upd S.t 0 true } (.slice ar S.R.length cr) (.slice aw S.W.length cw) ∧ Tu (fun k => k = g ∨ N ≤ k) w w4) := by
              have k := tk_num HB1.out (HA.out.2.2.1.drewN (m + nq)) HN.out 0 (by omega) v
              rw [hw4]
              exact ⟨k.1, k.2.1, HT1.out.trans k.2.2 (fun k _ e => e)⟩
            clear HF HM HT HO HR2 hmn ht hw4 HA HB1 HT1
            go_upto_region 36 with fail
            rw [← HW4.out]
            clear HW4 sc sf a0 a1 a2 a3 a4 a5 a6 af az0 az1 az2 az3 az4 az5 az6 azf
            obtain ⟨⟨a0, a1, a2, a3, a4, a5, a6⟩, af⟩ := cells_st (HA4.out.1).x
            obtain ⟨⟨az0, az1, az2, az3, az4, az5, az6⟩, azf⟩ := cells_st (show _ = some (stO _ _ _ _ _ _ _) from (HA4.out.1).z)
            go_wp2_with fail
            obtain ⟨y0, _⟩ := put7_at (HA4.out.1).z (.slice ar S.R.length cr) (.slice aw S.W.length cw) (.int .i64 (Pl.upd S.q 0 v 0 : Nat)) (.int .i64 (Pl.upd S.q 0 v 1 : Nat)) (.int .i64 (Pl.upd S.q 0 v 2 : Nat)) (.int .i64 (Pl.upd S.q 0 v 3 : Nat)) (.slice (some ⟨g, 0, none⟩) 6 6)
            refine bodyPost_ret (results_st rfl _ _ (w.heap.size + 1) _ _ _ _ _ _ _ rfl y0) rfl ?_
            rw [HE.out]
            exact tk_ok (S := { S with q := Pl.upd S.q 0 v, t := Pl.upd S.t 0 true }) HN.out HA4.out.1 HA4.out.2.2 HA4.out.2.1
          · have HE : Hid (Pl.lineR S s.data.toList = (4, S)) := by show _ = _; rw [HR2.out, HT.out rfl hmn ht]
            rw [ht] at sc
            clear HF HM HT HO HR2 hmn ht
            go_wp2_with fail
            obtain ⟨y0, _⟩ := put7_at (HB1.out).z (.slice ar S.R.length cr) (.slice aw S.W.length cw) (.int .i64 (S.q 0 : Nat)) (.int .i64 (S.q 1 : Nat)) (.int .i64 (S.q 2 : Nat)) (.int .i64 (S.q 3 : Nat)) (.slice (some ⟨g, 0, none⟩) 6 6)
            refine bodyPost_ret (results_st rfl _ _ (w.heap.size + 1) _ _ _ _ _ _ _ rfl y0) rfl ?_
            rw [HE.out]
            exact tk_bad (r := (4, _)) HN.out (by simp) (HB1.out) (HT1.out)
        · rw [if_neg hv] at hcv
          subst hcv
          have HE : Hid (Pl.lineR S s.data.toList = (3, S)) := by show _ = _; rw [HR2.out, HM.out rfl (by rw [show Pl.mostN 0 = 1073741824 from rfl]; omega)]
          clear HF HM HT HO HR2 hv
          go_wp2_with fail
          obtain ⟨y0, _⟩ := put7_at (HB1.out).z (.slice ar S.R.length cr) (.slice aw S.W.length cw) (.int .i64 (S.q 0 : Nat)) (.int .i64 (S.q 1 : Nat)) (.int .i64 (S.q 2 : Nat)) (.int .i64 (S.q 3 : Nat)) (.slice (some ⟨g, 0, none⟩) 6 6)
          refine bodyPost_ret (results_st rfl _ _ (w.heap.size + 1) _ _ _ _ _ _ _ rfl y0) rfl ?_
          rw [HE.out]
          exact tk_bad (r := (3, _)) HN.out (by simp) (HB1.out) (HT1.out)
end Go.Proofs.YtcloljkaojnipaaGreatDoor
