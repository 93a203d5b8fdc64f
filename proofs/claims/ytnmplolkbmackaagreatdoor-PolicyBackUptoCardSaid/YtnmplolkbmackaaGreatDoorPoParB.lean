/- What policy.Parse answers of a text of up to 16777216 bytes. -/
import Derived.Test.YtnmplolkbmackaaGreatDoorPgO
namespace Go.Proofs.YtnmplolkbmackaaGreatDoor
open Go.RowKit

theorem spl_le : ∀ (l : List UInt8), ∀ x ∈ Ln.spl l, x.1.length ≤ l.length
  | [], x, hx => by simp [Ln.spl] at hx
  | c :: l, x, hx => by
    have ih := spl_le l
    by_cases hc : (c == 10) = true
    · obtain rfl : c = 10 := by simpa using hc
      rw [Ln.spl_lf] at hx
      rcases List.mem_cons.1 hx with rfl | hx
      · simp
      · have := ih x hx; simp only [List.length_cons]; omega
    · rw [Ln.spl_other (by simpa using hc)] at hx
      cases hs : Ln.spl l with
      | nil =>
        rw [hs] at hx
        simp [Ln.glue] at hx
        subst hx
        simp
      | cons y r =>
        rw [hs] at hx ih
        simp only [Ln.glue, List.mem_cons] at hx
        rcases hx with rfl | hx
        · have := ih y (by simp); simp only [List.length_append, List.length_cons, List.length_nil]; omega
        · have := ih x (by simp [hx]); simp only [List.length_cons]; omega
theorem splB_le (s : ByteArray) : ∀ x ∈ Ln.splB s, x.1.size ≤ s.size := fun x hx => by
  unfold Ln.splB at hx
  obtain ⟨y, hy, rfl⟩ := List.mem_map.1 hx
  have := spl_le _ y hy
  rw [Ln.szL] at this
  show (Ln.bs y.1).size ≤ _
  rw [Ln.bs_size]
  exact this

set_option maxRecDepth 100000 in
set_option maxHeartbeats 4000000 in
theorem parse_big (s : ByteArray) (w : World) (T : PT w) (hs : s.size ≤ 16777216) :
    Calls Tryz.prog 23 #[.string s] w (ParE w (Pl.parF Pl.S0 0 (Ln.splB s))) := by
  have hT := T.size
  obtain ⟨W, hW⟩ : ∃ W, W = ((w.alloc zPol).alloc zFau).alloc zPol := ⟨_, rfl⟩
  have hsz : W.heap.size = w.heap.size + 3 := by rw [hW]; simp
  have hBW : Below w.heap.size w W := by rw [hW]; exact (((Below.refl _ w).alloc (Nat.le_refl _) _).alloc (by simp) _).alloc (by simp; omega) _
  have b0 : W.heap[w.heap.size]? = some zPol := by rw [hW, heap_alloc_old _ _ (by simp; omega), heap_alloc_old _ _ (by simp)]; exact heap_alloc_new w _
  have b1 : W.heap[w.heap.size + 1]? = some zFau := by rw [hW, heap_alloc_old _ _ (by simp), show w.heap.size + 1 = (w.alloc zPol).heap.size from by simp]; exact heap_alloc_new _ _
  have b2 : W.heap[w.heap.size + 1 + 1]? = some zPol := by rw [hW, show w.heap.size + 1 + 1 = ((w.alloc zPol).alloc zFau).heap.size from by simp]; exact heap_alloc_new _ _
  have HW : Hid (W = ((w.alloc zPol).alloc zFau).alloc zPol) := hW
  have HF : Hid (Below w.heap.size w W ∧ W.heap[w.heap.size]? = some zPol ∧ W.heap[w.heap.size + 1]? = some zFau ∧ W.heap[w.heap.size + 1 + 1]? = some zPol ∧ W.heap.size = w.heap.size + 3) := ⟨hBW, b0, b1, b2, hsz⟩
  have HRd := readers_any (w.heap.size + 1 + 1) W (by omega)
  clear hW hBW b0 b1 b2 hsz
  simp only [zPol, zFau] at HW
  go_enter Tryz.func23, Tryz.ntmps23
  go_wp2_with fail
  rw [← HW.out]
  refine HRd.mono ?_
  rintro e w1 ⟨m, n, bR, bW, qb, tb, rfl, hrl⟩
  have HR1 : Hid (RL W.heap.size (w.heap.size + 1 + 1) m bR bW 4 n qb tb W w1) := hrl
  clear hrl HRd HW
  go_wp2_with fail
  refine (split_any s w1 (by omega)).mono ?_
  rintro e w4 ⟨v, rfl, hown, hb4⟩
  obtain ⟨a, cap, rfl, hln⟩ := own_lns hown (by have := Ln.splB_len s; omega) (fun x hx => by
    have := splB_le s x hx
    omega)
  have hage : ∀ ad, a = some ad → w1.heap.size ≤ ad.block ∧ ad.block < w4.heap.size := fun ad e => by subst e; exact hown.lt ad.block rfl
  have HR4 : Hid (RL W.heap.size (w.heap.size + 1 + 1) m bR bW 4 n qb tb W w4) := HR1.out.under hb4
  have HA : Hid (∀ ad, a = some ad → w1.heap.size ≤ ad.block ∧ ad.block < w4.heap.size) := hage
  have HL4 : Hid (Lns w4 a cap (Ln.splB s)) := hln
  have hln' := hln.len
  have hls : ∀ x ∈ Ln.splB s, x.1.size ≤ 16777216 := fun x hx => by have := splB_le s x hx; omega
  have HSz : Hid (∀ x ∈ Ln.splB s, x.1.size ≤ 16777216) := hls
  clear hls hln hown hage
  generalize Ln.splB s = ls at *
  obtain ⟨L, hL⟩ : ∃ L : Lo, L = ⟨w.heap.size + 1 + 1, bR, bW, qb, tb, w4.heap.size⟩ := ⟨_, rfl⟩
  have hB4 : Below w.heap.size w w4 := HF.out.1.trans (HR4.out.bel.mono HF.out.1.size)
  have hW4 := HR4.out.hN
  have hWs := HF.out.2.2.2.2
  have tch : ∀ k, L.tch k → k = w.heap.size + 1 + 1 ∨ (∃ i, i < 4 ∧ k = tb i) ∨ w4.heap.size ≤ k := fun k hk => by rw [hL] at hk; exact hk
  have hG : ∀ k, L.tch k → w.heap.size + 1 < k := fun k hk => by
    rcases tch k hk with e | ⟨i, hi, e⟩ | e
    · omega
    · have := HR4.out.tN i hi; omega
    · omega
  have hadt : ∀ ad, a = some ad → ¬ L.tch ad.block := fun ad e q => by
    have h1 := HA.out ad e
    rcases tch _ q with q | ⟨i, hi, q⟩ | q
    · have := HR1.out.hN; omega
    · have := lt_of_block (HR1.out.t i hi); omega
    · omega
  have hmt : ¬ L.tch m := fun q => by
    rcases tch _ q with q | ⟨i, hi, q⟩ | q
    · have := HR4.out.mN; omega
    · exact map_ne HR4.out.mp (HR4.out.t i hi) q.symm
    · have := HR4.out.mp.lt; omega
  have HR : Hid (Rdy L Pl.S0 (.slice none 0 0) (.slice none 0 0) m n w4) := by
    refine ⟨T.under hB4, ⟨?_, ?_, ?_, PRowO.empty _ _ _, PRowO.empty _ _ _, fun b hb => (by cases hb), (by rw [hL]; exact Nat.le_refl _)⟩, ?_, fun s => ⟨by simp, by simp⟩, ⟨by simp [Pl.S0], by simp [Pl.S0]⟩, fun k hk => by have := hG k hk; omega, ?_, hmt⟩
    · rw [hL]; exact HR4.out.bxs (by omega) _ (Nat.le_refl _)
    · rw [hL]
      show w4.heap[w.heap.size + 1 + 1]? = _
      rw [HR4.out.bel.block _ (by omega)]; exact HF.out.2.2.2.1
    · rw [hL]; exact HR4.out.t
    · rw [hL]; exact HR4.out.mp
    · rw [hL]; exact HR4.out.mp.lt
  have HZ0 : Hid (w4.heap[w.heap.size]? = some zPol) := (HR4.out.bel.block _ (by omega)).trans HF.out.2.1
  have HZ1 : Hid (w4.heap[w.heap.size + 1]? = some zFau) := (HR4.out.bel.block _ (by omega)).trans HF.out.2.2.1
  have HT : Hid ((∀ ad, a = some ad → ¬ L.tch ad.block) ∧ (∀ k, L.tch k → w.heap.size + 1 < k) ∧ L.pg = w.heap.size + 1 + 1 ∧ Below w.heap.size w w4 ∧ w.heap.size ≤ L.N ∧ w.heap.size + 1 < w4.heap.size) := ⟨hadt, hG, by rw [hL], hB4, by rw [hL]; exact hB4.size, by omega⟩
  clear hL tch hG hadt hmt HF HR1 HR4 HA hb4 hW4 hWs hB4
  go_wp2_with fail
  go_loopw [7, 8, 9, 14] (fun _ _ _ c wr => ∃ (k : Nat) (S : Pl.PSt) (vR vW : Value), k ≤ ls.length ∧ c = .int .i64 k ∧ Hid (Rdy L S vR vW m n wr) ∧ Hid (Tu L.tch w4 wr) ∧ Hid (Pl.parF Pl.S0 0 ls = Pl.parF S k (ls.drop k))) (fun _ _ _ c _ => ls.length - (intOf c).toNat)
  case atStart => exact ⟨0, Pl.S0, _, _, Nat.zero_le _, rfl, HR, Tu.refl _ _, rfl⟩
  case round =>
    clear HR
    obtain ⟨k, S, vR, vW, hk, rfl, HR, HTu, HP⟩ := hrel
    by_cases hlt : k < ls.length
    · have hlw := HL4.out.tu HTu.out HT.out.1
      obtain ⟨b, off, rfl, hb, hc1, hc2⟩ := hlw.cells k hlt
      have i1 : (k : Int) < (ls.length : Int) := by omega
      have HS : Hid (Pl.skipB (ls[k]'hlt).1 = true → Pl.parF Pl.S0 0 ls = Pl.parF S (k + 1) (ls.drop (k + 1))) := fun q => HP.out.trans (Pl.par_skip hlt q)
      have HO : Hid (Pl.skipB (ls[k]'hlt).1 = false → (Pl.lineR S (ls[k]'hlt).1.data.toList).1 = 0 → Pl.parF Pl.S0 0 ls = Pl.parF (Pl.lineR S (ls[k]'hlt).1.data.toList).2 (k + 1) (ls.drop (k + 1))) := fun q r => HP.out.trans (Pl.par_on hlt q r)
      have HN : Hid (Pl.skipB (ls[k]'hlt).1 = false → ¬ (Pl.lineR S (ls[k]'hlt).1.data.toList).1 = 0 → Pl.parF Pl.S0 0 ls = .inl (k + 1, (Pl.lineR S (ls[k]'hlt).1.data.toList).1)) := fun q r => HP.out.trans (Pl.par_bad hlt q r)
      have hx := HSz.out _ (List.getElem_mem hlt)
      clear hlw
      generalize ls[k]'hlt = z at *
      obtain ⟨x, y⟩ := z
      simp only at hc1 hc2 HS HO HN hx
      have hBa : Below wr.heap.size wr (wr.alloc (.cells #[.string x, .bool y] 66)) := (Below.refl _ wr).alloc (Nat.le_refl _) _
      have HBa : Hid (Below wr.heap.size wr (wr.alloc (.cells #[.string x, .bool y] 66))) := hBa
      have HR2 : Hid (Rdy L S vR vW m n (wr.alloc (.cells #[.string x, .bool y] 66))) := HR.out.under hBa
      have HT2 : Hid (Tu L.tch w4 (wr.alloc (.cells #[.string x, .bool y] 66))) := HTu.out.alloc _
      clear hBa
      by_cases e0 : x.toList = []
      · have HE : Hid (Pl.parF Pl.S0 0 ls = Pl.parF S (k + 1) (ls.drop (k + 1))) := HS.out (by unfold Pl.skipB; rw [Ln.toL] at e0; rw [e0]; rfl)
        go_wp2_with fail
        go_roundw
        case rel => exact ⟨k + 1, S, vR, vW, by omega, by go_num, HR2, HT2, HE⟩
        case measure => simp [intOf]; omega
      have hpos : 0 < x.size := Pl.size_pos e0
      have HH : Hid (x.data.toList.head? = some x[0]) := Pl.head_byte hpos
      have e0' : (x.toList == []) = false := by simpa using e0
      have e0'' : x.toList.isEmpty = false := by simpa using e0
      by_cases e1 : x[0] = 35
      · have HE : Hid (Pl.parF Pl.S0 0 ls = Pl.parF S (k + 1) (ls.drop (k + 1))) := HS.out (by unfold Pl.skipB; rw [HH.out, e1]; rfl)
        have d1 : ((x[0].toNat : Int) == 35) = true := by rw [e1]; rfl
        clear e1
        go_wp2_with fail
        go_roundw
        case rel => exact ⟨k + 1, S, vR, vW, by omega, by go_num, HR2, HT2, HE⟩
        case measure => simp [intOf]; omega
      have hsk : Pl.skipB x = false := by
        unfold Pl.skipB
        rw [HH.out]
        have : (some x[0] == some (35 : UInt8)) = false := by rw [beq_eq_false_iff_ne]; intro q; exact e1 (Option.some.inj q)
        rw [this]; rfl
      have d1 : ((x[0].toNat : Int) == 35) = false := by
        rw [beq_eq_false_iff_ne]; intro e; exact e1 (by rw [← UInt8.toNat_inj]; simp; omega)
      have HC : Hid (Calls Tryz.prog 46 #[.map (some m), .string x] (wr.alloc (.cells #[.string x, .bool y] 66)) fun e w' => ∃ vR' vW', e = .returned (.int .i64 ((Pl.lineR S x.data.toList).1 : Nat)) ∧ Rdy L (Pl.lineR S x.data.toList).2 vR' vW' m n w' ∧ Tu L.tch (wr.alloc (.cells #[.string x, .bool y] 66)) w') := readLine_any L S vR vW m n x _ HR2.out hx
      have HO2 : Hid ((Pl.lineR S x.data.toList).1 = 0 → Pl.parF Pl.S0 0 ls = Pl.parF (Pl.lineR S x.data.toList).2 (k + 1) (ls.drop (k + 1))) := HO.out hsk
      have HN2 : Hid (¬ (Pl.lineR S x.data.toList).1 = 0 → Pl.parF Pl.S0 0 ls = .inl (k + 1, (Pl.lineR S x.data.toList).1)) := HN.out hsk
      clear e1 hsk HO HN HS
      generalize Pl.lineR S x.data.toList = Z at *
      obtain ⟨rule, S'⟩ := Z
      simp only at HC HO2 HN2
      by_cases c0 : rule = 0
      · subst c0
        have HE : Hid (Pl.parF Pl.S0 0 ls = Pl.parF S' (k + 1) (ls.drop (k + 1))) := HO2.out rfl
        go_wp2_with fail
        refine HC.out.mono ?_
        rintro e w6 ⟨vR', vW', rfl, hrd, htu⟩
        have HR6 : Hid (Rdy L S' vR' vW' m n w6) := hrd
        have HT6 : Hid (Tu L.tch w4 w6) := HT2.out.trans htu (fun _ _ e => e)
        clear hrd htu
        go_wp2_with fail
        go_roundw
        case rel => exact ⟨k + 1, S', vR', vW', by omega, by go_num, HR6, HT6, HE⟩
        case measure => simp [intOf]; omega
      · have HE : Hid (Pl.parF Pl.S0 0 ls = .inl (k + 1, rule)) := HN2.out c0
        have d2 : ((rule : Int) != 0) = true := by rw [bne_iff_ne]; omega
        go_wp2_with fail
        refine HC.out.mono ?_
        rintro e w6 ⟨vR', vW', rfl, hrd, htu⟩
        have HT6 : Hid (Tu L.tch w4 w6) := HT2.out.trans htu (fun _ _ e => e)
        have z0 : w6.heap[w.heap.size]? = some zPol := (HT6.out.block _ (by have := HT.out.2.2.2.2.2; omega) (fun q => by have := HT.out.2.1 _ q; omega)).trans HZ0.out
        have z1 : w6.heap[w.heap.size + 1]? = some zFau := (HT6.out.block _ (by have := HT.out.2.2.2.2.2; omega) (fun q => by have := HT.out.2.1 _ q; omega)).trans HZ1.out
        have HY0 : Hid (w6.heap[w.heap.size]? = some zPol) := z0
        have HY1 : Hid (w6.heap[w.heap.size + 1]? = some zFau) := z1
        have p0 : w6.cell? ⟨w.heap.size, 0, none⟩ = some (.slice none 0 0) := by simp only [World.cell?, z0]; rfl
        have p1 : w6.cell? ⟨w.heap.size, 1, none⟩ = some (.slice none 0 0) := by simp only [World.cell?, z0]; rfl
        have p2 : w6.cell? ⟨w.heap.size, 2, none⟩ = some (.int .i64 0) := by simp only [World.cell?, z0]; rfl
        have p3 : w6.cell? ⟨w.heap.size, 3, none⟩ = some (.int .i64 0) := by simp only [World.cell?, z0]; rfl
        have p4 : w6.cell? ⟨w.heap.size, 4, none⟩ = some (.int .i64 0) := by simp only [World.cell?, z0]; rfl
        have p5 : w6.cell? ⟨w.heap.size, 5, none⟩ = some (.int .i64 0) := by simp only [World.cell?, z0]; rfl
        have q0 : w6.cell? ⟨w.heap.size + 1, 0, none⟩ = some (.int .i64 0) := by simp only [World.cell?, z1]; rfl
        have q1 : w6.cell? ⟨w.heap.size + 1, 1, none⟩ = some (.int .i64 0) := by simp only [World.cell?, z1]; rfl
        have f0 : ∀ j, w6.frozen? ⟨w.heap.size, j, none⟩ = false := fun j => frozen_of_row w6 _ j _ _ z0
        have f1 : ∀ j, w6.frozen? ⟨w.heap.size + 1, j, none⟩ = false := fun j => frozen_of_row w6 _ j _ _ z1
        clear hrd htu z0 z1
        go_wp2_with fail
        obtain ⟨y0, y1, y2⟩ := put62_at HY0.out HY1.out (by omega) (.slice none 0 0) (.slice none 0 0) (.int .i64 0) (.int .i64 0) (.int .i64 0) (.int .i64 0) (.int .i64 ((k : Int) + 1)) (.int .i64 (rule : Int))
        refine bodyPost_ret (results_pol rfl _ _ w.heap.size (w.heap.size + 1) _ _ _ _ _ _ _ _ rfl rfl y0 y1) rfl ?_
        rw [HE.out]
        refine ⟨?_, rfl⟩
        have t6 : Tu (fun k => w.heap.size ≤ k) w4 (put62 w6 w.heap.size (w.heap.size + 1) (.slice none 0 0) (.slice none 0 0) (.int .i64 0) (.int .i64 0) (.int .i64 0) (.int .i64 0) (.int .i64 ((k : Int) + 1)) (.int .i64 (rule : Int))) := (HT6.out.mono (fun k _ e => by have := HT.out.2.1 k e; omega)).trans y2 (fun k _ e => by rcases e with e | e <;> omega)
        exact HT.out.2.2.2.1.trans (t6.below HT.out.2.2.2.1.size (fun k e => e))
    · have HE : Hid (Pl.parF Pl.S0 0 ls = .inr S) := HP.out.trans (Pl.par_end (by omega))
      obtain ⟨av, cv, rfl, _⟩ := HR.out.st.R.row.pts (by have := HR.out.hl.1; omega)
      obtain ⟨aw, cw, rfl, _⟩ := HR.out.st.W.row.pts (by have := HR.out.hl.2; omega)
      have hl1 := HR.out.hl.1
      have hl2 := HR.out.hl.2
      have i1 : ¬ (k : Int) < (ls.length : Int) := by omega
      have z0 : wr.heap[w.heap.size]? = some zPol := (HTu.out.block _ (by have := HT.out.2.2.2.2.2; omega) (fun q => by have := HT.out.2.1 _ q; omega)).trans HZ0.out
      have z1 : wr.heap[w.heap.size + 1]? = some zFau := (HTu.out.block _ (by have := HT.out.2.2.2.2.2; omega) (fun q => by have := HT.out.2.1 _ q; omega)).trans HZ1.out
      have z2 := HR.out.st.p
      rw [HT.out.2.2.1] at z2
      have HY0 : Hid (wr.heap[w.heap.size]? = some zPol) := z0
      have HY1 : Hid (wr.heap[w.heap.size + 1]? = some zFau) := z1
      have p0 : wr.cell? ⟨w.heap.size, 0, none⟩ = some (.slice none 0 0) := by simp only [World.cell?, z0]; rfl
      have p1 : wr.cell? ⟨w.heap.size, 1, none⟩ = some (.slice none 0 0) := by simp only [World.cell?, z0]; rfl
      have p2 : wr.cell? ⟨w.heap.size, 2, none⟩ = some (.int .i64 0) := by simp only [World.cell?, z0]; rfl
      have p3 : wr.cell? ⟨w.heap.size, 3, none⟩ = some (.int .i64 0) := by simp only [World.cell?, z0]; rfl
      have p4 : wr.cell? ⟨w.heap.size, 4, none⟩ = some (.int .i64 0) := by simp only [World.cell?, z0]; rfl
      have p5 : wr.cell? ⟨w.heap.size, 5, none⟩ = some (.int .i64 0) := by simp only [World.cell?, z0]; rfl
      have q0 : wr.cell? ⟨w.heap.size + 1, 0, none⟩ = some (.int .i64 0) := by simp only [World.cell?, z1]; rfl
      have q1 : wr.cell? ⟨w.heap.size + 1, 1, none⟩ = some (.int .i64 0) := by simp only [World.cell?, z1]; rfl
      have r0 : wr.cell? ⟨w.heap.size + 1 + 1, 0, none⟩ = some (.slice av S.R.length cv) := by simp only [World.cell?, z2]; rfl
      have r1 : wr.cell? ⟨w.heap.size + 1 + 1, 1, none⟩ = some (.slice aw S.W.length cw) := by simp only [World.cell?, z2]; rfl
      have r2 : wr.cell? ⟨w.heap.size + 1 + 1, 2, none⟩ = some (.int .i64 (S.q 0 : Nat)) := by simp only [World.cell?, z2]; rfl
      have r3 : wr.cell? ⟨w.heap.size + 1 + 1, 3, none⟩ = some (.int .i64 (S.q 1 : Nat)) := by simp only [World.cell?, z2]; rfl
      have r4 : wr.cell? ⟨w.heap.size + 1 + 1, 4, none⟩ = some (.int .i64 (S.q 2 : Nat)) := by simp only [World.cell?, z2]; rfl
      have r5 : wr.cell? ⟨w.heap.size + 1 + 1, 5, none⟩ = some (.int .i64 (S.q 3 : Nat)) := by simp only [World.cell?, z2]; rfl
      have f0 : ∀ j, wr.frozen? ⟨w.heap.size, j, none⟩ = false := fun j => frozen_of_row wr _ j _ _ z0
      have f1 : ∀ j, wr.frozen? ⟨w.heap.size + 1, j, none⟩ = false := fun j => frozen_of_row wr _ j _ _ z1
      have HS : Hid (∀ i, S.q i = S.q i) := fun _ => rfl
      clear z0 z1 z2
      generalize hs0 : S.q 0 = s0 at *
      generalize hs1 : S.q 1 = s1 at *
      generalize hs2 : S.q 2 = s2 at *
      generalize hs3 : S.q 3 = s3 at *
      have HQ : Hid (S.q 0 = s0 ∧ S.q 1 = s1 ∧ S.q 2 = s2 ∧ S.q 3 = s3) := ⟨hs0, hs1, hs2, hs3⟩
      clear hs0 hs1 hs2 hs3 HS
      go_wp2_with fail
      obtain ⟨y0, y1, y2⟩ := put62_at HY0.out HY1.out (by omega) (.slice av S.R.length cv) (.slice aw S.W.length cw) (.int .i64 (s0 : Int)) (.int .i64 (s1 : Int)) (.int .i64 (s2 : Int)) (.int .i64 (s3 : Int)) (.int .i64 0) (.int .i64 0)
      refine bodyPost_ret (results_pol rfl _ _ w.heap.size (w.heap.size + 1) _ _ _ _ _ _ _ _ rfl rfl y0 y1) rfl ?_
      rw [HE.out]
      have hrow : ∀ v u l, PRowO wr L.N v u l → PRowO (put62 wr w.heap.size (w.heap.size + 1) (.slice av S.R.length cv) (.slice aw S.W.length cw) (.int .i64 (s0 : Int)) (.int .i64 (s1 : Int)) (.int .i64 (s2 : Int)) (.int .i64 (s3 : Int)) (.int .i64 0) (.int .i64 0)) w.heap.size v u l := fun v u l hp => by
        refine PRowO.base (hp.far y2 (fun b hb e => ?_) (fun x c p hs hpn ad hx => zfar HY0.out HY1.out x c p hs hpn ad hx)) HT.out.2.2.2.2.1
        obtain ⟨xs, k1, _⟩ := hp
        have h1 := (k1.lt b hb).1
        have h2 := HT.out.2.2.2.2.1
        have h3 := HR.out.st.bx.pN
        rw [HT.out.2.2.1] at h3
        rcases e with e | e <;> omega
      obtain ⟨g0, g1, g2, g3⟩ := HQ.out
      refine ⟨?_, _, _, by rw [g0, g1, g2, g3]; rfl, hrow _ _ _ HR.out.st.R, hrow _ _ _ HR.out.st.W, HR.out.st.ne, HR.out.hl.1, HR.out.hl.2⟩
      have t6 : Tu (fun k => w.heap.size ≤ k) w4 (put62 wr w.heap.size (w.heap.size + 1) (.slice av S.R.length cv) (.slice aw S.W.length cw) (.int .i64 (s0 : Int)) (.int .i64 (s1 : Int)) (.int .i64 (s2 : Int)) (.int .i64 (s3 : Int)) (.int .i64 0) (.int .i64 0)) := (HTu.out.mono (fun k _ e => by have := HT.out.2.1 k e; omega)).trans y2 (fun k _ e => by rcases e with e | e <;> omega)
      exact HT.out.2.2.2.1.trans (t6.below HT.out.2.2.2.1.size (fun k e => e))
end Go.Proofs.YtnmplolkbmackaaGreatDoor
