/- What the reference's Parse answers: the same as policy.Parse. -/
import Derived.Test.YtcloljkaojnipaaGreatDoorPgW
import Derived.Test.YtcloljkaojnipaaGreatDoorPgO
import Derived.Deep.DeepCutAuto
namespace Go.Proofs.YtcloljkaojnipaaGreatDoor
open Go Go.RowKit

/-- What lies in memory at a line: the lists and what was told, and the state in its block. -/
structure Rpl (w0 w4 w : World) (S : Pl.PSt) (vR vW : Value) : Prop where
  st : Rst w w4.heap.size (w0.heap.size + 1 + 1) S vR vW
  x : w.heap[w0.heap.size + 1 + 1 + 1]? = some (stO vR vW (.int .i64 (S.q 0 : Nat)) (.int .i64 (S.q 1 : Nat)) (.int .i64 (S.q 2 : Nat)) (.int .i64 (S.q 3 : Nat)) (.slice (some ⟨w0.heap.size + 1 + 1, 0, none⟩) 6 6))
  tu : Tu (fun k => k = w0.heap.size + 1 + 1 ∨ k = w0.heap.size + 1 + 1 + 1 ∨ w4.heap.size ≤ k) w4 w
  hl : S.R.length ≤ 1024 ∧ S.W.length ≤ 1024
theorem Rpl.below {w0 w4 w w' : World} {S : Pl.PSt} {vR vW : Value} (h : Rpl w0 w4 w S vR vW) (hb : Below w.heap.size w w') : Rpl w0 w4 w' S vR vW :=
  ⟨h.st.below hb, (hb.block _ (lt_of_block h.x)).trans h.x, h.tu.trans (Tu.of_below (O := fun k => k = w0.heap.size + 1 + 1 ∨ k = w0.heap.size + 1 + 1 + 1 ∨ w4.heap.size ≤ k) hb) (fun _k _ e => e), h.hl⟩
/-- The state behind a line takes the place of the one ahead. -/
theorem Rpl.next {w0 w4 w w6 : World} {S S' : Pl.PSt} {vR vW vR' vW' : Value} (h : Rpl w0 w4 w S vR vW) (hn : w0.heap.size + 1 + 1 + 1 < w4.heap.size) (ht : Tu (fun k => k = w0.heap.size + 1 + 1 ∨ w4.heap.size ≤ k) w w6) (hs : Rst w6 w4.heap.size (w0.heap.size + 1 + 1) S' vR' vW') (hl : S'.R.length ≤ 1024 ∧ S'.W.length ≤ 1024) (o : Obj) :
    (w6.alloc o).heap[w0.heap.size + 1 + 1 + 1]? = some (stO vR vW (.int .i64 (S.q 0 : Nat)) (.int .i64 (S.q 1 : Nat)) (.int .i64 (S.q 2 : Nat)) (.int .i64 (S.q 3 : Nat)) (.slice (some ⟨w0.heap.size + 1 + 1, 0, none⟩) 6 6)) ∧
    Rpl w0 w4 (put7 (w6.alloc o) (w0.heap.size + 1 + 1 + 1) vR' vW' (.int .i64 (S'.q 0 : Nat)) (.int .i64 (S'.q 1 : Nat)) (.int .i64 (S'.q 2 : Nat)) (.int .i64 (S'.q 3 : Nat)) (.slice (some ⟨w0.heap.size + 1 + 1, 0, none⟩) 6 6)) S' vR' vW' := by
  have x6 : w6.heap[w0.heap.size + 1 + 1 + 1]? = some _ := (ht.block _ (lt_of_block h.x) (by omega)).trans h.x
  have hb : Below w6.heap.size w6 (w6.alloc o) := (Below.refl _ _).alloc (Nat.le_refl _) o
  have x7 := (hb.block _ (lt_of_block x6)).trans x6
  obtain ⟨y0, y1⟩ := put7_at x7 vR' vW' (.int .i64 (S'.q 0 : Nat)) (.int .i64 (S'.q 1 : Nat)) (.int .i64 (S'.q 2 : Nat)) (.int .i64 (S'.q 3 : Nat)) (.slice (some ⟨w0.heap.size + 1 + 1, 0, none⟩) 6 6)
  refine ⟨x7, (hs.below hb).far x7 (fun s => ⟨h.st.rows.nR s, h.st.rows.nW s, by simp, by simp, by simp, by simp, by simp⟩) y1, y0, ?_, hl⟩
  exact ((h.tu.trans ht (fun k _ e => by rcases e with e | e; exact .inl e; exact .inr (.inr e))).trans (Tu.of_below (O := fun k => k = w0.heap.size + 1 + 1 ∨ k = w0.heap.size + 1 + 1 + 1 ∨ w4.heap.size ≤ k) hb) (fun k _ e => e)).trans y1 (fun k _ e => .inr (.inl e))

theorem Tryz.infoSeen : ∀ W : World, (Instr.makeSlice 68 (.int .i64 6) (.int .i64 6)).run Tryz.prog W = .ok (.slice (some ⟨W.heap.size, 0, none⟩) 6 6) (W.alloc (.cells #[.bool false, .bool false, .bool false, .bool false, .bool false, .bool false] 4)) := fun W => by kernel_rfl

set_option maxRecDepth 100000 in
set_option maxHeartbeats 4000000 in
theorem rparse_any (s : ByteArray) (w : World) (b0 o0 c0 : Nat) (hw : WT w b0 o0 c0) (hs : s.size ≤ 16777216) :
    Calls Tryz.prog 24 #[.string s] w (ParE w (Pl.parF Pl.S0 0 (Ln.splB s))) := by
  obtain ⟨W, hW⟩ : ∃ W, W = (((w.alloc zPol).alloc zFau).alloc (seenO Pl.S0.t)).alloc (stO (.slice none 0 0) (.slice none 0 0) (.int .i64 0) (.int .i64 0) (.int .i64 0) (.int .i64 0) (.slice (some ⟨w.heap.size + 1 + 1, 0, none⟩) 6 6)) := ⟨_, rfl⟩
  have hsz : W.heap.size = w.heap.size + 4 := by rw [hW]; simp
  have hBW : Below w.heap.size w W := by rw [hW]; exact ((((Below.refl _ w).alloc (Nat.le_refl _) _).alloc (by simp) _).alloc (by simp; omega) _).alloc (by simp; omega) _
  have d0 : W.heap[w.heap.size]? = some zPol := by rw [hW, heap_alloc_old _ _ (by simp; omega), heap_alloc_old _ _ (by simp; omega), heap_alloc_old _ _ (by simp)]; exact heap_alloc_new w _
  have d1 : W.heap[w.heap.size + 1]? = some zFau := by rw [hW, heap_alloc_old _ _ (by first | (simp; done) | (simp; omega)), heap_alloc_old _ _ (by first | (simp; done) | (simp; omega)), show w.heap.size + 1 = (w.alloc zPol).heap.size from by simp]; exact heap_alloc_new _ _
  have d2 : W.heap[w.heap.size + 1 + 1]? = some (seenO Pl.S0.t) := by rw [hW, heap_alloc_old _ _ (by simp), show w.heap.size + 1 + 1 = ((w.alloc zPol).alloc zFau).heap.size from by simp]; exact heap_alloc_new _ _
  have d3 : W.heap[w.heap.size + 1 + 1 + 1]? = some (stO (.slice none 0 0) (.slice none 0 0) (.int .i64 0) (.int .i64 0) (.int .i64 0) (.int .i64 0) (.slice (some ⟨w.heap.size + 1 + 1, 0, none⟩) 6 6)) := by rw [hW, show w.heap.size + 1 + 1 + 1 = (((w.alloc zPol).alloc zFau).alloc (seenO Pl.S0.t)).heap.size from by simp]; exact heap_alloc_new _ _
  have HW : Hid (W = (((w.alloc zPol).alloc zFau).alloc (seenO Pl.S0.t)).alloc (stO (.slice none 0 0) (.slice none 0 0) (.int .i64 0) (.int .i64 0) (.int .i64 0) (.int .i64 0) (.slice (some ⟨w.heap.size + 1 + 1, 0, none⟩) 6 6))) := hW
  have HF : Hid (Below w.heap.size w W ∧ W.heap[w.heap.size]? = some zPol ∧ W.heap[w.heap.size + 1]? = some zFau ∧ W.heap[w.heap.size + 1 + 1]? = some (seenO Pl.S0.t) ∧ W.heap[w.heap.size + 1 + 1 + 1]? = some (stO (.slice none 0 0) (.slice none 0 0) (.int .i64 0) (.int .i64 0) (.int .i64 0) (.int .i64 0) (.slice (some ⟨w.heap.size + 1 + 1, 0, none⟩) 6 6)) ∧ W.heap.size = w.heap.size + 4) := ⟨hBW, d0, d1, d2, d3, hsz⟩
  have v0 : ((w.alloc zPol).alloc zFau).cell? ⟨0, 0, none⟩ = some (.slice (some ⟨b0, o0, none⟩) 6 c0) := (hw.below (((Below.refl _ w).alloc (Nat.le_refl _) _).alloc (by simp) _)).v
  have HWT : Hid (WT w b0 o0 c0) := hw
  have hmk := Tryz.infoSeen
  clear hW hBW d0 d1 d2 d3 hsz hw
  simp only [zPol, zFau, seenO, stO, Pl.S0] at HW v0
  go_enter Tryz.func24, Tryz.ntmps24
  go_wp2_with fail
  rw [← HW.out]
  refine (rsplit_any s W (by omega)).mono ?_
  rintro e w4 ⟨v, rfl, hown, hb4⟩
  obtain ⟨a, cap, rfl, hln⟩ := own_lns hown (by have := Ln.splB_len s; omega) (fun x hx => by
    have := splB_le s x hx
    omega)
  have HA : Hid (∀ ad, a = some ad → W.heap.size ≤ ad.block ∧ ad.block < w4.heap.size) := fun ad e => by subst e; exact hown.lt ad.block rfl
  have HL4 : Hid (Lns w4 a cap (Ln.splB s)) := hln
  have hln' := hln.len
  have HSz : Hid (∀ x ∈ Ln.splB s, x.1.size ≤ 16777216) := fun x hx => by have := splB_le s x hx; omega
  have hWs := HF.out.2.2.2.2.2
  have hq4 := hb4.size
  have HB4 : Hid (Below w.heap.size w w4) := HF.out.1.trans (hb4.mono HF.out.1.size)
  have HZ0 : Hid (w4.heap[w.heap.size]? = some zPol) := (hb4.block _ (by omega)).trans HF.out.2.1
  have HZ1 : Hid (w4.heap[w.heap.size + 1]? = some zFau) := (hb4.block _ (by omega)).trans HF.out.2.2.1
  have hnN : w.heap.size + 1 + 1 + 1 < w4.heap.size := by omega
  have HR : Hid (Rpl w w4 w4 Pl.S0 (.slice none 0 0) (.slice none 0 0)) := by
    refine ⟨⟨Rws.empty _ _, (hb4.block _ (by omega)).trans HF.out.2.2.2.1, by omega, Nat.le_refl _⟩, (hb4.block _ (by omega)).trans HF.out.2.2.2.2.1, Tu.refl _ _, ⟨by simp [Pl.S0], by simp [Pl.S0]⟩⟩
  have HT : Hid ((∀ ad, a = some ad → ¬ (ad.block = w.heap.size + 1 + 1 ∨ ad.block = w.heap.size + 1 + 1 + 1 ∨ w4.heap.size ≤ ad.block)) ∧ WT w4 b0 o0 c0 ∧ b0 < w.heap.size ∧ 0 < w.heap.size) := by
    refine ⟨fun ad e q => ?_, HWT.out.below HB4.out, HWT.out.lt, HWT.out.gt⟩
    have := HA.out ad e
    omega
  clear hln hown hb4 HF HW HA HWT v0 hmk hWs hq4
  generalize Ln.splB s = ls at *
  go_wp2_with fail
  go_loopw [6, 7, 8, 9, 17] (fun _ _ _ _ c wr => ∃ (k : Nat) (S : Pl.PSt) (vR vW : Value), k ≤ ls.length ∧ c = .int .i64 k ∧ Hid (Rpl w w4 wr S vR vW) ∧ Hid (Pl.parF Pl.S0 0 ls = Pl.parF S k (ls.drop k))) (fun _ _ _ _ c _ => ls.length - (intOf c).toNat)
  case atStart => exact ⟨0, Pl.S0, _, _, Nat.zero_le _, rfl, HR, rfl⟩
  case round =>
    clear HR
    obtain ⟨k, S, vR, vW, hk, rfl, HR, HP⟩ := hrel
    obtain ⟨ar, cr, hvR, _⟩ := HR.out.st.rows.R.row.pts (by have := HR.out.hl; omega)
    obtain ⟨aw, cw, hvW, _⟩ := HR.out.st.rows.W.row.pts (by have := HR.out.hl; omega)
    subst hvR hvW
    by_cases hlt : k < ls.length
    · have hlw := HL4.out.tu HR.out.tu HT.out.1
      obtain ⟨b, off, rfl, hb, hc1, hc2⟩ := hlw.cells k hlt
      have i1 : (k : Int) < (ls.length : Int) := by omega
      have HS : Hid (Pl.skipB (ls[k]'hlt).1 = true → Pl.parF Pl.S0 0 ls = Pl.parF S (k + 1) (ls.drop (k + 1))) := fun q => HP.out.trans (Pl.par_skip hlt q)
      have HO : Hid (Pl.skipB (ls[k]'hlt).1 = false → (Pl.lineR S (ls[k]'hlt).1.data.toList).1 = 0 → Pl.parF Pl.S0 0 ls = Pl.parF (Pl.lineR S (ls[k]'hlt).1.data.toList).2 (k + 1) (ls.drop (k + 1))) := fun q r => HP.out.trans (Pl.par_on hlt q r)
      have HN : Hid (Pl.skipB (ls[k]'hlt).1 = false → ¬ (Pl.lineR S (ls[k]'hlt).1.data.toList).1 = 0 → Pl.parF Pl.S0 0 ls = .inl (k + 1, (Pl.lineR S (ls[k]'hlt).1.data.toList).1)) := fun q r => HP.out.trans (Pl.par_bad hlt q r)
      have hx := HSz.out _ (List.getElem_mem hlt)
      clear hlw
      generalize ls[k]'hlt = z at *
      obtain ⟨x, y⟩ := z
      simp only at hc1 hc2 HS HO HN hx
      have hBa : Below wr.heap.size wr (wr.alloc (.cells #[.string x, .bool y] 66)) := (Below.refl _ wr).alloc (Nat.le_refl _) _
      have HR2 : Hid (Rpl w w4 (wr.alloc (.cells #[.string x, .bool y] 66)) S (.slice ar S.R.length cr) (.slice aw S.W.length cw)) := HR.out.below hBa
      clear hBa HP
      by_cases e0 : x.toList = []
      · have HE : Hid (Pl.parF Pl.S0 0 ls = Pl.parF S (k + 1) (ls.drop (k + 1))) := HS.out (by unfold Pl.skipB; rw [Ln.toL] at e0; rw [e0]; rfl)
        go_wp2_with fail
        go_roundw
        case rel => exact ⟨k + 1, S, _, _, by omega, by go_num, HR2, HE⟩
        case measure => simp [intOf]; omega
      have hpos : 0 < x.size := Pl.size_pos e0
      have HH : Hid (x.data.toList.head? = some x[0]) := Pl.head_byte hpos
      have e0' : (x.toList == []) = false := by simpa using e0
      have e0'' : x.toList.isEmpty = false := by simpa using e0
      by_cases e1 : x[0] = 35
      · have HE : Hid (Pl.parF Pl.S0 0 ls = Pl.parF S (k + 1) (ls.drop (k + 1))) := HS.out (by unfold Pl.skipB; rw [HH.out, e1]; rfl)
        have d1 : ((x[0].toNat : Int) == 35) = true := by rw [e1]; rfl
        clear e1
        go_wp2_with fail
        go_roundw
        case rel => exact ⟨k + 1, S, _, _, by omega, by go_num, HR2, HE⟩
        case measure => simp [intOf]; omega
      have hsk : Pl.skipB x = false := by
        unfold Pl.skipB
        rw [HH.out]
        have : (some x[0] == some (35 : UInt8)) = false := by rw [beq_eq_false_iff_ne]; intro q; exact e1 (Option.some.inj q)
        rw [this]; rfl
      have d1 : ((x[0].toNat : Int) == 35) = false := by
        rw [beq_eq_false_iff_ne]; intro e; exact e1 (by rw [← UInt8.toNat_inj]; simp; omega)
      have HWT : WT (wr.alloc (.cells #[.string x, .bool y] 66)) b0 o0 c0 := HT.out.2.1.tu HR2.out.tu (by have := HT.out.2.2.2; omega) (by have := HT.out.2.2.1; omega)
      have HC : Hid (Calls Tryz.prog 48 #[.agg (stC S (.slice ar S.R.length cr) (.slice aw S.W.length cw) (w.heap.size + 1 + 1)), .string x] (wr.alloc (.cells #[.string x, .bool y] 66)) (TkE (wr.alloc (.cells #[.string x, .bool y] 66)) w4.heap.size (w.heap.size + 1 + 1) (Pl.lineR S x.data.toList))) := rtake_any _ _ S _ _ x _ b0 o0 c0 HWT HR2.out.st hx HR2.out.hl
      have HLn : Hid ((Pl.lineR S x.data.toList).2.R.length ≤ 1024 ∧ (Pl.lineR S x.data.toList).2.W.length ≤ 1024) := Pl.lineR_len HR2.out.hl
      have HO2 : Hid ((Pl.lineR S x.data.toList).1 = 0 → Pl.parF Pl.S0 0 ls = Pl.parF (Pl.lineR S x.data.toList).2 (k + 1) (ls.drop (k + 1))) := HO.out hsk
      have HN2 : Hid (¬ (Pl.lineR S x.data.toList).1 = 0 → Pl.parF Pl.S0 0 ls = .inl (k + 1, (Pl.lineR S x.data.toList).1)) := HN.out hsk
      obtain ⟨⟨a0, a1, a2, a3, a4, a5, a6⟩, af⟩ := cells_st HR2.out.x
      clear e1 hsk HO HN HS HWT HR
      generalize Pl.lineR S x.data.toList = Z at *
      obtain ⟨rule, S'⟩ := Z
      simp only at HC HO2 HN2 HLn
      by_cases c0 : rule = 0
      · subst c0
        have HE : Hid (Pl.parF Pl.S0 0 ls = Pl.parF S' (k + 1) (ls.drop (k + 1))) := HO2.out rfl
        clear HO2 HN2
        go_wp2_with fail
        refine HC.out.mono ?_
        rintro e w6 ⟨p0, p1, p6, l0, k0, l1, k1, l6, k6, j2, j3, j4, j5, rfl, htu, hst⟩
        obtain ⟨hxe, hst'⟩ := hst rfl
        obtain ⟨rfl, rfl, rfl, rfl, rfl, rfl, rfl⟩ : j2 = (S'.q 0 : Nat) ∧ j3 = (S'.q 1 : Nat) ∧ j4 = (S'.q 2 : Nat) ∧ j5 = (S'.q 3 : Nat) ∧ p6 = some ⟨w.heap.size + 1 + 1, 0, none⟩ ∧ l6 = 6 ∧ k6 = 6 := by simpa [stC] using hxe
        have K := HR2.out.next hnN htu hst' HLn.out (stO (.slice p0 l0 k0) (.slice p1 l1 k1) (.int .i64 (S'.q 0 : Nat)) (.int .i64 (S'.q 1 : Nat)) (.int .i64 (S'.q 2 : Nat)) (.int .i64 (S'.q 3 : Nat)) (.slice (some ⟨w.heap.size + 1 + 1, 0, none⟩) 6 6))
        have HK : Hid (Rpl w w4 _ S' (.slice p0 l0 k0) (.slice p1 l1 k1)) := K.2
        clear a0 a1 a2 a3 a4 a5 a6 af
        obtain ⟨⟨a0, a1, a2, a3, a4, a5, a6⟩, af⟩ := cells_st K.1
        clear K hst' hst hxe htu HC HR2
        simp only [stO] at a0 a1 a2 a3 a4 a5 a6 af
        go_wp2_with fail
        go_roundw
        case rel => exact ⟨k + 1, S', _, _, by omega, by go_num, HK, HE⟩
        case measure => simp [intOf]; omega
      · have HE : Hid (Pl.parF Pl.S0 0 ls = .inl (k + 1, rule)) := HN2.out c0
        have d2 : ((rule : Int) != 0) = true := by rw [bne_iff_ne]; omega
        clear HO2 HN2
        go_wp2_with fail
        refine HC.out.mono ?_
        rintro e w6 ⟨p0, p1, p6, l0, k0, l1, k1, l6, k6, j2, j3, j4, j5, rfl, htu, hst⟩
        clear hst a0 a1 a2 a3 a4 a5 a6 af HC
        obtain ⟨w7, hw7⟩ : ∃ w7, w7 = w6.alloc (.cells #[.slice p0 l0 k0, .slice p1 l1 k1, .int .i64 j2, .int .i64 j3, .int .i64 j4, .int .i64 j5, .slice p6 l6 k6] 70) := ⟨_, rfl⟩
        have HW7 : Hid (w7 = w6.alloc (.cells #[.slice p0 l0 k0, .slice p1 l1 k1, .int .i64 j2, .int .i64 j3, .int .i64 j4, .int .i64 j5, .slice p6 l6 k6] 70)) := hw7
        have HT6 : Hid (Tu (fun k => k = w.heap.size + 1 + 1 ∨ k = w.heap.size + 1 + 1 + 1 ∨ w4.heap.size ≤ k) w4 w7) := by
          rw [hw7]
          exact (HR2.out.tu.trans htu (fun k _ e => by rcases e with e | e; exact .inl e; exact .inr (.inr e))).alloc _
        have z0 : w7.heap[w.heap.size]? = some zPol := (HT6.out.block _ (by omega) (by omega)).trans HZ0.out
        have z1 : w7.heap[w.heap.size + 1]? = some zFau := (HT6.out.block _ (by omega) (by omega)).trans HZ1.out
        have HY0 : Hid (w7.heap[w.heap.size]? = some zPol) := z0
        have HY1 : Hid (w7.heap[w.heap.size + 1]? = some zFau) := z1
        have p0' : w7.cell? ⟨w.heap.size, 0, none⟩ = some (.slice none 0 0) := by simp only [World.cell?, z0]; rfl
        have p1' : w7.cell? ⟨w.heap.size, 1, none⟩ = some (.slice none 0 0) := by simp only [World.cell?, z0]; rfl
        have p2' : w7.cell? ⟨w.heap.size, 2, none⟩ = some (.int .i64 0) := by simp only [World.cell?, z0]; rfl
        have p3' : w7.cell? ⟨w.heap.size, 3, none⟩ = some (.int .i64 0) := by simp only [World.cell?, z0]; rfl
        have p4' : w7.cell? ⟨w.heap.size, 4, none⟩ = some (.int .i64 0) := by simp only [World.cell?, z0]; rfl
        have p5' : w7.cell? ⟨w.heap.size, 5, none⟩ = some (.int .i64 0) := by simp only [World.cell?, z0]; rfl
        have q0 : w7.cell? ⟨w.heap.size + 1, 0, none⟩ = some (.int .i64 0) := by simp only [World.cell?, z1]; rfl
        have q1 : w7.cell? ⟨w.heap.size + 1, 1, none⟩ = some (.int .i64 0) := by simp only [World.cell?, z1]; rfl
        have f0 : ∀ j, w7.frozen? ⟨w.heap.size, j, none⟩ = false := fun j => frozen_of_row w7 _ j _ _ z0
        have f1 : ∀ j, w7.frozen? ⟨w.heap.size + 1, j, none⟩ = false := fun j => frozen_of_row w7 _ j _ _ z1
        clear z0 z1 hw7 htu HR2
        go_upto_region 7 with fail
        rw [← HW7.out]
        clear HW7
        go_wp2_with fail
        obtain ⟨y0, y1, y2⟩ := put62_at HY0.out HY1.out (by omega) (.slice none 0 0) (.slice none 0 0) (.int .i64 0) (.int .i64 0) (.int .i64 0) (.int .i64 0) (.int .i64 ((k : Int) + 1)) (.int .i64 (rule : Int))
        refine bodyPost_ret (results_pol rfl _ _ w.heap.size (w.heap.size + 1) _ _ _ _ _ _ _ _ rfl rfl y0 y1) rfl ?_
        rw [HE.out]
        refine ⟨?_, rfl⟩
        have t6 : Tu (fun k => w.heap.size ≤ k) w4 (put62 w7 w.heap.size (w.heap.size + 1) (.slice none 0 0) (.slice none 0 0) (.int .i64 0) (.int .i64 0) (.int .i64 0) (.int .i64 0) (.int .i64 ((k : Int) + 1)) (.int .i64 (rule : Int))) := (HT6.out.mono (fun k _ e => by omega)).trans y2 (fun k _ e => by rcases e with e | e <;> omega)
        exact HB4.out.trans (t6.below HB4.out.size (fun k e => e))
    · have HE : Hid (Pl.parF Pl.S0 0 ls = .inr S) := HP.out.trans (Pl.par_end (by omega))
      have hl1 := HR.out.hl.1
      have hl2 := HR.out.hl.2
      have i1 : ¬ (k : Int) < (ls.length : Int) := by omega
      have z0 : wr.heap[w.heap.size]? = some zPol := (HR.out.tu.block _ (by omega) (by omega)).trans HZ0.out
      have z1 : wr.heap[w.heap.size + 1]? = some zFau := (HR.out.tu.block _ (by omega) (by omega)).trans HZ1.out
      have HY0 : Hid (wr.heap[w.heap.size]? = some zPol) := z0
      have HY1 : Hid (wr.heap[w.heap.size + 1]? = some zFau) := z1
      have p0 : wr.cell? ⟨w.heap.size, 0, none⟩ = some (.slice none 0 0) := by simp only [World.cell?, z0]; rfl
      have p1 : wr.cell? ⟨w.heap.size, 1, none⟩ = some (.slice none 0 0) := by simp only [World.cell?, z0]; rfl
      have p2 : wr.cell? ⟨w.heap.size, 2, none⟩ = some (.int .i64 0) := by simp only [World.cell?, z0]; rfl
      have p3 : wr.cell? ⟨w.heap.size, 3, none⟩ = some (.int .i64 0) := by simp only [World.cell?, z0]; rfl
      have p4 : wr.cell? ⟨w.heap.size, 4, none⟩ = some (.int .i64 0) := by simp only [World.cell?, z0]; rfl
      have p5 : wr.cell? ⟨w.heap.size, 5, none⟩ = some (.int .i64 0) := by simp only [World.cell?, z0]; rfl
      have q0 : wr.cell? ⟨w.heap.size + 1, 0, none⟩ = some (.int .i64 0) := by simp only [World.cell?, z1]; rfl
      have q1 : wr.cell? ⟨w.heap.size + 1, 1, none⟩ = some (.int .i64 0) := by simp only [World.cell?, z1]; rfl
      obtain ⟨⟨r0, r1, r2, r3, r4, r5, _⟩, _⟩ := cells_st HR.out.x
      have f0 : ∀ j, wr.frozen? ⟨w.heap.size, j, none⟩ = false := fun j => frozen_of_row wr _ j _ _ z0
      have f1 : ∀ j, wr.frozen? ⟨w.heap.size + 1, j, none⟩ = false := fun j => frozen_of_row wr _ j _ _ z1
      clear z0 z1
      generalize hs0 : S.q 0 = s0 at *
      generalize hs1 : S.q 1 = s1 at *
      generalize hs2 : S.q 2 = s2 at *
      generalize hs3 : S.q 3 = s3 at *
      have HQ : Hid (S.q 0 = s0 ∧ S.q 1 = s1 ∧ S.q 2 = s2 ∧ S.q 3 = s3) := ⟨hs0, hs1, hs2, hs3⟩
      clear hs0 hs1 hs2 hs3
      go_wp2_with fail
      obtain ⟨y0, y1, y2⟩ := put62_at HY0.out HY1.out (by omega) (.slice ar S.R.length cr) (.slice aw S.W.length cw) (.int .i64 (s0 : Int)) (.int .i64 (s1 : Int)) (.int .i64 (s2 : Int)) (.int .i64 (s3 : Int)) (.int .i64 0) (.int .i64 0)
      refine bodyPost_ret (results_pol rfl _ _ w.heap.size (w.heap.size + 1) _ _ _ _ _ _ _ _ rfl rfl y0 y1) rfl ?_
      rw [HE.out]
      have hrow : ∀ v u l, PRowO wr w4.heap.size v u l → PRowO (put62 wr w.heap.size (w.heap.size + 1) (.slice ar S.R.length cr) (.slice aw S.W.length cw) (.int .i64 (s0 : Int)) (.int .i64 (s1 : Int)) (.int .i64 (s2 : Int)) (.int .i64 (s3 : Int)) (.int .i64 0) (.int .i64 0)) w.heap.size v u l := fun v u l hp => by
        refine PRowO.base (hp.far y2 (fun b hb e => ?_) (fun x c p hs hpn ad hx => zfar HY0.out HY1.out x c p hs hpn ad hx)) HB4.out.size
        obtain ⟨xs, k1, _⟩ := hp
        have h1 := (k1.lt b hb).1
        rcases e with e | e <;> omega
      obtain ⟨g0, g1, g2, g3⟩ := HQ.out
      refine ⟨?_, _, _, by rw [g0, g1, g2, g3]; rfl, hrow _ _ _ HR.out.st.rows.R, hrow _ _ _ HR.out.st.rows.W, HR.out.st.rows.ne, hl1, hl2⟩
      have t6 : Tu (fun k => w.heap.size ≤ k) w4 (put62 wr w.heap.size (w.heap.size + 1) (.slice ar S.R.length cr) (.slice aw S.W.length cw) (.int .i64 (s0 : Int)) (.int .i64 (s1 : Int)) (.int .i64 (s2 : Int)) (.int .i64 (s3 : Int)) (.int .i64 0) (.int .i64 0)) := (HR.out.tu.mono (fun k _ e => by omega)).trans y2 (fun k _ e => by rcases e with e | e <;> omega)
      exact HB4.out.trans (t6.below HB4.out.size (fun k e => e))
end Go.Proofs.YtcloljkaojnipaaGreatDoor
