/- What nfa.measure answers. -/
import Derived.Test.YtdiokclbdaojpaaDoorNfM2
import Derived.Test.YtdiokclbdaojpaaDoorNfM3
namespace Go.Proofs.YtdiokclbdaojpaaDoor
open Go.RowKit

theorem one_ptr (w : World) (v : Value) (t : TypeId) : ∀ j u, [v][j]? = some u → (w.alloc (.cells #[v] t)).cell? ((⟨w.heap.size, 0, none⟩ : Addr).add j) = some u := by
  intro j u hu
  rw [Nt.add_at]
  match j, hu with
  | 0, hu => cases hu; exact cell_of_row _ _ _ _ _ _ (heap_alloc_new w _)
  | j + 1, hu => cases hu
theorem Nt.KRow.slice {w : World} {base : Nat} {N : Nat → Prop} {v : Value} {l : List Nt.NT} (h : Nt.KRow w base N v l) : ∃ ka kc, ∃ bs : Nat → Nat, v = .slice ka l.length kc ∧ ∀ i (h : i < l.length), ∃ kb ko, ka = some ⟨kb, ko, none⟩ ∧ w.cell? ⟨kb, ko + i, none⟩ = some (.pointer (some ⟨bs i, 0, none⟩)) ∧ w.cell? ⟨bs i, 1, none⟩ = some (.int .i64 (Nt.msz (l[i]) : Nat)) := by
  obtain ⟨bs, h1, h2, h3⟩ := h
  have h2' := h2
  rcases h2.2 with ⟨hv, hz⟩ | ⟨g, kc, cur, hv, hbg, hg, hcap, hmax, hsize, htake⟩
  · exact ⟨none, 0, fun i => bs.getD i 0, by rw [hv, ← h1, hz], fun i hi => absurd hi (by omega)⟩
  · refine ⟨some ⟨g, 0, none⟩, kc, fun i => bs.getD i 0, by rw [hv, h1], fun i hi => ⟨g, 0, rfl, ?_, ?_⟩⟩
    · rw [hv] at h2'
      have hlt : i < bs.length := by omega
      have := h2'.cellAt i (by omega)
      rw [Nat.zero_add, this, Nt.ptrL, List.getElem?_map, List.getElem?_eq_getElem hlt]
      show _ = some (Value.pointer (some ⟨bs.getD i 0, 0, none⟩))
      rw [List.getD_eq_getElem?_getD, List.getElem?_eq_getElem hlt]
      rfl
    · obtain ⟨_, nb, off, v', hb⟩ := Nt.Pc.head (h3 i hi)
      exact hb.cells.2.1
theorem row_succ {w : World} {base : Nat} {e : TypeId} {size : Nat} {v : Value} {n : Nat} {xs : List Value} (h : w.ownsRow base e size v (n + 1) xs) : ∃ g cap, v = .slice (some ⟨g, 0, none⟩) (n + 1) cap := by
  rcases h.2 with ⟨_, hz⟩ | ⟨g, cap, _, hv, _⟩
  · exact absurd hz (by omega)
  · exact ⟨g, cap, hv⟩
theorem room_ptr {n : Nat} (h : n ≤ 8192) : ((n + 1) + (n + 1) / 4 + 192) * 8 ≤ 281474976710656 := by omega
theorem room_max {n : Nat} (h : n ≤ 8192) : n + 1 ≤ maxLen := by unfold maxLen; omega

set_option maxRecDepth 100000 in
set_option maxHeartbeats 8000000 in
theorem measure_any (T : Nt.NT) : ∀ (N : Nat → Prop) (nb off : Nat) (a : Option Addr) (cap : Nat) (w : World) (nx nx' : Nat) (op : List Nat), (∀ x, N x → x < w.heap.size) → N nb → Nt.Nine w nb off T a cap → Nt.Nd w N T a cap → 1 ≤ nx → Nt.numP T nx op = some nx' → Nt.cnt T ≤ 8192 →
    Calls Tryd.prog 50 #[.pointer (some ⟨nb, off, none⟩)] w fun e w' => (∃ b, e = .returned (.pointer (some ⟨b, 0, none⟩)) ∧ Nt.Pc w' (fun x => N x ∨ (w.heap.size ≤ x ∧ x < w'.heap.size)) T b) ∧ Below w.heap.size w w' := by
  induction T using Nt.NT.ind with
  | h T ih =>
  intro N nb off a cap w nx nx' op hNl hNb h9 hN hnx hnum hcnt
  have IH : Hid _ := ih
  clear ih
  obtain ⟨hfit, hkids⟩ := Nt.num_kids hnx hnum
  have HF : Hid _ := hfit
  have HKd : Hid _ := hkids
  have hlk := Nt.kids_cnt T
  have hlm : T.kids.length ≤ 8192 := by omega
  have Hcnt : Hid _ := hcnt
  have HNl : Hid _ := hNl
  have HNb : Hid _ := hNb
  have H9 : Hid _ := h9
  have HN : Hid _ := hN
  have hnbl := hNl nb hNb
  have HGl : Hid _ := Nt.glo_eq T
  have HGh : Hid _ := Nt.ghi_eq T
  obtain ⟨i0, hi0, hz0, hz1, hz2⟩ := info_parts Tryd.infoPtr
  have P0 : Nt.PcB (w.alloc (.cells #[.pointer (some ⟨nb, off, none⟩), .int .i64 0, .int .i64 0, .int .i64 0, .slice none 0 0] 72)) w.heap.size nb off 0 0 0 (.slice none 0 0) := heap_alloc_new w _
  have hB0 : Below w.heap.size w (w.alloc (.cells #[.pointer (some ⟨nb, off, none⟩), .int .i64 0, .int .i64 0, .int .i64 0, .slice none 0 0] 72)) := (Below.refl w.heap.size w).alloc (Nat.le_refl _) _
  have hs0 : (w.alloc (.cells #[.pointer (some ⟨nb, off, none⟩), .int .i64 0, .int .i64 0, .int .i64 0, .slice none 0 0] 72)).heap.size = w.heap.size + 1 := by simp
  obtain ⟨W, hW⟩ : ∃ W, W = w.alloc (.cells #[.pointer (some ⟨nb, off, none⟩), .int .i64 0, .int .i64 0, .int .i64 0, .slice none 0 0] 72) := ⟨_, rfl⟩
  rw [← hW] at P0 hB0 hs0
  obtain ⟨q0, q1, q2, q3, q4, q5, q6, q7, q8⟩ := h9.below hB0 hnbl
  obtain ⟨r0, r1, r2, r3, r4, r5, r6, r7, r8⟩ := H9.out
  have HP0 : Hid _ := P0
  have HB0 : Hid _ := hB0
  obtain ⟨p0, p1, p2, p3, p4⟩ := P0.cells
  have f2 := P0.frozen 2
  have f3 := P0.frozen 3
  clear h9 hN hNl hNb hkids hfit hlk hcnt hnum P0 hB0
  by_cases h6 : T.k = 6
  · have k6 : ((T.k : Int) == 6) = true := by simp; omega
    have HS : Hid (Nt.glo T = Nt.glo.gloL T.gr T.kids ∧ Nt.ghi T = Nt.ghi.ghiL T.gr T.kids) := by
      constructor
      · rw [HGl.out, h6]; rfl
      · rw [HGh.out, h6]; rfl
    clear HGl HGh
    go_enter Tryd.func50, Tryd.ntmps50
    go_wp2_with fail
    rw [← hW]
    clear hW
    go_region
    go_wp2_with fail
    have HP1 : Hid _ := (Nt.PcB.put2 HP0.out T.gr).put3 T.gr
    have HB1 : Hid (Below w.heap.size w (((W.setCell ⟨w.heap.size, 2, none⟩ (.int .i64 T.gr)).setCell ⟨w.heap.size, 3, none⟩ (.int .i64 T.gr)).drew)) := drewB ((HB0.out.setCell (p := ⟨w.heap.size, 2, none⟩) (Nat.le_refl _) _).setCell (p := ⟨w.heap.size, 3, none⟩) (Nat.le_refl _) _) 1
    have HS1 : Hid (w.heap.size + 1 ≤ (((W.setCell ⟨w.heap.size, 2, none⟩ (.int .i64 T.gr)).setCell ⟨w.heap.size, 3, none⟩ (.int .i64 T.gr)).drew).heap.size) := by
      have h1 := ((((Below.refl 0 W).setCell (p := ⟨w.heap.size, 2, none⟩) (Nat.zero_le _) (.int .i64 T.gr)).setCell (p := ⟨w.heap.size, 3, none⟩) (Nat.zero_le _) (.int .i64 T.gr))).size
      exact Nat.le_trans (by omega) h1
    clear q0 q1 q2 q3 q4 q5 q6 q7 q8 p0 p1 p2 p3 p4 f2 f3 r0 r1 r2 r3 r4 r5 r6 r7 r8
    go_loopw [33] (fun iv wr => ∃ (i : Nat) (v : Value) (lo hi : Int), i ≤ T.kids.length ∧ iv = .int .i64 (i : Int) ∧ Hid (lo = Nt.glo.gloL T.gr (T.kids.take i)) ∧ Hid (hi = Nt.ghi.ghiL T.gr (T.kids.take i)) ∧ Nt.PcB wr w.heap.size nb off 0 lo hi v ∧ Nt.KRow wr (w.heap.size + 1) N v (T.kids.take i) ∧ Below w.heap.size w wr ∧ w.heap.size + 1 ≤ wr.heap.size) (fun iv _ => T.kids.length - (intOf iv).toNat)
    case atStart => exact ⟨0, _, _, _, by omega, rfl, rfl, rfl, HP1.out, Nt.KRow.empty _ _ _, HB1.out, HS1.out⟩
    case round =>
      clear HP1 HB1 HS1
      obtain ⟨i, v, lo, hi, hi', rfl, Hlo, Hhi, PB, KR, hB, hsz⟩ := hrel
      obtain ⟨q0, q1, q2, q3, q4, q5, q6, q7, q8⟩ := H9.out.below hB hnbl
      by_cases hlt : i < T.kids.length
      · have ND : Nt.Nd wr N T a cap := HN.out.same (fun x hx => hB.block x (HNl.out x hx)) (fun _ h => h)
        obtain ⟨b2, off2, a', cap', rfl, hbB, h9', hk⟩ := ND.kid hlt
        obtain ⟨n1, n2, o1, hn1, hnk⟩ := HKd.out _ (List.getElem_mem hlt)
        have HI : Hid _ := IH.out i hlt N b2 (off2 + i * 9) a' cap' wr n1 n2 o1 (fun x hx => by have := HNl.out x hx; omega) hbB h9' hk hn1 hnk (by have h1 := Nt.cntL_kid hlt; have h2 := Hcnt.out; omega)
        have HTl : Hid _ := Nt.gloL_take hlt T.gr
        have HTh : Hid _ := Nt.ghiL_take hlt T.gr
        have HTk : Hid _ := List.take_succ_eq_append_getElem hlt
        have HPB : Hid _ := PB
        have HKR : Hid _ := KR
        have HB : Hid _ := hB
        have hro : ∀ k, v.ownBlock = some k → w.heap.size + 1 ≤ k ∧ k < wr.heap.size := by
          obtain ⟨bs, _, ox, _⟩ := KR
          exact fun k hk => ox.lt k hk
        have Hro : Hid _ := hro
        clear ND h9' hk hnk PB KR hB IH hro
        go_wp2_with fail
        refine Calls.mono HI.out ?_
        rintro e w2 ⟨⟨kb, rfl, hpc⟩, hb2⟩
        have hs2 := hb2.size
        have PB2 := Nt.PcB.same HPB.out (hb2.block w.heap.size (by omega))
        obtain ⟨bs, hbl, ox, ex⟩ := Nt.KRow.below HKR.out hb2 (fun x hx => by have := HNl.out x hx; omega)
        have hx2 : Nt.Pc w2 (fun x => N x ∨ (w.heap.size + 1 ≤ x ∧ x < w2.heap.size ∧ some x ≠ v.ownBlock)) (T.kids[i]) kb := hpc.same (fun _ _ => rfl) (fun x hx => hx.imp id (fun h => ⟨by omega, h.2, fun e => by have := (Hro.out x e.symm).2; omega⟩))
        have hbl' : bs.length = i := by rw [hbl, List.length_take]; omega
        obtain ⟨m0, m1, m2, m3, m4⟩ := PB2.cells
        have HPB2 : Hid _ := PB2
        have Hex : Hid _ := ex
        have Hx2 : Hid _ := hx2
        have Hb2 : Hid _ := hb2
        have Hbl : Hid _ := hbl
        have HR1 : Hid _ := room_ptr (n := bs.length) (by omega)
        have HR2 : Hid _ := room_max (n := bs.length) (by omega)
        have Hbl2 : Hid _ := hbl'
        clear HI hpc PB2 ex hx2 hb2 hbl hbl' HPB HKR q0 q1 q2 q3 q4 q5 q6 q7 q8
        go_wp2_with (at_builtin; refine Nt.wpList_append_far _ rfl _ _ 70 rfl (w.heap.size + 1) 66 i0 (.pointer none) 1 8 Tryd.underlying70 hi0 hz0 hz1 hz2 rfl (by decide) v bs.length (Nt.ptrL bs) rfl (ox.alloc _) ⟨w2.heap.size, 0, none⟩ 1 1 [.pointer (some ⟨kb, 0, none⟩)] rfl ?c1 ?c2 ?c3 ?c4 ?c5 ?c6 ?_)
        case c1 => rfl
        case c2 => exact one_ptr _ _ _
        case c3 => exact fun u hu => by simp only [List.mem_singleton] at hu; subst hu; rfl
        case c4 => exact HR2.out
        case c5 => exact HR1.out
        case c6 => simp; omega
        intro v3 w3 hown3 hgr3 _ hat3
        have KR3 := Nt.krow_snoc Hbl.out Hex.out Hx2.out hown3 hgr3 hat3 (by simp) (fun x hx => by have := HNl.out x hx; omega) (fun k hk => (Hro.out k hk).1)
        have hs3 : w2.heap.size ≤ w3.heap.size := by have := hgr3.size; simp at this; omega
        have hkey : ∀ x, x < w2.heap.size → some x ≠ v.ownBlock → w3.heap[x]? = w2.heap[x]? := fun x h1 h2 => by rw [hgr3.block x (by simp; omega) h2, heap_alloc_old w2 _ h1]
        have hpb : some w.heap.size ≠ v.ownBlock := fun e => by have := (Hro.out _ e.symm).1; omega
        have PB3 := Nt.PcB.same HPB2.out (hkey w.heap.size (by omega) hpb)
        obtain ⟨hPk, knb, koff, kv, kblk⟩ := Nt.Pc.head Hx2.out
        have hkb : kb < w2.heap.size ∧ kb ≠ w.heap.size ∧ some kb ≠ v.ownBlock := by
          rcases hPk with h | h
          · have := HNl.out kb h; exact ⟨by omega, by omega, fun e => by have := (Hro.out kb e.symm).1; omega⟩
          · exact ⟨h.2.1, by omega, h.2.2⟩
        have kblk3 := kblk.same (hkey kb hkb.1 hkb.2.2)
        have hBw3 : Below w.heap.size w w3 := (HB.out.trans (Hb2.out.mono HB.out.size)).trans (((Below.refl _ _).alloc (by omega) _).grown hgr3 (by simp; omega) (fun k hk => by have := (Hro.out k hk).1; omega))
        obtain ⟨g3, cap3, rfl⟩ := row_succ hown3
        have PB4 := PB3.put4 (.slice (some ⟨g3, 0, none⟩) (bs.length + 1) cap3)
        have kblk4 := kblk3.same (heap_setCell_other w3 ⟨w.heap.size, 4, none⟩ kb (.slice (some ⟨g3, 0, none⟩) (bs.length + 1) cap3) hkb.2.1)
        obtain ⟨s0, s1, s2, s3, s4⟩ := PB3.cells
        have g4 := PB3.frozen 4
        obtain ⟨t0, t1, t2, t3, t4⟩ := PB4.cells
        have g2 := PB4.frozen 2
        have g3' := PB4.frozen 3
        obtain ⟨k0, k1, k2, k3, k4⟩ := kblk4.cells
        have HKR3 : Hid _ := KR3
        have HPB4 : Hid _ := PB4
        have HBw3 : Hid _ := hBw3
        have Hkb : Hid _ := hkb
        have Hhkey : Hid _ := hkey
        clear PB3 kblk kblk3 KR3 hgr3 hown3 hat3 hkey hPk ox hBw3 m0 m1 m2 m3 m4 hkb
        by_cases hlo : lo = 0
        · have hlo' : (lo == 0) = true := by simpa using hlo
          have PB5 := Nt.PcB.put2 HPB4.out (Nt.glo (T.kids[i]))
          have kblk5 := kblk4.same (heap_setCell_other _ ⟨w.heap.size, 2, none⟩ kb (.int .i64 (Nt.glo (T.kids[i]))) Hkb.out.2.1)
          obtain ⟨u0, u1, u2, u3, u4⟩ := PB5.cells
          have g5 := PB5.frozen 3
          obtain ⟨y0, y1, y2, y3, y4⟩ := kblk5.cells
          have HPB5 : Hid _ := PB5
          have Hlo0 : Hid _ := hlo
          clear PB5 kblk5 kblk4 PB4 hlo
          go_wp2_with fail
          go_region
          go_wp2_with fail
          have PB6 := Nt.PcB.put3 HPB5.out (if hi < Nt.ghi (T.kids[i]) then Nt.ghi (T.kids[i]) else hi)
          have hbx : Bx w.heap.size w3 ((((w3.setCell ⟨w.heap.size, 4, none⟩ (.slice (some ⟨g3, 0, none⟩) (bs.length + 1) cap3)).setCell ⟨w.heap.size, 2, none⟩ (.int .i64 (Nt.glo (T.kids[i])))).setCell ⟨w.heap.size, 3, none⟩ (.int .i64 (if hi < Nt.ghi (T.kids[i]) then Nt.ghi (T.kids[i]) else hi))).drew) := (((Bx.set _ _ _ _).trans (Bx.set _ _ _ _)).trans (Bx.set _ _ _ _)).trans ⟨rfl, rfl, rfl, Nat.le_refl _, fun _ _ _ => rfl⟩
          have KR6 := Nt.KRow.bx HKR3.out hbx (by omega) (fun x hx => by have := HNl.out x hx; omega)
          rw [← HTk.out] at KR6
          refine ⟨⟨i + 1, _, _, _, by omega, by simp, ?_, ?_, PB6, KR6, HBw3.out.trans (hbx.below (Nat.le_refl _) (by omega)), by have := hbx.size; omega⟩, by simp only [intOf]; omega⟩
          · show _ = _
            rw [HTl.out, ← Hlo.out, hlo']; rfl
          · show _ = _
            rw [HTh.out, ← Hhi.out]
            split <;> omega
        · have hlo' : (lo == 0) = false := by simpa using hlo
          clear kblk4 PB4
          go_wp2_with fail
          go_region
          go_wp2_with fail
          have PB6 := Nt.PcB.put3 HPB4.out (if hi < Nt.ghi (T.kids[i]) then Nt.ghi (T.kids[i]) else hi)
          have hbx : Bx w.heap.size w3 (((w3.setCell ⟨w.heap.size, 4, none⟩ (.slice (some ⟨g3, 0, none⟩) (bs.length + 1) cap3)).setCell ⟨w.heap.size, 3, none⟩ (.int .i64 (if hi < Nt.ghi (T.kids[i]) then Nt.ghi (T.kids[i]) else hi))).drew) := ((Bx.set _ _ _ _).trans (Bx.set _ _ _ _)).trans ⟨rfl, rfl, rfl, Nat.le_refl _, fun _ _ _ => rfl⟩
          have KR6 := Nt.KRow.bx HKR3.out hbx (by omega) (fun x hx => by have := HNl.out x hx; omega)
          rw [← HTk.out] at KR6
          refine ⟨⟨i + 1, _, _, _, by omega, by simp, ?_, ?_, PB6, KR6, HBw3.out.trans (hbx.below (Nat.le_refl _) (by omega)), by have := hbx.size; omega⟩, by simp only [intOf]; omega⟩
          · show _ = _
            rw [HTl.out, ← Hlo.out, hlo']; rfl
          · show _ = _
            rw [HTh.out, ← Hhi.out]
            split <;> omega
      · obtain rfl : i = T.kids.length := by omega
        rw [List.take_length] at KR Hlo Hhi
        have elo : lo = Nt.glo T := by rw [Hlo.out, HS.out.1]
        have ehi : hi = Nt.ghi T := by rw [Hhi.out, HS.out.2]
        subst elo
        subst ehi
        obtain ⟨ka, kc, bs, rfl, hks⟩ := Nt.KRow.slice KR
        have HSM : Hid _ := sum_any T w.heap.size nb off 0 (Nt.glo T) (Nt.ghi T) ka kc bs a cap wr PB (H9.out.below hB hnbl) HF.out hlm hks
        have HM : Hid _ := Nt.msz_eq T
        generalize Nt.szN T.k T.mn T.mx T.kids.length (decide (0 < Nt.ghi T)) (Nt.msz.mszL T.kids) = Z at *
        obtain ⟨s0, s1, s2, s3, s4⟩ := PB.cells
        have g1 := PB.frozen 1
        have HPB : Hid _ := PB
        have HKR : Hid _ := KR
        have HB : Hid _ := hB
        clear PB KR hB hks q0 q1 q2 q3 q4 q5 q6 q7 q8
        go_wp2_with fail
        refine Calls.mono HSM.out ?_
        rintro e w2 ⟨rfl, nq, rfl⟩
        clear HSM
        by_cases hz : 16385 < Z
        · have hzd : decide ((16385 : Int) < (Z : Int)) = true := by simp; omega
          have hze : ¬ ((Z : Int) < 16385) := by omega
          have hm : Nt.msz T = 16385 := by rw [HM.out]; omega
          go_wp2_with fail
          all_goals
            go_ret
            have hbx : Bx w.heap.size wr ((wr.drewN nq).setCell ⟨w.heap.size, 1, none⟩ (.int .i64 16385)) := Bx.trans (b := wr.drewN nq) ⟨rfl, rfl, rfl, Nat.le_refl _, fun _ _ _ => rfl⟩ (Bx.set _ _ _ _)
            have PB9 : Nt.PcB ((wr.drewN nq).setCell ⟨w.heap.size, 1, none⟩ (.int .i64 16385)) w.heap.size nb off (Nt.msz T : Nat) (Nt.glo T) (Nt.ghi T) (.slice ka T.kids.length kc) := by rw [hm]; exact Nt.PcB.put1 (w := wr.drewN nq) HPB.out 16385
            have hsb := hbx.size
            exact ⟨⟨w.heap.size, rfl, Nt.KRow.pc (Nt.KRow.bx HKR.out hbx (by omega) (fun x hx => by have := HNl.out x hx; omega)) hlm PB9 ((H9.out.below HB.out hnbl).bx hbx (by omega) (by omega)) (.inr ⟨Nat.le_refl _, by omega⟩) (.inl HNb.out) (fun x hx => hx.imp id (fun h => ⟨by omega, h.2⟩))⟩, HB.out.trans (hbx.below (Nat.le_refl _) (by omega))⟩
        · have hzd : decide ((16385 : Int) < (Z : Int)) = false := by simp; omega
          have hm : Nt.msz T = Z := by rw [HM.out]; omega
          by_cases hz2 : Z = 16385
          · subst hz2
            go_wp2_with fail
            all_goals
              go_ret
              have hbx : Bx w.heap.size wr ((wr.drewN nq).setCell ⟨w.heap.size, 1, none⟩ (.int .i64 16385)) := Bx.trans (b := wr.drewN nq) ⟨rfl, rfl, rfl, Nat.le_refl _, fun _ _ _ => rfl⟩ (Bx.set _ _ _ _)
              have PB9 : Nt.PcB ((wr.drewN nq).setCell ⟨w.heap.size, 1, none⟩ (.int .i64 16385)) w.heap.size nb off (Nt.msz T : Nat) (Nt.glo T) (Nt.ghi T) (.slice ka T.kids.length kc) := by rw [hm]; exact Nt.PcB.put1 (w := wr.drewN nq) HPB.out 16385
              have hsb := hbx.size
              exact ⟨⟨w.heap.size, rfl, Nt.KRow.pc (Nt.KRow.bx HKR.out hbx (by omega) (fun x hx => by have := HNl.out x hx; omega)) hlm PB9 ((H9.out.below HB.out hnbl).bx hbx (by omega) (by omega)) (.inr ⟨Nat.le_refl _, by omega⟩) (.inl HNb.out) (fun x hx => hx.imp id (fun h => ⟨by omega, h.2⟩))⟩, HB.out.trans (hbx.below (Nat.le_refl _) (by omega))⟩
          · have hze : (Z : Int) < 16385 := by omega
            go_wp2_with fail
            all_goals
              go_ret
              have hbx : Bx w.heap.size wr ((wr.drewN nq).setCell ⟨w.heap.size, 1, none⟩ (.int .i64 (Z : Int))) := Bx.trans (b := wr.drewN nq) ⟨rfl, rfl, rfl, Nat.le_refl _, fun _ _ _ => rfl⟩ (Bx.set _ _ _ _)
              have PB9 : Nt.PcB ((wr.drewN nq).setCell ⟨w.heap.size, 1, none⟩ (.int .i64 (Z : Int))) w.heap.size nb off (Nt.msz T : Nat) (Nt.glo T) (Nt.ghi T) (.slice ka T.kids.length kc) := by rw [hm]; exact Nt.PcB.put1 (w := wr.drewN nq) HPB.out (Z : Int)
              have hsb := hbx.size
              exact ⟨⟨w.heap.size, rfl, Nt.KRow.pc (Nt.KRow.bx HKR.out hbx (by omega) (fun x hx => by have := HNl.out x hx; omega)) hlm PB9 ((H9.out.below HB.out hnbl).bx hbx (by omega) (by omega)) (.inr ⟨Nat.le_refl _, by omega⟩) (.inl HNb.out) (fun x hx => hx.imp id (fun h => ⟨by omega, h.2⟩))⟩, HB.out.trans (hbx.below (Nat.le_refl _) (by omega))⟩
  · have k6 : ((T.k : Int) == 6) = false := by simp; omega
    have k6n : (T.k == 6) = false := by simpa using h6
    have HS : Hid (Nt.glo T = Nt.glo.gloL 0 T.kids ∧ Nt.ghi T = Nt.ghi.ghiL 0 T.kids) := by
      constructor
      · rw [HGl.out, k6n]; rfl
      · rw [HGh.out, k6n]; rfl
    clear HGl HGh k6n
    go_enter Tryd.func50, Tryd.ntmps50
    go_wp2_with fail
    rw [← hW]
    clear hW
    have HP1 : Hid _ := HP0.out
    have HB1 : Hid _ := HB0.out
    have HS1 : Hid (w.heap.size + 1 ≤ W.heap.size) := by show _ ≤ _; omega
    clear q0 q1 q2 q3 q4 q5 q6 q7 q8 p0 p1 p2 p3 p4 f2 f3 r0 r1 r2 r3 r4 r5 r6 r7 r8
    go_loopw [33] (fun iv wr => ∃ (i : Nat) (v : Value) (lo hi : Int), i ≤ T.kids.length ∧ iv = .int .i64 (i : Int) ∧ Hid (lo = Nt.glo.gloL 0 (T.kids.take i)) ∧ Hid (hi = Nt.ghi.ghiL 0 (T.kids.take i)) ∧ Nt.PcB wr w.heap.size nb off 0 lo hi v ∧ Nt.KRow wr (w.heap.size + 1) N v (T.kids.take i) ∧ Below w.heap.size w wr ∧ w.heap.size + 1 ≤ wr.heap.size) (fun iv _ => T.kids.length - (intOf iv).toNat)
    case atStart => exact ⟨0, _, _, _, by omega, rfl, rfl, rfl, HP1.out, Nt.KRow.empty _ _ _, HB1.out, HS1.out⟩
    case round =>
      clear HP1 HB1 HS1
      obtain ⟨i, v, lo, hi, hi', rfl, Hlo, Hhi, PB, KR, hB, hsz⟩ := hrel
      obtain ⟨q0, q1, q2, q3, q4, q5, q6, q7, q8⟩ := H9.out.below hB hnbl
      by_cases hlt : i < T.kids.length
      · have ND : Nt.Nd wr N T a cap := HN.out.same (fun x hx => hB.block x (HNl.out x hx)) (fun _ h => h)
        obtain ⟨b2, off2, a', cap', rfl, hbB, h9', hk⟩ := ND.kid hlt
        obtain ⟨n1, n2, o1, hn1, hnk⟩ := HKd.out _ (List.getElem_mem hlt)
        have HI : Hid _ := IH.out i hlt N b2 (off2 + i * 9) a' cap' wr n1 n2 o1 (fun x hx => by have := HNl.out x hx; omega) hbB h9' hk hn1 hnk (by have h1 := Nt.cntL_kid hlt; have h2 := Hcnt.out; omega)
        have HTl : Hid _ := Nt.gloL_take hlt 0
        have HTh : Hid _ := Nt.ghiL_take hlt 0
        have HTk : Hid _ := List.take_succ_eq_append_getElem hlt
        have HPB : Hid _ := PB
        have HKR : Hid _ := KR
        have HB : Hid _ := hB
        have hro : ∀ k, v.ownBlock = some k → w.heap.size + 1 ≤ k ∧ k < wr.heap.size := by
          obtain ⟨bs, _, ox, _⟩ := KR
          exact fun k hk => ox.lt k hk
        have Hro : Hid _ := hro
        clear ND h9' hk hnk PB KR hB IH hro
        go_wp2_with fail
        refine Calls.mono HI.out ?_
        rintro e w2 ⟨⟨kb, rfl, hpc⟩, hb2⟩
        have hs2 := hb2.size
        have PB2 := Nt.PcB.same HPB.out (hb2.block w.heap.size (by omega))
        obtain ⟨bs, hbl, ox, ex⟩ := Nt.KRow.below HKR.out hb2 (fun x hx => by have := HNl.out x hx; omega)
        have hx2 : Nt.Pc w2 (fun x => N x ∨ (w.heap.size + 1 ≤ x ∧ x < w2.heap.size ∧ some x ≠ v.ownBlock)) (T.kids[i]) kb := hpc.same (fun _ _ => rfl) (fun x hx => hx.imp id (fun h => ⟨by omega, h.2, fun e => by have := (Hro.out x e.symm).2; omega⟩))
        have hbl' : bs.length = i := by rw [hbl, List.length_take]; omega
        obtain ⟨m0, m1, m2, m3, m4⟩ := PB2.cells
        have HPB2 : Hid _ := PB2
        have Hex : Hid _ := ex
        have Hx2 : Hid _ := hx2
        have Hb2 : Hid _ := hb2
        have Hbl : Hid _ := hbl
        have HR1 : Hid _ := room_ptr (n := bs.length) (by omega)
        have HR2 : Hid _ := room_max (n := bs.length) (by omega)
        have Hbl2 : Hid _ := hbl'
        clear HI hpc PB2 ex hx2 hb2 hbl hbl' HPB HKR q0 q1 q2 q3 q4 q5 q6 q7 q8
        go_wp2_with (at_builtin; refine Nt.wpList_append_far _ rfl _ _ 70 rfl (w.heap.size + 1) 66 i0 (.pointer none) 1 8 Tryd.underlying70 hi0 hz0 hz1 hz2 rfl (by decide) v bs.length (Nt.ptrL bs) rfl (ox.alloc _) ⟨w2.heap.size, 0, none⟩ 1 1 [.pointer (some ⟨kb, 0, none⟩)] rfl ?d1 ?d2 ?d3 ?d4 ?d5 ?d6 ?_)
        case d1 => rfl
        case d2 => exact one_ptr _ _ _
        case d3 => exact fun u hu => by simp only [List.mem_singleton] at hu; subst hu; rfl
        case d4 => exact HR2.out
        case d5 => exact HR1.out
        case d6 => simp; omega
        intro v3 w3 hown3 hgr3 _ hat3
        have KR3 := Nt.krow_snoc Hbl.out Hex.out Hx2.out hown3 hgr3 hat3 (by simp) (fun x hx => by have := HNl.out x hx; omega) (fun k hk => (Hro.out k hk).1)
        have hs3 : w2.heap.size ≤ w3.heap.size := by have := hgr3.size; simp at this; omega
        have hkey : ∀ x, x < w2.heap.size → some x ≠ v.ownBlock → w3.heap[x]? = w2.heap[x]? := fun x h1 h2 => by rw [hgr3.block x (by simp; omega) h2, heap_alloc_old w2 _ h1]
        have hpb : some w.heap.size ≠ v.ownBlock := fun e => by have := (Hro.out _ e.symm).1; omega
        have PB3 := Nt.PcB.same HPB2.out (hkey w.heap.size (by omega) hpb)
        obtain ⟨hPk, knb, koff, kv, kblk⟩ := Nt.Pc.head Hx2.out
        have hkb : kb < w2.heap.size ∧ kb ≠ w.heap.size ∧ some kb ≠ v.ownBlock := by
          rcases hPk with h | h
          · have := HNl.out kb h; exact ⟨by omega, by omega, fun e => by have := (Hro.out kb e.symm).1; omega⟩
          · exact ⟨h.2.1, by omega, h.2.2⟩
        have kblk3 := kblk.same (hkey kb hkb.1 hkb.2.2)
        have hBw3 : Below w.heap.size w w3 := (HB.out.trans (Hb2.out.mono HB.out.size)).trans (((Below.refl _ _).alloc (by omega) _).grown hgr3 (by simp; omega) (fun k hk => by have := (Hro.out k hk).1; omega))
        obtain ⟨g3, cap3, rfl⟩ := row_succ hown3
        have PB4 := PB3.put4 (.slice (some ⟨g3, 0, none⟩) (bs.length + 1) cap3)
        have kblk4 := kblk3.same (heap_setCell_other w3 ⟨w.heap.size, 4, none⟩ kb (.slice (some ⟨g3, 0, none⟩) (bs.length + 1) cap3) hkb.2.1)
        obtain ⟨s0, s1, s2, s3, s4⟩ := PB3.cells
        have g4 := PB3.frozen 4
        obtain ⟨t0, t1, t2, t3, t4⟩ := PB4.cells
        have g2 := PB4.frozen 2
        have g3' := PB4.frozen 3
        obtain ⟨k0, k1, k2, k3, k4⟩ := kblk4.cells
        have HKR3 : Hid _ := KR3
        have HPB4 : Hid _ := PB4
        have HBw3 : Hid _ := hBw3
        have Hkb : Hid _ := hkb
        have Hhkey : Hid _ := hkey
        clear PB3 kblk kblk3 KR3 hgr3 hown3 hat3 hkey hPk ox hBw3 m0 m1 m2 m3 m4 hkb
        by_cases hlo : lo = 0
        · have hlo' : (lo == 0) = true := by simpa using hlo
          have PB5 := Nt.PcB.put2 HPB4.out (Nt.glo (T.kids[i]))
          have kblk5 := kblk4.same (heap_setCell_other _ ⟨w.heap.size, 2, none⟩ kb (.int .i64 (Nt.glo (T.kids[i]))) Hkb.out.2.1)
          obtain ⟨u0, u1, u2, u3, u4⟩ := PB5.cells
          have g5 := PB5.frozen 3
          obtain ⟨y0, y1, y2, y3, y4⟩ := kblk5.cells
          have HPB5 : Hid _ := PB5
          have Hlo0 : Hid _ := hlo
          clear PB5 kblk5 kblk4 PB4 hlo
          go_wp2_with fail
          go_region
          go_wp2_with fail
          have PB6 := Nt.PcB.put3 HPB5.out (if hi < Nt.ghi (T.kids[i]) then Nt.ghi (T.kids[i]) else hi)
          have hbx : Bx w.heap.size w3 ((((w3.setCell ⟨w.heap.size, 4, none⟩ (.slice (some ⟨g3, 0, none⟩) (bs.length + 1) cap3)).setCell ⟨w.heap.size, 2, none⟩ (.int .i64 (Nt.glo (T.kids[i])))).setCell ⟨w.heap.size, 3, none⟩ (.int .i64 (if hi < Nt.ghi (T.kids[i]) then Nt.ghi (T.kids[i]) else hi))).drew) := (((Bx.set _ _ _ _).trans (Bx.set _ _ _ _)).trans (Bx.set _ _ _ _)).trans ⟨rfl, rfl, rfl, Nat.le_refl _, fun _ _ _ => rfl⟩
          have KR6 := Nt.KRow.bx HKR3.out hbx (by omega) (fun x hx => by have := HNl.out x hx; omega)
          rw [← HTk.out] at KR6
          refine ⟨⟨i + 1, _, _, _, by omega, by simp, ?_, ?_, PB6, KR6, HBw3.out.trans (hbx.below (Nat.le_refl _) (by omega)), by have := hbx.size; omega⟩, by simp only [intOf]; omega⟩
          · show _ = _
            rw [HTl.out, ← Hlo.out, hlo']; rfl
          · show _ = _
            rw [HTh.out, ← Hhi.out]
            split <;> omega
        · have hlo' : (lo == 0) = false := by simpa using hlo
          clear kblk4 PB4
          go_wp2_with fail
          go_region
          go_wp2_with fail
          have PB6 := Nt.PcB.put3 HPB4.out (if hi < Nt.ghi (T.kids[i]) then Nt.ghi (T.kids[i]) else hi)
          have hbx : Bx w.heap.size w3 (((w3.setCell ⟨w.heap.size, 4, none⟩ (.slice (some ⟨g3, 0, none⟩) (bs.length + 1) cap3)).setCell ⟨w.heap.size, 3, none⟩ (.int .i64 (if hi < Nt.ghi (T.kids[i]) then Nt.ghi (T.kids[i]) else hi))).drew) := ((Bx.set _ _ _ _).trans (Bx.set _ _ _ _)).trans ⟨rfl, rfl, rfl, Nat.le_refl _, fun _ _ _ => rfl⟩
          have KR6 := Nt.KRow.bx HKR3.out hbx (by omega) (fun x hx => by have := HNl.out x hx; omega)
          rw [← HTk.out] at KR6
          refine ⟨⟨i + 1, _, _, _, by omega, by simp, ?_, ?_, PB6, KR6, HBw3.out.trans (hbx.below (Nat.le_refl _) (by omega)), by have := hbx.size; omega⟩, by simp only [intOf]; omega⟩
          · show _ = _
            rw [HTl.out, ← Hlo.out, hlo']; rfl
          · show _ = _
            rw [HTh.out, ← Hhi.out]
            split <;> omega
      · obtain rfl : i = T.kids.length := by omega
        rw [List.take_length] at KR Hlo Hhi
        have elo : lo = Nt.glo T := by rw [Hlo.out, HS.out.1]
        have ehi : hi = Nt.ghi T := by rw [Hhi.out, HS.out.2]
        subst elo
        subst ehi
        obtain ⟨ka, kc, bs, rfl, hks⟩ := Nt.KRow.slice KR
        have HSM : Hid _ := sum_any T w.heap.size nb off 0 (Nt.glo T) (Nt.ghi T) ka kc bs a cap wr PB (H9.out.below hB hnbl) HF.out hlm hks
        have HM : Hid _ := Nt.msz_eq T
        generalize Nt.szN T.k T.mn T.mx T.kids.length (decide (0 < Nt.ghi T)) (Nt.msz.mszL T.kids) = Z at *
        obtain ⟨s0, s1, s2, s3, s4⟩ := PB.cells
        have g1 := PB.frozen 1
        have HPB : Hid _ := PB
        have HKR : Hid _ := KR
        have HB : Hid _ := hB
        clear PB KR hB hks q0 q1 q2 q3 q4 q5 q6 q7 q8
        go_wp2_with fail
        refine Calls.mono HSM.out ?_
        rintro e w2 ⟨rfl, nq, rfl⟩
        clear HSM
        by_cases hz : 16385 < Z
        · have hzd : decide ((16385 : Int) < (Z : Int)) = true := by simp; omega
          have hze : ¬ ((Z : Int) < 16385) := by omega
          have hm : Nt.msz T = 16385 := by rw [HM.out]; omega
          go_wp2_with fail
          all_goals
            go_ret
            have hbx : Bx w.heap.size wr ((wr.drewN nq).setCell ⟨w.heap.size, 1, none⟩ (.int .i64 16385)) := Bx.trans (b := wr.drewN nq) ⟨rfl, rfl, rfl, Nat.le_refl _, fun _ _ _ => rfl⟩ (Bx.set _ _ _ _)
            have PB9 : Nt.PcB ((wr.drewN nq).setCell ⟨w.heap.size, 1, none⟩ (.int .i64 16385)) w.heap.size nb off (Nt.msz T : Nat) (Nt.glo T) (Nt.ghi T) (.slice ka T.kids.length kc) := by rw [hm]; exact Nt.PcB.put1 (w := wr.drewN nq) HPB.out 16385
            have hsb := hbx.size
            exact ⟨⟨w.heap.size, rfl, Nt.KRow.pc (Nt.KRow.bx HKR.out hbx (by omega) (fun x hx => by have := HNl.out x hx; omega)) hlm PB9 ((H9.out.below HB.out hnbl).bx hbx (by omega) (by omega)) (.inr ⟨Nat.le_refl _, by omega⟩) (.inl HNb.out) (fun x hx => hx.imp id (fun h => ⟨by omega, h.2⟩))⟩, HB.out.trans (hbx.below (Nat.le_refl _) (by omega))⟩
        · have hzd : decide ((16385 : Int) < (Z : Int)) = false := by simp; omega
          have hm : Nt.msz T = Z := by rw [HM.out]; omega
          by_cases hz2 : Z = 16385
          · subst hz2
            go_wp2_with fail
            all_goals
              go_ret
              have hbx : Bx w.heap.size wr ((wr.drewN nq).setCell ⟨w.heap.size, 1, none⟩ (.int .i64 16385)) := Bx.trans (b := wr.drewN nq) ⟨rfl, rfl, rfl, Nat.le_refl _, fun _ _ _ => rfl⟩ (Bx.set _ _ _ _)
              have PB9 : Nt.PcB ((wr.drewN nq).setCell ⟨w.heap.size, 1, none⟩ (.int .i64 16385)) w.heap.size nb off (Nt.msz T : Nat) (Nt.glo T) (Nt.ghi T) (.slice ka T.kids.length kc) := by rw [hm]; exact Nt.PcB.put1 (w := wr.drewN nq) HPB.out 16385
              have hsb := hbx.size
              exact ⟨⟨w.heap.size, rfl, Nt.KRow.pc (Nt.KRow.bx HKR.out hbx (by omega) (fun x hx => by have := HNl.out x hx; omega)) hlm PB9 ((H9.out.below HB.out hnbl).bx hbx (by omega) (by omega)) (.inr ⟨Nat.le_refl _, by omega⟩) (.inl HNb.out) (fun x hx => hx.imp id (fun h => ⟨by omega, h.2⟩))⟩, HB.out.trans (hbx.below (Nat.le_refl _) (by omega))⟩
          · have hze : (Z : Int) < 16385 := by omega
            go_wp2_with fail
            all_goals
              go_ret
              have hbx : Bx w.heap.size wr ((wr.drewN nq).setCell ⟨w.heap.size, 1, none⟩ (.int .i64 (Z : Int))) := Bx.trans (b := wr.drewN nq) ⟨rfl, rfl, rfl, Nat.le_refl _, fun _ _ _ => rfl⟩ (Bx.set _ _ _ _)
              have PB9 : Nt.PcB ((wr.drewN nq).setCell ⟨w.heap.size, 1, none⟩ (.int .i64 (Z : Int))) w.heap.size nb off (Nt.msz T : Nat) (Nt.glo T) (Nt.ghi T) (.slice ka T.kids.length kc) := by rw [hm]; exact Nt.PcB.put1 (w := wr.drewN nq) HPB.out (Z : Int)
              have hsb := hbx.size
              exact ⟨⟨w.heap.size, rfl, Nt.KRow.pc (Nt.KRow.bx HKR.out hbx (by omega) (fun x hx => by have := HNl.out x hx; omega)) hlm PB9 ((H9.out.below HB.out hnbl).bx hbx (by omega) (by omega)) (.inr ⟨Nat.le_refl _, by omega⟩) (.inl HNb.out) (fun x hx => hx.imp id (fun h => ⟨by omega, h.2⟩))⟩, HB.out.trans (hbx.below (Nat.le_refl _) (by omega))⟩
end Go.Proofs.YtdiokclbdaojpaaDoor
