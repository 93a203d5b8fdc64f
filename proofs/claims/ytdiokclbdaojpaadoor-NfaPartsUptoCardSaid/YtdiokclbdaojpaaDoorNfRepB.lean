/- What (*layout).repeat does with a greatest number of rounds. -/
import Derived.Test.YtdiokclbdaojpaaDoorNfRep
namespace Go.Proofs.YtdiokclbdaojpaaDoor
open Go.RowKit

set_option maxRecDepth 100000 in
set_option maxHeartbeats 8000000 in
theorem lay_many (T : Nt.NT) (hk : T.k = 5) (m : Nat) (hm : T.mn = (m : Int)) (hm5 : m ≤ 255) (n : Nat) (hn5 : m + n ≤ 255) (hx : T.mx = ((m + n : Nat) : Int)) (h1 : T.kids.length = 1) (hms : Nt.msz T = min (Nt.sz T) 16385) (hgg : decide (0 < Nt.ghi T) = decide (0 < Nt.grps.grpsL T.kids)) (HK : ∀ i (h : i < T.kids.length), Nt.LayC 34 (T.kids[i])) : Nt.LayC 58 T := by
  intro lb rb cap f b L P w hL hP hpc hroom hcap hf ht
  have hlt : 0 < T.kids.length := by omega
  have hc : Nt.code T L.length f = Nt.mustC m (Nt.rln T) (Nt.rnd T) L.length f ++ Nt.mayC n (Nt.rln T) (L.length + Nt.sz T) (Nt.rnd T) (L.length + m * Nt.rln T) f := by
    have e1 : (T.mx == -1) = false := by rw [hx]; exact beq_eq_false_iff_ne.2 (by omega)
    have e2 : (T.mx - T.mn).toNat = n := by rw [hx, hm]; omega
    rw [Nt.code_rep T hk, e1, e2, hm]; rfl
  have hz : Nt.sz T = m * Nt.rln T + n * (Nt.rln T + 3) := by
    rw [← Nt.code_len T L.length f, hc]; simp [Nt.musts_len, Nt.mays_len]
  have hms' : Nt.msz T = Nt.sz T := by omega
  rw [hc]
  obtain ⟨Z, hZ⟩ : ∃ Z, Nt.sz T = Z := ⟨_, rfl⟩
  rw [hZ] at hroom hz hms' ⊢
  have HK : Hid _ := HK 0 hlt
  have HL : Hid _ := hL
  have HP : Hid _ := hP
  have HPC : Hid (Nt.Pc w P T b) := hpc
  have Hroom : Hid _ := hroom
  have Hf : Hid (f + 1 + Nt.cnt (T.kids[0]) ≤ 16384) := by show _ ≤ _; have := Nt.cntL_kid hlt; omega
  have Hz : Hid _ := hz
  have Ht : Hid _ := ht
  have Hgg : Hid _ := hgg
  have Hlt : Hid (lb < w.heap.size ∧ rb < w.heap.size) := hL.lt
  have HHE : Hid (∀ n, Calls Tryd.prog 77 #[.pointer (some ⟨lb, 0, none⟩)] (w.drewN n) fun e w' => e = .returned (.int .i64 (L.length : Nat)) ∧ w' = w.drewN n) := fun n => here_any lb rb cap f L _ ⟨hL.blk, hL.row, hL.ne⟩
  have hb1 : L.length ≤ 16385 := by omega
  have hb2 : Z ≤ 16385 := by omega
  cases hpc with
  | mk nb off a cap' ka kc bs hb blk hn node len room most kids sub =>
  rw [hms', h1] at blk
  have HB : Hid _ := blk
  have Hhb : Hid _ := hb
  have HN : Hid _ := node
  have Hhn : Hid _ := hn
  obtain ⟨p0, p1, p2, p3, p4⟩ := blk.cells
  obtain ⟨q0, q1, q2, q3, q4, q5, q6, q7, q8⟩ := node
  rw [hm] at q5
  rw [hx, Int.natCast_add] at q6
  clear hL hP blk kids sub hroom hf hc hz ht hgg hms hms' hk hb hn len room hZ
  have hbs : b < w.heap.size := (HP.out b Hhb.out).1
  have hns : nb < w.heap.size := (HP.out nb Hhn.out).1
  have hbs' : ¬ w.heap.size = b := by omega
  have hns' : ¬ w.heap.size = nb := by omega
  have hbs2 : ¬ b = w.heap.size := by omega
  have hns2 : ¬ nb = w.heap.size := by omega
  go_enter Tryd.func58, Tryd.ntmps58
  go_wp2_with fail
  go_quiet ((go_at_call 77; exact Calls.quiet_of_same (HHE.out _)))
  have hAl : Below w.heap.size w ((w.drewN nq).alloc (.cells #[.bool false, .int .i64 0, .int .i64 0, .int .i64 0] 130)) := (drewB (Below.refl _ w) nq).alloc (Nat.le_refl _) _
  have r0 := (hAl.cell (p := ⟨b, 0, none⟩) hbs).trans p0
  have r5 := (hAl.cell (p := ⟨nb, off + 5, none⟩) hns).trans q5
  have HAl : Hid _ := hAl
  clear hAl
  go_wp2_with fail
  go_loopw [21] (fun iv wr => ∃ i : Nat, i ≤ m ∧ iv = .int .i64 (i : Int) ∧ Nt.Ly wr lb rb cap (L ++ Nt.mustC i (Nt.rln T) (Nt.rnd T) L.length f) f ∧ Nt.Fst wr w.heap.size T (L ++ Nt.mustC i (Nt.rln T) (Nt.rnd T) L.length f) f ∧ Nt.Bz lb rb w wr) (fun iv _ => m - (intOf iv).toNat)
  case atStart => exact ⟨0, by omega, rfl, by rw [Nt.mustC, List.append_nil]; exact HL.out.under HAl.out, .inl (heap_alloc_new (w.drewN nq) _), Nt.Bz.of_below HAl.out⟩
  case round =>
    clear HHE HL HAl r0 r5
    obtain ⟨i, hi, rfl, hLi, hFi, hzi⟩ := hrel
    have HLi : Hid _ := hLi
    have HFi : Hid (Nt.Fst wr w.heap.size T (L ++ Nt.mustC i (Nt.rln T) (Nt.rnd T) L.length f) f) := hFi
    have Hzi : Hid _ := hzi
    have HPw : Hid (∀ x, P x → x < wr.heap.size ∧ x ≠ lb ∧ x ≠ rb ∧ x ≠ w.heap.size) := fun x hx => ⟨Nat.lt_of_lt_of_le (HP.out x hx).1 hzi.size, (HP.out x hx).2.1, (HP.out x hx).2.2, by have := (HP.out x hx).1; omega⟩
    have HPCw : Hid (Nt.Pc wr P T b) := Nt.Pc.bz HPC.out hzi HP.out
    have Htw : Hid _ := Ht.out.bz hzi
    have Hgl : Hid (w.heap.size ≠ lb ∧ w.heap.size ≠ rb ∧ 2 ≤ w.heap.size) := ⟨fun e => absurd Hlt.out.1 (by omega), fun e => absurd Hlt.out.2 (by omega), Ht.out.tab.big⟩
    have hlen : (L ++ Nt.mustC i (Nt.rln T) (Nt.rnd T) L.length f).length = L.length + i * Nt.rln T := by rw [List.length_append, Nt.musts_len]
    have Hlen : Hid _ := hlen
    clear hLi hFi hzi hlen
    by_cases hlti : i < m
    · have HRd : Hid _ := round_any T h1 hlt HK.out Hgg.out lb rb cap f b w.heap.size _ P wr HLi.out HPw.out HPCw.out (by rw [Hlen.out]; have h3 := Nat.mul_le_mul_right (Nt.rln T) (show i + 1 ≤ m from hlti); rw [Nat.succ_mul] at h3; have h4 := Hz.out; have h5 := Hroom.out; omega) hcap (by have := Hf.out; omega) Htw.out HFi.out Hgl.out.1 Hgl.out.2.1 Hgl.out.2.2
      go_wp2_with fail
      refine Calls.mono HRd.out ?_
      rintro e w2 ⟨⟨v, rfl⟩, hL2, hF2, hb2'⟩
      have hL3 : Nt.Ly w2 lb rb cap (L ++ Nt.mustC (i + 1) (Nt.rln T) (Nt.rnd T) L.length f) f := by
        rw [Nt.mustC_snoc, ← List.append_assoc, ← Hlen.out]; exact hL2
      have hF3 : Nt.Fst w2 w.heap.size T (L ++ Nt.mustC (i + 1) (Nt.rln T) (Nt.rnd T) L.length f) f := by
        rw [Nt.mustC_snoc, ← List.append_assoc, ← Hlen.out]; exact hF2
      have hz3 := Hzi.out.of_bg hb2'
      have HE3 : Hid _ := hF3
      clear HRd hL2 hF2 hb2' hF3
      go_wp2_with fail
      refine ⟨⟨i + 1, by omega, by simp, hL3, HE3.out, hz3⟩, by simp only [intOf]; omega⟩
    · obtain rfl : i = m := by omega
      have s0 : wr.cell? ⟨b, 0, none⟩ = some (.pointer (some ⟨nb, off, none⟩)) := (World.cell?_of_block (Hzi.out.block b hbs (HP.out b Hhb.out).2.1 (HP.out b Hhb.out).2.2)).trans p0
      have s6 : wr.cell? ⟨nb, off + 6, none⟩ = some (.int .i64 ((i : Int) + (n : Int))) := (World.cell?_of_block (Hzi.out.block nb hns (HP.out nb Hhn.out).2.1 (HP.out nb Hhn.out).2.2)).trans q6
      obtain ⟨M, hM⟩ : ∃ M, L ++ Nt.mustC i (Nt.rln T) (Nt.rnd T) L.length f = M := ⟨_, rfl⟩
      have HM : Hid _ := hM
      have HLM : Hid (Nt.Ly wr lb rb cap M f) := hM ▸ HLi.out
      have HFM : Hid (Nt.Fst wr w.heap.size T M f) := hM ▸ HFi.out
      have HlM : Hid (M.length = L.length + i * Nt.rln T) := by show _ = _; rw [← hM]; exact Hlen.out
      have hb16 : M.length ≤ 16385 := by have h3 := HlM.out; have h4 := Hz.out; have h5 := Hroom.out; omega
      have s5 : wr.cell? ⟨nb, off + 5, none⟩ = some (.int .i64 (i : Int)) := (World.cell?_of_block (Hzi.out.block nb hns (HP.out nb Hhn.out).2.1 (HP.out nb Hhn.out).2.2)).trans q5
      clear hM HLi HFi Hlen HPw HPCw Htw
      go_wp2_with fail
      go_quiet (fail)
      have HLq : Hid (Nt.Ly (wr.drewN nq) lb rb cap M f) := ⟨HLM.out.blk, HLM.out.row, HLM.out.ne⟩
      have HFq : Hid (Nt.Fst (wr.drewN nq) w.heap.size T M f) := Nt.Fst.same HFM.out rfl
      have Hzq : Hid (Nt.Bz lb rb w (wr.drewN nq)) := ⟨Hzi.out.os, Hzi.out.tape, Hzi.out.output, Hzi.out.size, Hzi.out.block⟩
      generalize wr.drewN nq = W at *
      clear HLM HFM Hzi s0 s5 s6
      have hn16 : n ≤ 255 := by omega
      go_wp2_with fail
      go_loopw [60] (fun iv wx => ∃ j : Nat, j ≤ n ∧ iv = .int .i64 (j : Int) ∧ Nt.Ly wx lb rb cap (M ++ Nt.mayC j (Nt.rln T) (L.length + Z) (Nt.rnd T) M.length f) f ∧ Nt.Fst wx w.heap.size T (M ++ Nt.mayC j (Nt.rln T) (L.length + Z) (Nt.rnd T) M.length f) (f + 1) ∧ Nt.Bz lb rb w wx) (fun iv _ => n - (intOf iv).toNat)
      case atStart => exact ⟨0, by omega, rfl, by rw [Nt.mayC, List.append_nil]; exact HLq.out, by rw [Nt.mayC, List.append_nil]; exact Nt.Fst.mono HFq.out (by omega), Hzq.out⟩
      case round =>
        clear HLq HFq Hzq
        obtain ⟨j, hj, rfl, hLj, hFj, hzj⟩ := hrel
        have HLj : Hid _ := hLj
        have HFj : Hid (Nt.Fst wr w.heap.size T (M ++ Nt.mayC j (Nt.rln T) (L.length + Z) (Nt.rnd T) M.length f) (f + 1)) := hFj
        have Hzj : Hid _ := hzj
        have HPx : Hid (∀ x, P x → x < wr.heap.size ∧ x ≠ lb ∧ x ≠ rb ∧ x ≠ w.heap.size) := fun x hx => ⟨Nat.lt_of_lt_of_le (HP.out x hx).1 hzj.size, (HP.out x hx).2.1, (HP.out x hx).2.2, by have := (HP.out x hx).1; omega⟩
        have hlj : (M ++ Nt.mayC j (Nt.rln T) (L.length + Z) (Nt.rnd T) M.length f).length = M.length + j * (Nt.rln T + 3) := by rw [List.length_append, Nt.mays_len]
        have Hlj : Hid _ := hlj
        clear hLj hFj hzj hlj
        by_cases hltj : j < n
        · have HFr0 := free_any T h1 hlt HK.out Hgg.out lb rb cap f b w.heap.size (L.length + Z) _ P wr HLj.out HPx.out (Nt.Pc.bz HPC.out Hzj.out HP.out) (by rw [Hlj.out]; have h3 := Nat.mul_le_mul_right (Nt.rln T + 3) (show j + 1 ≤ n from hltj); rw [Nat.succ_mul] at h3; have h2 := HlM.out; have h4 := Hz.out; have h5 := Hroom.out; omega) hcap Hf.out (Ht.out.bz Hzj.out) HFj.out Hgl.out.1 Hgl.out.2.1 Hgl.out.2.2
          have HFr : Hid (Calls Tryd.prog 79 #[.pointer (some ⟨lb, 0, none⟩), .pointer (some ⟨b, 0, none⟩), .pointer (some ⟨w.heap.size, 0, none⟩), .int .i64 ((L.length : Int) + (Z : Int))] wr fun e w' => (∃ v, e = .returned v) ∧ Nt.Ly w' lb rb cap (M ++ Nt.mayC (j + 1) (Nt.rln T) (L.length + Z) (Nt.rnd T) M.length f) f ∧ Nt.Fst w' w.heap.size T (M ++ Nt.mayC (j + 1) (Nt.rln T) (L.length + Z) (Nt.rnd T) M.length f) (f + 1) ∧ Nt.Bg w.heap.size lb rb wr w') := by
            rw [Nt.mayC_snoc, ← List.append_assoc, ← Hlj.out]; exact HFr0
          clear HFr0
          go_wp2_with fail
          refine Calls.mono HFr.out ?_
          rintro e w2 ⟨⟨v, rfl⟩, hL3, hF3, hb2'⟩
          have hz3 := Hzj.out.of_bg hb2'
          have HE3 : Hid _ := hF3
          clear HFr hF3 hb2'
          go_wp2_with fail
          go_roundw
          case rel => exact ⟨_, _, _, _, _, _, _, ⟨j + 1, by omega, rfl, hL3, HE3.out, hz3⟩, rfl⟩
          case measure => simp [intOf]; omega
        · obtain rfl : j = n := by omega
          go_wp2_with fail
          go_end0
          refine ⟨⟨_, rfl⟩, ?_, Hzj.out⟩
          rw [← HlM.out, ← List.append_assoc, HM.out]
          exact HLj.out
end Go.Proofs.YtdiokclbdaojpaaDoor
