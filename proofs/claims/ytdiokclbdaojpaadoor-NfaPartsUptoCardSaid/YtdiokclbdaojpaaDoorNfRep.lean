/- What (*layout).repeat does. -/
import Derived.Test.YtdiokclbdaojpaaDoorNfFree
namespace Go.Proofs.YtdiokclbdaojpaaDoor
open Go.RowKit

namespace Nt
theorem mustC_snoc (r : Nat) (R : Nat → Nat → List Ins) : ∀ n p f, mustC (n + 1) r R p f = mustC n r R p f ++ R (p + n * r) f := by
  intro n
  induction n with
  | zero => intro p f; simp [mustC]
  | succ n ih =>
    intro p f
    rw [mustC, ih (p + r) f, mustC, List.append_assoc]
    have : p + r + n * r = p + (n + 1) * r := by rw [Nat.succ_mul]; omega
    rw [this]
theorem mayC_snoc (T : NT) (fin : Nat) : ∀ n p f, mayC (n + 1) (rln T) fin (rnd T) p f = mayC n (rln T) fin (rnd T) p f ++ fre T fin (p + n * (rln T + 3)) f := by
  intro n
  induction n with
  | zero => intro p f; simp [mayC, fre]
  | succ n ih =>
    intro p f
    have : p + (rln T + 3) + n * (rln T + 3) = p + (n + 1) * (rln T + 3) := by rw [Nat.succ_mul]; omega
    rw [mayC, ih (p + (rln T + 3)) f, mayC, this]
    simp
theorem code_rep (T : NT) (hk : T.k = 5) (p f : Nat) : code T p f = mustC T.mn.toNat (rln T) (rnd T) p f ++ (if T.mx == -1 then fre T (p + sz T) (p + T.mn.toNat * rln T) f ++ [iJump (p + T.mn.toNat * rln T)] else mayC (T.mx - T.mn).toNat (rln T) (p + sz T) (rnd T) (p + T.mn.toNat * rln T) f) := by
  rw [code_eq, hk]
  show repC T.mn T.mx (rln T) (p + sz T) (rnd T) p f = _
  rw [repC]
  congr 1
  split
  · simp [fre]
  · rfl
theorem musts_len (T : NT) (n p f : Nat) : (mustC n (rln T) (rnd T) p f).length = n * rln T := mustC_len (rnd T) (rln T) (rnd_len T) n p f
theorem mays_len (T : NT) (n fin p f : Nat) : (mayC n (rln T) fin (rnd T) p f).length = n * (rln T + 3) := mayC_len (rnd T) (rln T) fin (rnd_len T) n p f
theorem Bz.of_bg {lb rb : Nat} {w a b : World} (x : Bz lb rb w a) (y : Bg w.heap.size lb rb a b) : Bz lb rb w b :=
  ⟨y.os.trans x.os, y.tape.trans x.tape, y.output.trans x.output, Nat.le_trans x.size y.size, fun k hk h1 h2 => (y.block k (Nat.lt_of_lt_of_le hk x.size) (by omega) h1 h2).trans (x.block k hk h1 h2)⟩
end Nt
set_option maxRecDepth 100000 in
set_option maxHeartbeats 8000000 in
theorem lay_star (T : Nt.NT) (hk : T.k = 5) (m : Nat) (hm : T.mn = (m : Int)) (hm5 : m ≤ 255) (hx : T.mx = -1) (h1 : T.kids.length = 1) (hms : Nt.msz T = min (Nt.sz T) 16385) (hgg : decide (0 < Nt.ghi T) = decide (0 < Nt.grps.grpsL T.kids)) (HK : ∀ i (h : i < T.kids.length), Nt.LayC 34 (T.kids[i])) : Nt.LayC 58 T := by
  intro lb rb cap f b L P w hL hP hpc hroom hcap hf ht
  have hlt : 0 < T.kids.length := by omega
  have hc : Nt.code T L.length f = Nt.mustC m (Nt.rln T) (Nt.rnd T) L.length f ++ (Nt.fre T (L.length + Nt.sz T) (L.length + m * Nt.rln T) f ++ [Nt.iJump (L.length + m * Nt.rln T)]) := by
    rw [Nt.code_rep T hk, hm, hx]; rfl
  have hz : Nt.sz T = m * Nt.rln T + (Nt.rln T + 4) := by
    rw [← Nt.code_len T L.length f, hc]; simp [Nt.musts_len, Nt.fre_len]
  have hms' : Nt.msz T = Nt.sz T := by omega
  rw [hc]
  obtain ⟨Z, hZ⟩ : ∃ Z, Nt.sz T = Z := ⟨_, rfl⟩
  rw [hZ] at hroom hz hms' ⊢
  have HK : Hid _ := HK 0 hlt
  have HL : Hid _ := hL
  have HP : Hid _ := hP
  have HPC : Hid (Nt.Pc w P T b) := hpc
  have Hroom : Hid _ := hroom
  have Hf : Hid (f + 1 + Nt.cnt (T.kids[0]) ≤ 16384) := by show _ ≤ _; have := Nt.cntL_kid hlt; omega
  have Hz : Hid _ := hz
  have Ht : Hid _ := ht
  have Hgg : Hid _ := hgg
  have Hlt : Hid (lb < w.heap.size ∧ rb < w.heap.size) := hL.lt
  have HHE : Hid (∀ n, Calls Tryd.prog 77 #[.pointer (some ⟨lb, 0, none⟩)] (w.drewN n) fun e w' => e = .returned (.int .i64 (L.length : Nat)) ∧ w' = w.drewN n) := fun n => here_any lb rb cap f L _ ⟨hL.blk, hL.row, hL.ne⟩
  have hb1 : L.length ≤ 16385 := by omega
  have hb2 : Z ≤ 16385 := by omega
  cases hpc with
  | mk nb off a cap' ka kc bs hb blk hn node len room most kids sub =>
  rw [hms', h1] at blk
  have HB : Hid _ := blk
  have Hhb : Hid _ := hb
  have HN : Hid _ := node
  have Hhn : Hid _ := hn
  obtain ⟨p0, p1, p2, p3, p4⟩ := blk.cells
  obtain ⟨q0, q1, q2, q3, q4, q5, q6, q7, q8⟩ := node
  rw [hm] at q5
  rw [hx] at q6
  clear hL hP blk kids sub hroom hf hc hz ht hgg hms hms' hk hb hn len room hZ
  have hbs : b < w.heap.size := (HP.out b Hhb.out).1
  have hns : nb < w.heap.size := (HP.out nb Hhn.out).1
  have hbs' : ¬ w.heap.size = b := by omega
  have hns' : ¬ w.heap.size = nb := by omega
  have hbs2 : ¬ b = w.heap.size := by omega
  have hns2 : ¬ nb = w.heap.size := by omega
  go_enter Tryd.func58, Tryd.ntmps58
  go_wp2_with fail
  go_quiet ((go_at_call 77; exact Calls.quiet_of_same (HHE.out _)))
  have hAl : Below w.heap.size w ((w.drewN nq).alloc (.cells #[.bool false, .int .i64 0, .int .i64 0, .int .i64 0] 130)) := (drewB (Below.refl _ w) nq).alloc (Nat.le_refl _) _
  have r0 := (hAl.cell (p := ⟨b, 0, none⟩) hbs).trans p0
  have r5 := (hAl.cell (p := ⟨nb, off + 5, none⟩) hns).trans q5
  have HAl : Hid _ := hAl
  clear hAl
  go_wp2_with fail
  go_loopw [21] (fun iv wr => ∃ i : Nat, i ≤ m ∧ iv = .int .i64 (i : Int) ∧ Nt.Ly wr lb rb cap (L ++ Nt.mustC i (Nt.rln T) (Nt.rnd T) L.length f) f ∧ Nt.Fst wr w.heap.size T (L ++ Nt.mustC i (Nt.rln T) (Nt.rnd T) L.length f) f ∧ Nt.Bz lb rb w wr) (fun iv _ => m - (intOf iv).toNat)
  case atStart => exact ⟨0, by omega, rfl, by rw [Nt.mustC, List.append_nil]; exact HL.out.under HAl.out, .inl (heap_alloc_new (w.drewN nq) _), Nt.Bz.of_below HAl.out⟩
  case round =>
    clear HHE HL HAl r0 r5
    obtain ⟨i, hi, rfl, hLi, hFi, hzi⟩ := hrel
    have HLi : Hid _ := hLi
    have HFi : Hid (Nt.Fst wr w.heap.size T (L ++ Nt.mustC i (Nt.rln T) (Nt.rnd T) L.length f) f) := hFi
    have Hzi : Hid _ := hzi
    have HPw : Hid (∀ x, P x → x < wr.heap.size ∧ x ≠ lb ∧ x ≠ rb ∧ x ≠ w.heap.size) := fun x hx => ⟨Nat.lt_of_lt_of_le (HP.out x hx).1 hzi.size, (HP.out x hx).2.1, (HP.out x hx).2.2, by have := (HP.out x hx).1; omega⟩
    have HPCw : Hid (Nt.Pc wr P T b) := Nt.Pc.bz HPC.out hzi HP.out
    have Htw : Hid _ := Ht.out.bz hzi
    have Hgl : Hid (w.heap.size ≠ lb ∧ w.heap.size ≠ rb ∧ 2 ≤ w.heap.size) := ⟨fun e => absurd Hlt.out.1 (by omega), fun e => absurd Hlt.out.2 (by omega), Ht.out.tab.big⟩
    have hlen : (L ++ Nt.mustC i (Nt.rln T) (Nt.rnd T) L.length f).length = L.length + i * Nt.rln T := by rw [List.length_append, Nt.musts_len]
    have Hlen : Hid _ := hlen
    clear hLi hFi hzi hlen
    by_cases hlti : i < m
    · have HRd : Hid _ := round_any T h1 hlt HK.out Hgg.out lb rb cap f b w.heap.size _ P wr HLi.out HPw.out HPCw.out (by rw [Hlen.out]; have h3 := Nat.mul_le_mul_right (Nt.rln T) (show i + 1 ≤ m from hlti); rw [Nat.succ_mul] at h3; have h4 := Hz.out; have h5 := Hroom.out; omega) hcap (by have := Hf.out; omega) Htw.out HFi.out Hgl.out.1 Hgl.out.2.1 Hgl.out.2.2
      go_wp2_with fail
      refine Calls.mono HRd.out ?_
      rintro e w2 ⟨⟨v, rfl⟩, hL2, hF2, hb2'⟩
      have hL3 : Nt.Ly w2 lb rb cap (L ++ Nt.mustC (i + 1) (Nt.rln T) (Nt.rnd T) L.length f) f := by
        rw [Nt.mustC_snoc, ← List.append_assoc, ← Hlen.out]; exact hL2
      have hF3 : Nt.Fst w2 w.heap.size T (L ++ Nt.mustC (i + 1) (Nt.rln T) (Nt.rnd T) L.length f) f := by
        rw [Nt.mustC_snoc, ← List.append_assoc, ← Hlen.out]; exact hF2
      have hz3 := Hzi.out.of_bg hb2'
      have HE3 : Hid _ := hF3
      clear HRd hL2 hF2 hb2' hF3
      go_wp2_with fail
      refine ⟨⟨i + 1, by omega, by simp, hL3, HE3.out, hz3⟩, by simp only [intOf]; omega⟩
    · obtain rfl : i = m := by omega
      have s0 : wr.cell? ⟨b, 0, none⟩ = some (.pointer (some ⟨nb, off, none⟩)) := (World.cell?_of_block (Hzi.out.block b hbs (HP.out b Hhb.out).2.1 (HP.out b Hhb.out).2.2)).trans p0
      have s6 : wr.cell? ⟨nb, off + 6, none⟩ = some (.int .i64 (-1)) := (World.cell?_of_block (Hzi.out.block nb hns (HP.out nb Hhn.out).2.1 (HP.out nb Hhn.out).2.2)).trans q6
      obtain ⟨M, hM⟩ : ∃ M, L ++ Nt.mustC i (Nt.rln T) (Nt.rnd T) L.length f = M := ⟨_, rfl⟩
      have HM : Hid _ := hM
      have HLM : Hid (Nt.Ly wr lb rb cap M f) := hM ▸ HLi.out
      have HFM : Hid (Nt.Fst wr w.heap.size T M f) := hM ▸ HFi.out
      have HlM : Hid (M.length = L.length + i * Nt.rln T) := by show _ = _; rw [← hM]; exact Hlen.out
      have hb16 : M.length ≤ 16385 := by have h3 := HlM.out; have h4 := Hz.out; have h5 := Hroom.out; omega
      have HHE : Hid _ := here_any lb rb cap f M wr HLM.out
      have HFr0 := free_any T h1 hlt HK.out Hgg.out lb rb cap f b w.heap.size (L.length + Z) M P wr HLM.out HPw.out HPCw.out (by have h3 := HlM.out; have h4 := Hz.out; have h5 := Hroom.out; omega) hcap Hf.out Htw.out (Nt.Fst.mono HFM.out (by omega)) Hgl.out.1 Hgl.out.2.1 Hgl.out.2.2
      have HFr : Hid (Calls Tryd.prog 79 #[.pointer (some ⟨lb, 0, none⟩), .pointer (some ⟨b, 0, none⟩), .pointer (some ⟨w.heap.size, 0, none⟩), .int .i64 ((L.length : Int) + (Z : Int))] wr fun e w' => (∃ v, e = .returned v) ∧ Nt.Ly w' lb rb cap (M ++ Nt.fre T (L.length + Z) M.length f) f ∧ Nt.Fst w' w.heap.size T (M ++ Nt.fre T (L.length + Z) M.length f) (f + 1) ∧ Nt.Bg w.heap.size lb rb wr w') := HFr0
      clear HFr0 hM HLi HFi Hlen
      go_wp2_with fail
      refine Calls.mono HHE.out ?_
      rintro e w1 ⟨rfl, rfl⟩
      go_wp2_with fail
      refine Calls.mono HFr.out ?_
      rintro e w2 ⟨⟨v, rfl⟩, hL2, hF2, hb2'⟩
      have HJ : Hid _ := put_jump lb rb cap f _ M.length w2 hL2 (by rw [List.length_append, Nt.fre_len]; have h3 := HlM.out; have h4 := Hz.out; have h5 := Hroom.out; omega)
      have hz3 := Hzi.out.of_bg hb2'
      clear HHE HFr hL2 hF2 hb2' s0 s6
      go_wp2_with fail
      refine Calls.mono HJ.out ?_
      rintro e w3 ⟨⟨v, rfl⟩, hL4, hz4⟩
      clear HJ
      go_wp2_with fail
      refine bodyPost_ret (results_none rfl _ _ _) rfl ?_
      refine ⟨⟨_, rfl⟩, ?_, hz3.trans hz4⟩
      rw [← HlM.out, ← List.append_assoc, HM.out, ← List.append_assoc]
      exact hL4
end Go.Proofs.YtdiokclbdaojpaaDoor
