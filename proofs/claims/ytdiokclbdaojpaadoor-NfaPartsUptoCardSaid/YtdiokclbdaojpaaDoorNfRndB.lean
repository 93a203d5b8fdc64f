/- What (*layout).round does: the first round laid, with no groups in it. -/
import Derived.Test.YtdiokclbdaojpaaDoorNfRndA
namespace Go.Proofs.YtdiokclbdaojpaaDoor
open Go.RowKit

set_option maxRecDepth 100000 in
set_option maxHeartbeats 8000000 in
theorem round_none (T : Nt.NT) (h1 : T.kids.length = 1) (hlt : 0 < T.kids.length) (HK : Nt.LayC 34 (T.kids[0])) (hg0 : ¬ 0 < Nt.ghi T) (lb rb cap f b g : Nat) (L : List Nt.Ins) (P : Nat → Prop) (w : World) (hL : Nt.Ly w lb rb cap L f) (hP : ∀ x, P x → x < w.heap.size ∧ x ≠ lb ∧ x ≠ rb ∧ x ≠ g) (hpc : Nt.Pc w P T b) (hroom : L.length + Nt.sz (T.kids[0]) ≤ cap) (hcap : cap ≤ 16385) (hf : f + Nt.cnt (T.kids[0]) ≤ 16384) (ht : Nt.Tz lb rb w) (hg : Nt.FL w g false 0 0 0) (hgl : g ≠ lb) (hgr : g ≠ rb) (hg2 : 2 ≤ g) :
    Calls Tryd.prog 78 #[.pointer (some ⟨lb, 0, none⟩), .pointer (some ⟨b, 0, none⟩), .pointer (some ⟨g, 0, none⟩)] w fun e w' => (∃ v, e = .returned v) ∧ Nt.Ly w' lb rb cap (L ++ Nt.code (T.kids[0]) L.length f) f ∧ Nt.FL w' g true L.length (L.length + Nt.sz (T.kids[0])) f ∧ Nt.Bg g lb rb w w' := by
  obtain ⟨g0, g1, g2, g3⟩ := hg.cells
  have z0 := hg.frozen 0
  have z1 := hg.frozen 1
  have z2 := hg.frozen 2
  have z3 := hg.frozen 3
  have HHE : Hid (∀ n, Calls Tryd.prog 77 #[.pointer (some ⟨lb, 0, none⟩)] (w.drewN n) fun e w' => e = .returned (.int .i64 (L.length : Nat)) ∧ w' = w.drewN n) := fun n => here_any lb rb cap f L _ ⟨hL.blk, hL.row, hL.ne⟩
  have l11 : w.cell? ⟨lb, 11, none⟩ = some (.int .i64 (f : Int)) := hL.cell 11
  have HK : Hid _ := HK
  have HS1 : Hid _ := Nt.st1 hL hP hpc ht hg hgl hgr hg2
  have Hroom : Hid _ := hroom
  have Hf : Hid _ := hf
  clear hL hP ht hg hpc hroom hf
  go_enter Tryd.func78, Tryd.ntmps78
  go_wp2_with fail
  go_region_with (go_at_call 77; refine Calls.mono (HHE.out 1) ?_; rintro e w1 ⟨rfl, rfl⟩)
  all_goals
    obtain ⟨W, hW⟩ : ∃ W, W = ((((((w.drewN 1).setCell ⟨g, 0, none⟩ (.bool true)).setCell ⟨g, 1, none⟩ (.int .i64 (L.length : Int))).setCell ⟨g, 2, none⟩ (.int .i64 0)).setCell ⟨g, 3, none⟩ (.int .i64 (f : Int)))) := ⟨_, rfl⟩
    rw [← hW]
    rw [← hW] at HS1
    clear hW g0 g1 g2 g3 z0 z1 z2 z3 HHE l11
    have hpc := HS1.out.pc
    cases hpc with
    | mk nb off a cap' ka kc bs hb blk hn node len room most kids sub =>
    obtain ⟨kb, ko, rfl, hkb, hkc⟩ := kids 0 hlt
    rw [h1] at blk
    have HB : Hid _ := blk
    have Hhb : Hid _ := hb
    have HS : Hid _ := sub 0 hlt
    obtain ⟨p0, p1, p2, p3, p4⟩ := blk.cells
    clear blk kids sub node hb hn len room h1
    generalize Nt.glo T = lo at *
    generalize Nt.ghi T = hi at *
    have t0 : W.cell? ⟨kb, ko, none⟩ = some (.pointer (some ⟨bs 0, 0, none⟩)) := hkc
    clear hkc
    have HI : Hid _ := HK.out lb rb cap f (bs 0) L P W HS1.out.ly (fun x hx => ⟨(HS1.out.hp x hx).1, (HS1.out.hp x hx).2.1, (HS1.out.hp x hx).2.2.1⟩) HS.out Hroom.out hcap Hf.out HS1.out.tz
    go_wp2_with fail
    refine Calls.mono HI.out ?_
    rintro e w2 ⟨⟨v, rfl⟩, hL2, hz2'⟩
    have hfl : Nt.FL w2 g true L.length 0 f := HS1.out.fl.same (hz2'.block g HS1.out.fl.lt hgl hgr)
    obtain ⟨g0, g1, g2, g3⟩ := hfl.cells
    have z2 := hfl.frozen 2
    have hn2 : (L ++ Nt.code (T.kids[0]) L.length f).length = L.length + Nt.sz (T.kids[0]) := by simp [Nt.code_len]
    have HHE : Hid (Calls Tryd.prog 77 #[.pointer (some ⟨lb, 0, none⟩)] w2 fun e w' => e = .returned (.int .i64 ((L.length + Nt.sz (T.kids[0]) : Nat) : Int)) ∧ w' = w2) := by
      have := here_any lb rb cap f _ w2 hL2
      rw [hn2] at this
      exact this
    have Hfl : Hid _ := hfl
    have Hz2 : Hid _ := hz2'
    have HL2 : Hid _ := hL2
    clear t0 HI p0 p1 p2 p3 p4 hz2' hL2 hfl hn2 HK Hroom Hf HB HS
    generalize hN : L.length + Nt.sz (T.kids[0]) = N at *
    have HN : Hid _ := hN
    clear hN
    go_wp2_with fail
    refine Calls.mono HHE.out ?_
    rintro e w3 ⟨rfl, rfl⟩
    go_wp2_with fail
    go_end0
    refine ⟨⟨_, rfl⟩, ?_, ?_, ?_⟩
    · exact ⟨(heap_setCell_other w3 ⟨g, 2, none⟩ lb _ hgl.symm).trans HL2.out.blk, Nt.own_block HL2.out.row (heap_setCell_other w3 ⟨g, 2, none⟩ rb _ hgr.symm), HL2.out.ne⟩
    · rw [HN.out]
      exact heap_setCell_same w3 g 2 _ _ (.int .i64 (N : Int)) Hfl.out
    · exact (HS1.out.bg.trans (Hz2.out.bg g)).set 2 _
end Go.Proofs.YtdiokclbdaojpaaDoor
