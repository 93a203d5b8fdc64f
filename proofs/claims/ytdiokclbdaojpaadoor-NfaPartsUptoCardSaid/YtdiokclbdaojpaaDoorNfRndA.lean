/- What (*layout).round does: the first round laid. -/
import Derived.Test.YtdiokclbdaojpaaDoorNfRnd
namespace Go.Proofs.YtdiokclbdaojpaaDoor
open Go.RowKit

namespace Nt
/-- No block but three has turned. -/
structure Bg (g lb rb : Nat) (w w' : World) : Prop where
  os : w'.os = w.os
  tape : w'.tape = w.tape
  output : w'.output = w.output
  size : w.heap.size ≤ w'.heap.size
  block : ∀ k, k < w.heap.size → k ≠ g → k ≠ lb → k ≠ rb → w'.heap[k]? = w.heap[k]?
theorem Bg.trans {g lb rb : Nat} {a b c : World} (x : Bg g lb rb a b) (y : Bg g lb rb b c) : Bg g lb rb a c :=
  ⟨y.os.trans x.os, y.tape.trans x.tape, y.output.trans x.output, Nat.le_trans x.size y.size, fun i hi h1 h2 h3 => (y.block i (Nat.lt_of_lt_of_le hi x.size) h1 h2 h3).trans (x.block i hi h1 h2 h3)⟩
theorem Bz.bg {lb rb : Nat} {a b : World} (x : Bz lb rb a b) (g : Nat) : Bg g lb rb a b := ⟨x.os, x.tape, x.output, x.size, fun k h _ h2 h3 => x.block k h h2 h3⟩
theorem Bg.set {g lb rb : Nat} {a b : World} (x : Bg g lb rb a b) (j : Nat) (v : Value) : Bg g lb rb a (b.setCell ⟨g, j, none⟩ v) :=
  x.trans ⟨rfl, rfl, rfl, by simp, fun k _ hg _ _ => heap_setCell_other b ⟨g, j, none⟩ k v hg⟩
theorem Bg.drewN {g lb rb : Nat} {a b : World} (x : Bg g lb rb a b) (n : Nat) : Bg g lb rb a (b.drewN n) := ⟨x.os, x.tape, x.output, x.size, x.block⟩
theorem Tz.of_block {w W : World} {lb rb : Nat} (x : Tz lb rb w) (hs : w.heap.size ≤ W.heap.size) (h0 : W.heap[0]? = w.heap[0]?) (h1 : W.heap[1]? = w.heap[1]?) : Tz lb rb W :=
  ⟨⟨Nat.le_trans x.tab.big hs, fun i hi => (World.cell?_of_block (w := w) (a := ⟨1, i, none⟩) h1).trans (x.tab.shp i hi), fun i hi => (World.cell?_of_block (w := w) (a := ⟨0, i, none⟩) h0).trans (x.tab.fld i hi)⟩, x.lb2, x.rb2⟩
theorem fl_new {w : World} {g : Nat} (h : FL w g false 0 0 0) (a f : Nat) : FL ((((((w.drewN 1).setCell ⟨g, 0, none⟩ (.bool true)).setCell ⟨g, 1, none⟩ (.int .i64 (a : Int))).setCell ⟨g, 2, none⟩ (.int .i64 0)).setCell ⟨g, 3, none⟩ (.int .i64 (f : Int)))) g true a 0 f :=
  heap_setCell_same _ g 3 _ _ (.int .i64 (f : Int)) (heap_setCell_same _ g 2 _ _ (.int .i64 0) (heap_setCell_same _ g 1 _ _ (.int .i64 (a : Int)) (heap_setCell_same _ g 0 _ _ (.bool true) (show (w.drewN 1).heap[g]? = _ from h))))
theorem fl_oth (w : World) (g a f k : Nat) (h : k ≠ g) : ((((((w.drewN 1).setCell ⟨g, 0, none⟩ (.bool true)).setCell ⟨g, 1, none⟩ (.int .i64 (a : Int))).setCell ⟨g, 2, none⟩ (.int .i64 0)).setCell ⟨g, 3, none⟩ (.int .i64 (f : Int)))).heap[k]? = w.heap[k]? := by
  rw [heap_setCell_other _ ⟨g, 3, none⟩ k _ h, heap_setCell_other _ ⟨g, 2, none⟩ k _ h, heap_setCell_other _ ⟨g, 1, none⟩ k _ h, heap_setCell_other _ ⟨g, 0, none⟩ k _ h]; rfl
/-- What is known behind the first store of a first round. -/
structure St1 (lb rb cap f g : Nat) (L : List Ins) (P : Nat → Prop) (T : NT) (b : Nat) (w W : World) : Prop where
  ly : Ly W lb rb cap L f
  hp : ∀ x, P x → x < W.heap.size ∧ x ≠ lb ∧ x ≠ rb ∧ x ≠ g
  pc : Pc W P T b
  tz : Tz lb rb W
  fl : FL W g true L.length 0 f
  bg : Bg g lb rb w W
theorem st1 {lb rb cap f g b : Nat} {L : List Ins} {P : Nat → Prop} {T : NT} {w : World} (hL : Ly w lb rb cap L f) (hP : ∀ x, P x → x < w.heap.size ∧ x ≠ lb ∧ x ≠ rb ∧ x ≠ g) (hpc : Pc w P T b) (ht : Tz lb rb w) (hg : FL w g false 0 0 0) (hgl : g ≠ lb) (hgr : g ≠ rb) (hg2 : 2 ≤ g) :
    St1 lb rb cap f g L P T b w ((((((w.drewN 1).setCell ⟨g, 0, none⟩ (.bool true)).setCell ⟨g, 1, none⟩ (.int .i64 (L.length : Int))).setCell ⟨g, 2, none⟩ (.int .i64 0)).setCell ⟨g, 3, none⟩ (.int .i64 (f : Int)))) := by
  have hs : ((((((w.drewN 1).setCell ⟨g, 0, none⟩ (.bool true)).setCell ⟨g, 1, none⟩ (.int .i64 (L.length : Int))).setCell ⟨g, 2, none⟩ (.int .i64 0)).setCell ⟨g, 3, none⟩ (.int .i64 (f : Int)))).heap.size = w.heap.size := by
    simp
  have ho := fun k h => fl_oth w g L.length f k h
  have hn := fl_new hg L.length f
  have hb : Bg g lb rb w ((((((w.drewN 1).setCell ⟨g, 0, none⟩ (.bool true)).setCell ⟨g, 1, none⟩ (.int .i64 (L.length : Int))).setCell ⟨g, 2, none⟩ (.int .i64 0)).setCell ⟨g, 3, none⟩ (.int .i64 (f : Int)))) := (((((((⟨rfl, rfl, rfl, Nat.le_refl _, fun _ _ _ _ _ => rfl⟩ : Bg g lb rb w w)).drewN 1).set 0 _).set 1 _).set 2 _).set 3 _)
  generalize ((((((w.drewN 1).setCell ⟨g, 0, none⟩ (.bool true)).setCell ⟨g, 1, none⟩ (.int .i64 (L.length : Int))).setCell ⟨g, 2, none⟩ (.int .i64 0)).setCell ⟨g, 3, none⟩ (.int .i64 (f : Int)))) = W at *
  exact ⟨⟨(ho lb hgl.symm).trans hL.blk, own_block hL.row (ho rb hgr.symm), hL.ne⟩, fun x hx => by rw [hs]; exact hP x hx, hpc.same (fun x hx => ho x (hP x hx).2.2.2) (fun _ h => h), ht.of_block (Nat.le_of_eq hs.symm) (ho 0 (by omega)) (ho 1 (by omega)), hn, hb⟩
end Nt
set_option maxRecDepth 100000 in
set_option maxHeartbeats 8000000 in
theorem round_one (T : Nt.NT) (h1 : T.kids.length = 1) (hlt : 0 < T.kids.length) (HK : Nt.LayC 34 (T.kids[0])) (hg0 : 0 < Nt.ghi T) (lb rb cap f b g : Nat) (L : List Nt.Ins) (P : Nat → Prop) (w : World) (hL : Nt.Ly w lb rb cap L f) (hP : ∀ x, P x → x < w.heap.size ∧ x ≠ lb ∧ x ≠ rb ∧ x ≠ g) (hpc : Nt.Pc w P T b) (hroom : L.length + (Nt.sz (T.kids[0]) + 1) ≤ cap) (hcap : cap ≤ 16385) (hf : f + Nt.cnt (T.kids[0]) ≤ 16384) (ht : Nt.Tz lb rb w) (hg : Nt.FL w g false 0 0 0) (hgl : g ≠ lb) (hgr : g ≠ rb) (hg2 : 2 ≤ g) :
    Calls Tryd.prog 78 #[.pointer (some ⟨lb, 0, none⟩), .pointer (some ⟨b, 0, none⟩), .pointer (some ⟨g, 0, none⟩)] w fun e w' => (∃ v, e = .returned v) ∧ Nt.Ly w' lb rb cap (L ++ (Nt.iClear (Nt.glo T) (Nt.ghi T) :: Nt.code (T.kids[0]) (L.length + 1) f)) f ∧ Nt.FL w' g true L.length (L.length + (Nt.sz (T.kids[0]) + 1)) f ∧ Nt.Bg g lb rb w w' := by
  obtain ⟨g0, g1, g2, g3⟩ := hg.cells
  have z0 := hg.frozen 0
  have z1 := hg.frozen 1
  have z2 := hg.frozen 2
  have z3 := hg.frozen 3
  have HHE : Hid (∀ n, Calls Tryd.prog 77 #[.pointer (some ⟨lb, 0, none⟩)] (w.drewN n) fun e w' => e = .returned (.int .i64 (L.length : Nat)) ∧ w' = w.drewN n) := fun n => here_any lb rb cap f L _ ⟨hL.blk, hL.row, hL.ne⟩
  have l11 : w.cell? ⟨lb, 11, none⟩ = some (.int .i64 (f : Int)) := hL.cell 11
  have HK : Hid _ := HK
  have HS1 : Hid _ := Nt.st1 hL hP hpc ht hg hgl hgr hg2
  have Hroom : Hid _ := hroom
  have Hf : Hid _ := hf
  clear hL hP ht hg hpc hroom hf
  go_enter Tryd.func78, Tryd.ntmps78
  go_wp2_with fail
  go_region_with (go_at_call 77; refine Calls.mono (HHE.out 1) ?_; rintro e w1 ⟨rfl, rfl⟩)
  all_goals
    obtain ⟨W, hW⟩ : ∃ W, W = ((((((w.drewN 1).setCell ⟨g, 0, none⟩ (.bool true)).setCell ⟨g, 1, none⟩ (.int .i64 (L.length : Int))).setCell ⟨g, 2, none⟩ (.int .i64 0)).setCell ⟨g, 3, none⟩ (.int .i64 (f : Int)))) := ⟨_, rfl⟩
    rw [← hW]
    rw [← hW] at HS1
    clear hW g0 g1 g2 g3 z0 z1 z2 z3 HHE l11
    have hpc := HS1.out.pc
    cases hpc with
    | mk nb off a cap' ka kc bs hb blk hn node len room most kids sub =>
    obtain ⟨kb, ko, rfl, hkb, hkc⟩ := kids 0 hlt
    rw [h1] at blk
    have HB : Hid _ := blk
    have Hhb : Hid _ := hb
    have HS : Hid _ := sub 0 hlt
    have HKC : Hid _ := hkc
    obtain ⟨p0, p1, p2, p3, p4⟩ := blk.cells
    have HPU : Hid _ := put_clear lb rb cap f L (Nt.glo T) (Nt.ghi T) (W.drewN 1) ⟨HS1.out.ly.blk, HS1.out.ly.row, HS1.out.ly.ne⟩ (by have := Hroom.out; omega)
    clear blk kids sub node hb hn len room hkc h1
    generalize hlo : Nt.glo T = lo at *
    generalize hhi : Nt.ghi T = hi at *
    have Hlo : Hid _ := hlo
    have Hhi : Hid _ := hhi
    clear hlo hhi
    go_wp2_with fail
    go_region_with (go_at_call 35; refine Calls.mono HPU.out ?_; rintro e w1 ⟨⟨v, rfl⟩, hL1, hz0⟩)
    all_goals
      have hz1 : Nt.Bz lb rb W w1 := ⟨hz0.os, hz0.tape, hz0.output, hz0.size, hz0.block⟩
      have hst : ∀ (x : Nat) (w' : World), P x → Nt.Bz lb rb W w' → w'.heap[x]? = W.heap[x]? := fun x w' hx hz => hz.block x (HS1.out.hp x hx).1 (HS1.out.hp x hx).2.1 (HS1.out.hp x hx).2.2.1
      have Hst : Hid _ := hst
      have blk1 := Nt.PcB.same HB.out (Hst.out b w1 Hhb.out hz1)
      obtain ⟨s0, s1, s2, s3, s4⟩ := blk1.cells
      have t0 : w1.cell? ⟨kb, ko, none⟩ = some (.pointer (some ⟨bs 0, 0, none⟩)) := (World.cell?_of_block (Hst.out kb w1 hkb hz1)).trans HKC.out
      have HI : Hid _ := HK.out lb rb cap f (bs 0) (L ++ [Nt.iClear lo hi]) P w1 hL1 (fun x hx => ⟨Nat.lt_of_lt_of_le (HS1.out.hp x hx).1 hz1.size, (HS1.out.hp x hx).2.1, (HS1.out.hp x hx).2.2.1⟩) (Nt.Pc.bz HS.out hz1 (fun x hx => ⟨(HS1.out.hp x hx).1, (HS1.out.hp x hx).2.1, (HS1.out.hp x hx).2.2.1⟩)) (by have := Hroom.out; simp; omega) hcap Hf.out (HS1.out.tz.bz hz1)
      have Hz1 : Hid _ := hz1
      clear HPU p0 p1 p2 p3 p4 blk1 hst hz1 hz0 hL1
      go_wp2_with fail
      refine Calls.mono HI.out ?_
      rintro e w2 ⟨⟨v, rfl⟩, hL2, hz2⟩
      have hz2' := Hz1.out.trans hz2
      have hlen : (L ++ [Nt.iClear lo hi]).length = L.length + 1 := by simp
      rw [hlen] at hL2
      have hfl : Nt.FL w2 g true L.length 0 f := HS1.out.fl.same (hz2'.block g HS1.out.fl.lt hgl hgr)
      obtain ⟨g0, g1, g2, g3⟩ := hfl.cells
      have z2 := hfl.frozen 2
      have hn2 : (L ++ [Nt.iClear lo hi] ++ Nt.code (T.kids[0]) (L.length + 1) f).length = L.length + (Nt.sz (T.kids[0]) + 1) := by simp [Nt.code_len]
      have HHE : Hid (Calls Tryd.prog 77 #[.pointer (some ⟨lb, 0, none⟩)] w2 fun e w' => e = .returned (.int .i64 ((L.length + (Nt.sz (T.kids[0]) + 1) : Nat) : Int)) ∧ w' = w2) := by
        have := here_any lb rb cap f _ w2 hL2
        rw [hn2] at this
        exact this
      have Hfl : Hid _ := hfl
      have Hz2 : Hid _ := hz2'
      have HL2 : Hid _ := hL2
      clear HI s0 s1 s2 s3 s4 t0 hz2 hz2' hL2 hlen hfl hn2 HK Hroom Hf HB HS HKC Hst
      generalize hN : L.length + (Nt.sz (T.kids[0]) + 1) = N at *
      have HN : Hid _ := hN
      clear hN
      go_wp2_with fail
      refine Calls.mono HHE.out ?_
      rintro e w3 ⟨rfl, rfl⟩
      go_wp2_with fail
      go_end0
      refine ⟨⟨_, rfl⟩, ?_, ?_, ?_⟩
      · have e : L ++ Nt.iClear lo hi :: Nt.code (T.kids[0]) (L.length + 1) f = L ++ [Nt.iClear lo hi] ++ Nt.code (T.kids[0]) (L.length + 1) f := by simp
        rw [Hlo.out, Hhi.out, e]
        exact ⟨(heap_setCell_other w3 ⟨g, 2, none⟩ lb _ hgl.symm).trans HL2.out.blk, Nt.own_block HL2.out.row (heap_setCell_other w3 ⟨g, 2, none⟩ rb _ hgr.symm), HL2.out.ne⟩
      · rw [HN.out]
        exact heap_setCell_same w3 g 2 _ _ (.int .i64 (N : Int)) Hfl.out
      · exact (HS1.out.bg.trans (Hz2.out.bg g)).set 2 _
end Go.Proofs.YtdiokclbdaojpaaDoor
