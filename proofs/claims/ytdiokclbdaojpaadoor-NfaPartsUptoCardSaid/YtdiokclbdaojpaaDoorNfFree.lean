/- What (*layout).freeRound does. -/
import Derived.Test.YtdiokclbdaojpaaDoorNfRndC
namespace Go.Proofs.YtdiokclbdaojpaaDoor
open Go.RowKit

namespace Nt
theorem Ly.up {w : World} {lb rb cap : Nat} {L : List Ins} {f : Nat} (h : Ly w lb rb cap L f) : Ly (w.setCell ⟨lb, 11, none⟩ (.int .i64 ((f : Int) + 1))) lb rb cap L (f + 1) :=
  ⟨heap_setCell_same w lb 11 _ _ (.int .i64 ((f : Int) + 1)) h.blk, own_block h.row (heap_setCell_other w ⟨lb, 11, none⟩ rb _ (fun e => h.ne e.symm)), h.ne⟩
theorem Ly.down {w : World} {lb rb cap : Nat} {L : List Ins} {f : Nat} (h : Ly w lb rb cap L (f + 1)) : Ly (w.setCell ⟨lb, 11, none⟩ (.int .i64 (f : Int))) lb rb cap L f :=
  ⟨heap_setCell_same w lb 11 _ _ (.int .i64 (f : Int)) h.blk, own_block h.row (heap_setCell_other w ⟨lb, 11, none⟩ rb _ (fun e => h.ne e.symm)), h.ne⟩
/-- A round that may be, its code. -/
def fre (T : NT) (fin p f : Nat) : List Ins := iSplit fin :: iMark f :: rnd T (p + 2) (f + 1) ++ [iMoved f]
theorem fre_len (T : NT) (fin p f : Nat) : (fre T fin p f).length = rln T + 3 := by simp [fre, rnd_len]
theorem Tz.bg {w w' : World} {g lb rb : Nat} (x : Tz lb rb w) (hb : Bg g lb rb w w') (hg : 2 ≤ g) : Tz lb rb w' :=
  x.of_block hb.size (hb.block 0 (by have := x.tab.big; omega) (by omega) (by have := x.lb2; omega) (by have := x.rb2; omega)) (hb.block 1 (by have := x.tab.big; omega) (by omega) (by have := x.lb2; omega) (by have := x.rb2; omega))
theorem Pc.bg {w w' : World} {g lb rb : Nat} {P : Nat → Prop} {T : NT} {b : Nat} (h : Pc w P T b) (hz : Bg g lb rb w w') (hP : ∀ x, P x → x < w.heap.size ∧ x ≠ lb ∧ x ≠ rb ∧ x ≠ g) : Pc w' P T b :=
  h.same (fun x hx => hz.block x (hP x hx).1 (hP x hx).2.2.2 (hP x hx).2.1 (hP x hx).2.2.1) (fun _ h => h)
end Nt
set_option maxRecDepth 100000 in
set_option maxHeartbeats 8000000 in
theorem free_any (T : Nt.NT) (h1 : T.kids.length = 1) (hlt : 0 < T.kids.length) (HK : Nt.LayC 34 (T.kids[0])) (hgg : decide (0 < Nt.ghi T) = decide (0 < Nt.grps.grpsL T.kids)) (lb rb cap f b g fin : Nat) (L : List Nt.Ins) (P : Nat → Prop) (w : World) (hL : Nt.Ly w lb rb cap L f) (hP : ∀ x, P x → x < w.heap.size ∧ x ≠ lb ∧ x ≠ rb ∧ x ≠ g) (hpc : Nt.Pc w P T b) (hroom : L.length + (Nt.rln T + 3) ≤ cap) (hcap : cap ≤ 16385) (hf : f + 1 + Nt.cnt (T.kids[0]) ≤ 16384) (ht : Nt.Tz lb rb w) (hF : Nt.Fst w g T L (f + 1)) (hgl : g ≠ lb) (hgr : g ≠ rb) (hg2 : 2 ≤ g) :
    Calls Tryd.prog 79 #[.pointer (some ⟨lb, 0, none⟩), .pointer (some ⟨b, 0, none⟩), .pointer (some ⟨g, 0, none⟩), .int .i64 (fin : Nat)] w fun e w' => (∃ v, e = .returned v) ∧ Nt.Ly w' lb rb cap (L ++ Nt.fre T fin L.length f) f ∧ Nt.Fst w' g T (L ++ Nt.fre T fin L.length f) (f + 1) ∧ Nt.Bg g lb rb w w' := by
  have l11 : w.cell? ⟨lb, 11, none⟩ = some (.int .i64 (f : Int)) := hL.cell 11
  have HS : Hid _ := put_split lb rb cap f L fin w hL (by omega)
  have HK : Hid _ := HK
  have HP : Hid _ := hP
  have HPC : Hid _ := hpc
  have Hroom : Hid _ := hroom
  have Ht : Hid _ := ht
  have HF : Hid (Nt.Fst w g T L (f + 1)) := hF
  have Hf : Hid _ := hf
  have hf16 : f ≤ 16384 := by omega
  clear hL hP hpc hroom ht hF hf
  obtain ⟨R, hR⟩ : ∃ R, L ++ Nt.fre T fin L.length f = R := ⟨_, rfl⟩
  rw [hR]
  have HR : Hid _ := hR
  clear hR
  go_enter Tryd.func79, Tryd.ntmps79
  go_wp2_with fail
  refine Calls.mono HS.out ?_
  rintro e w1 ⟨⟨v, rfl⟩, hL1, hz1⟩
  have HM : Hid _ := put_mark lb rb cap f _ f w1 hL1 (by have := Hroom.out; simp; omega)
  have Hz1 : Hid _ := hz1
  clear HS l11 hL1 hz1
  go_wp2_with fail
  refine Calls.mono HM.out ?_
  rintro e w2 ⟨⟨v, rfl⟩, hL2, hz2⟩
  have l11 : w2.cell? ⟨lb, 11, none⟩ = some (.int .i64 (f : Int)) := hL2.cell 11
  have z11 := hL2.frozen 11
  have hz2' : Nt.Bz lb rb w (w2.setCell ⟨lb, 11, none⟩ (.int .i64 ((f : Int) + 1))) := (Hz1.out.trans hz2).set 11 _
  have hL3 := hL2.up
  have hF3 : Nt.Fst (w2.setCell ⟨lb, 11, none⟩ (.int .i64 ((f : Int) + 1))) g T (L ++ [Nt.iSplit fin] ++ [Nt.iMark f]) (f + 1) := Nt.Fst.more (Nt.Fst.more (Nt.Fst.same HF.out (hz2'.block g (Nt.Fst.lt HF.out) hgl hgr)) _) _
  have HRd : Hid _ := round_any T h1 hlt HK.out hgg lb rb cap (f + 1) b g _ P _ hL3 (fun x hx => ⟨Nat.lt_of_lt_of_le (HP.out x hx).1 hz2'.size, (HP.out x hx).2⟩) (HPC.out.bg (hz2'.bg g) HP.out) (by have := Hroom.out; simp; omega) hcap Hf.out (Ht.out.bz hz2') hF3 hgl hgr hg2
  have Hz2 : Hid _ := hz2'
  clear HM hL2 hz2 hz2' hL3 hF3 HF Hz1 hgg h1 HK
  go_wp2_with fail
  refine Calls.mono HRd.out ?_
  rintro e w3 ⟨⟨v, rfl⟩, hL3, hF3, hb3⟩
  have hlen : (L ++ [Nt.iSplit fin] ++ [Nt.iMark f]).length = L.length + 2 := by simp
  rw [hlen] at hL3 hF3
  have hn3 : (L ++ [Nt.iSplit fin] ++ [Nt.iMark f] ++ Nt.rnd T (L.length + 2) (f + 1)).length = L.length + (Nt.rln T + 2) := by simp [Nt.rnd_len]
  have k11 : w3.cell? ⟨lb, 11, none⟩ = some (.int .i64 ((f : Int) + 1)) := hL3.cell 11
  have y11 := hL3.frozen 11
  have HMv : Hid _ := put_moved lb rb cap f _ f _ hL3.down (by rw [hn3]; have := Hroom.out; omega)
  have hL4 := hL3.down
  have hF4 : Nt.Fst (w3.setCell ⟨lb, 11, none⟩ (.int .i64 (f : Int))) g T (L ++ [Nt.iSplit fin] ++ [Nt.iMark f] ++ Nt.rnd T (L.length + 2) (f + 1)) (f + 1) := hF3.same (heap_setCell_other w3 ⟨lb, 11, none⟩ g _ hgl)
  have hb4 : Nt.Bg g lb rb w (w3.setCell ⟨lb, 11, none⟩ (.int .i64 (f : Int))) := ((Hz2.out.bg g).trans hb3).trans (((Nt.Bz.refl lb rb w3).set 11 _).bg g)
  have HF4 : Hid _ := hF4
  have Hb4 : Hid _ := hb4
  have hR' : L ++ [Nt.iSplit fin] ++ [Nt.iMark f] ++ Nt.rnd T (L.length + 2) (f + 1) ++ [Nt.iMoved f] = R := by
    rw [← HR.out, Nt.fre]; simp
  have HR' : Hid _ := hR'
  clear HRd hL3 hF3 hb3 hL4 hF4 hb4 l11 z11 hlen hn3 hR'
  go_wp2_with fail
  refine Calls.mono HMv.out ?_
  rintro e w4 ⟨⟨v, rfl⟩, hL5, hz5⟩
  go_wp2_with fail
  go_end0
  refine ⟨⟨_, rfl⟩, ?_, ?_, ?_⟩
  · rw [← HR'.out]; exact hL5
  · rw [← HR'.out]; exact Nt.Fst.same (Nt.Fst.more HF4.out _) (hz5.block g (Nt.Fst.lt HF4.out) hgl hgr)
  · exact Hb4.out.trans (hz5.bg g)
end Go.Proofs.YtdiokclbdaojpaaDoor
