/- What the reference's round and freely do, of a kid whose laying out is known. -/
import Derived.Test.YtdiokclbdaojpaaDoorNfM5
import Derived.Test.YtdiokclbdaojpaaDoorNfRGr
namespace Go.Proofs.YtdiokclbdaojpaaDoor
open Go Go.RowKit

namespace Nt
/-- What the reference's code does with a tree. -/
def RayC (T : NT) : Prop := ∀ (a : Option Addr) (cap lb : Nat) (L : List Ins) (gr sl : Int) (v : Value) (f : Nat) (w : World), Rg w lb L gr sl v → Nd w (· < lb) T a cap → L.length + sz T ≤ 16384 → f + cnt T ≤ 16384 →
    Calls Tryd.prog 39 #[.pointer (some ⟨lb, 0, none⟩), ndV T a cap, .int .i64 (f : Int)] w fun e w' => (∃ u, e = .returned u) ∧ ∃ v', Rg w' lb (L ++ code T L.length f) gr (sloF sl (code T L.length f)) v' ∧ Rz lb v v' w w'
/-- A round, as the reference lays it. -/
def rndR (X : NT) (p f : Nat) : List Ins := rndC (decide (0 < rlo X)) (rlo X) (ghi X) (code X) p f
/-- A free round without its split. -/
def freR (X : NT) (p f : Nat) : List Ins := iMark f :: rndR X (p + 1) (f + 1) ++ [iMoved f]
def rlnR (X : NT) : Nat := if decide (0 < rlo X) then sz X + 1 else sz X
theorem rndR_len (X : NT) (p f : Nat) : (rndR X p f).length = rlnR X := rndC_len _ _ _ _ _ (code_len X) p f
theorem rndR_yes {X : NT} (h : 0 < rlo X) (p f : Nat) : rndR X p f = iClear (rlo X) (ghi X) :: code X (p + 1) f := by rw [rndR, rndC, decide_eq_true h]; rfl
theorem rndR_no {X : NT} (h : ¬ 0 < rlo X) (p f : Nat) : rndR X p f = code X p f := by rw [rndR, rndC, decide_eq_false h]; rfl
end Nt
set_option maxRecDepth 100000 in
set_option maxHeartbeats 4000000 in
theorem rround_any (X : Nt.NT) (HX : Nt.RayC X) (a : Option Addr) (cap lb : Nat) (L : List Nt.Ins) (gr sl : Int) (v : Value) (f : Nat) (z : Int) (hz : z = (f : Int)) (w : World) (h : Nt.Rg w lb L gr sl v) (hN : Nt.Nd w (· < lb) X a cap) (hr : L.length + Nt.rlnR X ≤ 16384) (hf : f + Nt.cnt X ≤ 16384) :
    Calls Tryd.prog 80 #[.pointer (some ⟨lb, 0, none⟩), Nt.ndV X a cap, .int .i64 z] w fun e w' => (∃ u, e = .returned u) ∧ ∃ v', Nt.Rg w' lb (L ++ Nt.rndR X L.length f) gr (Nt.sloF sl (Nt.rndR X L.length f)) v' ∧ Nt.Rz lb v v' w w' := by
  subst hz
  have hlt := h.lt
  have N0 := Nt.node_new w X a cap
  have hB0 : Below w.heap.size w (w.alloc (.cells (Nt.ndA X a cap) 28)) := (Below.refl w.heap.size w).alloc (Nat.le_refl _) _
  have hs0 : (w.alloc (.cells (Nt.ndA X a cap) 28)).heap.size = w.heap.size + 1 := by simp
  have hN1 := hN.under (hB0.mono (Nat.le_of_lt hlt))
  have HG : Hid _ := rgroups_any X a cap _ (hN1.mono (fun b (hb : b < lb) => show b < _ by omega))
  have H1 : Hid _ := h.under hB0
  have Hown : Hid _ := h.own
  have HX' : Hid (∀ (L : List Nt.Ins) (sl : Int) (v : Value) (w : World), Nt.Rg w lb L gr sl v → Nt.Nd w (· < lb) X a cap → L.length + Nt.sz X ≤ 16384 →
    Calls Tryd.prog 39 #[.pointer (some ⟨lb, 0, none⟩), Nt.ndV X a cap, .int .i64 (f : Int)] w fun e w' => (∃ u, e = .returned u) ∧ ∃ v', Nt.Rg w' lb (L ++ Nt.code X L.length f) gr (Nt.sloF sl (Nt.code X L.length f)) v' ∧ Nt.Rz lb v v' w w') := fun L sl v w h1 h2 h3 => HX a cap lb L gr sl v f w h1 h2 h3 hf
  simp only [Nt.ndV, Nt.ndA] at N0 hB0 hs0 hN1 HG H1 HX' ⊢
  obtain ⟨W, hW⟩ : ∃ W, W = w.alloc (.cells #[.int .u8 (X.k : Int), .int .u64 (St.wd X.s 0 : Nat), .int .u64 (St.wd X.s 1 : Nat), .int .u64 (St.wd X.s 2 : Nat), .int .u64 (St.wd X.s 3 : Nat), .int .i64 X.mn, .int .i64 X.mx, .int .i64 X.gr, .slice a X.kids.length cap] 28) := ⟨_, rfl⟩
  rw [← hW] at N0 hB0 hs0 hN1 HG H1
  have HN0 : Hid _ := N0
  have HN1 : Hid _ := hN1
  have HB0 : Hid _ := hB0
  have Hr : Hid _ := hr
  obtain ⟨q0, q1, q2, q3, q4, q5, q6, q7, q8⟩ := N0.nine
  clear N0 hB0 hN1 hN h HX hr
  go_enter Tryd.func80, Tryd.ntmps80
  go_wp2_with fail
  rw [← hW]
  clear hW
  refine Calls.mono HG.out ?_
  rintro e w1 ⟨rfl, hb1⟩
  have hs1 := hb1.size
  have R1 := Nt.Rg.under H1.out hb1
  have A1 := Nt.NodeAt.under HN0.out hb1
  have D1 := HN1.out.under (hb1.mono (by omega))
  have Z1 : Nt.Rz lb v v w w1 := (Nt.Rz.of_below v HB0.out).trans (Nt.Rz.of_below v hb1)
  have o1 := Hown.out
  clear HG H1 q0 q1 q2 q3 q4 q5 q6 q7 q8 HN0 HN1 HB0 Hown
  by_cases hlo : 0 < Nt.rlo X
  · have HE : Hid _ := Nt.rndR_yes hlo L.length f
    have hln : Nt.rlnR X = Nt.sz X + 1 := by rw [Nt.rlnR, decide_eq_true hlo]; rfl
    have HP : Hid _ := rput_clear lb L (Nt.rlo X) (Nt.ghi X) gr sl v w1 R1 (by have := Hr.out; omega)
    have HA1 : Hid _ := A1
    have HD1 : Hid _ := D1
    have HZ1 : Hid _ := Z1
    have Ho1 : Hid _ := o1
    have Ho : Hid _ := R1.own
    have Hln : Hid _ := hln
    clear A1 D1 Z1 R1 o1 hln
    go_wp2_with fail
    refine Calls.mono HP.out ?_
    rintro e w2 ⟨rfl, v2, R2, Z2⟩
    have hs2 := Z2.size
    have A2 := Nt.NodeAt.rz HA1.out Z2 (by omega) (by omega) (fun e => by have := (Ho1.out _ e.symm).2; omega)
    have D2 := Nt.Nd.rz HD1.out Z2 Ho.out (by omega)
    have HC : Hid _ := HX'.out (L ++ [Nt.iClear (Nt.rlo X) (Nt.ghi X)]) sl v2 w2 R2 D2 (by have := Hr.out; have := Hln.out; simp; omega)
    obtain ⟨q0, q1, q2, q3, q4, q5, q6, q7, q8⟩ := A2.nine
    have HZ2 : Hid _ := HZ1.out.trans Z2
    clear A2 D2 R2 Z2 HP HX' HA1 HD1 HZ1
    go_wp2_with fail
    refine Calls.mono HC.out ?_
    rintro e w3 ⟨⟨u, rfl⟩, v3, R3, Z3⟩
    go_wp2_with fail
    go_end0
    rw [List.length_append, List.length_singleton, List.append_assoc, List.singleton_append] at R3
    rw [HE.out]
    exact ⟨⟨_, rfl⟩, v3, R3, HZ2.out.trans Z3⟩
  · have HE : Hid _ := Nt.rndR_no hlo L.length f
    have hln : Nt.rlnR X = Nt.sz X := by rw [Nt.rlnR, decide_eq_false hlo]; rfl
    have HC : Hid _ := HX'.out L sl v w1 R1 D1 (by have := Hr.out; omega)
    obtain ⟨q0, q1, q2, q3, q4, q5, q6, q7, q8⟩ := A1.nine
    have HZ1 : Hid _ := Z1
    clear A1 D1 R1 Z1 o1 HX' hln
    go_wp2_with fail
    refine Calls.mono HC.out ?_
    rintro e w3 ⟨⟨u, rfl⟩, v3, R3, Z3⟩
    go_wp2_with fail
    go_end0
    rw [HE.out]
    exact ⟨⟨_, rfl⟩, v3, R3, HZ1.out.trans Z3⟩
set_option maxRecDepth 100000 in
set_option maxHeartbeats 4000000 in
theorem rfree_any (X : Nt.NT) (HX : Nt.RayC X) (a : Option Addr) (cap lb : Nat) (L : List Nt.Ins) (gr sl : Int) (v : Value) (f : Nat) (w : World) (h : Nt.Rg w lb L gr sl v) (hN : Nt.Nd w (· < lb) X a cap) (hr : L.length + (Nt.rlnR X + 2) ≤ 16384) (hf : f + 1 + Nt.cnt X ≤ 16384) :
    Calls Tryd.prog 81 #[.pointer (some ⟨lb, 0, none⟩), Nt.ndV X a cap, .int .i64 (f : Int)] w fun e w' => (∃ u, e = .returned u) ∧ ∃ v', Nt.Rg w' lb (L ++ Nt.freR X L.length f) gr (Nt.sloF sl (Nt.freR X L.length f)) v' ∧ Nt.Rz lb v v' w w' := by
  have hlt := h.lt
  have Ho : Hid _ := h.own
  have HRd : Hid (∀ (L : List Nt.Ins) (sl : Int) (v : Value) (z : Int) (hz : z = ((f + 1 : Nat) : Int)) (w : World), Nt.Rg w lb L gr sl v → Nt.Nd w (· < lb) X a cap → L.length + Nt.rlnR X ≤ 16384 →
    Calls Tryd.prog 80 #[.pointer (some ⟨lb, 0, none⟩), Nt.ndV X a cap, .int .i64 z] w fun e w' => (∃ u, e = .returned u) ∧ ∃ v', Nt.Rg w' lb (L ++ Nt.rndR X L.length (f + 1)) gr (Nt.sloF sl (Nt.rndR X L.length (f + 1))) v' ∧ Nt.Rz lb v v' w w') := fun L sl v z hz w h1 h2 h3 => rround_any X HX a cap lb L gr sl v (f + 1) z hz w h1 h2 h3 hf
  have HR0 : Hid _ := h
  have HD0 : Hid _ := hN
  obtain ⟨l0, l1, l2⟩ := h.cells
  have f1 := h.frozen 1
  have Hr : Hid _ := hr
  have hf2 : f ≤ 16384 := by omega
  have fin : ∀ (w0 : World) (s1 : Int), w0.heap.size = w.heap.size → Nt.Rg w0 lb L gr s1 v → Nt.Rz lb v v w w0 →
    Calls Tryd.prog 40 #[.pointer (some ⟨lb, 0, none⟩), .agg #[.int .u8 7, .int .u64 0, .int .u64 0, .int .u64 0, .int .u64 0, .int .i64 0, .int .i64 0, .int .i64 0, .int .i64 (f : Int)]] (w0.alloc (.cells (Nt.ndA X a cap) 28)) fun e w2 => (e = .returned (.int .i64 (L.length : Nat))) ∧ ∃ v2, Nt.Rg w2 lb (L ++ [Nt.iMark f]) gr s1 v2 ∧ Nt.Rz lb v v2 w w2 ∧ Nt.NodeAt w2 w.heap.size X a cap ∧ Nt.Nd w2 (· < lb) X a cap := fun w0 s1 e0 h1 h2 => by
    have N0 := Nt.node_new w0 X a cap
    have hB0 : Below w0.heap.size w0 (w0.alloc (.cells (Nt.ndA X a cap) 28)) := (Below.refl w0.heap.size w0).alloc (Nat.le_refl _) _
    have hs0 : (w0.alloc (.cells (Nt.ndA X a cap) 28)).heap.size = w0.heap.size + 1 := by simp
    have Z1 := h2.trans (Nt.Rz.of_below v hB0)
    have D1 := Nt.Nd.rz HD0.out Z1 Ho.out hlt
    rw [e0] at N0
    refine Calls.mono (rput_mark lb L f gr s1 v _ (h1.under hB0) (by have := Hr.out; omega)) ?_
    rintro e w2 ⟨rfl, v2, R2, Z2⟩
    exact ⟨rfl, v2, R2, Z1.trans Z2, Nt.NodeAt.rz N0 Z2 (by omega) (by omega) (fun e => by have := (Ho.out _ e.symm).2; omega), Nt.Nd.rz D1 Z2 (fun g hg => by have := Ho.out g hg; omega) (by omega)⟩
  have HF : Hid _ := fin
  simp only [Nt.ndV, Nt.ndA] at HF HRd ⊢
  clear fin hN h HX hr hf
  have Hsl : Hid (∀ B, Nt.sloF sl (Nt.iMark f :: B) = Nt.sloF (if sl < (f : Int) + 1 then (f : Int) + 1 else sl) B) := fun B => Nt.sloF_mark sl f B
  by_cases hs : sl < (f : Int) + 1
  · have HR1 : Hid _ := HF.out (w.setCell ⟨lb, 1, none⟩ (.int .i64 ((f : Int) + 1))) ((f : Int) + 1) (by simp) (Nt.Rg.slot HR0.out ((f : Int) + 1)).1 (Nt.Rg.slot HR0.out ((f : Int) + 1)).2
    rw [if_pos hs] at Hsl
    go_enter Tryd.func81, Tryd.ntmps81
    go_wp2_with fail
    clear l0 l1 l2 f1
    refine Calls.mono HR1.out ?_
    rintro e w2 ⟨rfl, v2, R2, Z2, A2, D2⟩
    have HR2 : Hid _ := R2
    have HZ2 : Hid _ := Z2
    have HD2 : Hid _ := D2
    obtain ⟨q0, q1, q2, q3, q4, q5, q6, q7, q8⟩ := A2.nine
    clear R2 Z2 A2 D2 HF HR1
    go_wp2_with fail
    refine Calls.mono (HRd.out (L ++ [Nt.iMark f]) _ v2 _ rfl w2 HR2.out HD2.out (by have := Hr.out; simp; omega)) ?_
    rintro e w3 ⟨⟨u, rfl⟩, v3, R3, Z3⟩
    have HP : Hid _ := rput_moved lb _ f gr _ v3 w3 R3 (by have := Hr.out; simp [Nt.rndR_len]; omega)
    have HZ3 : Hid _ := HZ2.out.trans Z3
    clear R3 Z3 HRd q0 q1 q2 q3 q4 q5 q6 q7 q8
    go_wp2_with fail
    refine Calls.mono HP.out ?_
    rintro e w4 ⟨rfl, v4, R4, Z4⟩
    go_wp2_with fail
    go_end0
    refine ⟨⟨_, rfl⟩, v4, ?_, HZ3.out.trans Z4⟩
    rw [List.length_append, List.length_singleton] at R4
    have e1 : L ++ Nt.freR X L.length f = L ++ [Nt.iMark f] ++ Nt.rndR X (L.length + 1) (f + 1) ++ [Nt.iMoved f] := by simp [Nt.freR]
    rw [e1, Nt.freR, List.cons_append, Hsl.out, Nt.sloF_app, Nt.sloF_moved]
    exact R4
  · rw [if_neg hs] at Hsl
    go_enter Tryd.func81, Tryd.ntmps81
    go_wp2_with fail
    clear l0 l1 l2 f1
    refine Calls.mono (HF.out w sl rfl HR0.out (Nt.Rz.refl _ _ _)) ?_
    rintro e w2 ⟨rfl, v2, R2, Z2, A2, D2⟩
    have HR2 : Hid _ := R2
    have HZ2 : Hid _ := Z2
    have HD2 : Hid _ := D2
    obtain ⟨q0, q1, q2, q3, q4, q5, q6, q7, q8⟩ := A2.nine
    clear R2 Z2 A2 D2 HF
    go_wp2_with fail
    refine Calls.mono (HRd.out (L ++ [Nt.iMark f]) _ v2 _ rfl w2 HR2.out HD2.out (by have := Hr.out; simp; omega)) ?_
    rintro e w3 ⟨⟨u, rfl⟩, v3, R3, Z3⟩
    have HP : Hid _ := rput_moved lb _ f gr _ v3 w3 R3 (by have := Hr.out; simp [Nt.rndR_len]; omega)
    have HZ3 : Hid _ := HZ2.out.trans Z3
    clear R3 Z3 HRd q0 q1 q2 q3 q4 q5 q6 q7 q8
    go_wp2_with fail
    refine Calls.mono HP.out ?_
    rintro e w4 ⟨rfl, v4, R4, Z4⟩
    go_wp2_with fail
    go_end0
    refine ⟨⟨_, rfl⟩, v4, ?_, HZ3.out.trans Z4⟩
    rw [List.length_append, List.length_singleton] at R4
    have e1 : L ++ Nt.freR X L.length f = L ++ [Nt.iMark f] ++ Nt.rndR X (L.length + 1) (f + 1) ++ [Nt.iMoved f] := by simp [Nt.freR]
    rw [e1, Nt.freR, List.cons_append, Hsl.out, Nt.sloF_app, Nt.sloF_moved]
    exact R4
end Go.Proofs.YtdiokclbdaojpaaDoor
