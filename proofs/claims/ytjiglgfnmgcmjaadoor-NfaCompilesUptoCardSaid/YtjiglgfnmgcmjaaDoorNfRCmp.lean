/- What the reference's Compile answers. -/
import Derived.Test.YtjiglgfnmgcmjaaDoorNfRAny
import Derived.Test.YtjiglgfnmgcmjaaDoorNfCmp
namespace Go.Proofs.YtjiglgfnmgcmjaaDoor
open Go Go.RowKit

namespace Nt
theorem hi_grps {T : NT} (h : cmpE T = 0) : ghi T = (grps T : Int) := by
  obtain ⟨_, n, hn⟩ := cmp0 h
  obtain ⟨_, _, _, h4⟩ := groups_are T 1 n [] (by omega) hn
  have h5 := numP_grps T 1 n [] hn
  rw [h4]
  unfold highP
  split <;> omega
theorem own_down {w : World} {base base' : Nat} {e : TypeId} {size n : Nat} {v : Value} {xs : List Value} (h : w.ownsRow base e size v n xs) (hb : base' ≤ base) : w.ownsRow base' e size v n xs :=
  ⟨h.1, h.2.imp id (fun ⟨g, c, cur, hv, hbg, r⟩ => ⟨g, c, cur, hv, Nat.le_trans hb hbg, r⟩)⟩
theorem rg_new (w : World) : Rg (w.alloc (.cells #[.int .i64 0, .int .i64 0, .slice none 0 0] 84)) w.heap.size [] 0 0 (.slice none 0 0) := ⟨heap_alloc_new w _, World.ownsRow_nil _ _ _ _⟩
end Nt
set_option maxRecDepth 100000 in
set_option maxHeartbeats 4000000 in
theorem rcompile_any (T : Nt.NT) (a : Option Addr) (cap : Nat) (w : World) (hN : Nt.Nd w (· < w.heap.size) T a cap) (hT : Nt.cnt T < 4611686018427387904) :
    Calls Tryd.prog 13 #[Nt.ndV T a cap] w fun e w' => ((Nt.cmpE T ≠ 0 ∧ e = .returned (.tuple #[Nt.prgV 0 0 (.slice none 0 0), .int .i64 (Nt.cmpE T)])) ∨ (Nt.cmpE T = 0 ∧ ∃ v, e = .returned (.tuple #[Nt.prgV (Nt.ghi T) (Nt.sloF 0 (Nt.prgC T)) v, .int .i64 0]) ∧ w'.ownsRow w.heap.size 64 9 v (Nt.prgC T).length (Nt.insC (Nt.prgC T)))) ∧ Below w.heap.size w w' := by
  have N0 := Nt.node_new w T a cap
  have hB0 : Below w.heap.size w (w.alloc (.cells (Nt.ndA T a cap) 28)) := (Below.refl w.heap.size w).alloc (Nat.le_refl _) _
  have hs0 : (w.alloc (.cells (Nt.ndA T a cap) 28)).heap.size = w.heap.size + 1 := by simp
  obtain ⟨W, hW⟩ : ∃ W, W = w.alloc (.cells (Nt.ndA T a cap) 28) := ⟨_, rfl⟩
  rw [← hW] at N0 hB0 hs0
  have hB1 : Below w.heap.size w (W.alloc (.cells #[.int .i64 0, .int .i64 0, .slice none 0 0] 35)) := hB0.alloc (by omega) _
  have hs1 : (W.alloc (.cells #[.int .i64 0, .int .i64 0, .slice none 0 0] 35)).heap.size = w.heap.size + 2 := by simp [hs0]
  have P1 : (W.alloc (.cells #[.int .i64 0, .int .i64 0, .slice none 0 0] 35)).heap[w.heap.size + 1]? = some (.cells #[.int .i64 0, .int .i64 0, .slice none 0 0] 35 (0, 0)) := by rw [← hs0]; exact heap_alloc_new W _
  have N1 := N0.under ((Below.refl W.heap.size W).alloc (Nat.le_refl _) (.cells #[.int .i64 0, .int .i64 0, .slice none 0 0] 35))
  obtain ⟨V, hV⟩ : ∃ V, V = W.alloc (.cells #[.int .i64 0, .int .i64 0, .slice none 0 0] 35) := ⟨_, rfl⟩
  rw [← hV] at hB1 hs1 P1 N1
  have HC : Hid _ := rSize_any T a cap V ((hN.under hB1).mono (fun b (h : b < _) => Nat.lt_of_lt_of_le h hB1.size)) hT
  obtain ⟨R, hR⟩ : ∃ R, (if Nt.cmpE T = 0 then ((Nt.sz T + 1 : Nat) : Int) else 0) = R := ⟨_, rfl⟩
  rw [hR] at HC
  have HN : Hid _ := hN
  simp only [Nt.ndV, Nt.ndA] at hW HC ⊢
  have HN1 : Hid _ := N1
  have HP1 : Hid _ := P1
  have HB1 : Hid _ := hB1
  clear N0 N1 P1 hB0 hB1 hN hR
  go_enter Tryd.func13, Tryd.ntmps13
  go_wp2_with fail
  rw [← hW, ← hV]
  clear hW hV
  refine Calls.mono HC.out ?_
  rintro e w1 ⟨rfl, hb1⟩
  have hB2 := HB1.out.trans (hb1.mono HB1.out.size)
  have P2 : w1.heap[w.heap.size + 1]? = some (.cells #[.int .i64 0, .int .i64 0, .slice none 0 0] 35 (0, 0)) := by rw [hb1.block _ (by omega)]; exact HP1.out
  have HP2 : Hid _ := P2
  have HB2 : Hid _ := hB2
  have hs2 := hb1.size
  have HN2 : Hid _ := Nt.NodeAt.under HN1.out hb1
  by_cases hc : Nt.cmpE T = 0
  · have Hc : Hid _ := hc
    obtain ⟨hcnt, n', hnum⟩ := Nt.cmp0 hc
    have HRC : Hid _ := rcode_any T 1 n' [] (by omega) hnum
    have hsz := (Nt.cmp_sz hc).1
    have hnl : (Nt.code T 0 0).length = Nt.sz T := Nt.code_len T 0 0
    have Hnl : Hid _ := hnl
    have HD1 : Hid _ := HN.out.under hB2
    rw [hc]
    have hBx : Below w1.heap.size w1 (w1.alloc (.cells #[.int .i64 0, .int .i64 0, .slice none 0 0] 84)) := (Below.refl _ _).alloc (Nat.le_refl _) _
    have hsx : (w1.alloc (.cells #[.int .i64 0, .int .i64 0, .slice none 0 0] 84)).heap.size = w1.heap.size + 1 := by simp
    have NX := Nt.NodeAt.under HN2.out hBx
    obtain ⟨q0, q1, q2, q3, q4, q5, q6, q7, q8⟩ := NX.nine
    have HDX : Hid _ := (HN.out.under hB2).under (hBx.mono hB2.size)
    have HG : Hid _ := rgroups_any T a cap _ (HDX.out.mono (fun b (h : b < w.heap.size) => show b < _ by omega))
    simp only [Nt.ndV, Nt.ndA] at HG
    have HRX : Hid _ := Nt.rg_new w1
    have HNX : Hid _ := NX
    have HBX : Hid _ := hBx
    clear HC P2 hB2 hb1 hc hnum hnl hT NX hBx
    go_wp2_with fail
    refine Calls.mono HG.out ?_
    rintro e w2 ⟨rfl, hb2⟩
    have hs3 := hb2.size
    have HB4 : Hid (∀ k, k < w1.heap.size → w2.heap[k]? = w1.heap[k]?) := fun k hk => by rw [hb2.block k (by omega), HBX.out.block k hk]
    have R2 := HRX.out.under hb2
    have HB3 : Hid _ := (HB2.out.trans (HBX.out.mono HB2.out.size)).trans (hb2.mono (by have := HB2.out.size; omega))
    obtain ⟨l0, l1, l2⟩ := R2.cells
    have f0 := R2.frozen 0
    obtain ⟨R3, Z3⟩ := R2.groups (Nt.ghi T)
    have NX2 := Nt.NodeAt.under HNX.out hb2
    have NX3 := NX2.rz Z3 (by omega) (by omega) (fun e => by cases e)
    have hD2 : Nt.Nd w2 (· < w1.heap.size) T a cap := (HDX.out.under (hb2.mono (by omega))).mono (fun b (h : b < w.heap.size) => show b < _ by omega)
    have D3 := Nt.Nd.rz hD2 Z3 (fun g hg => by cases hg) (by omega)
    have HI := HRC.out a cap w1.heap.size [] (Nt.ghi T) 0 (.slice none 0 0) 0 _ R3 D3 (by simp; omega) (by omega)
    rw [show ((0 : Nat) : Int) = 0 from rfl] at HI
    have HHI : Hid _ := HI
    simp only [Nt.ndV, Nt.ndA] at HHI
    obtain ⟨q0, q1, q2, q3, q4, q5, q6, q7, q8⟩ := NX3.nine
    have HNX3 : Hid _ := NX3
    have HZ3 : Hid _ := Z3
    clear HG R2 R3 Z3 NX2 NX3 hD2 D3 HI HRX HNX hb2
    go_wp2_with fail
    refine Calls.mono HHI.out ?_
    rintro e w4 ⟨⟨u, rfl⟩, v4, R4, Z4⟩
    rw [List.nil_append, List.length_nil] at R4
    have HP4 : Hid _ := rput_match w1.heap.size _ (Nt.ghi T) _ v4 w4 R4 (by have := Hnl.out; omega)
    have HZ4 : Hid _ := HZ3.out.trans Z4
    clear HHI R4 Z4 HNX3 HZ3 q0 q1 q2 q3 q4 q5 q6 q7 q8 l0 l1 l2 f0
    go_wp2_with fail
    refine Calls.mono HP4.out ?_
    rintro e w5 ⟨rfl, v5, R5, Z5⟩
    obtain ⟨N, hNe⟩ : ∃ N, (Nt.code T 0 0 ++ [Nt.iMatch]).length = N := ⟨_, rfl⟩
    obtain ⟨g5, c5, hv5⟩ := R5.form' (by simp)
    rw [hNe] at hv5
    subst hv5
    clear hNe
    have Z6 := HZ4.out.trans Z5
    have hB6 := Z6.below (fun g hg => by cases hg) (by omega)
    have hs6 := hB6.size
    have hBF := HB3.out.trans (hB6.mono (show w.heap.size ≤ w1.heap.size by omega))
    have P6 : w5.heap[w.heap.size + 1]? = some (.cells #[.int .i64 0, .int .i64 0, .slice none 0 0] 35 (0, 0)) := by
      rw [hB6.block _ (by omega)]
      have := HP2.out
      rw [← this]
      have h1 := HB4.out (w.heap.size + 1) (by omega)
      exact h1
    obtain ⟨l0, l1, l2⟩ := R5.cells
    have c0 : w5.cell? ⟨w.heap.size + 1, 0, none⟩ = some (.int .i64 0) := cell_of_row _ _ _ _ _ _ P6
    have c1 : w5.cell? ⟨w.heap.size + 1, 1, none⟩ = some (.int .i64 0) := cell_of_row _ _ _ _ _ _ P6
    have c2 : w5.cell? ⟨w.heap.size + 1, 2, none⟩ = some (.slice none 0 0) := cell_of_row _ _ _ _ _ _ P6
    have g0 : w5.frozen? ⟨w.heap.size + 1, 0, none⟩ = false := frozen_of_row w5 _ 0 _ _ P6
    have g1 : w5.frozen? ⟨w.heap.size + 1, 1, none⟩ = false := frozen_of_row w5 _ 1 _ _ P6
    have g2 : w5.frozen? ⟨w.heap.size + 1, 2, none⟩ = false := frozen_of_row w5 _ 2 _ _ P6
    have HR5 : Hid _ := R5
    have HP6 : Hid _ := P6
    have HBF : Hid _ := hBF
    clear R5 P6 hBF Z5 Z6 hB6 HP4 HZ4
    go_wp2_with fail
    refine bodyPost_ret (results_prog rfl _ _ (w.heap.size + 1) _ _ _ rfl (Nt.prg_put _ _ _ HP6.out)) rfl ⟨.inr ⟨Hc.out, .slice (some ⟨g5, 0, none⟩) N c5, ?_, ?_⟩, Nt.prg_below HBF.out (by omega) _ _ _⟩
    · have e : Nt.sloF 0 (Nt.prgC T) = Nt.sloF 0 (Nt.code T 0 0) := by rw [Nt.prgC, Nt.sloF_app]; rfl
      rw [e]; rfl
    · exact Nt.own_blocks (Nt.own_down HR5.out.row (by omega)) (fun g hg => Nt.prg_oth _ _ _ _ _ _ (by have := (HR5.out.own g hg).1; omega))
  · have c0 : w1.cell? ⟨w.heap.size + 1, 0, none⟩ = some (.int .i64 0) := cell_of_row _ _ _ _ _ _ P2
    have c1 : w1.cell? ⟨w.heap.size + 1, 1, none⟩ = some (.int .i64 0) := cell_of_row _ _ _ _ _ _ P2
    have c2 : w1.cell? ⟨w.heap.size + 1, 2, none⟩ = some (.slice none 0 0) := cell_of_row _ _ _ _ _ _ P2
    have g0 : w1.frozen? ⟨w.heap.size + 1, 0, none⟩ = false := frozen_of_row w1 _ 0 _ _ P2
    have g1 : w1.frozen? ⟨w.heap.size + 1, 1, none⟩ = false := frozen_of_row w1 _ 1 _ _ P2
    have g2 : w1.frozen? ⟨w.heap.size + 1, 2, none⟩ = false := frozen_of_row w1 _ 2 _ _ P2
    have hn' : (Nt.cmpE T != 0) = true := by simpa using hc
    have Hne : Hid _ := hc
    clear HC hc hB2 P2
    go_wp2_with fail
    refine bodyPost_ret (results_prog rfl _ _ (w.heap.size + 1) _ _ _ rfl (Nt.prg_put _ _ _ HP2.out)) rfl ?_
    exact ⟨.inl ⟨Hne.out, rfl⟩, Nt.prg_below HB2.out (by omega) _ _ _⟩
end Go.Proofs.YtjiglgfnmgcmjaaDoor
