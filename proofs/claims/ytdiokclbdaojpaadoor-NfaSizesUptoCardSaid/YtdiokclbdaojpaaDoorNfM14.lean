/- What nfa.Compile answers, in one form. A small expression is compiled and run: what begins answers. What the law NfaSizes answers: true, of any tree. -/
import Derived.Test.YtdiokclbdaojpaaDoorNfCmp
import Derived.Test.YtdiokclbdaojpaaDoorNfM13
namespace Go.Proofs.YtdiokclbdaojpaaDoor
open Go Go.RowKit

namespace Nt
/-- What Compile answers of a tree: groups, slots, code. -/
def pgr (T : NT) : Int := if cmpE T = 0 then (grps T : Int) else 0
def psl (T : NT) : Int := if cmpE T = 0 then slo (prgC T) else 0
def pL (T : NT) : List Ins := if cmpE T = 0 then prgC T else []
theorem pL_len (T : NT) : (pL T).length ≤ 16384 := by
  unfold pL
  split
  · rename_i h
    rw [prgC, List.length_append, code_len]
    have := (cmp_sz h).1
    simpa using this
  · simp
end Nt
theorem compile_one (T : Nt.NT) (a : Option Addr) (cap : Nat) (w : World) (hN : Nt.Nd w (· < w.heap.size) T a cap) (hTb : Nt.Tabs w) :
    Calls Tryd.prog 12 #[Nt.ndV T a cap] w fun e w' => ∃ va ca, e = .returned (.tuple #[.agg #[.int .i64 (Nt.pgr T), .int .i64 (Nt.psl T), .slice va (Nt.pL T).length ca], .int .i64 (Nt.cmpE T)]) ∧ w'.ownsRow w.heap.size 64 9 (.slice va (Nt.pL T).length ca) (Nt.pL T).length (Nt.insC (Nt.pL T)) ∧ Below w.heap.size w w' := by
  refine Calls.mono (compile_any T a cap w hN hTb) ?_
  rintro e w' ⟨⟨h0, rfl⟩ | ⟨h0, rb, c, rfl, hr⟩, hb⟩
  · refine ⟨none, 0, ?_, ?_, hb⟩
    · rw [Nt.pgr, Nt.psl, Nt.pL, if_neg h0, if_neg h0, if_neg h0]; rfl
    · rw [Nt.pL, if_neg h0]; exact World.ownsRow_nil _ _ _ _
  · refine ⟨some ⟨rb, 0, none⟩, c, ?_, ?_, hb⟩
    · rw [Nt.pgr, Nt.psl, Nt.pL, if_pos h0, if_pos h0, if_pos h0, h0]; rfl
    · rw [Nt.pL, if_pos h0]; exact hr
end Go.Proofs.YtdiokclbdaojpaaDoor
namespace Go.Proofs.YtdiokclbdaojpaaDoor
open Go Go.RowKit Go.Shelf

namespace Nt
def sA : Nat → Bool := fun c => c == 97
def Tk : NT := .mk 2 sA 0 0 0 []
/-- The expression a, once or more. -/
def Tb : NT := .mk 5 noS 1 (-1) 0 [Tk]
theorem tb_cmp : cmpE Tb = 0 := by kernel_rfl
theorem tb_len : (pL Tb).length = 7 := by kernel_rfl
theorem tb_sz : (sz Tb + 1 : Nat) = 7 := by kernel_rfl
theorem tb_rb : rbE (pgr Tb) (psl Tb) (pL Tb) = 0 := by kernel_rfl
theorem tb_ends : endsP (pL Tb) ⟨#[98, 97, 97]⟩ 0 3 3 = [(1, 2), (1, 3)] := by kernel_rfl
theorem tb_run : mtR (pgr Tb) (psl Tb) (pL Tb) ⟨#[98, 97, 97]⟩ 0 = (((1, 3), true), 0) := by
  rw [mtR, tb_rb]
  have : endsP (pL Tb) ⟨#[98, 97, 97]⟩ (0 : Int).toNat (ByteArray.size ⟨#[98, 97, 97]⟩) (ByteArray.size ⟨#[98, 97, 97]⟩) = [(1, 2), (1, 3)] := tb_ends
  rw [this]
  rfl
theorem tb_v (a : Option Addr) (cap : Nat) : ndV Tb a cap = .agg #[.int .u8 5, .int .u64 0, .int .u64 0, .int .u64 0, .int .u64 0, .int .i64 1, .int .i64 (-1), .int .i64 0, .slice a 1 cap] := by kernel_rfl
theorem tk_a : ndA Tk none 0 = #[.int .u8 2, .int .u64 0, .int .u64 8589934592, .int .u64 0, .int .u64 0, .int .i64 0, .int .i64 0, .int .i64 0, .slice none 0 0] := by kernel_rfl
theorem tb_gr : pgr Tb = 0 := by kernel_rfl
theorem tb_sl : psl Tb = 1 := by kernel_rfl
/-- What is compiled, as a code in memory. -/
theorem cds_own {w : World} {base : Nat} {va : Option Addr} {ca : Nat} {L : List Ins} (h : w.ownsRow base 64 9 (.slice va L.length ca) L.length (insC L)) (hl : L.length ≤ 1048576) : Cds w w.heap.size va ca L := by
  obtain ⟨_, ⟨e, h0⟩ | ⟨g, cap, cur, e, h1, h2, h3, h4, h5, h6⟩⟩ := h
  · injection e with e1 e2 e3
    subst e1 e3
    exact ⟨hl, by omega, Nat.zero_le _, fun _ => rfl, fun i hi => by omega⟩
  · injection e with e1 e2 e3
    subst e1 e3
    refine ⟨hl, h3, h4, fun e => (by cases e), fun i hi => ⟨g, 0, rfl, lt_of_block h2, fun j hj => ?_⟩⟩
    have hij : 0 + i * 9 + j < L.length * 9 := by omega
    rw [cell_of_row w g _ cur _ _ h2, ← insC_at L i hi j hj, ← h6, List.getElem?_take_of_lt (by omega), Array.getElem?_toList, Nat.zero_add]
theorem pL_k (T : NT) : ∀ x ∈ pL T, x.k ≤ 255 := by
  intro x hx
  unfold pL at hx
  split at hx
  · rename_i h
    obtain ⟨i, hi, rfl⟩ := List.getElem_of_mem hx
    have := (right_at (prg_right h) hi).2.1
    omega
  · cases hx
end Nt

set_option maxRecDepth 100000 in
set_option maxHeartbeats 8000000 in
theorem begins_any (w : World) (hTb : Nt.Tabs w) : Calls Tryd.prog 26 #[] w fun e w' => e = .returned (.bool true) ∧ Below w.heap.size w w' := by
  obtain ⟨W3, hW3⟩ : ∃ W3, W3 = ((w.alloc (.cells #[.int .u64 0, .int .u64 8589934592, .int .u64 0, .int .u64 0] 25)).alloc (.cells #[.int .u8 2, .int .u64 0, .int .u64 8589934592, .int .u64 0, .int .u64 0, .int .i64 0, .int .i64 0, .int .i64 0, .slice none 0 0] 28)).alloc (.cells #[.int .u8 5, .int .u64 0, .int .u64 0, .int .u64 0, .int .u64 0, .int .i64 1, .int .i64 (-1), .int .i64 0, .slice (some ⟨w.heap.size + 1, 0, none⟩) 1 1] 28) := ⟨_, rfl⟩
  have hB3 : Below w.heap.size w W3 := by rw [hW3]; exact (((Below.refl w.heap.size w).alloc (Nat.le_refl _) _).alloc (by simp) _).alloc (by simp; omega) _
  have sz3 : W3.heap.size = w.heap.size + 3 := by rw [hW3]; simp
  have k1 : W3.heap[w.heap.size + 1]? = some (.cells (Nt.ndA Nt.Tk none 0) 28 (0, 0)) := by
    rw [hW3, Below.heap_alloc _ _ _ (by simp), Nt.tk_a]
    have := World.alloc_heap_new (w.alloc (.cells #[.int .u64 0, .int .u64 8589934592, .int .u64 0, .int .u64 0] 25)) (.cells #[.int .u8 2, .int .u64 0, .int .u64 8589934592, .int .u64 0, .int .u64 0, .int .i64 0, .int .i64 0, .int .i64 0, .slice none 0 0] 28)
    rwa [World.size_alloc] at this
  have k2 : W3.heap[w.heap.size + 2]? = some (.cells #[.int .u8 5, .int .u64 0, .int .u64 0, .int .u64 0, .int .u64 0, .int .i64 1, .int .i64 (-1), .int .i64 0, .slice (some ⟨w.heap.size + 1, 0, none⟩) 1 1] 28 (0, 0)) := by
    rw [hW3]
    have := World.alloc_heap_new ((w.alloc (.cells #[.int .u64 0, .int .u64 8589934592, .int .u64 0, .int .u64 0] 25)).alloc (.cells #[.int .u8 2, .int .u64 0, .int .u64 8589934592, .int .u64 0, .int .u64 0, .int .i64 0, .int .i64 0, .int .i64 0, .slice none 0 0] 28)) (.cells #[.int .u8 5, .int .u64 0, .int .u64 0, .int .u64 0, .int .u64 0, .int .i64 1, .int .i64 (-1), .int .i64 0, .slice (some ⟨w.heap.size + 1, 0, none⟩) 1 1] 28)
    rwa [World.size_alloc, World.size_alloc] at this
  have hN3 : Nt.Nd W3 (· < W3.heap.size) Nt.Tb (some ⟨w.heap.size + 1, 0, none⟩) 1 := by
    refine .mk (fun _ => (none, 0)) (by decide) (fun e => by cases e) (by decide) (by decide) (fun i hi => ?_) (fun i hi => ?_)
    · obtain rfl : i = 0 := by simp [Nt.Tb, Nt.NT.kids] at hi; omega
      exact ⟨w.heap.size + 1, 0, rfl, by show w.heap.size + 1 < W3.heap.size; omega, Nt.NodeAt.nine (T := Nt.Tk) k1⟩
    · obtain rfl : i = 0 := by simp [Nt.Tb, Nt.NT.kids] at hi; omega
      exact .mk (T := Nt.Tk) (fun _ => (none, 0)) (by decide) (fun _ => rfl) (by decide) (by decide) (fun i hi => by simp [Nt.Tk, Nt.NT.kids] at hi) (fun i hi => by simp [Nt.Tk, Nt.NT.kids] at hi)
  have hTb3 := hTb.under hB3
  have hC := compile_one Nt.Tb _ 1 W3 hN3 hTb3
  rw [Nt.tb_v, Nt.tb_gr, Nt.tb_sl, Nt.tb_len, Nt.tb_cmp] at hC
  have HNd : Hid (∀ w', Below W3.heap.size W3 w' → Nt.Nd w' (· < w'.heap.size) Nt.Tb (some ⟨w.heap.size + 1, 0, none⟩) 1) := fun w' hb => (hN3.under hb).mono (fun b (h : b < _) => Nat.lt_of_lt_of_le h hb.size)
  have HTb : Hid (∀ w', Below W3.heap.size W3 w' → Nt.Tabs w') := fun w' hb => hTb3.under hb
  clear hN3 k1
  go_enter Tryd.func26, Tryd.ntmps26
  go_wp2_with fail
  rw [← hW3]
  clear hW3
  refine Calls.mono hC ?_
  rintro e w4 ⟨va, ca, rfl, ra, hb4⟩
  have ra' : w4.ownsRow W3.heap.size 64 9 (.slice va (Nt.pL Nt.Tb).length ca) (Nt.pL Nt.Tb).length (Nt.insC (Nt.pL Nt.Tb)) := by rw [Nt.tb_len]; exact ra
  clear hC
  have n4 : w4.heap[w.heap.size + 2]? = _ := (hb4.block _ (by omega)).trans k2
  obtain ⟨W5, hW5⟩ : ∃ W5, W5 = w4.alloc (.cells #[.int .i64 0, .int .i64 1, .slice va 7 ca] 35) := ⟨_, rfl⟩
  have hb5 : Below W3.heap.size W3 W5 := by rw [hW5]; exact hb4.alloc hb4.size _
  have n5 : W5.heap[w.heap.size + 2]? = _ := (hb5.block _ (by omega)).trans k2
  have sz5 : W5.heap.size = w4.heap.size + 1 := by rw [hW5]; simp
  have p5 : W5.heap[w4.heap.size]? = some (.cells #[.int .i64 0, .int .i64 1, .slice va 7 ca] 35 (0, 0)) := by rw [hW5]; exact World.alloc_heap_new _ _
  have hS := size_any Nt.Tb _ 1 W5 (HNd.out W5 hb5) (HTb.out W5 hb5)
  rw [Nt.tb_v, Nt.tb_cmp, if_pos rfl, Nt.tb_sz] at hS
  have c0 : W5.cell? ⟨w.heap.size + 2, 0, none⟩ = some (.int .u8 5) := cell_of_row _ _ _ _ _ _ n5
  have c1 : W5.cell? ⟨w.heap.size + 2, 1, none⟩ = some (.int .u64 0) := cell_of_row _ _ _ _ _ _ n5
  have c2 : W5.cell? ⟨w.heap.size + 2, 2, none⟩ = some (.int .u64 0) := cell_of_row _ _ _ _ _ _ n5
  have c3 : W5.cell? ⟨w.heap.size + 2, 3, none⟩ = some (.int .u64 0) := cell_of_row _ _ _ _ _ _ n5
  have c4 : W5.cell? ⟨w.heap.size + 2, 4, none⟩ = some (.int .u64 0) := cell_of_row _ _ _ _ _ _ n5
  have c5 : W5.cell? ⟨w.heap.size + 2, 5, none⟩ = some (.int .i64 1) := cell_of_row _ _ _ _ _ _ n5
  have c6 : W5.cell? ⟨w.heap.size + 2, 6, none⟩ = some (.int .i64 (-1)) := cell_of_row _ _ _ _ _ _ n5
  have c7 : W5.cell? ⟨w.heap.size + 2, 7, none⟩ = some (.int .i64 0) := cell_of_row _ _ _ _ _ _ n5
  have c8 : W5.cell? ⟨w.heap.size + 2, 8, none⟩ = some (.slice (some ⟨w.heap.size + 1, 0, none⟩) 1 1) := cell_of_row _ _ _ _ _ _ n5
  rw [hW5] at c0 c1 c2 c3 c4 c5 c6 c7 c8
  have HB4 : Hid _ := hb4
  have HB5 : Hid _ := hb5
  have HRA : Hid _ := ra'
  have HP5 : Hid _ := p5
  clear ra ra' hb4 hb5 n4 n5 p5 k2
  go_wp2_with fail
  rw [← hW5]
  clear c0 c1 c2 c3 c4 c5 c6 c7 c8
  refine Calls.mono hS ?_
  rintro e w6 ⟨rfl, hb6⟩
  clear hS
  have hb46 : Below w4.heap.size w4 w6 := by
    have : Below w4.heap.size w4 W5 := by rw [hW5]; exact (Below.refl _ _).alloc (Nat.le_refl _) _
    exact this.trans (hb6.mono (by omega))
  have hb36 : Below W3.heap.size W3 w6 := HB5.out.trans (hb6.mono HB5.out.size)
  have hCd := Nt.cds_own (own_below HRA.out hb46) (by rw [Nt.tb_len]; decide)
  have hM := match_any 0 1 va ca (Nt.pL Nt.Tb) ⟨#[98, 97, 97]⟩ 0 w6 hCd (HTb.out w6 hb36) (Nt.pL_k _) (by decide)
  have hmt : Nt.mtR 0 1 (Nt.pL Nt.Tb) ⟨#[98, 97, 97]⟩ 0 = (((1, 3), true), 0) := by have := Nt.tb_run; rw [Nt.tb_gr, Nt.tb_sl] at this; exact this
  rw [hmt, Nt.tb_len] at hM
  have p6 : w6.heap[w4.heap.size]? = _ := (hb6.block _ (by omega)).trans HP5.out
  have d0 : w6.cell? ⟨w4.heap.size, 0, none⟩ = some (.int .i64 0) := cell_of_row _ _ _ _ _ _ p6
  have d1 : w6.cell? ⟨w4.heap.size, 1, none⟩ = some (.int .i64 1) := cell_of_row _ _ _ _ _ _ p6
  have d2 : w6.cell? ⟨w4.heap.size, 2, none⟩ = some (.slice va 7 ca) := cell_of_row _ _ _ _ _ _ p6
  have HB36 : Hid _ := hb36
  have HP6 : Hid _ := p6
  have hs6 := hb6.size
  clear hb46 hb36 hCd hmt p6 hb6 hW5 HB5 HRA HP5 HB4
  go_wp2_with fail
  refine Calls.mono hM ?_
  rintro e w7 ⟨rfl, hb7⟩
  have hs7 := hb7.size
  have p7 : w7.heap[w4.heap.size]? = _ := (hb7.block _ (by omega)).trans HP6.out
  have e2 := cell_alloc_k (.cells #[.int .i64 1, .int .i64 3] 42) (cell_of_row w7 w4.heap.size 2 _ _ _ p7)
  have HB7 : Hid (Below w.heap.size w w7) := hB3.trans ((HB36.out.trans (hb7.mono HB36.out.size)).mono (by omega))
  clear hM d0 d1 d2 HB36 HP6 hb7 p7
  go_wp2_with fail
  go_ret
  exact ⟨rfl, HB7.out.alloc HB7.out.size _⟩
end Go.Proofs.YtdiokclbdaojpaaDoor
namespace Go.Proofs.YtdiokclbdaojpaaDoor
open Go Go.RowKit Go.Shelf

namespace Nt
theorem chk_cmp (T : NT) : chkP T = 0 ∨ cmpE T = chkP T := by
  by_cases h : chkP T = 0
  · exact .inl h
  · exact .inr (by rw [cmpE, if_pos h])
theorem cmp_chk {T : NT} (h : cmpE T = 0) : chkP T = 0 := (chk_cmp T).elim id (fun e => e.symm.trans h)
end Nt
set_option maxRecDepth 100000 in
set_option maxHeartbeats 8000000 in
theorem law_sizes (T : Nt.NT) (a : Option Addr) (cap : Nat) (w : World) (hN : Nt.Nd w (· < w.heap.size) T a cap) (hTb : Nt.Tabs w) :
    Calls Tryd.prog 5 #[Nt.ndV T a cap] w fun e w' => e = .returned (.bool true) ∧ Below w.heap.size w w' := by
  have N0 := Nt.node_new w T a cap
  have hB0 : Below w.heap.size w (w.alloc (.cells (Nt.ndA T a cap) 28)) := (Below.refl w.heap.size w).alloc (Nat.le_refl _) _
  obtain ⟨W, hW⟩ : ∃ W, W = w.alloc (.cells (Nt.ndA T a cap) 28) := ⟨_, rfl⟩
  rw [← hW] at N0 hB0
  have sz0 : W.heap.size = w.heap.size + 1 := by rw [hW]; simp
  have HUP : Hid (∀ w', Below w.heap.size w w' → Nt.Nd w' (· < w'.heap.size) T a cap) := fun w' hb => (hN.under hb).mono (fun b (h : b < _) => Nat.lt_of_lt_of_le h hb.size)
  have HTb : Hid (∀ w', Below w.heap.size w w' → Nt.Tabs w') := fun w' hb => hTb.under hb
  have hBg := begins_any W (hTb.under hB0)
  have HN0 : Hid _ := N0
  have HB0 : Hid _ := hB0
  simp only [Nt.ndV, Nt.ndA] at hW ⊢
  clear N0 hB0 hN hTb
  go_enter Tryd.func5, Tryd.ntmps5
  go_wp2_with fail
  rw [← hW]
  clear hW
  refine Calls.mono hBg ?_
  rintro e w1 ⟨rfl, hb1⟩
  have hB1 := HB0.out.trans (hb1.mono HB0.out.size)
  have hs1 := hb1.size
  have NA1 := Nt.NodeAt.under HN0.out hb1
  obtain ⟨q0, q1, q2, q3, q4, q5, q6, q7, q8⟩ := NA1.nine
  have HS1 : Hid _ := size_any T a cap w1 (HUP.out w1 hB1) (HTb.out w1 hB1)
  have HNA1 : Hid _ := NA1
  have HB1 : Hid _ := hB1
  obtain ⟨R, hR⟩ : ∃ R, (if Nt.cmpE T = 0 then ((Nt.sz T + 1 : Nat) : Int) else 0) = R := ⟨_, rfl⟩
  rw [hR] at HS1
  have HRe : Hid _ := hR
  simp only [Nt.ndV, Nt.ndA] at HS1
  clear hBg HN0 HB0 hb1 NA1 hB1 hR
  go_wp2_with fail
  refine Calls.mono HS1.out ?_
  rintro e w2 ⟨rfl, hb2⟩
  have hs2 := hb2.size
  have hB2 := HB1.out.trans (hb2.mono HB1.out.size)
  have NA2 := Nt.NodeAt.under HNA1.out hb2
  have HC : Hid _ := compile_one T a cap w2 (HUP.out w2 hB2) (HTb.out w2 hB2)
  simp only [Nt.ndV, Nt.ndA] at HC
  clear q0 q1 q2 q3 q4 q5 q6 q7 q8
  obtain ⟨q0, q1, q2, q3, q4, q5, q6, q7, q8⟩ := NA2.nine
  have HNA2 : Hid _ := NA2
  have HB2 : Hid _ := hB2
  clear HS1 HNA1 HB1 hb2 NA2 hB2
  go_wp2_with fail
  refine Calls.mono HC.out ?_
  rintro e w3 ⟨va, ca, rfl, ra, hb3⟩
  have hs3 := hb3.size
  have hB3 := HB2.out.trans (hb3.mono HB2.out.size)
  obtain ⟨W4, hW4⟩ : ∃ W4, W4 = w3.alloc (.cells #[.int .i64 (Nt.pgr T), .int .i64 (Nt.psl T), .slice va (Nt.pL T).length ca] 35) := ⟨_, rfl⟩
  have sz4 : W4.heap.size = w3.heap.size + 1 := by rw [hW4]; simp
  have hb4 : Below w3.heap.size w3 W4 := by rw [hW4]; exact (Below.refl _ _).alloc (Nat.le_refl _) _
  have hB4 := hB3.trans (hb4.mono hB3.size)
  have p4 : W4.heap[w3.heap.size]? = some (.cells #[.int .i64 (Nt.pgr T), .int .i64 (Nt.psl T), .slice va (Nt.pL T).length ca] 35 (0, 0)) := by rw [hW4]; exact World.alloc_heap_new _ _
  have NA4 := (Nt.NodeAt.under HNA2.out hb3).under hb4
  have d0 : W4.cell? ⟨w3.heap.size, 0, none⟩ = some (.int .i64 (Nt.pgr T)) := cell_of_row _ _ _ _ _ _ p4
  have d1 : W4.cell? ⟨w3.heap.size, 1, none⟩ = some (.int .i64 (Nt.psl T)) := cell_of_row _ _ _ _ _ _ p4
  have d2 : W4.cell? ⟨w3.heap.size, 2, none⟩ = some (.slice va (Nt.pL T).length ca) := cell_of_row _ _ _ _ _ _ p4
  have hCd := Nt.cds_own (own_below ra hb4) (by have := Nt.pL_len T; omega)
  clear q0 q1 q2 q3 q4 q5 q6 q7 q8
  have HNA4 : Hid _ := NA4
  have HB4 : Hid _ := hB4
  have HP4 : Hid _ := p4
  by_cases h0 : Nt.cmpE T = 0
  · have hri := Nt.prg_right h0
    have hch := Nt.cmp_chk h0
    have hL : Nt.pL T = Nt.prgC T := by rw [Nt.pL, if_pos h0]
    have hlen : (Nt.pL T).length = Nt.sz T + 1 := by rw [hL]; simp [Nt.prgC, Nt.code_len]
    have hsz := (Nt.cmp_sz h0).1
    have hRi := iright_any (Nt.pgr T) (Nt.psl T) va ca (Nt.pL T) W4 hCd (HTb.out W4 hB4) (Nt.pL_k T)
    have hrp : Nt.rightP (Nt.pgr T) (Nt.psl T) (Nt.pL T) = true := by rw [Nt.pgr, Nt.psl, Nt.pL, if_pos h0, if_pos h0, if_pos h0]; exact hri
    rw [hrp] at hRi
    obtain rfl : R = ((Nt.sz T + 1 : Nat) : Int) := by rw [← HRe.out, if_pos h0]
    obtain ⟨n, hn⟩ : ∃ n, n = Nt.sz T + 1 := ⟨_, rfl⟩
    rw [h0, hlen, ← hn]
    rw [hlen, ← hn] at hRi d2 hW4
    have hn1 : ¬ ((n : Int) < 1) := by omega
    have hn2 : ¬ ((16384 : Int) < (n : Int)) := by omega
    rw [hW4] at d0 d1 d2 hRi
    clear ra hb3 hb4 hB3 hB4 p4 NA4 hCd hri hL hlen hsz hrp HRe hn h0 HC
    go_wp2_with (first
      | (go_at_call 17; refine hRi.mono ?_; clear hRi; rintro e w5 ⟨rfl, hb5⟩; rw [← hW4] at hb5; have hB5 := HB4.out.trans (hb5.mono HB4.out.size); have NA5 := Nt.NodeAt.under HNA4.out hb5; obtain ⟨q0, q1, q2, q3, q4, q5, q6, q7, q8⟩ := NA5.nine; have hPc := pcheck_any T a cap w5 (HUP.out w5 hB5) (HTb.out w5 hB5); rw [hch] at hPc; simp only [Nt.ndV, Nt.ndA] at hPc; have HB5 : Hid _ := hB5; clear hb5 hB5 NA5)
      | (go_at_call 27; refine hPc.mono ?_; clear hPc; rintro e w6 ⟨rfl, hb6⟩))
    go_ret
    exact ⟨rfl, HB5.out.trans (hb6.mono HB5.out.size)⟩
  · obtain rfl : R = 0 := by rw [← HRe.out, if_neg h0]
    have hL : (Nt.pL T).length = 0 := by rw [Nt.pL, if_neg h0]; rfl
    rw [hL] at d2 hW4
    rw [hL]
    obtain ⟨q0, q1, q2, q3, q4, q5, q6, q7, q8⟩ := Nt.NodeAt.nine HNA4.out
    have hPc := pcheck_any T a cap W4 (HUP.out W4 hB4) (HTb.out W4 hB4)
    simp only [Nt.ndV, Nt.ndA] at hPc
    have hne : (Nt.cmpE T == 0) = false := by simpa using h0
    have HCC := Nt.chk_cmp T
    obtain ⟨E, hE⟩ : ∃ E, E = Nt.cmpE T := ⟨_, rfl⟩
    rw [← hE] at hne HCC ⊢
    rw [hW4] at d0 d1 d2 hPc q0 q1 q2 q3 q4 q5 q6 q7 q8
    clear ra hb3 hb4 hB3 hB4 p4 hCd HRe h0 hE HC hL
    by_cases hc0 : Nt.chkP T = 0
    · rw [hc0] at hPc
      clear HCC
      go_wp2_with (go_at_call 27; refine hPc.mono ?_; clear hPc; rintro e w6 ⟨rfl, hb6⟩; rw [← hW4] at hb6)
      go_ret
      exact ⟨rfl, HB4.out.trans (hb6.mono HB4.out.size)⟩
    · have hEc : E = Nt.chkP T := HCC.resolve_left hc0
      rw [← hEc] at hPc
      have HEc : Hid _ := hEc
      clear HCC hc0 hEc
      go_wp2_with (first
        | (go_at_call 27; refine hPc.mono ?_; rintro e w6 ⟨rfl, hb6⟩; rw [← hW4] at hb6; clear q0 q1 q2 q3 q4 q5 q6 q7 q8 hPc; have hB6 := HB4.out.trans (hb6.mono HB4.out.size); have NA6 := Nt.NodeAt.under HNA4.out hb6; obtain ⟨q0, q1, q2, q3, q4, q5, q6, q7, q8⟩ := NA6.nine; have hP2 := pcheck_any T a cap w6 (HUP.out w6 hB6) (HTb.out w6 hB6); rw [← HEc.out] at hP2; simp only [Nt.ndV, Nt.ndA] at hP2; have HB6 : Hid _ := hB6; clear hb6 hB6 NA6)
        | (go_at_call 27; refine hP2.mono ?_; clear hP2; rintro e w7 ⟨rfl, hb7⟩))
      all_goals
        go_ret
        first
          | exact ⟨rfl, HB6.out.trans (hb7.mono HB6.out.size)⟩
          | exact ⟨rfl, HB6.out⟩
end Go.Proofs.YtdiokclbdaojpaaDoor
