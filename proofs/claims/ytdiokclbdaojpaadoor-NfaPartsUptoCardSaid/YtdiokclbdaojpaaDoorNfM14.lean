/- What nfa.Compile answers, in one form. A small expression is compiled and run: what begins answers. -/
import Derived.Test.YtdiokclbdaojpaaDoorNfCmp
import Derived.Test.YtdiokclbdaojpaaDoorNfM13
namespace Go.Proofs.YtdiokclbdaojpaaDoor
open Go Go.RowKit

namespace Nt
/-- What Compile answers of a tree: groups, slots, code. -/
def pgr (T : NT) : Int := if cmpE T = 0 then (grps T : Int) else 0
def psl (T : NT) : Int := if cmpE T = 0 then slo (prgC T) else 0
def pL (T : NT) : List Ins := if cmpE T = 0 then prgC T else []
theorem pL_len (T : NT) : (pL T).length ≤ 16384 := by
  unfold pL
  split
  · rename_i h
    rw [prgC, List.length_append, code_len]
    have := (cmp_sz h).1
    simpa using this
  · simp
end Nt
theorem compile_one (T : Nt.NT) (a : Option Addr) (cap : Nat) (w : World) (hN : Nt.Nd w (· < w.heap.size) T a cap) (hTb : Nt.Tabs w) :
    Calls Tryd.prog 12 #[Nt.ndV T a cap] w fun e w' => ∃ va ca, e = .returned (.tuple #[.agg #[.int .i64 (Nt.pgr T), .int .i64 (Nt.psl T), .slice va (Nt.pL T).length ca], .int .i64 (Nt.cmpE T)]) ∧ w'.ownsRow w.heap.size 64 9 (.slice va (Nt.pL T).length ca) (Nt.pL T).length (Nt.insC (Nt.pL T)) ∧ Below w.heap.size w w' := by
  refine Calls.mono (compile_any T a cap w hN hTb) ?_
  rintro e w' ⟨⟨h0, rfl⟩ | ⟨h0, rb, c, rfl, hr⟩, hb⟩
  · refine ⟨none, 0, ?_, ?_, hb⟩
    · rw [Nt.pgr, Nt.psl, Nt.pL, if_neg h0, if_neg h0, if_neg h0]; rfl
    · rw [Nt.pL, if_neg h0]; exact World.ownsRow_nil _ _ _ _
  · refine ⟨some ⟨rb, 0, none⟩, c, ?_, ?_, hb⟩
    · rw [Nt.pgr, Nt.psl, Nt.pL, if_pos h0, if_pos h0, if_pos h0, h0]; rfl
    · rw [Nt.pL, if_pos h0]; exact hr
end Go.Proofs.YtdiokclbdaojpaaDoor
namespace Go.Proofs.YtdiokclbdaojpaaDoor
open Go Go.RowKit Go.Shelf

namespace Nt
def sA : Nat → Bool := fun c => c == 97
def Tk : NT := .mk 2 sA 0 0 0 []
/-- The expression a, once or more. -/
def Tb : NT := .mk 5 noS 1 (-1) 0 [Tk]
theorem tb_cmp : cmpE Tb = 0 := by kernel_rfl
theorem tb_len : (pL Tb).length = 7 := by kernel_rfl
theorem tb_sz : (sz Tb + 1 : Nat) = 7 := by kernel_rfl
theorem tb_rb : rbE (pgr Tb) (psl Tb) (pL Tb) = 0 := by kernel_rfl
theorem tb_ends : endsP (pL Tb) ⟨#[98, 97, 97]⟩ 0 3 3 = [(1, 2), (1, 3)] := by kernel_rfl
theorem tb_run : mtR (pgr Tb) (psl Tb) (pL Tb) ⟨#[98, 97, 97]⟩ 0 = (((1, 3), true), 0) := by
  rw [mtR, tb_rb]
  have : endsP (pL Tb) ⟨#[98, 97, 97]⟩ (0 : Int).toNat (ByteArray.size ⟨#[98, 97, 97]⟩) (ByteArray.size ⟨#[98, 97, 97]⟩) = [(1, 2), (1, 3)] := tb_ends
  rw [this]
  rfl
theorem tb_v (a : Option Addr) (cap : Nat) : ndV Tb a cap = .agg #[.int .u8 5, .int .u64 0, .int .u64 0, .int .u64 0, .int .u64 0, .int .i64 1, .int .i64 (-1), .int .i64 0, .slice a 1 cap] := by kernel_rfl
theorem tk_a : ndA Tk none 0 = #[.int .u8 2, .int .u64 0, .int .u64 8589934592, .int .u64 0, .int .u64 0, .int .i64 0, .int .i64 0, .int .i64 0, .slice none 0 0] := by kernel_rfl
theorem tb_gr : pgr Tb = 0 := by kernel_rfl
theorem tb_sl : psl Tb = 1 := by kernel_rfl
/-- What is compiled, as a code in memory. -/
theorem cds_own {w : World} {base : Nat} {va : Option Addr} {ca : Nat} {L : List Ins} (h : w.ownsRow base 64 9 (.slice va L.length ca) L.length (insC L)) (hl : L.length ≤ 1048576) : Cds w w.heap.size va ca L := by
  obtain ⟨_, ⟨e, h0⟩ | ⟨g, cap, cur, e, h1, h2, h3, h4, h5, h6⟩⟩ := h
  · injection e with e1 e2 e3
    subst e1 e3
    exact ⟨hl, by omega, Nat.zero_le _, fun _ => rfl, fun i hi => by omega⟩
  · injection e with e1 e2 e3
    subst e1 e3
    refine ⟨hl, h3, h4, fun e => (by cases e), fun i hi => ⟨g, 0, rfl, lt_of_block h2, fun j hj => ?_⟩⟩
    have hij : 0 + i * 9 + j < L.length * 9 := by omega
    rw [cell_of_row w g _ cur _ _ h2, ← insC_at L i hi j hj, ← h6, List.getElem?_take_of_lt (by omega), Array.getElem?_toList, Nat.zero_add]
theorem pL_k (T : NT) : ∀ x ∈ pL T, x.k ≤ 255 := by
  intro x hx
  unfold pL at hx
  split at hx
  · rename_i h
    obtain ⟨i, hi, rfl⟩ := List.getElem_of_mem hx
    have := (right_at (prg_right h) hi).2.1
    omega
  · cases hx
end Nt

set_option maxRecDepth 100000 in
set_option maxHeartbeats 8000000 in
theorem begins_any (w : World) (hTb : Nt.Tabs w) : Calls Tryd.prog 26 #[] w fun e w' => e = .returned (.bool true) ∧ Below w.heap.size w w' := by
  obtain ⟨W3, hW3⟩ : ∃ W3, W3 = ((w.alloc (.cells #[.int .u64 0, .int .u64 8589934592, .int .u64 0, .int .u64 0] 25)).alloc (.cells #[.int .u8 2, .int .u64 0, .int .u64 8589934592, .int .u64 0, .int .u64 0, .int .i64 0, .int .i64 0, .int .i64 0, .slice none 0 0] 28)).alloc (.cells #[.int .u8 5, .int .u64 0, .int .u64 0, .int .u64 0, .int .u64 0, .int .i64 1, .int .i64 (-1), .int .i64 0, .slice (some ⟨w.heap.size + 1, 0, none⟩) 1 1] 28) := ⟨_, rfl⟩
  have hB3 : Below w.heap.size w W3 := by rw [hW3]; exact (((Below.refl w.heap.size w).alloc (Nat.le_refl _) _).alloc (by simp) _).alloc (by simp; omega) _
  have sz3 : W3.heap.size = w.heap.size + 3 := by rw [hW3]; simp
  have k1 : W3.heap[w.heap.size + 1]? = some (.cells (Nt.ndA Nt.Tk none 0) 28 (0, 0)) := by
    rw [hW3, Below.heap_alloc _ _ _ (by simp), Nt.tk_a]
    have := World.alloc_heap_new (w.alloc (.cells #[.int .u64 0, .int .u64 8589934592, .int .u64 0, .int .u64 0] 25)) (.cells #[.int .u8 2, .int .u64 0, .int .u64 8589934592, .int .u64 0, .int .u64 0, .int .i64 0, .int .i64 0, .int .i64 0, .slice none 0 0] 28)
    rwa [World.size_alloc] at this
  have k2 : W3.heap[w.heap.size + 2]? = some (.cells #[.int .u8 5, .int .u64 0, .int .u64 0, .int .u64 0, .int .u64 0, .int .i64 1, .int .i64 (-1), .int .i64 0, .slice (some ⟨w.heap.size + 1, 0, none⟩) 1 1] 28 (0, 0)) := by
    rw [hW3]
    have := World.alloc_heap_new ((w.alloc (.cells #[.int .u64 0, .int .u64 8589934592, .int .u64 0, .int .u64 0] 25)).alloc (.cells #[.int .u8 2, .int .u64 0, .int .u64 8589934592, .int .u64 0, .int .u64 0, .int .i64 0, .int .i64 0, .int .i64 0, .slice none 0 0] 28)) (.cells #[.int .u8 5, .int .u64 0, .int .u64 0, .int .u64 0, .int .u64 0, .int .i64 1, .int .i64 (-1), .int .i64 0, .slice (some ⟨w.heap.size + 1, 0, none⟩) 1 1] 28)
    rwa [World.size_alloc, World.size_alloc] at this
  have hN3 : Nt.Nd W3 (· < W3.heap.size) Nt.Tb (some ⟨w.heap.size + 1, 0, none⟩) 1 := by
    refine .mk (fun _ => (none, 0)) (by decide) (fun e => by cases e) (by decide) (by decide) (fun i hi => ?_) (fun i hi => ?_)
    · obtain rfl : i = 0 := by simp [Nt.Tb, Nt.NT.kids] at hi; omega
      exact ⟨w.heap.size + 1, 0, rfl, by show w.heap.size + 1 < W3.heap.size; omega, Nt.NodeAt.nine (T := Nt.Tk) k1⟩
    · obtain rfl : i = 0 := by simp [Nt.Tb, Nt.NT.kids] at hi; omega
      exact .mk (T := Nt.Tk) (fun _ => (none, 0)) (by decide) (fun _ => rfl) (by decide) (by decide) (fun i hi => by simp [Nt.Tk, Nt.NT.kids] at hi) (fun i hi => by simp [Nt.Tk, Nt.NT.kids] at hi)
  have hTb3 := hTb.under hB3
  have hC := compile_one Nt.Tb _ 1 W3 hN3 hTb3
  rw [Nt.tb_v, Nt.tb_gr, Nt.tb_sl, Nt.tb_len, Nt.tb_cmp] at hC
  have HNd : Hid (∀ w', Below W3.heap.size W3 w' → Nt.Nd w' (· < w'.heap.size) Nt.Tb (some ⟨w.heap.size + 1, 0, none⟩) 1) := fun w' hb => (hN3.under hb).mono (fun b (h : b < _) => Nat.lt_of_lt_of_le h hb.size)
  have HTb : Hid (∀ w', Below W3.heap.size W3 w' → Nt.Tabs w') := fun w' hb => hTb3.under hb
  clear hN3 k1
  go_enter Tryd.func26, Tryd.ntmps26
  go_wp2_with fail
  rw [← hW3]
  clear hW3
  refine Calls.mono hC ?_
  rintro e w4 ⟨va, ca, rfl, ra, hb4⟩
  have ra' : w4.ownsRow W3.heap.size 64 9 (.slice va (Nt.pL Nt.Tb).length ca) (Nt.pL Nt.Tb).length (Nt.insC (Nt.pL Nt.Tb)) := by rw [Nt.tb_len]; exact ra
  clear hC
  have n4 : w4.heap[w.heap.size + 2]? = _ := (hb4.block _ (by omega)).trans k2
  obtain ⟨W5, hW5⟩ : ∃ W5, W5 = w4.alloc (.cells #[.int .i64 0, .int .i64 1, .slice va 7 ca] 35) := ⟨_, rfl⟩
  have hb5 : Below W3.heap.size W3 W5 := by rw [hW5]; exact hb4.alloc hb4.size _
  have n5 : W5.heap[w.heap.size + 2]? = _ := (hb5.block _ (by omega)).trans k2
  have sz5 : W5.heap.size = w4.heap.size + 1 := by rw [hW5]; simp
  have p5 : W5.heap[w4.heap.size]? = some (.cells #[.int .i64 0, .int .i64 1, .slice va 7 ca] 35 (0, 0)) := by rw [hW5]; exact World.alloc_heap_new _ _
  have hS := size_any Nt.Tb _ 1 W5 (HNd.out W5 hb5) (HTb.out W5 hb5)
  rw [Nt.tb_v, Nt.tb_cmp, if_pos rfl, Nt.tb_sz] at hS
  have c0 : W5.cell? ⟨w.heap.size + 2, 0, none⟩ = some (.int .u8 5) := cell_of_row _ _ _ _ _ _ n5
  have c1 : W5.cell? ⟨w.heap.size + 2, 1, none⟩ = some (.int .u64 0) := cell_of_row _ _ _ _ _ _ n5
  have c2 : W5.cell? ⟨w.heap.size + 2, 2, none⟩ = some (.int .u64 0) := cell_of_row _ _ _ _ _ _ n5
  have c3 : W5.cell? ⟨w.heap.size + 2, 3, none⟩ = some (.int .u64 0) := cell_of_row _ _ _ _ _ _ n5
  have c4 : W5.cell? ⟨w.heap.size + 2, 4, none⟩ = some (.int .u64 0) := cell_of_row _ _ _ _ _ _ n5
  have c5 : W5.cell? ⟨w.heap.size + 2, 5, none⟩ = some (.int .i64 1) := cell_of_row _ _ _ _ _ _ n5
  have c6 : W5.cell? ⟨w.heap.size + 2, 6, none⟩ = some (.int .i64 (-1)) := cell_of_row _ _ _ _ _ _ n5
  have c7 : W5.cell? ⟨w.heap.size + 2, 7, none⟩ = some (.int .i64 0) := cell_of_row _ _ _ _ _ _ n5
  have c8 : W5.cell? ⟨w.heap.size + 2, 8, none⟩ = some (.slice (some ⟨w.heap.size + 1, 0, none⟩) 1 1) := cell_of_row _ _ _ _ _ _ n5
  rw [hW5] at c0 c1 c2 c3 c4 c5 c6 c7 c8
  have HB4 : Hid _ := hb4
  have HB5 : Hid _ := hb5
  have HRA : Hid _ := ra'
  have HP5 : Hid _ := p5
  clear ra ra' hb4 hb5 n4 n5 p5 k2
  go_wp2_with fail
  rw [← hW5]
  clear c0 c1 c2 c3 c4 c5 c6 c7 c8
  refine Calls.mono hS ?_
  rintro e w6 ⟨rfl, hb6⟩
  clear hS
  have hb46 : Below w4.heap.size w4 w6 := by
    have : Below w4.heap.size w4 W5 := by rw [hW5]; exact (Below.refl _ _).alloc (Nat.le_refl _) _
    exact this.trans (hb6.mono (by omega))
  have hb36 : Below W3.heap.size W3 w6 := HB5.out.trans (hb6.mono HB5.out.size)
  have hCd := Nt.cds_own (own_below HRA.out hb46) (by rw [Nt.tb_len]; decide)
  have hM := match_any 0 1 va ca (Nt.pL Nt.Tb) ⟨#[98, 97, 97]⟩ 0 w6 hCd (HTb.out w6 hb36) (Nt.pL_k _) (by decide)
  have hmt : Nt.mtR 0 1 (Nt.pL Nt.Tb) ⟨#[98, 97, 97]⟩ 0 = (((1, 3), true), 0) := by have := Nt.tb_run; rw [Nt.tb_gr, Nt.tb_sl] at this; exact this
  rw [hmt, Nt.tb_len] at hM
  have p6 : w6.heap[w4.heap.size]? = _ := (hb6.block _ (by omega)).trans HP5.out
  have d0 : w6.cell? ⟨w4.heap.size, 0, none⟩ = some (.int .i64 0) := cell_of_row _ _ _ _ _ _ p6
  have d1 : w6.cell? ⟨w4.heap.size, 1, none⟩ = some (.int .i64 1) := cell_of_row _ _ _ _ _ _ p6
  have d2 : w6.cell? ⟨w4.heap.size, 2, none⟩ = some (.slice va 7 ca) := cell_of_row _ _ _ _ _ _ p6
  have HB36 : Hid _ := hb36
  have HP6 : Hid _ := p6
  have hs6 := hb6.size
  clear hb46 hb36 hCd hmt p6 hb6 hW5 HB5 HRA HP5 HB4
  go_wp2_with fail
  refine Calls.mono hM ?_
  rintro e w7 ⟨rfl, hb7⟩
  have hs7 := hb7.size
  have p7 : w7.heap[w4.heap.size]? = _ := (hb7.block _ (by omega)).trans HP6.out
  have e2 := cell_alloc_k (.cells #[.int .i64 1, .int .i64 3] 42) (cell_of_row w7 w4.heap.size 2 _ _ _ p7)
  have HB7 : Hid (Below w.heap.size w w7) := hB3.trans ((HB36.out.trans (hb7.mono HB36.out.size)).mono (by omega))
  clear hM d0 d1 d2 HB36 HP6 hb7 p7
  go_wp2_with fail
  go_ret
  exact ⟨rfl, HB7.out.alloc HB7.out.size _⟩
end Go.Proofs.YtdiokclbdaojpaaDoor
