/- What the law NfaCompiles answers: true, of any tree. -/
import Derived.Test.YtjiglgfnmgcmjaaDoorNfRSm
import Derived.Test.YtjiglgfnmgcmjaaDoorNCopy
import Derived.Test.YtjiglgfnmgcmjaaDoorNSame9
namespace Go.Proofs.YtjiglgfnmgcmjaaDoor
open Go Go.RowKit

namespace Nt
theorem hdr_self (A : NT) : hdr A A = true := by
  unfold hdr
  have := St.sameS_of (p := A.s) (q := A.s) (fun _ _ => rfl)
  simp [this]
theorem sameTL_self (l : List NT) (h : ∀ x ∈ l, sameT x x = true) : sameT.sameTL l l = true := by
  induction l with
  | nil => rw [sameT.sameTL]; rfl
  | cons x l ih => rw [sameT.sameTL, h x (by simp), ih (fun y hy => h y (by simp [hy]))]; rfl
theorem sameT_self (A : NT) : sameT A A = true := by
  induction A using NT.ind with
  | h A ih =>
    rw [sameT_eq, hdr_self, sameTL_self A.kids (fun x hx => by
      obtain ⟨i, hi, rfl⟩ := List.getElem_of_mem hx
      exact ih i hi)]
    rfl
/-- What Compile answers of a tree: groups, slots, code. -/
def pgr (T : NT) : Int := if cmpE T = 0 then (grps T : Int) else 0
def psl (T : NT) : Int := if cmpE T = 0 then slo (prgC T) else 0
def pL (T : NT) : List Ins := if cmpE T = 0 then prgC T else []
theorem pL_len (T : NT) : (pL T).length ≤ 16384 := by
  unfold pL
  split
  · rename_i h
    rw [prgC, List.length_append, code_len]
    have := (cmp_sz h).1
    simpa using this
  · simp
end Nt
theorem compile_one (T : Nt.NT) (a : Option Addr) (cap : Nat) (w : World) (hN : Nt.Nd w (· < w.heap.size) T a cap) (hTb : Nt.Tabs w) :
    Calls Tryd.prog 12 #[Nt.ndV T a cap] w fun e w' => ∃ va ca, e = .returned (.tuple #[.agg #[.int .i64 (Nt.pgr T), .int .i64 (Nt.psl T), .slice va (Nt.pL T).length ca], .int .i64 (Nt.cmpE T)]) ∧ w'.ownsRow w.heap.size 64 9 (.slice va (Nt.pL T).length ca) (Nt.pL T).length (Nt.insC (Nt.pL T)) ∧ Below w.heap.size w w' := by
  refine Calls.mono (compile_any T a cap w hN hTb) ?_
  rintro e w' ⟨⟨h0, rfl⟩ | ⟨h0, rb, c, rfl, hr⟩, hb⟩
  · refine ⟨none, 0, ?_, ?_, hb⟩
    · rw [Nt.pgr, Nt.psl, Nt.pL, if_neg h0, if_neg h0, if_neg h0]; rfl
    · rw [Nt.pL, if_neg h0]; exact World.ownsRow_nil _ _ _ _
  · refine ⟨some ⟨rb, 0, none⟩, c, ?_, ?_, hb⟩
    · rw [Nt.pgr, Nt.psl, Nt.pL, if_pos h0, if_pos h0, if_pos h0, h0]; rfl
    · rw [Nt.pL, if_pos h0]; exact hr
theorem rcompile_one (T : Nt.NT) (a : Option Addr) (cap : Nat) (w : World) (hN : Nt.Nd w (· < w.heap.size) T a cap) (hT : Nt.cnt T < 4611686018427387904) :
    Calls Tryd.prog 13 #[Nt.ndV T a cap] w fun e w' => ∃ va ca, e = .returned (.tuple #[.agg #[.int .i64 (Nt.pgr T), .int .i64 (Nt.psl T), .slice va (Nt.pL T).length ca], .int .i64 (Nt.cmpE T)]) ∧ w'.ownsRow w.heap.size 64 9 (.slice va (Nt.pL T).length ca) (Nt.pL T).length (Nt.insC (Nt.pL T)) ∧ Below w.heap.size w w' := by
  refine Calls.mono (rcompile_any T a cap w hN hT) ?_
  rintro e w' ⟨⟨h0, rfl⟩ | ⟨h0, v, rfl, hr⟩, hb⟩
  · refine ⟨none, 0, ?_, ?_, hb⟩
    · rw [Nt.pgr, Nt.psl, Nt.pL, if_neg h0, if_neg h0, if_neg h0]; rfl
    · rw [Nt.pL, if_neg h0]; exact World.ownsRow_nil _ _ _ _
  · obtain ⟨va, ca, rfl⟩ := Nt.own_form hr
    refine ⟨va, ca, ?_, ?_, hb⟩
    · rw [Nt.pgr, Nt.psl, Nt.pL, if_pos h0, if_pos h0, if_pos h0, h0, Nt.hi_grps h0]; rfl
    · rw [Nt.pL, if_pos h0]; exact hr
set_option maxRecDepth 100000 in
set_option maxHeartbeats 4000000 in
theorem law_compiles (T : Nt.NT) (a : Option Addr) (cap : Nat) (w : World) (hN : Nt.Nd w (· < w.heap.size) T a cap) (hTb : Nt.Tabs w) (hcnt : Nt.cnt T < 4611686018427387904) :
    Calls Tryd.prog 3 #[Nt.ndV T a cap] w fun e w' => e = .returned (.bool true) ∧ Below w.heap.size w w' := by
  have N0 := Nt.node_new w T a cap
  have hB0 : Below w.heap.size w (w.alloc (.cells (Nt.ndA T a cap) 28)) := (Below.refl w.heap.size w).alloc (Nat.le_refl _) _
  have hs0 : (w.alloc (.cells (Nt.ndA T a cap) 28)).heap.size = w.heap.size + 1 := by simp
  obtain ⟨W, hW⟩ : ∃ W, W = w.alloc (.cells (Nt.ndA T a cap) 28) := ⟨_, rfl⟩
  rw [← hW] at N0 hB0 hs0
  have hup : ∀ w', Below w.heap.size w w' → Nt.Nd w' (· < w'.heap.size) T a cap := fun w' hb => (hN.under hb).mono (fun b (h : b < _) => Nat.lt_of_lt_of_le h hb.size)
  have HUP : Hid _ := hup
  have HTb : Hid (∀ w', Below w.heap.size w w' → Nt.Tabs w') := fun w' hb => hTb.under hb
  have HC : Hid _ := rcopy_any T a cap W (hup W hB0)
  simp only [Nt.ndV, Nt.ndA] at hW HC ⊢
  obtain ⟨q0, q1, q2, q3, q4, q5, q6, q7, q8⟩ := N0.nine
  have HN0 : Hid _ := N0
  have HB0 : Hid _ := hB0
  clear N0 hB0 hN hTb hup
  go_enter Tryd.func3, Tryd.ntmps3
  go_wp2_with fail
  rw [← hW]
  clear hW
  refine Calls.mono HC.out ?_
  rintro e w1 ⟨a1, c1, rfl, D1, hb1⟩
  have hs1 := hb1.size
  have hB1 := HB0.out.trans (hb1.mono HB0.out.size)
  have NA1 := Nt.NodeAt.under HN0.out hb1
  obtain ⟨q0, q1, q2, q3, q4, q5, q6, q7, q8⟩ := NA1.nine
  have hB2 : Below w1.heap.size w1 (w1.alloc (.cells (Nt.ndA T a1 c1) 28)) := (Below.refl _ _).alloc (Nat.le_refl _) _
  have hs2 : (w1.alloc (.cells (Nt.ndA T a1 c1) 28)).heap.size = w1.heap.size + 1 := by simp
  have G2 := Nt.node_new w1 T a1 c1
  have NA2 := NA1.under hB2
  have hBw2 := hB1.trans (hB2.mono hB1.size)
  have DU : ∀ w', Below w1.heap.size w1 w' → Nt.Nd w' (· < w'.heap.size) T a1 c1 := fun w' hb => D1.same (fun k hk => hb.block k hk.2) (fun k hk => Nat.lt_of_lt_of_le hk.2 hb.size)
  have HDU : Hid _ := DU
  obtain ⟨W2, hW2⟩ : ∃ W2, W2 = w1.alloc (.cells (Nt.ndA T a1 c1) 28) := ⟨_, rfl⟩
  rw [← hW2] at hB2 hs2 G2 NA2 hBw2
  have HS1 : Hid _ := size_any T a1 c1 W2 (DU W2 hB2) (HTb.out W2 hBw2)
  obtain ⟨R, hR⟩ : ∃ R, (if Nt.cmpE T = 0 then ((Nt.sz T + 1 : Nat) : Int) else 0) = R := ⟨_, rfl⟩
  rw [hR] at HS1
  have HRe : Hid _ := hR
  have HB2 : Hid _ := hB2
  have HBw2 : Hid _ := hBw2
  have HG2 : Hid _ := G2
  have HNA2 : Hid _ := NA2
  have hE1 := Nt.pL_len T
  simp only [Nt.ndV, Nt.ndA] at hW2 HS1
  clear HC HN0 HB0 NA1 D1 hb1 hB1 hB2 G2 NA2 hBw2 DU hR
  go_wp2_with fail
  rw [← hW2]
  clear hW2 q0 q1 q2 q3 q4 q5 q6 q7 q8
  refine Calls.mono HS1.out ?_
  rintro e w2 ⟨rfl, hb2⟩
  have hs3 := hb2.size
  have hBw3 := HBw2.out.trans (hb2.mono HBw2.out.size)
  have HB3 : Hid _ := HB2.out.trans (hb2.mono HB2.out.size)
  have HG3 : Hid _ := Nt.NodeAt.under HG2.out hb2
  have HNA3 : Hid _ := Nt.NodeAt.under HNA2.out hb2
  have HS2 : Hid _ := rSize_any T a cap w2 (HUP.out w2 hBw3) hcnt
  rw [HRe.out] at HS2
  obtain ⟨q0, q1, q2, q3, q4, q5, q6, q7, q8⟩ := Nt.NodeAt.nine HNA3.out
  have HBw3 : Hid _ := hBw3
  simp only [Nt.ndV, Nt.ndA] at HS2
  clear HS1 HB2 HBw2 HG2 HNA2 hb2 hBw3
  go_wp2_with fail
  refine Calls.mono HS2.out ?_
  rintro e w3 ⟨rfl, hb3⟩
  have hs4 := hb3.size
  have hBw4 := HBw3.out.trans (hb3.mono HBw3.out.size)
  have hB4 := HB3.out.trans (hb3.mono HB3.out.size)
  have HG4 : Hid _ := Nt.NodeAt.under HG3.out hb3
  have HNA4 : Hid _ := Nt.NodeAt.under HNA3.out hb3
  have HC1 : Hid _ := compile_one T a1 c1 w3 (HDU.out w3 hB4) (HTb.out w3 hBw4)
  obtain ⟨q0, q1, q2, q3, q4, q5, q6, q7, q8⟩ := Nt.NodeAt.nine HG4.out
  have HBw4 : Hid _ := hBw4
  have HB4 : Hid _ := hB4
  simp only [Nt.ndV, Nt.ndA] at HC1
  clear HS2 HB3 HBw3 HG3 HNA3 hb3 hBw4 hB4
  go_wp2_with fail
  refine Calls.mono HC1.out ?_
  rintro e w4 ⟨va, ca, rfl, ra, hb4⟩
  have hs5 := hb4.size
  have hBp : Below w4.heap.size w4 (w4.alloc (.cells #[.int .i64 (Nt.pgr T), .int .i64 (Nt.psl T), .slice va (Nt.pL T).length ca] 35)) := (Below.refl _ _).alloc (Nat.le_refl _) _
  have hb5 := hb4.trans (hBp.mono hb4.size)
  have hs6 : (w4.alloc (.cells #[.int .i64 (Nt.pgr T), .int .i64 (Nt.psl T), .slice va (Nt.pL T).length ca] 35)).heap.size = w4.heap.size + 1 := by simp
  have P5 : (w4.alloc (.cells #[.int .i64 (Nt.pgr T), .int .i64 (Nt.psl T), .slice va (Nt.pL T).length ca] 35)).heap[w4.heap.size]? = some (.cells #[.int .i64 (Nt.pgr T), .int .i64 (Nt.psl T), .slice va (Nt.pL T).length ca] 35 (0, 0)) := heap_alloc_new w4 _
  have hBw5 := HBw4.out.trans (hb5.mono HBw4.out.size)
  have hB5 := HB4.out.trans (hb5.mono HB4.out.size)
  have HG5 : Hid _ := Nt.NodeAt.under HG4.out hb5
  have HNA5 : Hid _ := Nt.NodeAt.under HNA4.out hb5
  have HC2 : Hid _ := rcompile_one T a cap _ (HUP.out _ hBw5) hcnt
  have Hra : Hid _ := own_below ra hBp
  obtain ⟨W5, hW5⟩ : ∃ W5, W5 = w4.alloc (.cells #[.int .i64 (Nt.pgr T), .int .i64 (Nt.psl T), .slice va (Nt.pL T).length ca] 35) := ⟨_, rfl⟩
  rw [← hW5] at hb5 hs6 P5 hBw5 hB5 HG5 HNA5 HC2 Hra
  obtain ⟨q0, q1, q2, q3, q4, q5, q6, q7, q8⟩ := Nt.NodeAt.nine HNA5.out
  have HBw5 : Hid _ := hBw5
  have HB5 : Hid _ := hB5
  have HP5 : Hid _ := P5
  simp only [Nt.ndV, Nt.ndA] at HC2
  clear HC1 HB4 HBw4 HG4 HNA4 hb4 hBw5 hB5 hBp P5 ra
  have HW5 : Hid _ := hW5
  clear hW5
  rw [HW5.out] at q0 q1 q2 q3 q4 q5 q6 q7 q8
  go_wp2_with fail
  rw [← HW5.out]
  clear HW5 q0 q1 q2 q3 q4 q5 q6 q7 q8
  refine Calls.mono HC2.out ?_
  rintro e w6 ⟨vb, cb, rfl, rb, hb6⟩
  have hs7 := hb6.size
  have hBq : Below w6.heap.size w6 (w6.alloc (.cells #[.int .i64 (Nt.pgr T), .int .i64 (Nt.psl T), .slice vb (Nt.pL T).length cb] 35)) := (Below.refl _ _).alloc (Nat.le_refl _) _
  have hb7 := hb6.trans (hBq.mono hb6.size)
  have hs8 : (w6.alloc (.cells #[.int .i64 (Nt.pgr T), .int .i64 (Nt.psl T), .slice vb (Nt.pL T).length cb] 35)).heap.size = w6.heap.size + 1 := by simp
  have P7 : (w6.alloc (.cells #[.int .i64 (Nt.pgr T), .int .i64 (Nt.psl T), .slice vb (Nt.pL T).length cb] 35)).heap[w6.heap.size]? = some (.cells #[.int .i64 (Nt.pgr T), .int .i64 (Nt.psl T), .slice vb (Nt.pL T).length cb] 35 (0, 0)) := heap_alloc_new w6 _
  have P8 : (w6.alloc (.cells #[.int .i64 (Nt.pgr T), .int .i64 (Nt.psl T), .slice vb (Nt.pL T).length cb] 35)).heap[w4.heap.size]? = some (.cells #[.int .i64 (Nt.pgr T), .int .i64 (Nt.psl T), .slice va (Nt.pL T).length ca] 35 (0, 0)) := by rw [hb7.block _ (by omega)]; exact HP5.out
  have hBw7 := HBw5.out.trans (hb7.mono HBw5.out.size)
  have hB7 := HB5.out.trans (hb7.mono HB5.out.size)
  have HG7 : Hid _ := Nt.NodeAt.under HG5.out hb7
  have HNA7 : Hid _ := Nt.NodeAt.under HNA5.out hb7
  have HSM : Hid _ := rsame_yes (Nt.pgr T) (Nt.psl T) (Nt.pL T) (.slice va (Nt.pL T).length ca) (.slice vb (Nt.pL T).length cb) _ _ _ (own_below Hra.out hb7) (own_below rb hBq) hE1
  have p0 : (w6.alloc (.cells #[.int .i64 (Nt.pgr T), .int .i64 (Nt.psl T), .slice vb (Nt.pL T).length cb] 35)).cell? ⟨w4.heap.size, 0, none⟩ = some (.int .i64 (Nt.pgr T)) := cell_of_row _ _ _ _ _ _ P8
  have p1 : (w6.alloc (.cells #[.int .i64 (Nt.pgr T), .int .i64 (Nt.psl T), .slice vb (Nt.pL T).length cb] 35)).cell? ⟨w4.heap.size, 1, none⟩ = some (.int .i64 (Nt.psl T)) := cell_of_row _ _ _ _ _ _ P8
  have p2 : (w6.alloc (.cells #[.int .i64 (Nt.pgr T), .int .i64 (Nt.psl T), .slice vb (Nt.pL T).length cb] 35)).cell? ⟨w4.heap.size, 2, none⟩ = some (.slice va (Nt.pL T).length ca) := cell_of_row _ _ _ _ _ _ P8
  have r0 : (w6.alloc (.cells #[.int .i64 (Nt.pgr T), .int .i64 (Nt.psl T), .slice vb (Nt.pL T).length cb] 35)).cell? ⟨w6.heap.size, 0, none⟩ = some (.int .i64 (Nt.pgr T)) := cell_of_row _ _ _ _ _ _ P7
  have r1 : (w6.alloc (.cells #[.int .i64 (Nt.pgr T), .int .i64 (Nt.psl T), .slice vb (Nt.pL T).length cb] 35)).cell? ⟨w6.heap.size, 1, none⟩ = some (.int .i64 (Nt.psl T)) := cell_of_row _ _ _ _ _ _ P7
  have r2 : (w6.alloc (.cells #[.int .i64 (Nt.pgr T), .int .i64 (Nt.psl T), .slice vb (Nt.pL T).length cb] 35)).cell? ⟨w6.heap.size, 2, none⟩ = some (.slice vb (Nt.pL T).length cb) := cell_of_row _ _ _ _ _ _ P7
  have HBw7 : Hid _ := hBw7
  have HB7 : Hid _ := hB7
  simp only [Nt.prgV] at HSM
  clear HC2 HB5 HBw5 HG5 HNA5 hb6 hBw7 hB7 hBq P7 P8 rb Hra HP5 hb7
  go_wp2_with fail
  refine Calls.mono HSM.out ?_
  rintro e w8 ⟨rfl, hb8⟩
  have hs9 := hb8.size
  have hBw8 := HBw7.out.trans (hb8.mono HBw7.out.size)
  have hB8 := HB7.out.trans (hb8.mono HB7.out.size)
  obtain ⟨q0, q1, q2, q3, q4, q5, q6, q7, q8⟩ := Nt.NodeAt.nine (Nt.NodeAt.under HG7.out hb8)
  obtain ⟨s0, s1, s2, s3, s4, s5, s6, s7, s8⟩ := Nt.NodeAt.nine (Nt.NodeAt.under HNA7.out hb8)
  have HT : Hid _ := same_any T T a1 a c1 cap w8 (HDU.out w8 hB8) (HUP.out w8 hBw8)
  rw [Nt.sameT_self] at HT
  simp only [Nt.ndV, Nt.ndA] at HT
  have HBw8 : Hid _ := hBw8
  clear HSM hb8 HBw7 HB7 hBw8 hB8 HG7 HNA7 p0 p1 p2 r0 r1 r2
  go_wp2_with fail
  refine Calls.mono HT.out ?_
  rintro e w9 ⟨rfl, hb9⟩
  have HB9 : Hid _ := HBw8.out.trans (hb9.mono HBw8.out.size)
  clear HT hb9
  go_wp2_with fail
  go_ret
  exact ⟨rfl, HB9.out⟩
end Go.Proofs.YtjiglgfnmgcmjaaDoor
