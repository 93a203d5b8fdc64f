/- What the reference's Check answers. -/
import Derived.Test.YtjiglgfnmgcmjaaDoorNfNum
import Derived.Test.YtjiglgfnmgcmjaaDoorNfCnt
import Derived.Test.YtjiglgfnmgcmjaaDoorNPChk
namespace Go.Proofs.YtjiglgfnmgcmjaaDoor
open Go.RowKit

set_option maxRecDepth 100000 in
set_option maxHeartbeats 2000000 in
theorem rcheck_any (T : Nt.NT) (a : Option Addr) (cap : Nat) (w : World) (hN : Nt.Nd w (· < w.heap.size) T a cap) (hT : Nt.cnt T < 4611686018427387904) :
    Calls Tryd.prog 31 #[Nt.ndV T a cap] w fun e w' => e = .returned (.int .i64 (Nt.chkP T)) ∧ Below w.heap.size w w' := by
  obtain ⟨R, hR⟩ : ∃ R, Nt.chkP T = R := ⟨_, rfl⟩
  rw [hR]
  rw [Nt.chkP] at hR
  have HR : Hid _ := hR
  clear hR
  have N0 := Nt.node_new w T a cap
  have hB0 : Below w.heap.size w (w.alloc (.cells (Nt.ndA T a cap) 28)) := (Below.refl w.heap.size w).alloc (Nat.le_refl _) _
  have HC : Hid _ := rcount_any T a cap _ ((hN.under hB0).mono (fun b (h : b < _) => Nat.lt_of_lt_of_le h hB0.size)) hT
  have HNU : Hid (∀ wx, Below w.heap.size w wx → Calls Tryd.prog 52 #[Nt.ndV T a cap, .int .i64 1, .slice none 0 0] wx fun e w' => (∃ z, e = .returned (.tuple #[.int .i64 z, .bool (Nt.numP T 1 []).isSome])) ∧ Below wx.heap.size wx w') := by
    intro wx hbx
    refine Calls.mono (numbered_any T a cap 1 (.slice none 0 0) [] wx ((hN.under hbx).mono (fun b (h : b < _) => Nat.lt_of_lt_of_le h hbx.size)) (Nt.Opn.empty wx) (by simp) (by omega)) ?_
    rintro e w2 ⟨⟨n2, hn2, rfl, _, _⟩ | ⟨hn2, z, rfl⟩, hb2⟩
    · exact ⟨⟨n2, by rw [show Nt.numP T 1 [] = some n2 from hn2]; rfl⟩, hb2⟩
    · exact ⟨⟨z, by rw [show Nt.numP T 1 [] = none from hn2]; rfl⟩, hb2⟩
  simp only [Nt.ndV, Nt.ndA] at N0 hB0 HC HNU ⊢
  obtain ⟨W, hW⟩ : ∃ W, W = w.alloc (.cells #[.int .u8 (T.k : Int), .int .u64 (St.wd T.s 0 : Nat), .int .u64 (St.wd T.s 1 : Nat), .int .u64 (St.wd T.s 2 : Nat), .int .u64 (St.wd T.s 3 : Nat), .int .i64 T.mn, .int .i64 T.mx, .int .i64 T.gr, .slice a T.kids.length cap] 28) := ⟨_, rfl⟩
  rw [← hW] at N0 hB0 HC
  have HN0 : Hid _ := N0
  have HB0 : Hid _ := hB0
  obtain ⟨q0, q1, q2, q3, q4, q5, q6, q7, q8⟩ := N0.nine
  clear N0 hB0 hN
  go_enter Tryd.func31, Tryd.ntmps31
  go_wp2_with fail
  rw [← hW]
  clear hW
  refine Calls.mono HC.out ?_
  rintro e w1 ⟨⟨c, rfl, hc1, hc2⟩, hb1⟩
  obtain ⟨p0, p1, p2, p3, p4, p5, p6, p7, p8⟩ := (Nt.NodeAt.under HN0.out hb1).nine
  have hB1 := HB0.out.trans (hb1.mono HB0.out.size)
  clear HC q0 q1 q2 q3 q4 q5 q6 q7 q8
  by_cases h8 : 8192 < c
  · have h8d : decide ((8192 : Int) < (c : Int)) = true := by simp; omega
    have hr : Hid (R = 3) := by show _ = _; rw [← HR.out, if_pos (by omega)]
    go_wp2_with fail
    go_ret
    exact ⟨ret_int hr.out.symm, hB1⟩
  · have h8d : decide ((8192 : Int) < (c : Int)) = false := by simp; omega
    have h8e : ((8192 : Int) < (c : Int)) = False := by simp; omega
    have hr : Hid (R = if (Nt.numP T 1 []).isSome then 0 else 90) := by show _ = _; rw [← HR.out, if_neg (by have := hc2 (by omega); omega)]
    clear hc1 hc2
    go_wp2_with fail
    refine Calls.mono (HNU.out _ hB1) ?_
    rintro e w2 ⟨⟨z, rfl⟩, hb2⟩
    clear HNU
    have hB2 := hB1.trans (hb2.mono hB1.size)
    cases hs : (Nt.numP T 1 []).isSome
    · rw [hs] at hr
      go_wp2_with fail
      go_ret
      exact ⟨ret_int hr.out.symm, hB2⟩
    · rw [hs] at hr
      go_wp2_with fail
      go_ret
      exact ⟨ret_int hr.out.symm, hB2⟩
end Go.Proofs.YtjiglgfnmgcmjaaDoor
