/- What the reference's Size answers. -/
import Derived.Test.YtjiglgfnmgcmjaaDoorNfRSz
import Derived.Test.YtjiglgfnmgcmjaaDoorNfRChk
import Derived.Test.YtjiglgfnmgcmjaaDoorNfSize
namespace Go.Proofs.YtjiglgfnmgcmjaaDoor
open Go.RowKit

set_option maxRecDepth 100000 in
set_option maxHeartbeats 2000000 in
theorem rSize_any (T : Nt.NT) (a : Option Addr) (cap : Nat) (w : World) (hN : Nt.Nd w (· < w.heap.size) T a cap) (hT : Nt.cnt T < 4611686018427387904) :
    Calls Tryd.prog 11 #[Nt.ndV T a cap] w fun e w' => e = .returned (.tuple #[.int .i64 (if Nt.cmpE T = 0 then ((Nt.sz T + 1 : Nat) : Int) else 0), .int .i64 (Nt.cmpE T)]) ∧ Below w.heap.size w w' := by
  obtain ⟨R, hR⟩ : ∃ R, (if Nt.cmpE T = 0 then ((Nt.sz T + 1 : Nat) : Int) else 0) = R := ⟨_, rfl⟩
  obtain ⟨E, hE⟩ : ∃ E, Nt.cmpE T = E := ⟨_, rfl⟩
  rw [hR, hE]
  have HR : Hid _ := hR
  have HE : Hid _ := hE
  clear hR hE
  have N0 := Nt.node_new w T a cap
  have hB0 : Below w.heap.size w (w.alloc (.cells (Nt.ndA T a cap) 28)) := (Below.refl w.heap.size w).alloc (Nat.le_refl _) _
  have HC : Hid _ := rcheck_any T a cap _ ((hN.under hB0).mono (fun b (h : b < _) => Nat.lt_of_lt_of_le h hB0.size)) hT
  have HS : Hid (∀ wx, Below w.heap.size w wx → Nt.chkP T = 0 → Calls Tryd.prog 32 #[Nt.ndV T a cap] wx fun e w' => e = .returned (.int .i64 (Nt.rsz T : Nat)) ∧ Below wx.heap.size wx w') := fun wx hbx h0 => by
    obtain ⟨_, n', hnum⟩ := Nt.chk0 h0
    exact rsize_any T a cap wx 1 n' [] ((hN.under hbx).mono (fun b (h : b < _) => Nat.lt_of_lt_of_le h hbx.size)) (by omega) hnum
  simp only [Nt.ndV, Nt.ndA] at N0 hB0 HC HS ⊢
  obtain ⟨W, hW⟩ : ∃ W, W = w.alloc (.cells #[.int .u8 (T.k : Int), .int .u64 (St.wd T.s 0 : Nat), .int .u64 (St.wd T.s 1 : Nat), .int .u64 (St.wd T.s 2 : Nat), .int .u64 (St.wd T.s 3 : Nat), .int .i64 T.mn, .int .i64 T.mx, .int .i64 T.gr, .slice a T.kids.length cap] 28) := ⟨_, rfl⟩
  rw [← hW] at N0 hB0 HC
  have HN0 : Hid _ := N0
  have HB0 : Hid _ := hB0
  obtain ⟨q0, q1, q2, q3, q4, q5, q6, q7, q8⟩ := N0.nine
  clear N0 hB0 hN
  go_enter Tryd.func11, Tryd.ntmps11
  go_wp2_with fail
  rw [← hW]
  clear hW
  refine Calls.mono HC.out ?_
  rintro e w1 ⟨rfl, hb1⟩
  obtain ⟨p0, p1, p2, p3, p4, p5, p6, p7, p8⟩ := (Nt.NodeAt.under HN0.out hb1).nine
  have hB1 := HB0.out.trans (hb1.mono HB0.out.size)
  clear HC q0 q1 q2 q3 q4 q5 q6 q7 q8
  by_cases hc : Nt.chkP T = 0
  · have HSS : Hid _ := HS.out w1 hB1 hc
    obtain ⟨_, n', hnum⟩ := Nt.chk0 hc
    have hrs := Nt.rsz_is T 1 n' [] (by omega) hnum
    have HCE : Hid (Nt.cmpE T = if 16384 < Nt.sz T + 1 then 3 else 0) := by show _ = _; rw [Nt.cmpE, if_neg (by rw [hc]; simp)]
    have Hrs : Hid _ := hrs
    have hrl := Nt.rsz_le T
    rw [hc]
    clear hc hrs hnum HS
    go_wp2_with fail
    refine Calls.mono HSS.out ?_
    rintro e w2 ⟨rfl, hb2⟩
    have hB2 := hB1.trans (hb2.mono hB1.size)
    clear HSS
    by_cases h16 : 16384 < Nt.sz T + 1
    · have hZ : 16384 < Nt.rsz T + 1 := by have := Hrs.out; omega
      have He3 : Hid (E = 3) := by show _ = _; rw [← HE.out, HCE.out, if_pos h16]
      have Hr0 : Hid (R = 0) := by show _ = _; rw [← HR.out, HE.out, He3.out]; rfl
      have hd : decide ((16384 : Int) < (Nt.rsz T : Int) + 1) = true := by simp; omega
      clear h16
      go_wp2_with fail
      go_ret2
      exact ⟨by rw [He3.out, Hr0.out]; rfl, hB2⟩
    · have hZ : Nt.rsz T = Nt.sz T := by have := Hrs.out; omega
      have He3 : Hid (E = 0) := by show _ = _; rw [← HE.out, HCE.out, if_neg h16]
      have Hr0 : Hid (R = (Nt.rsz T : Int) + 1) := by show _ = _; rw [← HR.out, HE.out, He3.out, hZ]; rfl
      have hd : decide ((16384 : Int) < (Nt.rsz T : Int) + 1) = false := by simp; omega
      have hd2 : ((16384 : Int) < (Nt.rsz T : Int) + 1) = False := by simp; omega
      clear h16 hZ
      go_wp2_with fail
      go_ret2
      exact ⟨by rw [He3.out, Hr0.out]; rfl, hB2⟩
  · have He3 : Hid (E = Nt.chkP T) := by show _ = _; rw [← HE.out, Nt.cmpE, if_pos hc]
    have Hr0 : Hid (R = 0) := by
      show _ = _
      rw [← HR.out, HE.out, He3.out]; exact if_neg hc
    have hne : (Nt.chkP T != 0) = true := by simpa using hc
    clear hc HS
    go_wp2_with fail
    go_ret2
    exact ⟨by rw [He3.out, Hr0.out]; rfl, hB1⟩
end Go.Proofs.YtjiglgfnmgcmjaaDoor
