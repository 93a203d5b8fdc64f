/- What nfa.measured and nfa.Size answer. -/
import Derived.Test.YtdiokclbdaojpaaDoorNfMsr
import Derived.Test.YtdiokclbdaojpaaDoorNfM3
namespace Go.Proofs.YtdiokclbdaojpaaDoor
open Go.RowKit

namespace Nt
/-- The error of Size and Compile. -/
def cmpE (T : NT) : Int := if chkP T ≠ 0 then chkP T else if 16384 < sz T + 1 then 3 else 0
theorem chk0 {T : NT} (h : chkP T = 0) : cnt T ≤ 8192 ∧ ∃ n, numP T 1 [] = some n := by
  rw [chkP] at h
  split at h
  · cases h
  · rename_i h1
    split at h
    · rename_i h2
      exact ⟨by omega, Option.isSome_iff_exists.1 h2⟩
    · cases h
end Nt
set_option maxRecDepth 100000 in
set_option maxHeartbeats 2000000 in
theorem measured_any (T : Nt.NT) (a : Option Addr) (cap : Nat) (w : World) (hN : Nt.Nd w (· < w.heap.size) T a cap) (hTb : Nt.Tabs w) :
    Calls Tryd.prog 30 #[Nt.ndV T a cap] w fun e w' => ((Nt.cmpE T ≠ 0 ∧ e = .returned (.tuple #[.pointer none, .int .i64 (Nt.cmpE T)])) ∨ (Nt.cmpE T = 0 ∧ ∃ b, e = .returned (.tuple #[.pointer (some ⟨b, 0, none⟩), .int .i64 0]) ∧ Nt.Pc w' (· < w'.heap.size) T b)) ∧ Below w.heap.size w w' := by
  have N0 := Nt.node_new w T a cap
  have hB0 : Below w.heap.size w (w.alloc (.cells (Nt.ndA T a cap) 28)) := (Below.refl w.heap.size w).alloc (Nat.le_refl _) _
  have hs0 : (w.alloc (.cells (Nt.ndA T a cap) 28)).heap.size = w.heap.size + 1 := by simp
  have HC : Hid _ := pcheck_any T a cap _ ((hN.under hB0).mono (fun b (h : b < _) => Nat.lt_of_lt_of_le h hB0.size)) (hTb.under hB0)
  have HN : Hid _ := hN
  simp only [Nt.ndV, Nt.ndA] at N0 hB0 hs0 HC ⊢
  obtain ⟨W, hW⟩ : ∃ W, W = w.alloc (.cells #[.int .u8 (T.k : Int), .int .u64 (St.wd T.s 0 : Nat), .int .u64 (St.wd T.s 1 : Nat), .int .u64 (St.wd T.s 2 : Nat), .int .u64 (St.wd T.s 3 : Nat), .int .i64 T.mn, .int .i64 T.mx, .int .i64 T.gr, .slice a T.kids.length cap] 28) := ⟨_, rfl⟩
  rw [← hW] at N0 hB0 hs0 HC
  have HN0 : Hid _ := N0
  have HB0 : Hid _ := hB0
  obtain ⟨q0, q1, q2, q3, q4, q5, q6, q7, q8⟩ := N0.nine
  clear N0 hB0 hN hTb
  go_enter Tryd.func30, Tryd.ntmps30
  go_wp2_with fail
  rw [← hW]
  clear hW
  refine Calls.mono HC.out ?_
  rintro e w1 ⟨rfl, hb1⟩
  have hB1 := HB0.out.trans (hb1.mono HB0.out.size)
  have hs1 := hb1.size
  clear HC q0 q1 q2 q3 q4 q5 q6 q7 q8
  by_cases hc : Nt.chkP T = 0
  · obtain ⟨hcnt, n', hnum⟩ := Nt.chk0 hc
    have HE : Hid (Nt.cmpE T = if 16384 < Nt.sz T + 1 then 3 else 0) := by show _ = _; rw [Nt.cmpE, if_neg (by rw [hc]; simp)]
    have hms := Nt.msz_is T 1 n' [] (by omega) hnum
    have N1 := Nt.NodeAt.under HN0.out hb1
    have HM : Hid _ := measure_any T (· < w.heap.size + 1) w.heap.size 0 a cap w1 1 n' [] (fun x (h : x < _) => by omega) (by omega) N1.nine ((HN.out.under hB1).mono (fun b (h : b < _) => by omega)) (by omega) hnum hcnt
    have Hms : Hid _ := hms
    rw [hc]
    clear hc hms N1 hnum
    go_wp2_with fail
    refine Calls.mono HM.out ?_
    rintro e w2 ⟨⟨b, rfl, hpc⟩, hb2⟩
    clear HM
    have hB2 := hB1.trans (hb2.mono hB1.size)
    have hs2 := hb2.size
    obtain ⟨_, nb, off, v, blk⟩ := Nt.Pc.head hpc
    obtain ⟨p0, p1, p2, p3, p4⟩ := blk.cells
    have hml := Nt.msz_le T
    have Hpc : Hid _ := hpc
    clear hpc blk
    by_cases h16 : 16384 < Nt.sz T + 1
    · have hm : Nt.msz T = 16384 ∨ Nt.msz T = 16385 := by have := Hms.out; omega
      have HE2 : Hid (Nt.cmpE T = 3) := by show _ = _; rw [HE.out, if_pos h16]
      have hd : decide ((16384 : Int) < (Nt.msz T : Int) + 1) = true := by simp; omega
      generalize Nt.msz T = Z at *
      go_wp2_with fail
      go_ret2
      exact ⟨.inl ⟨by rw [HE2.out]; decide, by rw [HE2.out]; rfl⟩, hB2⟩
    · have hm : Nt.msz T = Nt.sz T := by have := Hms.out; omega
      have HE2 : Hid (Nt.cmpE T = 0) := by show _ = _; rw [HE.out, if_neg h16]
      have hd : decide ((16384 : Int) < (Nt.msz T : Int) + 1) = false := by simp; omega
      have hd2 : ((16384 : Int) < (Nt.msz T : Int) + 1) = False := by simp; omega
      clear hm
      generalize Nt.msz T = Z at *
      go_wp2_with fail
      go_ret2
      exact ⟨.inr ⟨HE2.out, b, rfl, Nt.Pc.same Hpc.out (fun _ _ => rfl) (fun x hx => by rcases hx with h | h <;> omega)⟩, hB2⟩
  · have HE : Hid (Nt.cmpE T = Nt.chkP T) := by show _ = _; rw [Nt.cmpE, if_pos hc]
    have hne : (Nt.chkP T != 0) = true := by simpa using hc
    have Hc : Hid _ := hc
    clear hc
    generalize Nt.chkP T = Z at *
    go_wp2_with fail
    go_ret2
    exact ⟨.inl ⟨by rw [HE.out]; exact Hc.out, by rw [HE.out]; rfl⟩, hB1⟩

set_option maxRecDepth 100000 in
set_option maxHeartbeats 2000000 in
theorem size_any (T : Nt.NT) (a : Option Addr) (cap : Nat) (w : World) (hN : Nt.Nd w (· < w.heap.size) T a cap) (hTb : Nt.Tabs w) :
    Calls Tryd.prog 10 #[Nt.ndV T a cap] w fun e w' => e = .returned (.tuple #[.int .i64 (if Nt.cmpE T = 0 then ((Nt.sz T + 1 : Nat) : Int) else 0), .int .i64 (Nt.cmpE T)]) ∧ Below w.heap.size w w' := by
  obtain ⟨R, hR⟩ : ∃ R, (if Nt.cmpE T = 0 then ((Nt.sz T + 1 : Nat) : Int) else 0) = R := ⟨_, rfl⟩
  obtain ⟨E, hE⟩ : ∃ E, Nt.cmpE T = E := ⟨_, rfl⟩
  rw [hR, hE]
  have HR : Hid _ := hR
  have HE : Hid _ := hE
  clear hR hE
  have N0 := Nt.node_new w T a cap
  have hB0 : Below w.heap.size w (w.alloc (.cells (Nt.ndA T a cap) 28)) := (Below.refl w.heap.size w).alloc (Nat.le_refl _) _
  have HC : Hid _ := measured_any T a cap _ ((hN.under hB0).mono (fun b (h : b < _) => Nat.lt_of_lt_of_le h hB0.size)) (hTb.under hB0)
  simp only [Nt.ndV, Nt.ndA] at N0 hB0 HC ⊢
  obtain ⟨W, hW⟩ : ∃ W, W = w.alloc (.cells #[.int .u8 (T.k : Int), .int .u64 (St.wd T.s 0 : Nat), .int .u64 (St.wd T.s 1 : Nat), .int .u64 (St.wd T.s 2 : Nat), .int .u64 (St.wd T.s 3 : Nat), .int .i64 T.mn, .int .i64 T.mx, .int .i64 T.gr, .slice a T.kids.length cap] 28) := ⟨_, rfl⟩
  rw [← hW] at N0 hB0 HC
  have HB0 : Hid _ := hB0
  obtain ⟨q0, q1, q2, q3, q4, q5, q6, q7, q8⟩ := N0.nine
  clear N0 hB0 hN hTb
  go_enter Tryd.func10, Tryd.ntmps10
  go_wp2_with fail
  rw [← hW]
  clear hW
  refine Calls.mono HC.out ?_
  rintro e w1 ⟨⟨hne, rfl⟩ | ⟨he0, b, rfl, hpc⟩, hb1⟩
  · have hB1 := HB0.out.trans (hb1.mono HB0.out.size)
    have hn' : (Nt.cmpE T != 0) = true := by simpa using hne
    have Hne : Hid _ := hne
    have HZ : Hid (R = 0) := by show _ = _; rw [← HR.out]; exact if_neg hne
    clear HC q0 q1 q2 q3 q4 q5 q6 q7 q8 hne
    go_wp2_with fail
    go_ret2
    exact ⟨by rw [HZ.out, ← HE.out]; rfl, hB1⟩
  · have hB1 := HB0.out.trans (hb1.mono HB0.out.size)
    have He0 : Hid _ := he0
    obtain ⟨_, nb, off, v, blk⟩ := Nt.Pc.head hpc
    obtain ⟨p0, p1, p2, p3, p4⟩ := blk.cells
    have hml := Nt.msz_le T
    have HM : Hid (Nt.msz T = Nt.sz T) := by
      show _ = _
      rw [Nt.cmpE] at he0
      split at he0
      · rename_i h; exact absurd he0 h
      · rename_i h
        obtain ⟨_, n', hnum⟩ := Nt.chk0 (by simpa using h)
        have := Nt.msz_is T 1 n' [] (by omega) hnum
        split at he0
        · cases he0
        · omega
    have HZ : Hid (R = (Nt.msz T : Int) + 1) := by
      show _ = _
      rw [← HR.out, if_pos he0, ← HM.out]; rfl
    clear HC q0 q1 q2 q3 q4 q5 q6 q7 q8 hpc blk he0
    go_wp2_with fail
    go_ret2
    exact ⟨by rw [HZ.out, ← HE.out, He0.out]; rfl, hB1⟩
end Go.Proofs.YtdiokclbdaojpaaDoor
