/- What the reference's Same of two trees answers. -/
import Derived.Test.YtjiglgfnmgcmjaaDoorNfM1
import Derived.Lib.QuietBelow
import Derived.BigQuiet
namespace Go.Proofs.YtjiglgfnmgcmjaaDoor
open Go.RowKit

namespace Nt
/-- Are two nodes one, but for their kids? -/
def hdr (A B : NT) : Bool := A.k == B.k && (St.sameS A.s B.s && (decide (A.mn = B.mn) && (decide (A.mx = B.mx) && decide (A.gr = B.gr))))
/-- Are two trees one? -/
def sameT (A B : NT) : Bool := match A with
  | .mk k s mn mx gr l => hdr (.mk k s mn mx gr l) B && sameTL l B.kids
where sameTL (l l' : List NT) : Bool := match l with
  | [] => l'.isEmpty
  | x :: l => match l' with
    | [] => false
    | y :: l' => sameT x y && sameTL l l'
theorem sameT_eq (A B : NT) : sameT A B = (hdr A B && sameT.sameTL A.kids B.kids) := by cases A; rw [sameT]; rfl
theorem sameTL_len {l l' : List NT} (h : l.length ≠ l'.length) : sameT.sameTL l l' = false := by
  induction l generalizing l' with
  | nil => cases l' with
    | nil => exact absurd rfl h
    | cons y l' => rw [sameT.sameTL]; rfl
  | cons x l ih => cases l' with
    | nil => rw [sameT.sameTL]
    | cons y l' => rw [sameT.sameTL, ih (by simpa using h), Bool.and_false]
theorem sameTL_drop {l l' : List NT} {i : Nat} (h : i < l.length) (h' : i < l'.length) : sameT.sameTL (l.drop i) (l'.drop i) = (sameT (l[i]) (l'[i]) && sameT.sameTL (l.drop (i + 1)) (l'.drop (i + 1))) := by
  rw [List.drop_eq_getElem_cons h, List.drop_eq_getElem_cons h', sameT.sameTL]
end Nt

set_option maxRecDepth 100000 in
set_option maxHeartbeats 2000000 in
theorem same_any (A : Nt.NT) : ∀ (B : Nt.NT) (a b : Option Addr) (ca cb : Nat) (w : World), Nt.Nd w (· < w.heap.size) A a ca → Nt.Nd w (· < w.heap.size) B b cb →
    Calls Tryd.prog 15 #[Nt.ndV A a ca, Nt.ndV B b cb] w fun e w' => e = .returned (.bool (Nt.sameT A B)) ∧ Below w.heap.size w w' := by
  induction A using Nt.NT.ind with
  | h A ih =>
  intro B a b ca cb w hNa hNb
  have IH : Hid _ := ih
  clear ih
  obtain ⟨R, hR⟩ : ∃ R, Nt.sameT A B = R := ⟨_, rfl⟩
  rw [hR]
  have HR : Hid ((Nt.hdr A B && Nt.sameT.sameTL A.kids B.kids) = R) := by rw [Nt.sameT_eq] at hR; exact hR
  clear hR
  have hla := hNa.room.1
  have hlb := hNb.room.1
  have NA0 := (Nt.node_new w A a ca).alloc (.cells (Nt.ndA B b cb) 28)
  have NB0 := Nt.node_new (w.alloc (.cells (Nt.ndA A a ca) 28)) B b cb
  have hB0 : Below w.heap.size w ((w.alloc (.cells (Nt.ndA A a ca) 28)).alloc (.cells (Nt.ndA B b cb) 28)) := ((Below.refl w.heap.size w).alloc (Nat.le_refl _) _).alloc (by simp) _
  have hs0 : ((w.alloc (.cells (Nt.ndA A a ca) 28)).alloc (.cells (Nt.ndA B b cb) 28)).heap.size = w.heap.size + 2 := by simp
  have hz : (w.alloc (.cells (Nt.ndA A a ca) 28)).heap.size = w.heap.size + 1 := by simp
  rw [hz] at NB0
  clear hz
  simp only [Nt.ndV, Nt.ndA] at NA0 NB0 hB0 hs0 ⊢
  obtain ⟨W, hW⟩ : ∃ W, W = (w.alloc (.cells #[.int .u8 (A.k : Int), .int .u64 (St.wd A.s 0 : Nat), .int .u64 (St.wd A.s 1 : Nat), .int .u64 (St.wd A.s 2 : Nat), .int .u64 (St.wd A.s 3 : Nat), .int .i64 A.mn, .int .i64 A.mx, .int .i64 A.gr, .slice a A.kids.length ca] 28)).alloc (.cells #[.int .u8 (B.k : Int), .int .u64 (St.wd B.s 0 : Nat), .int .u64 (St.wd B.s 1 : Nat), .int .u64 (St.wd B.s 2 : Nat), .int .u64 (St.wd B.s 3 : Nat), .int .i64 B.mn, .int .i64 B.mx, .int .i64 B.gr, .slice b B.kids.length cb] 28) := ⟨_, rfl⟩
  rw [← hW] at NA0 NB0 hB0 hs0
  have hNa1 : Nt.Nd W (· < w.heap.size) A a ca := hNa.under hB0
  have hNb1 : Nt.Nd W (· < w.heap.size) B b cb := hNb.under hB0
  obtain ⟨q0, q1, q2, q3, q4, q5, q6, q7, q8⟩ := NA0.nine
  obtain ⟨r0, r1, r2, r3, r4, r5, r6, r7, r8⟩ := NB0.nine
  have E := set_neq A.s B.s
  have fin : R = false → ∀ w', Below w.heap.size w w' → (Ending.returned (.bool false) = .returned (.bool R)) ∧ Below w.heap.size w w' := fun h w' hb => ⟨by rw [h], hb⟩
  have FIN : Hid _ := fin
  have HH : Hid (Nt.hdr A B = (A.k == B.k && (St.sameS A.s B.s && (decide (A.mn = B.mn) && (decide (A.mx = B.mx) && decide (A.gr = B.gr)))))) := rfl
  clear fin
  simp only [St.setV] at E
  go_enter Tryd.func15, Tryd.ntmps15
  cases c1 : ((A.k : Int) != (B.k : Int))
  rotate_left
  · have hRf : R = false := by
      rw [← HR.out, HH.out]
      have : A.k ≠ B.k := by intro e; rw [e] at c1; simp at c1
      simp [this]
    go_wp2_with fail
    rw [← hW]
    go_ret
    exact ⟨rfl, hB0⟩
  cases c2 : St.sameS A.s B.s
  · rw [c2] at E
    have hRf : R = false := by
      rw [← HR.out, HH.out]
      simp [c2]
    go_wp2_with fail
    rw [← hW]
    go_ret
    exact ⟨rfl, hB0⟩
  rw [c2] at E
  cases c3 : (A.mn != B.mn)
  rotate_left
  · have hRf : R = false := by
      rw [← HR.out, HH.out]
      have : A.mn ≠ B.mn := by intro e; rw [e] at c3; simp at c3
      simp [this]
    go_wp2_with fail
    rw [← hW]
    go_ret
    exact ⟨rfl, hB0⟩
  cases c4 : (A.mx != B.mx)
  rotate_left
  · have hRf : R = false := by
      rw [← HR.out, HH.out]
      have : A.mx ≠ B.mx := by intro e; rw [e] at c4; simp at c4
      simp [this]
    go_wp2_with fail
    rw [← hW]
    go_ret
    exact ⟨rfl, hB0⟩
  cases c5 : (A.gr != B.gr)
  rotate_left
  · have hRf : R = false := by
      rw [← HR.out, HH.out]
      have : A.gr ≠ B.gr := by intro e; rw [e] at c5; simp at c5
      simp [this]
    go_wp2_with fail
    rw [← hW]
    go_ret
    exact ⟨rfl, hB0⟩
  cases c6 : ((A.kids.length : Int) != (B.kids.length : Int))
  rotate_left
  · have hRf : R = false := by
      rw [← HR.out, HH.out]
      have : A.kids.length ≠ B.kids.length := by intro e; rw [e] at c6; simp at c6
      rw [Nt.sameTL_len this, Bool.and_false]
    go_wp2_with fail
    rw [← hW]
    go_ret
    exact ⟨rfl, hB0⟩
  have hlen : A.kids.length = B.kids.length := by simp at c6; omega
  have HC0 : Hid (Nt.sameT.sameTL A.kids B.kids = R) := by
    show _ = _
    have e1 : A.k = B.k := by simp at c1; omega
    have e3 : A.mn = B.mn := by simpa using c3
    have e4 : A.mx = B.mx := by simpa using c4
    have e5 : A.gr = B.gr := by simpa using c5
    rw [← HR.out, HH.out, c2]; simp [e1, e3, e4, e5]
  have HLen : Hid _ := hlen
  clear hlen HR HH FIN
  go_wp2_with fail
  rw [← hW]
  clear hW c1 c2 c3 c4 c5 c6 E q0 q1 q2 q3 q4 q5 q6 q7 q8 r0 r1 r2 r3 r4 r5 r6 r7 r8
  go_loopw [51] (fun iv wr => ∃ i : Nat, i ≤ A.kids.length ∧ iv = .int .i64 (i : Int) ∧ Hid (Nt.sameT.sameTL (A.kids.drop i) (B.kids.drop i) = R) ∧ Nt.NodeAt wr w.heap.size A a ca ∧ Nt.NodeAt wr (w.heap.size + 1) B b cb ∧ Nt.Nd wr (· < w.heap.size) A a ca ∧ Nt.Nd wr (· < w.heap.size) B b cb ∧ Below w.heap.size w wr ∧ w.heap.size + 2 ≤ wr.heap.size) (fun iv _ => A.kids.length - (intOf iv).toNat)
  case atStart => exact ⟨0, by omega, rfl, HC0, NA0, NB0, hNa1, hNb1, hB0, by omega⟩
  case round =>
    clear NA0 NB0 hNa1 hNb1 hB0 hs0 HC0
    obtain ⟨i, hi, rfl, HC, NA, NB, DA, DB, hB, hsz⟩ := hrel
    obtain ⟨_, _, _, _, _, _, _, _, q8⟩ := NA.nine
    obtain ⟨_, _, _, _, _, _, _, _, r8⟩ := NB.nine
    by_cases hlt : i < A.kids.length
    · have hlt' : i < B.kids.length := by have := HLen.out; omega
      obtain ⟨ba, oa, a', ca', rfl, hba, h9, hk⟩ := DA.kid hlt
      obtain ⟨bb, ob, b', cb', rfl, hbb, k9, hk'⟩ := DB.kid hlt'
      have HD : Hid _ := Nt.sameTL_drop hlt hlt'
      have HC : Hid ((Nt.sameT (A.kids[i]) (B.kids[i]) && Nt.sameT.sameTL (A.kids.drop (i + 1)) (B.kids.drop (i + 1))) = R) := by show _ = _; rw [← HD.out]; exact HC.out
      have HI : Hid (∀ d os, Calls Tryd.prog 15 #[Nt.ndV (A.kids[i]) a' ca', Nt.ndV (B.kids[i]) b' cb'] (Sort.grow (redrawn wr d) os) fun e w' => e = .returned (.bool (Nt.sameT (A.kids[i]) (B.kids[i]))) ∧ Below (Sort.grow (redrawn wr d) os).heap.size (Sort.grow (redrawn wr d) os) w') := fun d os =>
        have hbr := below_regrown wr d os
        have hbs := hbr.size
        IH.out i hlt (B.kids[i]) a' b' ca' cb' _ (hk.same (fun b (h : b < _) => hbr.block b (by omega)) (fun b (h : b < _) => by omega)) (hk'.same (fun b (h : b < _) => hbr.block b (by omega)) (fun b (h : b < _) => by omega))
      simp only [Nt.ndV, Nt.ndA] at HI
      obtain ⟨s0, s1, s2, s3, s4, s5, s6, s7, s8⟩ := h9
      obtain ⟨t0, t1, t2, t3, t4, t5, t6, t7, t8⟩ := k9
      clear hk hk' IH HD
      have x0 := fun d os => cell_regrown s0 d os
      have y0 := fun d os => cell_regrown t0 d os
      have x1 := fun d os => cell_regrown s1 d os
      have y1 := fun d os => cell_regrown t1 d os
      have x2 := fun d os => cell_regrown s2 d os
      have y2 := fun d os => cell_regrown t2 d os
      have x3 := fun d os => cell_regrown s3 d os
      have y3 := fun d os => cell_regrown t3 d os
      have x4 := fun d os => cell_regrown s4 d os
      have y4 := fun d os => cell_regrown t4 d os
      have x5 := fun d os => cell_regrown s5 d os
      have y5 := fun d os => cell_regrown t5 d os
      have x6 := fun d os => cell_regrown s6 d os
      have y6 := fun d os => cell_regrown t6 d os
      have x7 := fun d os => cell_regrown s7 d os
      have y7 := fun d os => cell_regrown t7 d os
      have x8 := fun d os => cell_regrown s8 d os
      have y8 := fun d os => cell_regrown t8 d os
      have q8' := fun d os => cell_regrown q8 d os
      have r8' := fun d os => cell_regrown r8 d os
      have HNA : Hid _ := NA
      have HNB : Hid _ := NB
      have hlb' : (i : Int) < (B.kids.length : Int) := by omega
      go_wp2_with fail
      refine wp_region_quiet_below (by kernel_rfl) (by kernel_rfl) ?_
      iterate 10 (go_big_quiet_step (fail))
      go_big_quiet_step ((go_at_call 15; exact Calls.regrown_of (HI.out _ _)))
      go_big_quiet_step (fail)
      refine wpQuiet_nil ?_
      intro _ hw'
      obtain ⟨⟨dq, osq⟩, hw''⟩ := hw'
      subst hw''
      have hb2 := below_regrown wr dq osq
      change Exit.then _ _ _ _ (Sort.grow (redrawn wr dq) osq)
      generalize Sort.grow (redrawn wr dq) osq = w1 at *
      have NA2 := Nt.NodeAt.below HNA.out hb2 (by omega)
      have NB2 := Nt.NodeAt.below HNB.out hb2 (by omega)
      have DA2 : Nt.Nd w1 (· < w.heap.size) A _ ca := DA.same (fun b (h : b < _) => hb2.block b (by omega)) (fun _ h => h)
      have DB2 : Nt.Nd w1 (· < w.heap.size) B _ cb := DB.same (fun b (h : b < _) => hb2.block b (by omega)) (fun _ h => h)
      have hBw : Below w.heap.size w w1 := hB.trans (hb2.mono hB.size)
      have hs2 := hb2.size
      clear NA NB DA DB hB hb2 HI HNA HNB
      cases hs : Nt.sameT (A.kids[i]) (B.kids[i])
      · rw [hs, Bool.false_and] at HC
        have hRf : R = false := HC.out.symm
        go_wp2_with fail
        go_ret
        exact ⟨by rw [hRf]; rfl, hBw⟩
      · rw [hs, Bool.true_and] at HC
        go_wp2_with fail
        refine ⟨⟨i + 1, by omega, by simp, HC, NA2, NB2, DA2, DB2, hBw, by omega⟩, by simp only [intOf]; omega⟩
    · obtain rfl : i = A.kids.length := by omega
      have hRt : R = true := by
        rw [← HC.out, List.drop_length, HLen.out, List.drop_length, Nt.sameT.sameTL]; rfl
      go_wp2_with fail
      go_ret
      exact ⟨by rw [hRt]; rfl, hB⟩
end Go.Proofs.YtjiglgfnmgcmjaaDoor
