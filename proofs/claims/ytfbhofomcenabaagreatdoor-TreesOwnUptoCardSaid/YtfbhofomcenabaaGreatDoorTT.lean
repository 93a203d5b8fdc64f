/- What trees.Same of two files answers. What the reference's Same of two files answers. -/
import Derived.Test.YtfbhofomcenabaaGreatDoorTA
import Derived.BigQuiet
import Derived.Lib.QuietBelow
namespace Go.Proofs.YtfbhofomcenabaaGreatDoor
open Go.RowKit

/-- What is asked of Same, of the files in a file. -/
def SmIH (A : Ft.FT) : Prop := ∀ i (hi : i < A.kids.length) (B : Ft.FT) (a b : Option Addr) (ca cb : Nat) (w : World), Ft.Fd w (· < w.heap.size) (A.kids[i]) a ca → Ft.Fd w (· < w.heap.size) B b cb →
    Calls Tryz.prog 53 #[Ft.fdV (A.kids[i]) a ca, Ft.fdV B b cb] w fun e w' => e = .returned (.bool (Ft.sameT (A.kids[i]) B)) ∧ Below w.heap.size w w'
set_option maxRecDepth 100000 in
set_option maxHeartbeats 2000000 in
theorem eqf_any (A B : Ft.FT) (ih : SmIH A) (a b : Option Addr) (ca cb : Nat) (w : World) (hA : Ft.Fd w (· < w.heap.size) A a ca) (hB : Ft.Fd w (· < w.heap.size) B b cb) :
    Calls Tryz.prog 89 #[.slice a A.kids.length ca, .slice b B.kids.length cb, .func (.func 53) #[] #[]] w fun e w' => e = .returned (.bool (Ft.sameT.sameTL A.kids B.kids)) ∧ Below w.heap.size w w' := by
  have hla := hA.room.1
  have hlb := hB.room.1
  have IH : Hid _ := ih
  by_cases hn : A.kids.length = B.kids.length
  · have HN : Hid (A.kids.length = B.kids.length) := hn
    have hq : ((A.kids.length : Int) != (B.kids.length : Int)) = false := by simp [hn]
    clear hn ih
    go_enter Tryz.func89, Tryz.ntmps89
    go_wp2_with fail
    go_loopw [17] (fun iv wr => ∃ i : Nat, i ≤ A.kids.length ∧ iv = .int .i64 (i : Int) ∧ Hid (Ft.sameT.sameTL A.kids B.kids = Ft.sameT.sameTL (A.kids.drop i) (B.kids.drop i)) ∧ Hid (Below w.heap.size w wr)) (fun iv _ => A.kids.length - (intOf iv).toNat)
    case atStart => exact ⟨0, by omega, rfl, rfl, Below.refl _ _⟩
    case round =>
      obtain ⟨i, hi, rfl, HC, HB⟩ := hrel
      have hsz := HB.out.size
      by_cases hlt : i < A.kids.length
      · have hlt' : i < B.kids.length := by have := HN.out; omega
        obtain ⟨ba, oa, a', ca', rfl, hba, h9, hk⟩ := (hA.under HB.out).kid hlt
        obtain ⟨bb, ob, b', cb', rfl, hbb, k9, hk'⟩ := (hB.under HB.out).kid hlt'
        obtain ⟨s0, s1, s2, s3⟩ := h9
        obtain ⟨t0, t1, t2, t3⟩ := k9
        have HD : Hid (Ft.sameT.sameTL A.kids B.kids = (Ft.sameT (A.kids[i]) (B.kids[i]) && Ft.sameT.sameTL (A.kids.drop (i + 1)) (B.kids.drop (i + 1)))) := HC.out.trans (Ft.sameTL_drop hlt hlt')
        have hbA : Below wr.heap.size wr ((wr.alloc (.cells #[.string (A.kids[i]).nm, .int .u8 ((A.kids[i]).k : Int), .string (A.kids[i]).d, .slice a' (A.kids[i]).kids.length ca'] 25)).alloc (.cells #[.string (B.kids[i]).nm, .int .u8 ((B.kids[i]).k : Int), .string (B.kids[i]).d, .slice b' (B.kids[i]).kids.length cb'] 25)) := ((Below.refl _ _).alloc (Nat.le_refl _) _).alloc (by simp) _
        have HI : Hid (Calls Tryz.prog 53 #[Ft.fdV (A.kids[i]) a' ca', Ft.fdV (B.kids[i]) b' cb'] ((wr.alloc (.cells #[.string (A.kids[i]).nm, .int .u8 ((A.kids[i]).k : Int), .string (A.kids[i]).d, .slice a' (A.kids[i]).kids.length ca'] 25)).alloc (.cells #[.string (B.kids[i]).nm, .int .u8 ((B.kids[i]).k : Int), .string (B.kids[i]).d, .slice b' (B.kids[i]).kids.length cb'] 25)) fun e w' => e = .returned (.bool (Ft.sameT (A.kids[i]) (B.kids[i]))) ∧ Below w.heap.size w w') :=
          (IH.out i hlt (B.kids[i]) a' b' ca' cb' _ (hk.same (fun b (h : b < _) => hbA.block b (by omega)) (fun b (h : b < _) => by have := hbA.size; omega)) (hk'.same (fun b (h : b < _) => hbA.block b (by omega)) (fun b (h : b < _) => by have := hbA.size; omega))).mono fun e w' ⟨he, hb⟩ => ⟨he, (HB.out.trans (hbA.mono hsz)).trans (hb.mono (by have := hbA.size; omega))⟩
        simp only [Ft.fdV, Ft.fdA] at HI
        have hbr : ba < wr.heap.size := by omega
        have hbs : bb < wr.heap.size := by omega
        have i1 : (i : Int) < (A.kids.length : Int) := by omega
        have i2 : (i : Int) < (B.kids.length : Int) := by omega
        clear hk hk' HC hbA
        cases hs : Ft.sameT (A.kids[i]) (B.kids[i])
        · have HF : Hid (Ft.sameT.sameTL A.kids B.kids = false) := by show _ = _; rw [HD.out, hs]; rfl
          rw [hs] at HI
          clear hs HD
          go_wp2_with (go_at_call 53; refine Calls.mono HI.out ?_; rintro e w5 ⟨rfl, hb5⟩)
          go_ret
          exact ⟨by rw [HF.out]; rfl, hb5⟩
        · have HF : Hid (Ft.sameT.sameTL A.kids B.kids = Ft.sameT.sameTL (A.kids.drop (i + 1)) (B.kids.drop (i + 1))) := by show _ = _; rw [HD.out, hs]; rfl
          rw [hs] at HI
          clear hs HD
          go_wp2_with (go_at_call 53; refine Calls.mono HI.out ?_; rintro e w5 ⟨rfl, hb5⟩)
          go_roundw
          case rel => exact ⟨i + 1, by omega, by go_num, HF, hb5⟩
          case measure => simp [intOf]; omega
      · have HF : Hid (Ft.sameT.sameTL A.kids B.kids = true) := by
          have e1 : A.kids.drop i = [] := List.drop_eq_nil_of_le (by omega)
          have e2 : B.kids.drop i = [] := List.drop_eq_nil_of_le (by have := HN.out; omega)
          show _ = _
          rw [HC.out, e1, e2, Ft.sameT.sameTL]
          rfl
        have i1 : ¬ (i : Int) < (A.kids.length : Int) := by omega
        go_wp2_with fail
        go_ret
        exact ⟨by rw [HF.out]; rfl, HB.out⟩
  · have HF : Hid (Ft.sameT.sameTL A.kids B.kids = false) := Ft.sameTL_len hn
    have hq : ((A.kids.length : Int) != (B.kids.length : Int)) = true := by simp; omega
    clear hn ih
    go_enter Tryz.func89, Tryz.ntmps89
    go_wp2_with fail
    go_ret
    exact ⟨by rw [HF.out]; rfl, Below.refl _ _⟩

set_option maxRecDepth 100000 in
set_option maxHeartbeats 2000000 in
theorem tsame_any (A : Ft.FT) : ∀ (B : Ft.FT) (a b : Option Addr) (ca cb : Nat) (w : World), Ft.Fd w (· < w.heap.size) A a ca → Ft.Fd w (· < w.heap.size) B b cb →
    Calls Tryz.prog 53 #[Ft.fdV A a ca, Ft.fdV B b cb] w fun e w' => e = .returned (.bool (Ft.sameT A B)) ∧ Below w.heap.size w w' := by
  induction A using Ft.FT.ind with
  | h A ih =>
  intro B a b ca cb w hNa hNb
  have hB0 : Below w.heap.size w ((w.alloc (.cells (Ft.fdA A a ca) 25)).alloc (.cells (Ft.fdA B b cb) 25)) := ((Below.refl w.heap.size w).alloc (Nat.le_refl _) _).alloc (by simp) _
  have HE : Hid (Calls Tryz.prog 89 #[.slice a A.kids.length ca, .slice b B.kids.length cb, .func (.func 53) #[] #[]] ((w.alloc (.cells (Ft.fdA A a ca) 25)).alloc (.cells (Ft.fdA B b cb) 25)) fun e w' => e = .returned (.bool (Ft.sameT.sameTL A.kids B.kids)) ∧ Below w.heap.size w w') :=
    (eqf_any A B ih a b ca cb _ (hNa.same (fun b (h : b < _) => hB0.block b h) (fun b (h : b < _) => by have := hB0.size; omega)) (hNb.same (fun b (h : b < _) => hB0.block b h) (fun b (h : b < _) => by have := hB0.size; omega))).mono fun e w' ⟨he, hb⟩ => ⟨he, hB0.trans (hb.mono hB0.size)⟩
  have HB0 : Hid _ := hB0
  obtain ⟨R, hR⟩ : ∃ R, Ft.sameT A B = R := ⟨_, rfl⟩
  rw [hR]
  have HR : Hid (((A.nm.toList == B.nm.toList) && (A.k == B.k && (A.d.toList == B.d.toList)) && Ft.sameT.sameTL A.kids B.kids) = R) := by rw [Ft.sameT_eq] at hR; exact hR
  clear hR ih hNa hNb hB0
  simp only [Ft.fdV, Ft.fdA] at HE HB0 ⊢
  go_enter Tryz.func53, Tryz.ntmps53
  cases c1 : (A.nm.toList == B.nm.toList)
  · have HF : Hid (R = false) := by show _ = _; rw [← HR.out, c1]; rfl
    clear HR HE
    go_wp2_with fail
    go_ret
    exact ⟨by rw [HF.out]; rfl, HB0.out⟩
  cases c2 : ((A.k : Int) == (B.k : Int))
  · have HF : Hid (R = false) := by
      show _ = _
      have : A.k ≠ B.k := by intro e; rw [e] at c2; simp at c2
      rw [← HR.out, c1]; simp [this]
    clear HR HE
    go_wp2_with fail
    go_ret
    exact ⟨by rw [HF.out]; rfl, HB0.out⟩
  cases c3 : (A.d.toList == B.d.toList)
  · have HF : Hid (R = false) := by show _ = _; rw [← HR.out, c1, c3]; simp
    clear HR HE
    go_wp2_with fail
    go_ret
    exact ⟨by rw [HF.out]; rfl, HB0.out⟩
  have HF : Hid (R = Ft.sameT.sameTL A.kids B.kids) := by
    show _ = _
    have : A.k = B.k := by simp at c2; omega
    rw [← HR.out, c1, c3]; simp [this]
  have HE' : Hid (Calls Tryz.prog 89 #[.slice a A.kids.length ca, .slice b B.kids.length cb, .func (.func 53) #[] #[]] ((w.alloc (.cells #[.string A.nm, .int .u8 (A.k : Int), .string A.d, .slice a A.kids.length ca] 25)).alloc (.cells #[.string B.nm, .int .u8 (B.k : Int), .string B.d, .slice b B.kids.length cb] 25)) fun e w' => e = .returned (.bool R) ∧ Below w.heap.size w w') := by
    have := HE.out
    rw [← HF.out] at this
    exact this
  clear HR HE HB0 HF
  go_wp2_with (go_at_call 89; refine Calls.mono HE'.out ?_; rintro e w5 ⟨rfl, hb5⟩)
  go_ret
  exact ⟨rfl, hb5⟩
end Go.Proofs.YtfbhofomcenabaaGreatDoor
namespace Go.Proofs.YtfbhofomcenabaaGreatDoor
open Go.RowKit

set_option maxRecDepth 100000 in
set_option maxHeartbeats 2000000 in
theorem rsame_any (A : Ft.FT) : ∀ (B : Ft.FT) (a b : Option Addr) (ca cb : Nat) (w : World), Ft.Fd w (· < w.heap.size) A a ca → Ft.Fd w (· < w.heap.size) B b cb →
    Calls Tryz.prog 13 #[Ft.fdV A a ca, Ft.fdV B b cb] w fun e w' => e = .returned (.bool (Ft.sameT A B)) ∧ Below w.heap.size w w' := by
  induction A using Ft.FT.ind with
  | h A ih =>
  intro B a b ca cb w hNa hNb
  have IH : Hid _ := ih
  clear ih
  obtain ⟨R, hR⟩ : ∃ R, Ft.sameT A B = R := ⟨_, rfl⟩
  rw [hR]
  have HR : Hid ((Ft.hdr A B && Ft.sameT.sameTL A.kids B.kids) = R) := by rw [Ft.sameT_eq] at hR; exact hR
  clear hR
  have hla := hNa.room.1
  have hlb := hNb.room.1
  have NA0 := (Ft.file_new w A a ca).alloc (.cells (Ft.fdA B b cb) 25)
  have NB0 := Ft.file_new (w.alloc (.cells (Ft.fdA A a ca) 25)) B b cb
  have hB0 : Below w.heap.size w ((w.alloc (.cells (Ft.fdA A a ca) 25)).alloc (.cells (Ft.fdA B b cb) 25)) := ((Below.refl w.heap.size w).alloc (Nat.le_refl _) _).alloc (by simp) _
  have hs0 : ((w.alloc (.cells (Ft.fdA A a ca) 25)).alloc (.cells (Ft.fdA B b cb) 25)).heap.size = w.heap.size + 2 := by simp
  have hz : (w.alloc (.cells (Ft.fdA A a ca) 25)).heap.size = w.heap.size + 1 := by simp
  rw [hz] at NB0
  clear hz
  simp only [Ft.fdV, Ft.fdA] at NA0 NB0 hB0 hs0 ⊢
  obtain ⟨W, hW⟩ : ∃ W, W = (w.alloc (.cells #[.string A.nm, .int .u8 (A.k : Int), .string A.d, .slice a A.kids.length ca] 25)).alloc (.cells #[.string B.nm, .int .u8 (B.k : Int), .string B.d, .slice b B.kids.length cb] 25) := ⟨_, rfl⟩
  rw [← hW] at NA0 NB0 hB0 hs0
  have hNa1 : Ft.Fd W (· < w.heap.size) A a ca := hNa.under hB0
  have hNb1 : Ft.Fd W (· < w.heap.size) B b cb := hNb.under hB0
  obtain ⟨q0, q1, q2, q3⟩ := NA0.four
  obtain ⟨r0, r1, r2, r3⟩ := NB0.four
  have HH : Hid (Ft.hdr A B = ((A.nm.toList == B.nm.toList) && (A.k == B.k && (A.d.toList == B.d.toList)))) := rfl
  go_enter Tryz.func13, Tryz.ntmps13
  cases c1 : (A.nm.toList == B.nm.toList)
  · have hRf : R = false := by
      rw [← HR.out, HH.out, c1]; rfl
    go_wp2_with fail
    rw [← hW]
    go_ret
    exact ⟨rfl, hB0⟩
  cases c2 : ((A.k : Int) != (B.k : Int))
  rotate_left
  · have hRf : R = false := by
      rw [← HR.out, HH.out]
      have : A.k ≠ B.k := by intro e; rw [e] at c2; simp at c2
      simp [this]
    go_wp2_with fail
    rw [← hW]
    go_ret
    exact ⟨rfl, hB0⟩
  cases c3 : (A.d.toList == B.d.toList)
  · have hRf : R = false := by
      rw [← HR.out, HH.out, c3]; simp
    go_wp2_with fail
    rw [← hW]
    go_ret
    exact ⟨rfl, hB0⟩
  cases c6 : ((A.kids.length : Int) != (B.kids.length : Int))
  rotate_left
  · have hRf : R = false := by
      rw [← HR.out, HH.out]
      have : A.kids.length ≠ B.kids.length := by intro e; rw [e] at c6; simp at c6
      rw [Ft.sameTL_len this, Bool.and_false]
    go_wp2_with fail
    rw [← hW]
    go_ret
    exact ⟨rfl, hB0⟩
  have hlen : A.kids.length = B.kids.length := by simp at c6; omega
  have HC0 : Hid (Ft.sameT.sameTL A.kids B.kids = R) := by
    show _ = _
    have e1 : A.k = B.k := by simp at c2; omega
    rw [← HR.out, HH.out, c1, c3]; simp [e1]
  have HLen : Hid _ := hlen
  clear hlen HR HH
  go_wp2_with fail
  rw [← hW]
  clear hW c1 c2 c3 c6 q0 q1 q2 q3 r0 r1 r2 r3
  go_loopw [37] (fun iv wr => ∃ i : Nat, i ≤ A.kids.length ∧ iv = .int .i64 (i : Int) ∧ Hid (Ft.sameT.sameTL (A.kids.drop i) (B.kids.drop i) = R) ∧ Ft.FileAt wr w.heap.size A a ca ∧ Ft.FileAt wr (w.heap.size + 1) B b cb ∧ Ft.Fd wr (· < w.heap.size) A a ca ∧ Ft.Fd wr (· < w.heap.size) B b cb ∧ Below w.heap.size w wr ∧ w.heap.size + 2 ≤ wr.heap.size) (fun iv _ => A.kids.length - (intOf iv).toNat)
  case atStart => exact ⟨0, by omega, rfl, HC0, NA0, NB0, hNa1, hNb1, hB0, by omega⟩
  case round =>
    clear NA0 NB0 hNa1 hNb1 hB0 hs0 HC0
    obtain ⟨i, hi, rfl, HC, NA, NB, DA, DB, hB, hsz⟩ := hrel
    obtain ⟨_, _, _, q8⟩ := NA.four
    obtain ⟨_, _, _, r8⟩ := NB.four
    by_cases hlt : i < A.kids.length
    · have hlt' : i < B.kids.length := by have := HLen.out; omega
      obtain ⟨ba, oa, a', ca', rfl, hba, h9, hk⟩ := DA.kid hlt
      obtain ⟨bb, ob, b', cb', rfl, hbb, k9, hk'⟩ := DB.kid hlt'
      have HD : Hid _ := Ft.sameTL_drop hlt hlt'
      have HC : Hid ((Ft.sameT (A.kids[i]) (B.kids[i]) && Ft.sameT.sameTL (A.kids.drop (i + 1)) (B.kids.drop (i + 1))) = R) := by show _ = _; rw [← HD.out]; exact HC.out
      have HI : Hid (∀ d os, Calls Tryz.prog 13 #[Ft.fdV (A.kids[i]) a' ca', Ft.fdV (B.kids[i]) b' cb'] (Sort.grow (redrawn wr d) os) fun e w' => e = .returned (.bool (Ft.sameT (A.kids[i]) (B.kids[i]))) ∧ Below (Sort.grow (redrawn wr d) os).heap.size (Sort.grow (redrawn wr d) os) w') := fun d os =>
        have hbr := below_regrown wr d os
        have hbs := hbr.size
        IH.out i hlt (B.kids[i]) a' b' ca' cb' _ (hk.same (fun b (h : b < _) => hbr.block b (by omega)) (fun b (h : b < _) => by omega)) (hk'.same (fun b (h : b < _) => hbr.block b (by omega)) (fun b (h : b < _) => by omega))
      simp only [Ft.fdV, Ft.fdA] at HI
      obtain ⟨s0, s1, s2, s3⟩ := h9
      obtain ⟨t0, t1, t2, t3⟩ := k9
      clear hk hk' IH HD
      have x0 := fun d os => cell_regrown s0 d os
      have y0 := fun d os => cell_regrown t0 d os
      have x1 := fun d os => cell_regrown s1 d os
      have y1 := fun d os => cell_regrown t1 d os
      have x2 := fun d os => cell_regrown s2 d os
      have y2 := fun d os => cell_regrown t2 d os
      have x3 := fun d os => cell_regrown s3 d os
      have y3 := fun d os => cell_regrown t3 d os
      have q8' := fun d os => cell_regrown q8 d os
      have r8' := fun d os => cell_regrown r8 d os
      have HNA : Hid _ := NA
      have HNB : Hid _ := NB
      have hlb' : (i : Int) < (B.kids.length : Int) := by omega
      go_wp2_with fail
      refine wp_region_quiet_below (by kernel_rfl) (by kernel_rfl) ?_
      iterate 10 (go_big_quiet_step (fail))
      go_big_quiet_step ((go_at_call 13; exact Calls.regrown_of (HI.out _ _)))
      go_big_quiet_step (fail)
      refine wpQuiet_nil ?_
      intro _ hw'
      obtain ⟨⟨dq, osq⟩, hw''⟩ := hw'
      subst hw''
      have hb2 := below_regrown wr dq osq
      change Exit.then _ _ _ _ (Sort.grow (redrawn wr dq) osq)
      generalize Sort.grow (redrawn wr dq) osq = w1 at *
      have NA2 := Ft.FileAt.below HNA.out hb2 (by omega)
      have NB2 := Ft.FileAt.below HNB.out hb2 (by omega)
      have DA2 : Ft.Fd w1 (· < w.heap.size) A _ ca := DA.same (fun b (h : b < _) => hb2.block b (by omega)) (fun _ h => h)
      have DB2 : Ft.Fd w1 (· < w.heap.size) B _ cb := DB.same (fun b (h : b < _) => hb2.block b (by omega)) (fun _ h => h)
      have hBw : Below w.heap.size w w1 := hB.trans (hb2.mono hB.size)
      have hs2 := hb2.size
      clear NA NB DA DB hB hb2 HI HNA HNB
      cases hs : Ft.sameT (A.kids[i]) (B.kids[i])
      · rw [hs, Bool.false_and] at HC
        have hRf : R = false := HC.out.symm
        go_wp2_with fail
        go_ret
        exact ⟨by rw [hRf]; rfl, hBw⟩
      · rw [hs, Bool.true_and] at HC
        go_wp2_with fail
        refine ⟨⟨i + 1, by omega, by simp, HC, NA2, NB2, DA2, DB2, hBw, by omega⟩, by simp only [intOf]; omega⟩
    · obtain rfl : i = A.kids.length := by omega
      have hRt : R = true := by
        rw [← HC.out, List.drop_length, HLen.out, List.drop_length, Ft.sameT.sameTL]; rfl
      go_wp2_with fail
      go_ret
      exact ⟨by rw [hRt]; rfl, hB⟩
end Go.Proofs.YtfbhofomcenabaaGreatDoor
