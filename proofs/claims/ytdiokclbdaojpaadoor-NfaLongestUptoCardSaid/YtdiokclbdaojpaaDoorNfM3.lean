/- What posix.fits answers. What posix's (*tally).right answers. -/
import Derived.Test.YtdiokclbdaojpaaDoorNfFitA
import Derived.Test.YtdiokclbdaojpaaDoorNfFitB
import Derived.Test.YtdiokclbdaojpaaDoorNfFitC
import Derived.Test.YtdiokclbdaojpaaDoorNfM2
import Derived.BigRegion
namespace Go.Proofs.YtdiokclbdaojpaaDoor
open Go.RowKit

set_option maxRecDepth 100000 in
set_option maxHeartbeats 4000000 in
theorem fits_any (T : Nt.NT) (b off : Nat) (a : Option Addr) (cap : Nat) (w : World) (hT : Nt.Tabs w) (h9 : Nt.Nine w b off T a cap) (hbw : b < w.heap.size) (hl : T.kids.length ≤ 8192) :
    Calls Tryd.prog 72 #[.pointer (some ⟨b, off, none⟩)] w fun e w' => e = .returned (.bool (Nt.fitP T)) ∧ Below w.heap.size w w' := by
  by_cases hk : 10 ≤ T.k
  · obtain ⟨R, hR⟩ : ∃ R, Nt.fitP T = R := ⟨_, rfl⟩
    rw [hR]
    have hr : Hid (R = false) := by show _ = _; rw [← hR, Nt.fitP, decide_eq_false (by omega)]; rfl
    clear hR
    obtain ⟨q0, q1, q2, q3, q4, q5, q6, q7, q8⟩ := h9
    have hk2 : decide ((10 : Int) ≤ (T.k : Int)) = true := by simp; omega
    have hk3 : ((T.k : Int) < 10) = False := by simp; omega
    go_enter Tryd.func72, Tryd.ntmps72
    go_wp2_with fail
    go_ret
    exact ⟨ret_bool hr.out.symm, Below.refl _ _⟩
  by_cases hfits_0 : T.k = 0
  · exact fits_0 T b off a cap w hT h9 hbw hl hfits_0
  by_cases hfits_1 : T.k = 1
  · exact fits_1 T b off a cap w hT h9 hbw hl hfits_1
  by_cases hfits_2 : T.k = 2
  · exact fits_2 T b off a cap w hT h9 hbw hl hfits_2
  by_cases hfits_3 : T.k = 3
  · exact fits_3 T b off a cap w hT h9 hbw hl hfits_3
  by_cases hfits_4 : T.k = 4
  · exact fits_4 T b off a cap w hT h9 hbw hl hfits_4
  by_cases hfits_5 : T.k = 5
  · exact fits_5 T b off a cap w hT h9 hbw hl hfits_5
  by_cases hfits_6 : T.k = 6
  · exact fits_6 T b off a cap w hT h9 hbw hl hfits_6
  by_cases hfits_7 : T.k = 7
  · exact fits_7 T b off a cap w hT h9 hbw hl hfits_7
  by_cases hfits_8 : T.k = 8
  · exact fits_8 T b off a cap w hT h9 hbw hl hfits_8
  by_cases hfits_9 : T.k = 9
  · exact fits_9 T b off a cap w hT h9 hbw hl hfits_9
  exact absurd hk (by omega)
end Go.Proofs.YtdiokclbdaojpaaDoor
namespace Go.Proofs.YtdiokclbdaojpaaDoor
open Go.RowKit

namespace Nt
theorem cntL_kid {T : NT} {i : Nat} (h : i < T.kids.length) : cnt (T.kids[i]) < cnt T := by
  have h1 := List.IsPrefix.length_le (kindsL_pre T.kids (i + 1))
  rw [kindsL_take h, List.length_append] at h1
  rw [cnt, cnt, kinds_eq T, List.length_cons]
  omega
theorem kids_cnt (T : NT) : T.kids.length ≤ cnt T := by
  have key : ∀ l : List NT, l.length ≤ (kinds.kindsL l).length := by
    intro l
    induction l with
    | nil => simp
    | cons x l ih => rw [kinds.kindsL, List.length_append, kinds_eq x, List.length_cons, List.length_cons]; omega
  have := key T.kids
  rw [cnt, kinds_eq, List.length_cons]
  omega
/-- Which of the groups 1 to 9 have ended: those that have begun, and are not open. -/
def Inv (t : Tl) (nx : Nat) (op : List Nat) : Prop := ∀ x, 1 ≤ x → x ≤ 9 → t.ended x = (decide (x < nx) && !op.contains x)
end Nt

set_option maxRecDepth 100000 in
set_option maxHeartbeats 8000000 in
theorem right_any (T : Nt.NT) : ∀ (b off : Nat) (a : Option Addr) (cap : Nat) (t : Nt.Tl) (nx : Nat) (op : List Nat) (g : Nat) (w : World), Nt.Nine w b off T a cap → b < w.heap.size → b ≠ g → Nt.Nd w (fun b => b < w.heap.size ∧ b ≠ g) T a cap →
    Nt.TlAt w g t → Nt.Tabs w → 2 ≤ g → Nt.cnt T ≤ 8192 → t.begun + 1 = nx → nx ≤ 100 → Nt.Inv t nx op → (∀ y ∈ op, y < nx) →
    Calls Tryd.prog 49 #[.pointer (some ⟨g, 0, none⟩), .pointer (some ⟨b, off, none⟩)] w fun e w' =>
      ((∃ nx', Nt.numP T nx op = some nx' ∧ e = .returned (.bool true) ∧ nx ≤ nx' ∧ nx' ≤ 100 ∧ ∃ t', Nt.TlAt w' g t' ∧ t'.begun + 1 = nx' ∧ Nt.Inv t' nx' op) ∨ (Nt.numP T nx op = none ∧ e = .returned (.bool false))) ∧ Bx g w w' := by
  induction T using Nt.NT.ind with
  | h T ih =>
  intro b off a cap t nx op g w h9 hb hbg hN hT hTb hg2 hcnt hnx hnx2 hinv hop
  have IH : Hid _ := ih
  clear ih
  have hlk := Nt.kids_cnt T
  have hlm : T.kids.length ≤ 8192 := by omega
  have HNE : Hid _ := Nt.numP_eq T nx op
  have HH9 : Hid _ := h9
  have HN : Hid _ := hN
  have HTl : Hid _ := hT
  have HTb : Hid _ := hTb
  have Hinv : Hid _ := hinv
  have Hop : Hid _ := hop
  have Hcnt : Hid _ := hcnt
  have HF : Hid (∀ w', Below w.heap.size w w' → Calls Tryd.prog 72 #[.pointer (some ⟨b, off, none⟩)] w' fun e w'' => e = .returned (.bool (Nt.fitP T)) ∧ Below w'.heap.size w' w'') := fun w' hbw => fits_any T b off a cap w' (hTb.under hbw) (h9.below hbw hb) (Nat.lt_of_lt_of_le hb hbw.size) hlm
  have hgl := hT.lt
  clear h9 hN hT hTb hinv hop hcnt hlk
  cases hfit : Nt.fitP T
  · -- it does not fit
    rw [hfit] at HF HNE
    have hnone : Hid (Nt.numP T nx op = none) := HNE.out
    go_enter Tryd.func49, Tryd.ntmps49
    go_wp2_with (go_at_call 72; refine (HF.out _ (Below.refl _ _)).mono ?_; rintro e w1 ⟨rfl, hb1⟩)
    go_ret
    exact ⟨.inr ⟨hnone.out, rfl⟩, Bx.of_below hb1⟩
  rw [hfit] at HF HNE
  simp only [if_true] at HNE
  by_cases h6 : T.k = 6
  · have HK6 : Hid _ := h6
    have k6 : ((T.k : Int) == 6) = true := by simp; omega
    have k7 : ((T.k : Int) == 7) = false := by simp; omega
    have k6n : (T.k == 6) = true := by simpa using h6
    rw [k6n] at HNE
    simp only [if_true] at HNE
    clear h6 k6n
    have HBG := begin_any g t T.gr
    have HBG : Hid _ := HBG
    have hbe : t.begun ≤ 8192 := by omega
    cases hbg2 : (T.gr == ((t.begun + 1 : Nat) : Int) && decide (T.gr ≤ 99))
    · have hnone : Hid (Nt.numP T nx op = none) := by
        show _ = _
        rw [HNE.out]
        subst hnx
        have : (T.gr == ((t.begun + 1 : Nat) : Int) && decide (t.begun + 1 ≤ 99)) = false := by
          by_cases e : T.gr = ((t.begun + 1 : Nat) : Int)
          · rw [← hbg2, e]; congr 1; simp; omega
          · have : (T.gr == ((t.begun + 1 : Nat) : Int)) = false := by simpa using e
            rw [this]; rfl
        rw [this]; rfl
      rw [hbg2] at HBG
      go_enter Tryd.func49, Tryd.ntmps49
      go_wp2_with (first
        | (go_at_call 72; refine (HF.out _ (Below.refl _ _)).mono ?_; rintro e w1 ⟨rfl, hb1⟩; have q0 := (HH9.out.below hb1 hb).c0; have q7 := (HH9.out.below hb1 hb).c7)
        | (go_at_call 73; refine (HBG.out _ (Nt.TlAt.under HTl.out hb1) hbe).mono ?_; rintro e w2 ⟨rfl, rfl⟩))
      go_ret
      exact ⟨.inr ⟨hnone.out, rfl⟩, (Bx.of_below hb1).trans (Bx.set _ _ _ _)⟩
    · have HG : Hid (T.gr = (nx : Int)) := by
        show _ = _
        simp only [Bool.and_eq_true, beq_iff_eq] at hbg2
        rw [hbg2.1, hnx]
      have HNE2 : Hid (Nt.numP T nx op = Nt.numP.numL T.kids (nx + 1) (nx :: op)) := by
        show _ = _
        rw [HNE.out]
        have : (T.gr == (nx : Int) && decide (nx ≤ 99)) = true := by
          rw [HG.out]
          simp only [Bool.and_eq_true, decide_eq_true_eq] at hbg2
          have := hbg2.2
          rw [HG.out] at this
          simp; omega
        rw [this]; rfl
      have h99 : nx ≤ 99 := by
        simp only [Bool.and_eq_true, decide_eq_true_eq] at hbg2
        have := hbg2.2
        rw [HG.out] at this
        omega
      rw [hbg2] at HBG
      clear HNE
      have HNE : Hid _ := HNE2.out
      clear HNE2 hbg2
      obtain ⟨R, hR⟩ : ∃ R, Nt.numP.numL T.kids (nx + 1) (nx :: op) = R := ⟨_, rfl⟩
      rw [hR] at HNE
      have HR : Hid (Nt.numP.numL (T.kids.drop 0) (nx + 1) (nx :: op) = R) := hR
      clear hR
      go_enter Tryd.func49, Tryd.ntmps49
      go_wp2_with (first
        | (go_at_call 72; refine (HF.out _ (Below.refl _ _)).mono ?_; rintro e w1 ⟨rfl, hb1⟩; have q0 := (HH9.out.below hb1 hb).c0; have q7 := (HH9.out.below hb1 hb).c7)
        | (go_at_call 73; refine (HBG.out _ (Nt.TlAt.under HTl.out hb1) hbe).mono ?_; rintro e w2 ⟨rfl, rfl⟩; clear q0 q7; have HX0 : Hid (Bx g w (w1.setCell ⟨g, 0, none⟩ (.int .i64 ((t.begun + 1 : Nat) : Int)))) := (Bx.of_below hb1).trans (Bx.set _ _ _ _); have HT0 : Hid _ := Nt.tl_begun (Nt.TlAt.under HTl.out hb1) (t.begun + 1); obtain ⟨w3, hw3⟩ : ∃ w3, w3 = w1.setCell ⟨g, 0, none⟩ (.int .i64 ((t.begun + 1 : Nat) : Int)) := ⟨_, rfl⟩; rw [← hw3] at HX0 HT0 ⊢; clear hw3; have q0 := (HH9.out.bx HX0.out hb hbg).c0; have q8 := (HH9.out.bx HX0.out hb hbg).c8))
      have HB0 : Hid (t.begun + 1 + 1 = nx + 1) := by show _ = _; omega
      have HI0 : Hid (nx + 1 ≤ nx + 1 ∧ nx + 1 ≤ 100 ∧ Nt.Inv ⟨t.begun + 1, t.ended⟩ (nx + 1) (nx :: op)) := by
        refine ⟨Nat.le_refl _, by omega, fun x h1 h2 => ?_⟩
        show t.ended x = _
        rw [Hinv.out x h1 h2]
        by_cases e : x = nx
        · subst e; simp
        · simp [e]; by_cases e2 : x < nx <;> simp [e2] <;> omega
      go_loopw [46] (fun iv wr => ∃ (i : Nat) (ti : Nt.Tl) (ni : Nat), i ≤ T.kids.length ∧ iv = .int .i64 (i : Int) ∧ Hid (Nt.numP.numL (T.kids.drop i) ni (nx :: op) = R) ∧ Nt.TlAt wr g ti ∧ ti.begun + 1 = ni ∧ Hid (nx + 1 ≤ ni ∧ ni ≤ 100 ∧ Nt.Inv ti ni (nx :: op)) ∧ Bx g w wr) (fun iv _ => T.kids.length - (intOf iv).toNat)
      case atStart => exact ⟨0, _, _, by omega, rfl, HR, HT0.out, HB0.out, HI0, HX0.out⟩
      case round =>
        clear q8 HR HT0 HX0 HI0 HB0
        obtain ⟨i, ti, ni, hi, rfl, HC, hTi, hni, HI, hX⟩ := hrel
        have HTi : Hid _ := hTi
        have HX : Hid _ := hX
        have Hni : Hid _ := hni
        have hsz := hX.size
        have h9r := HH9.out.bx hX hb hbg
        obtain ⟨q0, q1, q2, q3, q4, q5, q6, q7, q8⟩ := h9r
        clear hTi hX hni
        by_cases hlt : i < T.kids.length
        · have HD : Hid _ := Nt.numL_drop hlt ni (nx :: op)
          have HOP2 : Hid (∀ y ∈ (nx :: op), y < ni) := by
            show ∀ y ∈ (nx :: op), y < ni
            have h1 := HI.out.1
            have h2 := Hop.out
            intro y hy
            simp only [List.mem_cons] at hy
            rcases hy with rfl | hy
            · omega
            have := h2 y hy
            omega
          have ND := (HN.out.bx HX.out (Nat.le_refl _))
          obtain ⟨b2, off2, a', cap', rfl, hbB, h9', hk⟩ := ND.kid hlt
          have HIH : Hid _ := IH.out i hlt b2 (off2 + i * 9) a' cap' ti ni (nx :: op) g wr h9' (Nat.lt_of_lt_of_le hbB.1 hsz) hbB.2 (hk.mono (fun b h => ⟨Nat.lt_of_lt_of_le h.1 hsz, h.2⟩)) HTi.out (HTb.out.bx HX.out hg2) hg2 (by have h1 := Nt.cntL_kid hlt; have h2 := Hcnt.out; omega) Hni.out HI.out.2.1 HI.out.2.2 HOP2.out
          clear h9' hk ND
          go_wp2_with fail
          refine Calls.mono HIH.out ?_
          rintro e w2 ⟨⟨n2, hn2, rfl, hle2, hlt2, t2, hT2, hb2, hi2⟩ | ⟨hn2, rfl⟩, hx2⟩
          · have HC2 : Hid (Nt.numP.numL (T.kids.drop (i + 1)) n2 (nx :: op) = R) := by
              show _ = _
              rw [← HC.out, HD.out, hn2]
            clear HIH
            go_wp2_with fail
            go_roundw
            case rel => exact ⟨i + 1, t2, n2, by omega, by go_num, HC2, hT2, hb2, ⟨by have := HI.out.1; omega, hlt2, hi2⟩, HX.out.trans hx2⟩
            case measure => simp [intOf]; omega
          · have hre : R = none := by rw [← HC.out, HD.out, hn2]
            clear HIH
            go_wp2_with fail
            go_ret
            exact ⟨.inr ⟨by rw [HNE.out, hre], rfl⟩, HX.out.trans hx2⟩
        · obtain rfl : i = T.kids.length := by omega
          have hre : Hid (R = some ni) := by show _ = _; rw [← HC.out, List.drop_length]; rfl
          have hni9 : nx < ni := by have := HI.out.1; omega
          by_cases h9g : T.gr ≤ 9
          · have cg : ∃ v, wr.cell? ⟨g, 1 + nx, none⟩ = some v := by
              have hg9 := HG.out
              refine ⟨.bool (ti.ended nx), ?_⟩
              rw [Nt.TlAt.cell HTi.out]
              have hn9 : nx ≤ 9 := by omega
              match nx, hn9 with
              | 0, _ | 1, _ | 2, _ | 3, _ | 4, _ | 5, _ | 6, _ | 7, _ | 8, _ | 9, _ => rfl
            obtain ⟨vv, cg⟩ := cg
            have fg := Nt.TlAt.frozen HTi.out (1 + nx)
            have hn9 : nx ≤ 9 := by have := HG.out; omega
            rw [HG.out] at q7 h9g
            have h9d : decide ((nx : Int) ≤ 9) = true := by simp; omega
            go_wp2_with fail
            go_region
            go_wp2_with fail
            go_ret
            have hT9 := Nt.tl_ended HTi.out nx hn9
            refine ⟨.inl ⟨ni, by rw [HNE.out, hre.out], rfl, by have := HI.out.1; omega, HI.out.2.1, ⟨ti.begun, fun x => x == nx || ti.ended x⟩, hT9, Hni.out, ?_⟩, (HX.out.trans (Bx.set g (1 + nx) wr (.bool true))).trans ⟨rfl, rfl, rfl, Nat.le_refl _, fun _ _ _ => rfl⟩⟩
            intro x hx1 hx2
            show (x == nx || ti.ended x) = _
            rw [HI.out.2.2 x hx1 hx2]
            by_cases e : x = nx
            · subst e
              have hno : ¬ x ∈ op := fun h => by have := Hop.out x h; omega
              simp [hno, hni9]
            · simp [e]
          · have h9d : decide (T.gr ≤ 9) = false := by simp; omega
            go_wp2_with fail
            go_ret
            refine ⟨.inl ⟨ni, by rw [HNE.out, hre.out], rfl, by have := HI.out.1; omega, HI.out.2.1, ti, HTi.out, Hni.out, ?_⟩, HX.out⟩
            intro x hx1 hx2
            rw [HI.out.2.2 x hx1 hx2]
            have : x ≠ nx := by have := HG.out; omega
            simp [this]
  have k6 : ((T.k : Int) == 6) = false := by simp; omega
  have k6n : (T.k == 6) = false := by simpa using h6
  rw [k6n] at HNE
  simp only [Bool.false_eq_true, if_false] at HNE
  clear h6 k6n
  by_cases h7 : T.k = 7
  · have k7 : ((T.k : Int) == 7) = true := by simp; omega
    have k7n : (T.k == 7) = true := by simpa using h7
    rw [k7n] at HNE
    simp only [if_true] at HNE
    have HKl : Hid (T.kids.length = 0) := by
      show _ = _
      rw [Nt.fitP, h7] at hfit
      simp only [Bool.and_eq_true] at hfit
      have := hfit.2.2.2.2.2
      simpa using this
    clear h7 k7n
    have HCN : Hid _ := can_any g t T.gr
    have hcan : Hid ((decide (1 ≤ T.gr) && (decide (T.gr ≤ 9) && t.ended T.gr.toNat)) = (decide (1 ≤ T.gr) && (decide (T.gr ≤ 9) && (decide (T.gr < (nx : Int)) && !(op.contains T.gr.toNat))))) := by
      show _ = _
      by_cases e1 : 1 ≤ T.gr
      · by_cases e2 : T.gr ≤ 9
        · rw [Hinv.out T.gr.toNat (by omega) (by omega)]
          congr 3
          simp; omega
        · rw [decide_eq_false e2]; simp
      · rw [decide_eq_false e1]; simp
    cases hc : (decide (1 ≤ T.gr) && (decide (T.gr ≤ 9) && t.ended T.gr.toNat))
    · have hnone : Hid (Nt.numP T nx op = none) := by
        show _ = _
        rw [HNE.out, ← hcan.out, hc]; rfl
      rw [hc] at HCN
      go_enter Tryd.func49, Tryd.ntmps49
      go_wp2_with (first
        | (go_at_call 72; refine (HF.out _ (Below.refl _ _)).mono ?_; rintro e w1 ⟨rfl, hb1⟩; have q0 := (HH9.out.below hb1 hb).c0; have q7 := (HH9.out.below hb1 hb).c7)
        | (go_at_call 74; refine (HCN.out _ (Nt.TlAt.under HTl.out hb1)).mono ?_; rintro e w2 ⟨rfl, rfl⟩))
      go_ret
      exact ⟨.inr ⟨hnone.out, rfl⟩, Bx.of_below hb1⟩
    · have hsome : Hid (Nt.numP T nx op = some nx) := by
        show _ = _
        rw [HNE.out, ← hcan.out, hc, List.length_eq_zero_iff.1 HKl.out]; rfl
      rw [hc] at HCN
      have HLZ : Hid ((T.kids.length : Int) = 0) := by show _ = _; have := HKl.out; omega
      go_enter Tryd.func49, Tryd.ntmps49
      go_wp2_with (first
        | (go_at_call 72; refine (HF.out _ (Below.refl _ _)).mono ?_; rintro e w1 ⟨rfl, hb1⟩; have q0 := (HH9.out.below hb1 hb).c0; have q7 := (HH9.out.below hb1 hb).c7; have q8 : w1.cell? ⟨b, off + 8, none⟩ = some (.slice a 0 cap) := by (have := (HH9.out.below hb1 hb).c8; rw [HKl.out] at this; exact this))
        | (go_at_call 74; refine (HCN.out _ (Nt.TlAt.under HTl.out hb1)).mono ?_; rintro e w2 ⟨rfl, rfl⟩))
      go_loopw [46] (fun iv wr => iv = .int .i64 0 ∧ wr = w2) (fun _ _ => 0)
      case atStart => exact ⟨rfl, rfl⟩
      case round =>
        obtain ⟨rfl, rfl⟩ := hrel
        go_wp2_with fail
        go_ret
        exact ⟨.inl ⟨nx, hsome.out, rfl, Nat.le_refl _, hnx2, t, Nt.TlAt.under HTl.out hb1, hnx, Hinv.out⟩, Bx.of_below hb1⟩
  have k7 : ((T.k : Int) == 7) = false := by simp; omega
  have k7n : (T.k == 7) = false := by simpa using h7
  rw [k7n] at HNE
  simp only [Bool.false_eq_true, if_false] at HNE
  clear h7 k7n
  obtain ⟨R, hR⟩ : ∃ R, Nt.numP.numL T.kids nx op = R := ⟨_, rfl⟩
  rw [hR] at HNE
  have HR : Hid (Nt.numP.numL (T.kids.drop 0) nx op = R) := hR
  clear hR
  go_enter Tryd.func49, Tryd.ntmps49
  go_wp2_with (go_at_call 72; refine (HF.out _ (Below.refl _ _)).mono ?_; rintro e w1 ⟨rfl, hb1⟩; have q0 := (HH9.out.below hb1 hb).c0; have q8 := (HH9.out.below hb1 hb).c8)
  have HB0 : Hid (t.begun + 1 = nx) := hnx
  have HT0 : Hid _ := Nt.TlAt.under HTl.out hb1
  have HX0 : Hid (Bx g w w1) := Bx.of_below hb1
  have HI0 : Hid (nx ≤ nx ∧ nx ≤ 100 ∧ Nt.Inv t nx op) := ⟨Nat.le_refl _, hnx2, Hinv.out⟩
  clear hb1 q0
  go_loopw [46] (fun iv wr => ∃ (i : Nat) (ti : Nt.Tl) (ni : Nat), i ≤ T.kids.length ∧ iv = .int .i64 (i : Int) ∧ Hid (Nt.numP.numL (T.kids.drop i) ni (op) = R) ∧ Nt.TlAt wr g ti ∧ ti.begun + 1 = ni ∧ Hid (nx ≤ ni ∧ ni ≤ 100 ∧ Nt.Inv ti ni (op)) ∧ Bx g w wr) (fun iv _ => T.kids.length - (intOf iv).toNat)
  case atStart => exact ⟨0, _, _, by omega, rfl, HR, HT0.out, HB0.out, HI0, HX0.out⟩
  case round =>
    clear q8 HR HT0 HX0 HI0 HB0
    obtain ⟨i, ti, ni, hi, rfl, HC, hTi, hni, HI, hX⟩ := hrel
    have HTi : Hid _ := hTi
    have HX : Hid _ := hX
    have Hni : Hid _ := hni
    have hsz := hX.size
    have h9r := HH9.out.bx hX hb hbg
    obtain ⟨q0, q1, q2, q3, q4, q5, q6, q7, q8⟩ := h9r
    clear hTi hX hni
    by_cases hlt : i < T.kids.length
    · have HD : Hid _ := Nt.numL_drop hlt ni (op)
      have HOP2 : Hid (∀ y ∈ (op), y < ni) := by
        show ∀ y ∈ (op), y < ni
        have h1 := HI.out.1
        have h2 := Hop.out
        intro y hy
        skip
        skip
        skip
        have := h2 y hy
        omega
      have ND := (HN.out.bx HX.out (Nat.le_refl _))
      obtain ⟨b2, off2, a', cap', rfl, hbB, h9', hk⟩ := ND.kid hlt
      have HIH : Hid _ := IH.out i hlt b2 (off2 + i * 9) a' cap' ti ni (op) g wr h9' (Nat.lt_of_lt_of_le hbB.1 hsz) hbB.2 (hk.mono (fun b h => ⟨Nat.lt_of_lt_of_le h.1 hsz, h.2⟩)) HTi.out (HTb.out.bx HX.out hg2) hg2 (by have h1 := Nt.cntL_kid hlt; have h2 := Hcnt.out; omega) Hni.out HI.out.2.1 HI.out.2.2 HOP2.out
      clear h9' hk ND
      go_wp2_with fail
      refine Calls.mono HIH.out ?_
      rintro e w2 ⟨⟨n2, hn2, rfl, hle2, hlt2, t2, hT2, hb2, hi2⟩ | ⟨hn2, rfl⟩, hx2⟩
      · have HC2 : Hid (Nt.numP.numL (T.kids.drop (i + 1)) n2 (op) = R) := by
          show _ = _
          rw [← HC.out, HD.out, hn2]
        clear HIH
        go_wp2_with fail
        go_roundw
        case rel => exact ⟨i + 1, t2, n2, by omega, by go_num, HC2, hT2, hb2, ⟨by have := HI.out.1; omega, hlt2, hi2⟩, HX.out.trans hx2⟩
        case measure => simp [intOf]; omega
      · have hre : R = none := by rw [← HC.out, HD.out, hn2]
        clear HIH
        go_wp2_with fail
        go_ret
        exact ⟨.inr ⟨by rw [HNE.out, hre], rfl⟩, HX.out.trans hx2⟩
    · obtain rfl : i = T.kids.length := by omega
      have hre : Hid (R = some ni) := by show _ = _; rw [← HC.out, List.drop_length]; rfl
      go_wp2_with fail
      go_ret
      exact ⟨.inl ⟨ni, by rw [HNE.out, hre.out], rfl, HI.out.1, HI.out.2.1, ti, HTi.out, Hni.out, HI.out.2.2⟩, HX.out⟩
end Go.Proofs.YtdiokclbdaojpaaDoor
