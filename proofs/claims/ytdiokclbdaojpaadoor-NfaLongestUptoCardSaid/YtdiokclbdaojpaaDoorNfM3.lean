/- What posix.fits answers. What posix's (*tally).right answers. What posix.nodes hands back: each node of a tree, in order. What posix.Groups answers. What posix.Check answers. -/
import Derived.Test.YtdiokclbdaojpaaDoorNfFitA
import Derived.Test.YtdiokclbdaojpaaDoorNfFitB
import Derived.Test.YtdiokclbdaojpaaDoorNfFitC
import Derived.Test.YtdiokclbdaojpaaDoorNfM2
import Derived.BigRegion
import Derived.Test.YtdiokclbdaojpaaDoorNfM1
namespace Go.Proofs.YtdiokclbdaojpaaDoor
open Go.RowKit

set_option maxRecDepth 100000 in
set_option maxHeartbeats 4000000 in
theorem fits_any (T : Nt.NT) (b off : Nat) (a : Option Addr) (cap : Nat) (w : World) (hT : Nt.Tabs w) (h9 : Nt.Nine w b off T a cap) (hbw : b < w.heap.size) (hl : T.kids.length ≤ 8192) :
    Calls Tryd.prog 72 #[.pointer (some ⟨b, off, none⟩)] w fun e w' => e = .returned (.bool (Nt.fitP T)) ∧ Below w.heap.size w w' := by
  by_cases hk : 10 ≤ T.k
  · obtain ⟨R, hR⟩ : ∃ R, Nt.fitP T = R := ⟨_, rfl⟩
    rw [hR]
    have hr : Hid (R = false) := by show _ = _; rw [← hR, Nt.fitP, decide_eq_false (by omega)]; rfl
    clear hR
    obtain ⟨q0, q1, q2, q3, q4, q5, q6, q7, q8⟩ := h9
    have hk2 : decide ((10 : Int) ≤ (T.k : Int)) = true := by simp; omega
    have hk3 : ((T.k : Int) < 10) = False := by simp; omega
    go_enter Tryd.func72, Tryd.ntmps72
    go_wp2_with fail
    go_ret
    exact ⟨ret_bool hr.out.symm, Below.refl _ _⟩
  by_cases hfits_0 : T.k = 0
  · exact fits_0 T b off a cap w hT h9 hbw hl hfits_0
  by_cases hfits_1 : T.k = 1
  · exact fits_1 T b off a cap w hT h9 hbw hl hfits_1
  by_cases hfits_2 : T.k = 2
  · exact fits_2 T b off a cap w hT h9 hbw hl hfits_2
  by_cases hfits_3 : T.k = 3
  · exact fits_3 T b off a cap w hT h9 hbw hl hfits_3
  by_cases hfits_4 : T.k = 4
  · exact fits_4 T b off a cap w hT h9 hbw hl hfits_4
  by_cases hfits_5 : T.k = 5
  · exact fits_5 T b off a cap w hT h9 hbw hl hfits_5
  by_cases hfits_6 : T.k = 6
  · exact fits_6 T b off a cap w hT h9 hbw hl hfits_6
  by_cases hfits_7 : T.k = 7
  · exact fits_7 T b off a cap w hT h9 hbw hl hfits_7
  by_cases hfits_8 : T.k = 8
  · exact fits_8 T b off a cap w hT h9 hbw hl hfits_8
  by_cases hfits_9 : T.k = 9
  · exact fits_9 T b off a cap w hT h9 hbw hl hfits_9
  exact absurd hk (by omega)
end Go.Proofs.YtdiokclbdaojpaaDoor
namespace Go.Proofs.YtdiokclbdaojpaaDoor
open Go.RowKit

namespace Nt
theorem cntL_kid {T : NT} {i : Nat} (h : i < T.kids.length) : cnt (T.kids[i]) < cnt T := by
  have h1 := List.IsPrefix.length_le (kindsL_pre T.kids (i + 1))
  rw [kindsL_take h, List.length_append] at h1
  rw [cnt, cnt, kinds_eq T, List.length_cons]
  omega
theorem kids_cnt (T : NT) : T.kids.length ≤ cnt T := by
  have key : ∀ l : List NT, l.length ≤ (kinds.kindsL l).length := by
    intro l
    induction l with
    | nil => simp
    | cons x l ih => rw [kinds.kindsL, List.length_append, kinds_eq x, List.length_cons, List.length_cons]; omega
  have := key T.kids
  rw [cnt, kinds_eq, List.length_cons]
  omega
/-- Which of the groups 1 to 9 have ended: those that have begun, and are not open. -/
def Inv (t : Tl) (nx : Nat) (op : List Nat) : Prop := ∀ x, 1 ≤ x → x ≤ 9 → t.ended x = (decide (x < nx) && !op.contains x)
end Nt

set_option maxRecDepth 100000 in
set_option maxHeartbeats 8000000 in
theorem right_any (T : Nt.NT) : ∀ (b off : Nat) (a : Option Addr) (cap : Nat) (t : Nt.Tl) (nx : Nat) (op : List Nat) (g : Nat) (w : World), Nt.Nine w b off T a cap → b < w.heap.size → b ≠ g → Nt.Nd w (fun b => b < w.heap.size ∧ b ≠ g) T a cap →
    Nt.TlAt w g t → Nt.Tabs w → 2 ≤ g → Nt.cnt T ≤ 8192 → t.begun + 1 = nx → nx ≤ 100 → Nt.Inv t nx op → (∀ y ∈ op, y < nx) →
    Calls Tryd.prog 49 #[.pointer (some ⟨g, 0, none⟩), .pointer (some ⟨b, off, none⟩)] w fun e w' =>
      ((∃ nx', Nt.numP T nx op = some nx' ∧ e = .returned (.bool true) ∧ nx ≤ nx' ∧ nx' ≤ 100 ∧ ∃ t', Nt.TlAt w' g t' ∧ t'.begun + 1 = nx' ∧ Nt.Inv t' nx' op) ∨ (Nt.numP T nx op = none ∧ e = .returned (.bool false))) ∧ Bx g w w' := by
  induction T using Nt.NT.ind with
  | h T ih =>
  intro b off a cap t nx op g w h9 hb hbg hN hT hTb hg2 hcnt hnx hnx2 hinv hop
  have IH : Hid _ := ih
  clear ih
  have hlk := Nt.kids_cnt T
  have hlm : T.kids.length ≤ 8192 := by omega
  have HNE : Hid _ := Nt.numP_eq T nx op
  have HH9 : Hid _ := h9
  have HN : Hid _ := hN
  have HTl : Hid _ := hT
  have HTb : Hid _ := hTb
  have Hinv : Hid _ := hinv
  have Hop : Hid _ := hop
  have Hcnt : Hid _ := hcnt
  have HF : Hid (∀ w', Below w.heap.size w w' → Calls Tryd.prog 72 #[.pointer (some ⟨b, off, none⟩)] w' fun e w'' => e = .returned (.bool (Nt.fitP T)) ∧ Below w'.heap.size w' w'') := fun w' hbw => fits_any T b off a cap w' (hTb.under hbw) (h9.below hbw hb) (Nat.lt_of_lt_of_le hb hbw.size) hlm
  have hgl := hT.lt
  clear h9 hN hT hTb hinv hop hcnt hlk
  cases hfit : Nt.fitP T
  · -- it does not fit
    rw [hfit] at HF HNE
    have hnone : Hid (Nt.numP T nx op = none) := HNE.out
    go_enter Tryd.func49, Tryd.ntmps49
    go_wp2_with (go_at_call 72; refine (HF.out _ (Below.refl _ _)).mono ?_; rintro e w1 ⟨rfl, hb1⟩)
    go_ret
    exact ⟨.inr ⟨hnone.out, rfl⟩, Bx.of_below hb1⟩
  rw [hfit] at HF HNE
  simp only [if_true] at HNE
  by_cases h6 : T.k = 6
  · have HK6 : Hid _ := h6
    have k6 : ((T.k : Int) == 6) = true := by simp; omega
    have k7 : ((T.k : Int) == 7) = false := by simp; omega
    have k6n : (T.k == 6) = true := by simpa using h6
    rw [k6n] at HNE
    simp only [if_true] at HNE
    clear h6 k6n
    have HBG := begin_any g t T.gr
    have HBG : Hid _ := HBG
    have hbe : t.begun ≤ 8192 := by omega
    cases hbg2 : (T.gr == ((t.begun + 1 : Nat) : Int) && decide (T.gr ≤ 99))
    · have hnone : Hid (Nt.numP T nx op = none) := by
        show _ = _
        rw [HNE.out]
        subst hnx
        have : (T.gr == ((t.begun + 1 : Nat) : Int) && decide (t.begun + 1 ≤ 99)) = false := by
          by_cases e : T.gr = ((t.begun + 1 : Nat) : Int)
          · rw [← hbg2, e]; congr 1; simp; omega
          · have : (T.gr == ((t.begun + 1 : Nat) : Int)) = false := by simpa using e
            rw [this]; rfl
        rw [this]; rfl
      rw [hbg2] at HBG
      go_enter Tryd.func49, Tryd.ntmps49
      go_wp2_with (first
        | (go_at_call 72; refine (HF.out _ (Below.refl _ _)).mono ?_; rintro e w1 ⟨rfl, hb1⟩; have q0 := (HH9.out.below hb1 hb).c0; have q7 := (HH9.out.below hb1 hb).c7)
        | (go_at_call 73; refine (HBG.out _ (Nt.TlAt.under HTl.out hb1) hbe).mono ?_; rintro e w2 ⟨rfl, rfl⟩))
      go_ret
      exact ⟨.inr ⟨hnone.out, rfl⟩, (Bx.of_below hb1).trans (Bx.set _ _ _ _)⟩
    · have HG : Hid (T.gr = (nx : Int)) := by
        show _ = _
        simp only [Bool.and_eq_true, beq_iff_eq] at hbg2
        rw [hbg2.1, hnx]
      have HNE2 : Hid (Nt.numP T nx op = Nt.numP.numL T.kids (nx + 1) (nx :: op)) := by
        show _ = _
        rw [HNE.out]
        have : (T.gr == (nx : Int) && decide (nx ≤ 99)) = true := by
          rw [HG.out]
          simp only [Bool.and_eq_true, decide_eq_true_eq] at hbg2
          have := hbg2.2
          rw [HG.out] at this
          simp; omega
        rw [this]; rfl
      have h99 : nx ≤ 99 := by
        simp only [Bool.and_eq_true, decide_eq_true_eq] at hbg2
        have := hbg2.2
        rw [HG.out] at this
        omega
      rw [hbg2] at HBG
      clear HNE
      have HNE : Hid _ := HNE2.out
      clear HNE2 hbg2
      obtain ⟨R, hR⟩ : ∃ R, Nt.numP.numL T.kids (nx + 1) (nx :: op) = R := ⟨_, rfl⟩
      rw [hR] at HNE
      have HR : Hid (Nt.numP.numL (T.kids.drop 0) (nx + 1) (nx :: op) = R) := hR
      clear hR
      go_enter Tryd.func49, Tryd.ntmps49
      go_wp2_with (first
        | (go_at_call 72; refine (HF.out _ (Below.refl _ _)).mono ?_; rintro e w1 ⟨rfl, hb1⟩; have q0 := (HH9.out.below hb1 hb).c0; have q7 := (HH9.out.below hb1 hb).c7)
        | (go_at_call 73; refine (HBG.out _ (Nt.TlAt.under HTl.out hb1) hbe).mono ?_; rintro e w2 ⟨rfl, rfl⟩; clear q0 q7; have HX0 : Hid (Bx g w (w1.setCell ⟨g, 0, none⟩ (.int .i64 ((t.begun + 1 : Nat) : Int)))) := (Bx.of_below hb1).trans (Bx.set _ _ _ _); have HT0 : Hid _ := Nt.tl_begun (Nt.TlAt.under HTl.out hb1) (t.begun + 1); obtain ⟨w3, hw3⟩ : ∃ w3, w3 = w1.setCell ⟨g, 0, none⟩ (.int .i64 ((t.begun + 1 : Nat) : Int)) := ⟨_, rfl⟩; rw [← hw3] at HX0 HT0 ⊢; clear hw3; have q0 := (HH9.out.bx HX0.out hb hbg).c0; have q8 := (HH9.out.bx HX0.out hb hbg).c8))
      have HB0 : Hid (t.begun + 1 + 1 = nx + 1) := by show _ = _; omega
      have HI0 : Hid (nx + 1 ≤ nx + 1 ∧ nx + 1 ≤ 100 ∧ Nt.Inv ⟨t.begun + 1, t.ended⟩ (nx + 1) (nx :: op)) := by
        refine ⟨Nat.le_refl _, by omega, fun x h1 h2 => ?_⟩
        show t.ended x = _
        rw [Hinv.out x h1 h2]
        by_cases e : x = nx
        · subst e; simp
        · simp [e]; by_cases e2 : x < nx <;> simp [e2] <;> omega
      go_loopw [46] (fun iv wr => ∃ (i : Nat) (ti : Nt.Tl) (ni : Nat), i ≤ T.kids.length ∧ iv = .int .i64 (i : Int) ∧ Hid (Nt.numP.numL (T.kids.drop i) ni (nx :: op) = R) ∧ Nt.TlAt wr g ti ∧ ti.begun + 1 = ni ∧ Hid (nx + 1 ≤ ni ∧ ni ≤ 100 ∧ Nt.Inv ti ni (nx :: op)) ∧ Bx g w wr) (fun iv _ => T.kids.length - (intOf iv).toNat)
      case atStart => exact ⟨0, _, _, by omega, rfl, HR, HT0.out, HB0.out, HI0, HX0.out⟩
      case round =>
        clear q8 HR HT0 HX0 HI0 HB0
        obtain ⟨i, ti, ni, hi, rfl, HC, hTi, hni, HI, hX⟩ := hrel
        have HTi : Hid _ := hTi
        have HX : Hid _ := hX
        have Hni : Hid _ := hni
        have hsz := hX.size
        have h9r := HH9.out.bx hX hb hbg
        obtain ⟨q0, q1, q2, q3, q4, q5, q6, q7, q8⟩ := h9r
        clear hTi hX hni
        by_cases hlt : i < T.kids.length
        · have HD : Hid _ := Nt.numL_drop hlt ni (nx :: op)
          have HOP2 : Hid (∀ y ∈ (nx :: op), y < ni) := by
            show ∀ y ∈ (nx :: op), y < ni
            have h1 := HI.out.1
            have h2 := Hop.out
            intro y hy
            simp only [List.mem_cons] at hy
            rcases hy with rfl | hy
            · omega
            have := h2 y hy
            omega
          have ND := (HN.out.bx HX.out (Nat.le_refl _))
          obtain ⟨b2, off2, a', cap', rfl, hbB, h9', hk⟩ := ND.kid hlt
          have HIH : Hid _ := IH.out i hlt b2 (off2 + i * 9) a' cap' ti ni (nx :: op) g wr h9' (Nat.lt_of_lt_of_le hbB.1 hsz) hbB.2 (hk.mono (fun b h => ⟨Nat.lt_of_lt_of_le h.1 hsz, h.2⟩)) HTi.out (HTb.out.bx HX.out hg2) hg2 (by have h1 := Nt.cntL_kid hlt; have h2 := Hcnt.out; omega) Hni.out HI.out.2.1 HI.out.2.2 HOP2.out
          clear h9' hk ND
          go_wp2_with fail
          refine Calls.mono HIH.out ?_
          rintro e w2 ⟨⟨n2, hn2, rfl, hle2, hlt2, t2, hT2, hb2, hi2⟩ | ⟨hn2, rfl⟩, hx2⟩
          · have HC2 : Hid (Nt.numP.numL (T.kids.drop (i + 1)) n2 (nx :: op) = R) := by
              show _ = _
              rw [← HC.out, HD.out, hn2]
            clear HIH
            go_wp2_with fail
            go_roundw
            case rel => exact ⟨i + 1, t2, n2, by omega, by go_num, HC2, hT2, hb2, ⟨by have := HI.out.1; omega, hlt2, hi2⟩, HX.out.trans hx2⟩
            case measure => simp [intOf]; omega
          · have hre : R = none := by rw [← HC.out, HD.out, hn2]
            clear HIH
            go_wp2_with fail
            go_ret
            exact ⟨.inr ⟨by rw [HNE.out, hre], rfl⟩, HX.out.trans hx2⟩
        · obtain rfl : i = T.kids.length := by omega
          have hre : Hid (R = some ni) := by show _ = _; rw [← HC.out, List.drop_length]; rfl
          have hni9 : nx < ni := by have := HI.out.1; omega
          by_cases h9g : T.gr ≤ 9
          · have cg : ∃ v, wr.cell? ⟨g, 1 + nx, none⟩ = some v := by
              have hg9 := HG.out
              refine ⟨.bool (ti.ended nx), ?_⟩
              rw [Nt.TlAt.cell HTi.out]
              have hn9 : nx ≤ 9 := by omega
              match nx, hn9 with
              | 0, _ | 1, _ | 2, _ | 3, _ | 4, _ | 5, _ | 6, _ | 7, _ | 8, _ | 9, _ => rfl
            obtain ⟨vv, cg⟩ := cg
            have fg := Nt.TlAt.frozen HTi.out (1 + nx)
            have hn9 : nx ≤ 9 := by have := HG.out; omega
            rw [HG.out] at q7 h9g
            have h9d : decide ((nx : Int) ≤ 9) = true := by simp; omega
            go_wp2_with fail
            go_region
            go_wp2_with fail
            go_ret
            have hT9 := Nt.tl_ended HTi.out nx hn9
            refine ⟨.inl ⟨ni, by rw [HNE.out, hre.out], rfl, by have := HI.out.1; omega, HI.out.2.1, ⟨ti.begun, fun x => x == nx || ti.ended x⟩, hT9, Hni.out, ?_⟩, (HX.out.trans (Bx.set g (1 + nx) wr (.bool true))).trans ⟨rfl, rfl, rfl, Nat.le_refl _, fun _ _ _ => rfl⟩⟩
            intro x hx1 hx2
            show (x == nx || ti.ended x) = _
            rw [HI.out.2.2 x hx1 hx2]
            by_cases e : x = nx
            · subst e
              have hno : ¬ x ∈ op := fun h => by have := Hop.out x h; omega
              simp [hno, hni9]
            · simp [e]
          · have h9d : decide (T.gr ≤ 9) = false := by simp; omega
            go_wp2_with fail
            go_ret
            refine ⟨.inl ⟨ni, by rw [HNE.out, hre.out], rfl, by have := HI.out.1; omega, HI.out.2.1, ti, HTi.out, Hni.out, ?_⟩, HX.out⟩
            intro x hx1 hx2
            rw [HI.out.2.2 x hx1 hx2]
            have : x ≠ nx := by have := HG.out; omega
            simp [this]
  have k6 : ((T.k : Int) == 6) = false := by simp; omega
  have k6n : (T.k == 6) = false := by simpa using h6
  rw [k6n] at HNE
  simp only [Bool.false_eq_true, if_false] at HNE
  clear h6 k6n
  by_cases h7 : T.k = 7
  · have k7 : ((T.k : Int) == 7) = true := by simp; omega
    have k7n : (T.k == 7) = true := by simpa using h7
    rw [k7n] at HNE
    simp only [if_true] at HNE
    have HKl : Hid (T.kids.length = 0) := by
      show _ = _
      rw [Nt.fitP, h7] at hfit
      simp only [Bool.and_eq_true] at hfit
      have := hfit.2.2.2.2.2
      simpa using this
    clear h7 k7n
    have HCN : Hid _ := can_any g t T.gr
    have hcan : Hid ((decide (1 ≤ T.gr) && (decide (T.gr ≤ 9) && t.ended T.gr.toNat)) = (decide (1 ≤ T.gr) && (decide (T.gr ≤ 9) && (decide (T.gr < (nx : Int)) && !(op.contains T.gr.toNat))))) := by
      show _ = _
      by_cases e1 : 1 ≤ T.gr
      · by_cases e2 : T.gr ≤ 9
        · rw [Hinv.out T.gr.toNat (by omega) (by omega)]
          congr 3
          simp; omega
        · rw [decide_eq_false e2]; simp
      · rw [decide_eq_false e1]; simp
    cases hc : (decide (1 ≤ T.gr) && (decide (T.gr ≤ 9) && t.ended T.gr.toNat))
    · have hnone : Hid (Nt.numP T nx op = none) := by
        show _ = _
        rw [HNE.out, ← hcan.out, hc]; rfl
      rw [hc] at HCN
      go_enter Tryd.func49, Tryd.ntmps49
      go_wp2_with (first
        | (go_at_call 72; refine (HF.out _ (Below.refl _ _)).mono ?_; rintro e w1 ⟨rfl, hb1⟩; have q0 := (HH9.out.below hb1 hb).c0; have q7 := (HH9.out.below hb1 hb).c7)
        | (go_at_call 74; refine (HCN.out _ (Nt.TlAt.under HTl.out hb1)).mono ?_; rintro e w2 ⟨rfl, rfl⟩))
      go_ret
      exact ⟨.inr ⟨hnone.out, rfl⟩, Bx.of_below hb1⟩
    · have hsome : Hid (Nt.numP T nx op = some nx) := by
        show _ = _
        rw [HNE.out, ← hcan.out, hc, List.length_eq_zero_iff.1 HKl.out]; rfl
      rw [hc] at HCN
      have HLZ : Hid ((T.kids.length : Int) = 0) := by show _ = _; have := HKl.out; omega
      go_enter Tryd.func49, Tryd.ntmps49
      go_wp2_with (first
        | (go_at_call 72; refine (HF.out _ (Below.refl _ _)).mono ?_; rintro e w1 ⟨rfl, hb1⟩; have q0 := (HH9.out.below hb1 hb).c0; have q7 := (HH9.out.below hb1 hb).c7; have q8 : w1.cell? ⟨b, off + 8, none⟩ = some (.slice a 0 cap) := by (have := (HH9.out.below hb1 hb).c8; rw [HKl.out] at this; exact this))
        | (go_at_call 74; refine (HCN.out _ (Nt.TlAt.under HTl.out hb1)).mono ?_; rintro e w2 ⟨rfl, rfl⟩))
      go_loopw [46] (fun iv wr => iv = .int .i64 0 ∧ wr = w2) (fun _ _ => 0)
      case atStart => exact ⟨rfl, rfl⟩
      case round =>
        obtain ⟨rfl, rfl⟩ := hrel
        go_wp2_with fail
        go_ret
        exact ⟨.inl ⟨nx, hsome.out, rfl, Nat.le_refl _, hnx2, t, Nt.TlAt.under HTl.out hb1, hnx, Hinv.out⟩, Bx.of_below hb1⟩
  have k7 : ((T.k : Int) == 7) = false := by simp; omega
  have k7n : (T.k == 7) = false := by simpa using h7
  rw [k7n] at HNE
  simp only [Bool.false_eq_true, if_false] at HNE
  clear h7 k7n
  obtain ⟨R, hR⟩ : ∃ R, Nt.numP.numL T.kids nx op = R := ⟨_, rfl⟩
  rw [hR] at HNE
  have HR : Hid (Nt.numP.numL (T.kids.drop 0) nx op = R) := hR
  clear hR
  go_enter Tryd.func49, Tryd.ntmps49
  go_wp2_with (go_at_call 72; refine (HF.out _ (Below.refl _ _)).mono ?_; rintro e w1 ⟨rfl, hb1⟩; have q0 := (HH9.out.below hb1 hb).c0; have q8 := (HH9.out.below hb1 hb).c8)
  have HB0 : Hid (t.begun + 1 = nx) := hnx
  have HT0 : Hid _ := Nt.TlAt.under HTl.out hb1
  have HX0 : Hid (Bx g w w1) := Bx.of_below hb1
  have HI0 : Hid (nx ≤ nx ∧ nx ≤ 100 ∧ Nt.Inv t nx op) := ⟨Nat.le_refl _, hnx2, Hinv.out⟩
  clear hb1 q0
  go_loopw [46] (fun iv wr => ∃ (i : Nat) (ti : Nt.Tl) (ni : Nat), i ≤ T.kids.length ∧ iv = .int .i64 (i : Int) ∧ Hid (Nt.numP.numL (T.kids.drop i) ni (op) = R) ∧ Nt.TlAt wr g ti ∧ ti.begun + 1 = ni ∧ Hid (nx ≤ ni ∧ ni ≤ 100 ∧ Nt.Inv ti ni (op)) ∧ Bx g w wr) (fun iv _ => T.kids.length - (intOf iv).toNat)
  case atStart => exact ⟨0, _, _, by omega, rfl, HR, HT0.out, HB0.out, HI0, HX0.out⟩
  case round =>
    clear q8 HR HT0 HX0 HI0 HB0
    obtain ⟨i, ti, ni, hi, rfl, HC, hTi, hni, HI, hX⟩ := hrel
    have HTi : Hid _ := hTi
    have HX : Hid _ := hX
    have Hni : Hid _ := hni
    have hsz := hX.size
    have h9r := HH9.out.bx hX hb hbg
    obtain ⟨q0, q1, q2, q3, q4, q5, q6, q7, q8⟩ := h9r
    clear hTi hX hni
    by_cases hlt : i < T.kids.length
    · have HD : Hid _ := Nt.numL_drop hlt ni (op)
      have HOP2 : Hid (∀ y ∈ (op), y < ni) := by
        show ∀ y ∈ (op), y < ni
        have h1 := HI.out.1
        have h2 := Hop.out
        intro y hy
        skip
        skip
        skip
        have := h2 y hy
        omega
      have ND := (HN.out.bx HX.out (Nat.le_refl _))
      obtain ⟨b2, off2, a', cap', rfl, hbB, h9', hk⟩ := ND.kid hlt
      have HIH : Hid _ := IH.out i hlt b2 (off2 + i * 9) a' cap' ti ni (op) g wr h9' (Nat.lt_of_lt_of_le hbB.1 hsz) hbB.2 (hk.mono (fun b h => ⟨Nat.lt_of_lt_of_le h.1 hsz, h.2⟩)) HTi.out (HTb.out.bx HX.out hg2) hg2 (by have h1 := Nt.cntL_kid hlt; have h2 := Hcnt.out; omega) Hni.out HI.out.2.1 HI.out.2.2 HOP2.out
      clear h9' hk ND
      go_wp2_with fail
      refine Calls.mono HIH.out ?_
      rintro e w2 ⟨⟨n2, hn2, rfl, hle2, hlt2, t2, hT2, hb2, hi2⟩ | ⟨hn2, rfl⟩, hx2⟩
      · have HC2 : Hid (Nt.numP.numL (T.kids.drop (i + 1)) n2 (op) = R) := by
          show _ = _
          rw [← HC.out, HD.out, hn2]
        clear HIH
        go_wp2_with fail
        go_roundw
        case rel => exact ⟨i + 1, t2, n2, by omega, by go_num, HC2, hT2, hb2, ⟨by have := HI.out.1; omega, hlt2, hi2⟩, HX.out.trans hx2⟩
        case measure => simp [intOf]; omega
      · have hre : R = none := by rw [← HC.out, HD.out, hn2]
        clear HIH
        go_wp2_with fail
        go_ret
        exact ⟨.inr ⟨by rw [HNE.out, hre], rfl⟩, HX.out.trans hx2⟩
    · obtain rfl : i = T.kids.length := by omega
      have hre : Hid (R = some ni) := by show _ = _; rw [← HC.out, List.drop_length]; rfl
      go_wp2_with fail
      go_ret
      exact ⟨.inl ⟨ni, by rw [HNE.out, hre.out], rfl, HI.out.1, HI.out.2.1, ti, HTi.out, Hni.out, HI.out.2.2⟩, HX.out⟩
end Go.Proofs.YtdiokclbdaojpaaDoor
namespace Go.Proofs.YtdiokclbdaojpaaDoor
open Go.RowKit Go.Shelf

attribute [local go_sem] Oper.semAt_some

theorem cell_of_box_k {W : World} {B : Nat} {v : Value} {t : TypeId} (h : W.heap[B]? = some (.cells #[v] t (0, 0))) : W.cell? ⟨B, 0, none⟩ = some v ∧ W.frozen? ⟨B, 0, none⟩ = false := by
  constructor <;> simp [World.cell?, World.frozen?, h]
theorem cell_new_k (W : World) (v : Value) (t : TypeId) : (W.alloc (.cells #[v] t)).cell? ⟨W.heap.size, 0, none⟩ = some v ∧ (W.alloc (.cells #[v] t)).frozen? ⟨W.heap.size, 0, none⟩ = false :=
  cell_of_box_k (World.alloc_heap_new W _)
theorem cell_alloc_k {W : World} {a : Addr} {v : Value} (o : Obj) (h : W.cell? a = some v) : (W.alloc o).cell? a = some v := cell_kept h (World.grownBy_alloc W o none) (fun r e => by cases e)
theorem frozen_alloc_k {W : World} {a : Addr} {v : Value} (o : Obj) (h : W.cell? a = some v) (hf : W.frozen? a = false) : (W.alloc o).frozen? a = false := (frozen_kept h (World.grownBy_alloc W o none) (fun r e => by cases e)).trans hf

set_option maxHeartbeats 1000000 in
theorem nodes_in (F : Fence) (n : Nat) (hf : F.fn 48) (hro : F.round = none) (p0 : Option Addr) (w : World) :
    CallsIn F n Tryd.prog 48 #[.pointer p0] w fun e w' => e = .returned (.func (.func 70) #[] #[.pointer (some ⟨w.heap.size, 0, none⟩)]) ∧ w' = w.alloc (.cells #[.pointer p0] 69) := by
  refine callsIn_of_wp Tryd.func48 rfl hf ?_ hro
  simp only [Tryd.ntmps48, List.size_toArray, List.length_cons, List.length_nil, Nat.reduceAdd, Nat.reduceSub, Array.replicate_succ, Array.replicate_zero, List.push_toArray, List.append_toArray, List.nil_append, List.cons_append]
  gi_wp2
  go_ret
  exact ⟨rfl, rfl⟩

set_option maxHeartbeats 1000000 in
theorem nodes1_in (F : Fence) (hd : F.depth = none) (n : Nat) (hf : F.fn 70) (hf2 : F.fn 71) (hro : F.round = none) (l Bt B b off : Nat) (T : Nt.NT) (a : Option Addr) (cap : Nat) (w : World) (J Jx : List (Nt.Sp w B) → World → Prop)
    (hY : ∀ pre x W, J pre W → pre.length < Nt.cnt T → YieldAt F (n - 1) Tryd.prog l (Nt.spE x) W fun e W' =>
      (e = .returned (.bool true) ∧ J (pre ++ [x]) W' ∧ Below B W W') ∨ (e = .returned (.bool false) ∧ Jx (pre ++ [x]) W'))
    (W : World) (hBt : W.cell? ⟨Bt, 0, none⟩ = some (.pointer (some ⟨b, off, none⟩))) (hb : b < B) (h9 : Nt.Nine w b off T a cap) (hN : Nt.Nd w (· < B) T a cap) (hBW : Below B w W) (h0 : J [] W) :
    CallsIn F n Tryd.prog 70 #[.func (.yield l) #[] #[], .pointer (some ⟨Bt, 0, none⟩)] W fun e W' => (∃ v, e = .returned v) ∧
      ((∃ ys : List (Nt.Sp w B), ys.map Nt.spk = Nt.kinds T ∧ J ys W') ∨ (∃ pre : List (Nt.Sp w B), pre.map Nt.spk <+: Nt.kinds T ∧ Jx pre W')) := by
  have hdd : ∀ k : Nat, (F.depth.isSome = true → 1 ≤ k) := fun k h => by rw [hd] at h; cases h
  have hp := walk_in F hd hf2 hro l B (Nt.cnt T) w J Jx (fun m pre x W hj hl => YieldAt.anyDepth hd m (hY pre x W hj hl)) T (n - 1) b off a cap [] W hb h9 hN hBW h0 (by simp)
  refine callsIn_of_wp Tryd.func70 rfl hf ?_ hro
  simp only [Tryd.ntmps70, List.size_toArray, List.length_cons, List.length_nil, Nat.reduceAdd, Nat.reduceSub, Array.replicate_succ, Array.replicate_zero, List.push_toArray, List.append_toArray, List.nil_append, List.cons_append]
  gi_wp2_with ((try refine ⟨hdd _, ?_⟩); gi_at_call 71; refine hp.mono ?_; clear hp; rintro e W1 (⟨rfl, ⟨L, hL, hJ1⟩, _⟩ | ⟨rfl, L, hL, hx⟩))
  · go_end0
    exact ⟨⟨_, rfl⟩, .inl ⟨L, hL, by simpa using hJ1⟩⟩
  · go_end0
    exact ⟨⟨_, rfl⟩, .inr ⟨L, hL, by simpa using hx⟩⟩

theorem nodes_stops (F : Fence) (hd : F.depth = none) (n : Nat) (hf : F.fn 70) (hf2 : F.fn 71) (hro : F.round = none) (Bt B b off : Nat) (T : Nt.NT) (a : Option Addr) (cap : Nat) (w : World) (hBt : Bt < w.heap.size) (hB : B ≤ w.heap.size)
    (hc : w.cell? ⟨Bt, 0, none⟩ = some (.pointer (some ⟨b, off, none⟩))) (hb : b < B) (h9 : Nt.Nine w b off T a cap) (hN : Nt.Nd w (· < B) T a cap) :
    SeqStopsK F n Tryd.prog 70 #[.pointer (some ⟨Bt, 0, none⟩)] (Nt.spE (w := w) (B := B)) (Below B) (fun ys => ys.map Nt.spk = Nt.kinds T) (fun pre => pre.map Nt.spk <+: Nt.kinds T) (Nt.cnt T) w := fun l J Jx W hW _ _ hY h0 =>
  nodes1_in F hd n hf hf2 hro l Bt B b off T a cap w J Jx hY W ((hW.cell (p := ⟨Bt, 0, none⟩) hBt).trans hc) hb h9 hN (hW.mono hB) h0
end Go.Proofs.YtdiokclbdaojpaaDoor
namespace Go.Proofs.YtdiokclbdaojpaaDoor
open Go.RowKit Go.Shelf

attribute [local go_sem] Oper.semAt_some

namespace Nt
/-- How many of some kinds are 6, a group's. -/
def six (l : List Nat) : Nat := l.countP (· == 6)
theorem six_kinds (T : NT) : six (kinds T) = grps T := by
  induction T using NT.ind with
  | h T ih =>
    have key : ∀ i, i ≤ T.kids.length → six (kinds.kindsL (T.kids.take i)) = grps.grpsL (T.kids.take i) := by
      intro i
      induction i with
      | zero => intro _; simp [six, kinds.kindsL, grps.grpsL]
      | succ i hi =>
        intro hlt
        rw [kindsL_take (by omega), grpsL_take (by omega)]
        have h1 := hi (by omega)
        have h2 := ih i (by omega)
        simp only [six, List.countP_append] at h1 h2 ⊢
        omega
    have h := key T.kids.length (Nat.le_refl _)
    rw [List.take_length] at h
    rw [kinds_eq, grps_eq, ← h]
    simp only [six, List.countP_cons]
    omega
end Nt

set_option maxRecDepth 100000 in
set_option maxHeartbeats 2000000 in
theorem pgroups_in (F : Fence) (hd : F.depth = none) (n : Nat) (hf : F.fn 36) (hf0 : F.fn 48) (hf1 : F.fn 70) (hf2 : F.fn 71) (hro : F.round = none) (hn : 3 ≤ n) (T : Nt.NT) (a : Option Addr) (cap : Nat) (w : World) (hN : Nt.Nd w (· < w.heap.size) T a cap) (hT : Nt.cnt T < 4611686018427387904) :
    CallsIn F n Tryd.prog 36 #[Nt.ndV T a cap] w fun e w' => e = .returned (.int .i64 (Nt.grps T : Nat)) ∧ Below w.heap.size w w' := by
  have h1 : 1 ≤ n := by omega
  have HN : Hid _ := hN
  clear hN
  simp only [Nt.ndV, Nt.ndA]
  refine callsIn_of_wp_marks Tryd.func36 rfl hf ?_ hro
  simp only [Tryd.ntmps36, List.size_toArray, List.length_cons, List.length_nil, Nat.reduceAdd, Nat.reduceSub, Array.replicate_succ, Array.replicate_zero, List.push_toArray, List.append_toArray, List.nil_append, List.cons_append]
  gi_wp2_with (gi_at_call 48; refine (nodes_in F (n - 1) hf0 hro _ _).mono ?_; rintro e w' ⟨rfl, rfl⟩)
  obtain ⟨W0, hW0⟩ : ∃ W0, W0 = ((w.alloc (.cells #[.int .u8 (T.k : Int), .int .u64 (St.wd T.s 0 : Nat), .int .u64 (St.wd T.s 1 : Nat), .int .u64 (St.wd T.s 2 : Nat), .int .u64 (St.wd T.s 3 : Nat), .int .i64 T.mn, .int .i64 T.mx, .int .i64 T.gr, .slice a T.kids.length cap] 28)).alloc (.cells #[.int .i64 0] 3)).alloc (.cells #[.pointer (some ⟨w.heap.size, 0, none⟩)] 69) := ⟨_, rfl⟩
  have N0 := ((Nt.node_new w T a cap).alloc (.cells #[.int .i64 0] 3)).alloc (.cells #[.pointer (some ⟨w.heap.size, 0, none⟩)] 69)
  have c1 := cell_new_k (w.alloc (.cells (Nt.ndA T a cap) 28)) (.int .i64 0) 3
  have c2 := cell_new_k ((w.alloc (.cells (Nt.ndA T a cap) 28)).alloc (.cells #[.int .i64 0] 3)) (.pointer (some ⟨w.heap.size, 0, none⟩)) 69
  have c3 := cell_alloc_k (.cells #[.pointer (some ⟨w.heap.size, 0, none⟩)] 69) c1.1
  have c4 := frozen_alloc_k (.cells #[.pointer (some ⟨w.heap.size, 0, none⟩)] 69) c1.1 c1.2
  have hB0 : Below w.heap.size w (((w.alloc (.cells (Nt.ndA T a cap) 28)).alloc (.cells #[.int .i64 0] 3)).alloc (.cells #[.pointer (some ⟨w.heap.size, 0, none⟩)] 69)) := (((Below.refl _ w).alloc (Nat.le_refl _) _).alloc (by simp) _).alloc (by simp; omega) _
  have hs0 : W0.heap.size = w.heap.size + 3 := by rw [hW0]; simp
  simp only [Nt.ndA, World.size_alloc] at N0 c1 c2 c3 c4 hB0
  rw [← hW0] at N0 c2 c3 c4 hB0 ⊢
  clear hW0 c1
  have HNd : Nt.Nd W0 (· < w.heap.size + 1) T a cap := HN.out.same (fun b (h : b < _) => hB0.block b h) (fun b (h : b < _) => by omega)
  refine wpIn_rangeFunc_ownF hro h1 (gf := 70) (lb := #[.pointer (some ⟨w.heap.size + 1 + 1, 0, none⟩)]) rfl hf1 (enters_of Tryd.func70 (by kernel_rfl) rfl)
    (nodes_stops F hd (n - 1) hf1 hf2 hro (w.heap.size + 1 + 1) (w.heap.size + 1) w.heap.size 0 T a cap W0 (by omega) (by omega) c2.1 (by omega) N0.nine HNd) belowK_t (belowK_b (by omega)) (Below.refl _ _) (fun _ => rfl)
    (fun pre W => ((W.cell? ⟨w.heap.size + 1, 0, none⟩ = some (.int .i64 (Nt.six (pre.map Nt.spk) : Nat)) ∧ W.frozen? ⟨w.heap.size + 1, 0, none⟩ = false) ∧ Below (w.heap.size + 1) W0 W) ∧ Below w.heap.size w W)
    (fun _ _ _ => False)
    (OwnFrom.and (OwnFrom.and (Own.from (fun s A B row hs hg hr => ⟨cell_kept hs.1 hg hr, (frozen_kept hs.1 hg hr).trans hs.2⟩) _) (ownFrom_below (by omega) (by omega))) (ownFrom_below (Nat.le_refl _) (by omega)))
    (fun _ _ _ _ _ hs _ _ => hs)
    ⟨⟨⟨c3, c4⟩, Below.refl _ _⟩, hB0⟩
    (fun x => { tmps := #[.agg #[.int .u8 (T.k : Int), .int .u64 (St.wd T.s 0 : Nat), .int .u64 (St.wd T.s 1 : Nat), .int .u64 (St.wd T.s 2 : Nat), .int .u64 (St.wd T.s 3 : Nat), .int .i64 T.mn, .int .i64 T.mx, .int .i64 T.gr, .slice a T.kids.length cap], .pointer (some ⟨w.heap.size, 0, none⟩), .int .i64 0, .pointer (some ⟨w.heap.size + 1, 0, none⟩), .pointer (some ⟨x.1.1, x.1.2.1, none⟩), .func (.func 70) #[] #[.pointer (some ⟨w.heap.size + 1 + 1, 0, none⟩)], .pointer (some ⟨x.1.1, x.1.2.1, none⟩), undef, undef, undef, undef, undef, undef, undef, undef], defers := [] }) ?assign ?body ?done ?stop
  case assign =>
    intro l x W K hK
    simp only [Nt.spE]
    gi_wp2
    exact hK
  case body =>
    rintro l pre x W ⟨⟨⟨hc, hf⟩, hbW⟩, hB⟩ hlen
    have hx := (hbW.cell (p := ⟨x.1.1, x.1.2.1, none⟩) x.2.1).trans x.2.2
    have HP : Hid (Nt.six ((pre ++ [x]).map Nt.spk) = Nt.six (pre.map Nt.spk) + if ((x.1.2.2 : Int) == 6) then 1 else 0) := by
      show _ = _
      rw [List.map_append, Nt.six, Nt.six, List.countP_append]
      have e : (x.1.2.2 == 6) = ((x.1.2.2 : Int) == 6) := by rw [Bool.eq_iff_iff]; simp; omega
      simp only [List.map_cons, List.map_nil, List.countP_cons, List.countP_nil, Nt.spk, e, Nat.zero_add]
    have hsl : Nt.six (pre.map Nt.spk) ≤ pre.length := by
      have := List.countP_le_length (p := (· == 6)) (l := pre.map Nt.spk)
      simpa [Nt.six] using this
    have HB : Hid _ := hB
    have HbW : Hid _ := hbW
    cases hk : ((x.1.2.2 : Int) == 6)
    · rw [hk] at HP
      gi_wp2
      exact ⟨KeepsOthers.refl _, Below.refl _ _, ⟨⟨by rw [HP.out]; exact hc, hf⟩, hbW⟩, hB⟩
    · rw [hk] at HP
      have hsum : ((Nt.six (pre.map Nt.spk) : Nat) : Int) + 1 ≤ 4611686018427387904 := by omega
      generalize hq : Nt.six (pre.map Nt.spk) = q at *
      gi_wp2
      exact ⟨KeepsOthers.setCell _ _ _, (Below.refl _ W).setCell (p := ⟨w.heap.size + 1, 0, none⟩) (Nat.le_refl _) _, ⟨⟨by rw [HP.out]; exact World.cell?_setCell_same' _ _ _ (by rw [hc]; rfl), by rw [World.frozen?_setCell]; exact hf⟩, hbW.setCell (p := ⟨w.heap.size + 1, 0, none⟩) (Nat.le_refl _) _⟩, hB.setCell (p := ⟨w.heap.size + 1, 0, none⟩) (by simp) _⟩
  case done =>
    rintro D ys W hD hys ⟨⟨⟨hc, _⟩, hbW⟩, hB⟩ hK
    rw [hys, Nt.six_kinds] at hc
    gi_wp2
    refine ⟨by simp, .inl ⟨_, _, rfl, run_takeDeferred hK, ?_⟩⟩
    exact ⟨_, results_tmp rfl _ _ _, rfl, hB.trans (belowK_b (w := w) (Nat.le_refl _) W D _ _ (by omega) hK rfl rfl)⟩
  case stop =>
    rintro D c pre W _ _ h _
    exact h.elim

theorem pgroups_any (T : Nt.NT) (a : Option Addr) (cap : Nat) (w : World) (hN : Nt.Nd w (· < w.heap.size) T a cap) (hT : Nt.cnt T < 4611686018427387904) :
    Calls Tryd.prog 36 #[Nt.ndV T a cap] w fun e w' => e = .returned (.int .i64 (Nt.grps T : Nat)) ∧ Below w.heap.size w w' :=
  (callsIn_wide (n := 3)).1 (pgroups_in Fence.wide rfl 3 trivial trivial trivial trivial rfl (by omega) T a cap w hN hT)
end Go.Proofs.YtdiokclbdaojpaaDoor
namespace Go.Proofs.YtdiokclbdaojpaaDoor
open Go.RowKit Go.Shelf

attribute [local go_sem] Oper.semAt_some

namespace Nt
/-- Check's error. -/
def chkP (T : NT) : Int := if 8192 < cnt T then 3 else if (numP T 1 []).isSome then 0 else 90
def tl0 : Tl := ⟨0, fun _ => false⟩
theorem tl_new (w : World) : TlAt (w.alloc (.cells #[.int .i64 0, .bool false, .bool false, .bool false, .bool false, .bool false, .bool false, .bool false, .bool false, .bool false, .bool false] 104)) w.heap.size tl0 := heap_alloc_new w _
theorem inv0 : Inv tl0 1 [] := fun x h1 h2 => by
  show false = _
  rw [decide_eq_false (by omega)]; rfl
end Nt

theorem frozen_of_block {w w' : World} {b o : Nat} (h : w'.heap[b]? = w.heap[b]?) : w'.frozen? ⟨b, o, none⟩ = w.frozen? ⟨b, o, none⟩ := by
  simp only [World.frozen?, h]

set_option maxRecDepth 100000 in
set_option maxHeartbeats 4000000 in
theorem pcheck_in (T : Nt.NT) (a : Option Addr) (cap : Nat) (w : World) (hN : Nt.Nd w (· < w.heap.size) T a cap) (hTb : Nt.Tabs w) :
    CallsIn Fence.wide 3 Tryd.prog 27 #[Nt.ndV T a cap] w fun e w' => e = .returned (.int .i64 (Nt.chkP T)) ∧ Below w.heap.size w w' := by
  have HN : Hid _ := hN
  have HTb : Hid _ := hTb
  have hbig := hTb.big
  clear hN hTb
  simp only [Nt.ndV, Nt.ndA]
  refine callsIn_of_wp_marks Tryd.func27 rfl trivial ?_ rfl
  simp only [Tryd.ntmps27, List.size_toArray, List.length_cons, List.length_nil, Nat.reduceAdd, Nat.reduceSub, Array.replicate_succ, Array.replicate_zero, List.push_toArray, List.append_toArray, List.nil_append, List.cons_append]
  gi_wp2_with (refine ⟨trivial, ?_⟩; gi_at_call 48; refine (nodes_in Fence.wide 2 trivial rfl _ _).mono ?_; rintro e w' ⟨rfl, rfl⟩)
  obtain ⟨W0, hW0⟩ : ∃ W0, W0 = (((w.alloc (.cells #[.int .u8 (T.k : Int), .int .u64 (St.wd T.s 0 : Nat), .int .u64 (St.wd T.s 1 : Nat), .int .u64 (St.wd T.s 2 : Nat), .int .u64 (St.wd T.s 3 : Nat), .int .i64 T.mn, .int .i64 T.mx, .int .i64 T.gr, .slice a T.kids.length cap] 28)).alloc (.cells #[.int .i64 0] 30)).alloc (.cells #[.int .i64 0] 3)).alloc (.cells #[.pointer (some ⟨w.heap.size, 0, none⟩)] 69) := ⟨_, rfl⟩
  have N0 := (((Nt.node_new w T a cap).alloc (.cells #[.int .i64 0] 30)).alloc (.cells #[.int .i64 0] 3)).alloc (.cells #[.pointer (some ⟨w.heap.size, 0, none⟩)] 69)
  have r1 := cell_new_k (w.alloc (.cells (Nt.ndA T a cap) 28)) (.int .i64 0) 30
  have r2 := cell_alloc_k (.cells #[.int .i64 0] 3) r1.1
  have r2f := frozen_alloc_k (.cells #[.int .i64 0] 3) r1.1 r1.2
  have r3 := cell_alloc_k (.cells #[.pointer (some ⟨w.heap.size, 0, none⟩)] 69) r2
  have r3f := frozen_alloc_k (.cells #[.pointer (some ⟨w.heap.size, 0, none⟩)] 69) r2 r2f
  have c1 := cell_new_k ((w.alloc (.cells (Nt.ndA T a cap) 28)).alloc (.cells #[.int .i64 0] 30)) (.int .i64 0) 3
  have c2 := cell_new_k (((w.alloc (.cells (Nt.ndA T a cap) 28)).alloc (.cells #[.int .i64 0] 30)).alloc (.cells #[.int .i64 0] 3)) (.pointer (some ⟨w.heap.size, 0, none⟩)) 69
  have c3 := cell_alloc_k (.cells #[.pointer (some ⟨w.heap.size, 0, none⟩)] 69) c1.1
  have c4 := frozen_alloc_k (.cells #[.pointer (some ⟨w.heap.size, 0, none⟩)] 69) c1.1 c1.2
  have hB0 : Below w.heap.size w ((((w.alloc (.cells (Nt.ndA T a cap) 28)).alloc (.cells #[.int .i64 0] 30)).alloc (.cells #[.int .i64 0] 3)).alloc (.cells #[.pointer (some ⟨w.heap.size, 0, none⟩)] 69)) := ((((Below.refl _ w).alloc (Nat.le_refl _) _).alloc (by simp) _).alloc (by simp; omega) _).alloc (by simp; omega) _
  have hs0 : W0.heap.size = w.heap.size + 4 := by rw [hW0]; simp
  simp only [Nt.ndA, World.size_alloc] at N0 c1 c2 c3 c4 r1 r2 r2f r3 r3f hB0
  rw [← hW0] at N0 c2 c3 c4 r3 r3f hB0 ⊢
  clear hW0 c1 r1 r2 r2f
  have HNd : Nt.Nd W0 (· < w.heap.size + 1) T a cap := HN.out.same (fun b (h : b < _) => hB0.block b h) (fun b (h : b < _) => by omega)
  have HTl : Hid _ := HN.out
  refine wpIn_rangeFunc_ownF rfl (by omega) (gf := 70) (lb := #[.pointer (some ⟨w.heap.size + 1 + 1 + 1, 0, none⟩)]) rfl trivial (enters_of Tryd.func70 (by kernel_rfl) rfl)
    (nodes_stops Fence.wide rfl 2 trivial trivial rfl (w.heap.size + 1 + 1 + 1) (w.heap.size + 1) w.heap.size 0 T a cap W0 (by omega) (by omega) c2.1 (by omega) N0.nine HNd) belowK_t (belowK_b (by omega)) (Below.refl _ _) (fun _ => rfl)
    (fun pre W => (((W.cell? ⟨w.heap.size + 1 + 1, 0, none⟩ = some (.int .i64 (pre.length : Nat)) ∧ W.frozen? ⟨w.heap.size + 1 + 1, 0, none⟩ = false ∧ pre.length ≤ 8192) ∧ (W.cell? ⟨w.heap.size + 1, 0, none⟩ = some (.int .i64 0) ∧ W.frozen? ⟨w.heap.size + 1, 0, none⟩ = false)) ∧ Below (w.heap.size + 1) W0 W) ∧ Below w.heap.size w W)
    (fun c pre W => (c = .ret ∧ pre.length = 8193 ∧ W.cell? ⟨w.heap.size + 1, 0, none⟩ = some (.int .i64 3)) ∧ Below w.heap.size w W)
    (OwnFrom.and (OwnFrom.and (Own.from (fun s A B row hs hg hr => ⟨⟨cell_kept hs.1.1 hg hr, (frozen_kept hs.1.1 hg hr).trans hs.1.2.1, hs.1.2.2⟩, cell_kept hs.2.1 hg hr, (frozen_kept hs.2.1 hg hr).trans hs.2.2⟩) _) (ownFrom_below (by omega) (by omega))) (ownFrom_below (Nat.le_refl _) (by omega)))
    (fun c => OwnFrom.and (Own.from (fun s A B row hs hg hr => ⟨hs.1, hs.2.1, cell_kept hs.2.2 hg hr⟩) _) (ownFrom_below (Nat.le_refl _) (by omega)))
    ⟨⟨⟨⟨c3, c4, by simp⟩, r3, r3f⟩, Below.refl _ _⟩, hB0⟩
    (fun x => { tmps := #[.agg #[.int .u8 (T.k : Int), .int .u64 (St.wd T.s 0 : Nat), .int .u64 (St.wd T.s 1 : Nat), .int .u64 (St.wd T.s 2 : Nat), .int .u64 (St.wd T.s 3 : Nat), .int .i64 T.mn, .int .i64 T.mx, .int .i64 T.gr, .slice a T.kids.length cap], .pointer (some ⟨w.heap.size, 0, none⟩), .pointer (some ⟨w.heap.size + 1, 0, none⟩), .pointer (some ⟨w.heap.size + 1 + 1, 0, none⟩), undef, .func (.func 70) #[] #[.pointer (some ⟨w.heap.size + 1 + 1 + 1, 0, none⟩)], .pointer (some ⟨x.1.1, x.1.2.1, none⟩), undef, undef, undef, undef, undef, undef], defers := [] }) ?assign ?body ?done ?stop
  case assign =>
    intro l x W K hK
    simp only [Nt.spE]
    gi_wp2
    simpa using hK
  case body =>
    rintro l pre x W ⟨⟨⟨⟨hc, hf, hle⟩, hr, hrf⟩, hbW⟩, hB⟩ hlen
    have hc2 : (W.setCell ⟨w.heap.size + 1 + 1, 0, none⟩ (.int .i64 ((pre.length : Int) + 1))).cell? ⟨w.heap.size + 1 + 1, 0, none⟩ = some (.int .i64 ((pre.length : Int) + 1)) := World.cell?_setCell_same' _ _ _ (by rw [hc]; rfl)
    have hr2 : (W.setCell ⟨w.heap.size + 1 + 1, 0, none⟩ (.int .i64 ((pre.length : Int) + 1))).cell? ⟨w.heap.size + 1, 0, none⟩ = some (.int .i64 0) := by rw [World.cell?_setCell_other _ _ _ _ (by simp)]; exact hr
    have hrf2 : (W.setCell ⟨w.heap.size + 1 + 1, 0, none⟩ (.int .i64 ((pre.length : Int) + 1))).frozen? ⟨w.heap.size + 1, 0, none⟩ = false := by rw [World.frozen?_setCell]; exact hrf
    have hB2 := hB.setCell (p := ⟨w.heap.size + 1 + 1, 0, none⟩) (by simp; omega) (.int .i64 ((pre.length : Int) + 1))
    have hbW2 := hbW.setCell (p := ⟨w.heap.size + 1 + 1, 0, none⟩) (by simp) (.int .i64 ((pre.length : Int) + 1))
    have HB2 : Hid _ := hB2
    have HbW2 : Hid _ := hbW2
    have Hlen : Hid _ := hle
    clear hB2 hbW2 hbW hB
    by_cases h8 : pre.length = 8192
    · have e8 : (pre.length : Int) = 8192 := by omega
      rw [e8] at hc hc2 hr2 hrf2 HB2 HbW2
      have hr3 : (W.setCell ⟨w.heap.size + 1 + 1, 0, none⟩ (.int .i64 8193)).cell? ⟨w.heap.size + 1, 0, none⟩ = some (.int .i64 0) := hr2
      clear e8 hle
      gi_wp2
      exact ⟨(KeepsOthers.setCell _ _ _).trans (KeepsOthers.setCell _ _ _), ⟨rfl, by simp [h8], World.cell?_setCell_same' _ _ _ (by rw [hr3]; rfl)⟩, HB2.out.setCell (p := ⟨w.heap.size + 1, 0, none⟩) (by simp) _⟩
    · have hd8 : decide ((8192 : Int) < (pre.length : Int) + 1) = false := by simp; omega
      have hd9 : ((8192 : Int) < (pre.length : Int) + 1) = False := by simp; omega
      have hlt : pre.length < 8192 := by omega
      gi_wp2
      refine ⟨KeepsOthers.setCell _ _ _, (Below.refl _ W).setCell (p := ⟨w.heap.size + 1 + 1, 0, none⟩) (by simp) _, ⟨⟨⟨⟨?_, ?_, ?_⟩, hr2, hrf2⟩, HbW2.out⟩, HB2.out⟩⟩
      · rw [hc2]; simp
      · rw [World.frozen?_setCell]; exact hf
      · simp; omega
  case done =>
    rintro D ys W hD hys ⟨⟨⟨⟨_, _, hle⟩, hr, hrf⟩, hbW⟩, hB⟩ hK
    have hcnt : Nt.cnt T = ys.length := by rw [Nt.cnt, ← hys, List.length_map]
    have Hcnt : Hid (Nt.cnt T ≤ 8192) := by show _ ≤ _; omega
    clear hcnt hys hle
    have hDl : D < W.heap.size := by
      by_cases h : D < W.heap.size
      · exact h
      · rw [Array.getElem?_eq_none (by omega)] at hK; cases hK
    have hsW := hbW.size
    have hTb1 : Nt.Tabs W := HTb.out.under hB
    have hA : Below W.heap.size W (W.alloc (.cells #[.int .i64 0, .bool false, .bool false, .bool false, .bool false, .bool false, .bool false, .bool false, .bool false, .bool false, .bool false] 104)) := (Below.refl _ _).alloc (Nat.le_refl _) _
    have HR0 := right_any T w.heap.size 0 a cap Nt.tl0 1 [] W.heap.size _ ((N0.nine.same (hbW.block _ (by omega))).same (hA.block _ (by omega))) (by have := hA.size; omega) (by omega) (HNd.same (fun b (h : b < _) => (hA.block b (by omega)).trans (hbW.block b h)) (fun b (h : b < _) => ⟨by have := hA.size; omega, by omega⟩)) (Nt.tl_new W) (hTb1.under hA) (by omega) Hcnt.out rfl (by omega) Nt.inv0 (fun y hy => by cases hy)
    have HR : Hid (Calls Tryd.prog 49 #[.pointer (some ⟨W.heap.size, 0, none⟩), .pointer (some ⟨w.heap.size, 0, none⟩)] (W.alloc (.cells #[.int .i64 0, .bool false, .bool false, .bool false, .bool false, .bool false, .bool false, .bool false, .bool false, .bool false, .bool false] 104)) fun e w' => e = .returned (.bool (Nt.numP T 1 []).isSome) ∧ Bx W.heap.size (W.alloc (.cells #[.int .i64 0, .bool false, .bool false, .bool false, .bool false, .bool false, .bool false, .bool false, .bool false, .bool false, .bool false] 104)) w') := by
      refine Calls.mono HR0 ?_
      rintro e w2 ⟨⟨n2, hn2, rfl, _⟩ | ⟨hn2, rfl⟩, hx⟩
      · exact ⟨by rw [hn2]; rfl, hx⟩
      · exact ⟨by rw [hn2]; rfl, hx⟩
    clear HR0
    have hr2 := (hA.cell (p := ⟨w.heap.size + 1, 0, none⟩) (by simp; omega)).trans hr
    have hrf2 := (frozen_of_block (o := 0) (hA.block (w.heap.size + 1) (by omega))).trans hrf
    have HW : Hid _ := hA
    clear hA hTb1
    gi_wp2_with (refine ⟨trivial, ?_⟩; gi_at_call 49; refine (callsIn_wide.2 HR.out).mono ?_; clear HR; rintro e w2 ⟨rfl, hx⟩; have hr3 := (World.cell?_of_block (hx.block (w.heap.size + 1) (by simp; omega) (by omega))).trans hr2; have hf3 := (frozen_of_block (o := 0) (hx.block (w.heap.size + 1) (by simp; omega) (by omega))).trans hrf2)
    all_goals
      have hK2 := (hx.block D (by simp; omega) (by omega)).trans ((HW.out.block D hDl).trans hK)
      have hB2 : Below w.heap.size w w2 := hB.trans ((HW.out.mono hB.size).trans (hx.below (by omega) (by simp; omega)))
    · have hK3 := (KeepsOthers.setCell w2 ⟨w.heap.size + 1, 0, none⟩ (.int .i64 90)).same D _ hK2 rfl
      refine ⟨by simp, .inl ⟨_, _, rfl, run_takeDeferred hK3, ?_⟩⟩
      have hc5 := cell_kept (World.cell?_setCell_same' w2 ⟨w.heap.size + 1, 0, none⟩ (.int .i64 90) (by rw [hr3]; rfl)) (grownBy_putObj' _ D (.deferred none)) (fun r e => by cases e; exact ⟨_, hK3, rfl⟩)
      refine ⟨.int .i64 90, ?_, ?_, (hB2.setCell (p := ⟨w.heap.size + 1, 0, none⟩) (by simp) _).trans (belowK_b (w := w) (Nat.le_refl _) _ D _ _ (by omega) hK3 rfl rfl)⟩
      · simp [results, Tryd.f27, go_sem, hc5]
      · rw [Nt.chkP, if_neg (by have := Hcnt.out; omega)]
        clear hc5 hK3 hB2 hK2 hr3 hf3 HW
        simp_all
    · have hK3 := (KeepsOthers.setCell w2 ⟨w.heap.size + 1, 0, none⟩ (.int .i64 0)).same D _ hK2 rfl
      refine ⟨by simp, .inl ⟨_, _, rfl, run_takeDeferred hK3, ?_⟩⟩
      have hc5 := cell_kept (World.cell?_setCell_same' w2 ⟨w.heap.size + 1, 0, none⟩ (.int .i64 0) (by rw [hr3]; rfl)) (grownBy_putObj' _ D (.deferred none)) (fun r e => by cases e; exact ⟨_, hK3, rfl⟩)
      refine ⟨.int .i64 0, ?_, ?_, (hB2.setCell (p := ⟨w.heap.size + 1, 0, none⟩) (by simp) _).trans (belowK_b (w := w) (Nat.le_refl _) _ D _ _ (by omega) hK3 rfl rfl)⟩
      · simp [results, Tryd.f27, go_sem, hc5]
      · rw [Nt.chkP, if_neg (by have := Hcnt.out; omega)]
        clear hc5 hK3 hB2 hK2 hr3 hf3 HW
        simp_all
  case stop =>
    rintro D c pre W hD hpre ⟨⟨rfl, hlen, hcr⟩, hB⟩ hK
    have hbig : 8192 < Nt.cnt T := by
      have := List.IsPrefix.length_le hpre
      rw [List.length_map, hlen] at this
      rw [Nt.cnt]; omega
    gi_wp2
    refine ⟨by simp, .inl ⟨_, _, rfl, run_takeDeferred hK, ?_⟩⟩
    have hc5 := cell_kept hcr (grownBy_putObj' _ D (.deferred none)) (fun r e => by cases e; exact ⟨_, hK, rfl⟩)
    refine ⟨.int .i64 3, ?_, by rw [Nt.chkP, if_pos hbig], hB.trans (belowK_b (w := w) (Nat.le_refl _) W D _ _ (by omega) hK rfl rfl)⟩
    simp [results, Tryd.f27, go_sem, hc5]

theorem pcheck_any (T : Nt.NT) (a : Option Addr) (cap : Nat) (w : World) (hN : Nt.Nd w (· < w.heap.size) T a cap) (hTb : Nt.Tabs w) :
    Calls Tryd.prog 27 #[Nt.ndV T a cap] w fun e w' => e = .returned (.int .i64 (Nt.chkP T)) ∧ Below w.heap.size w w' :=
  callsIn_wide.1 (pcheck_in T a cap w hN hTb)
end Go.Proofs.YtdiokclbdaojpaaDoor
