/- The law TreesChecks: Check, List, Same and Copy answer what the document's own do. -/
import Derived.Test.YtgpheecapbhpkaaDoorFLives
import Derived.Test.YtgpheecapbhpkaaDoorFTList
import Derived.Test.YtgpheecapbhpkaaDoorFKps
import Derived.Test.YtgpheecapbhpkaaDoorTC
import Derived.Deep.RegionHeld3
namespace Go.Proofs.YtgpheecapbhpkaaDoor
open Go Go.RowKit

namespace Ft
/-- The row that Check answers, as a path. -/
theorem chk_strs {T : FT} {base : Nat} {v : Value} {w : World} (h : w.ownsRow base 9 1 v (wrongAt T).length ((wrongAt T).map Value.string)) (hz : ∀ s ∈ wrongAt T, s.size ≤ 1048576) (hl : (wrongAt T).length ≤ 1048576) :
    ∃ a c, v = .slice a (wrongAt T).length c ∧ Strs w a c (wrongAt T) := own_strs h (by omega) (fun s hs => by have := hz s hs; omega)
/-- A path that is wrong is made of the tree's names, and not too long. -/
theorem bel_names (T : FT) : ∀ (p q : List ByteArray), szT T = true → belT T p = some q → (∀ s ∈ p, s.size ≤ 1048576) → p.length ≤ 64 → (∀ s ∈ q, s.size ≤ 1048576) ∧ q.length ≤ 65 := by
  induction T using FT.ind with
  | h T ih =>
  intro p q hz hq hp hpl
  rw [belT_eq] at hq
  have hz2 : szT.szL T.kids = true := by rw [FT.eta T, szT] at hz; exact hz
  have key : ∀ (l : List FT), szT.szL l = true → (∀ i (hi : i < l.length) (p q : List ByteArray), szT (l[i]) = true → belT (l[i]) p = some q → (∀ s ∈ p, s.size ≤ 1048576) → p.length ≤ 64 → (∀ s ∈ q, s.size ≤ 1048576) ∧ q.length ≤ 65) → ∀ b, belT.belL b l p = some q → (∀ s ∈ q, s.size ≤ 1048576) ∧ q.length ≤ 65 := by
    intro l
    induction l with
    | nil => intro _ _ b h; rw [belT.belL] at h; cases h
    | cons x r ihr =>
      intro hl h b hb
      rw [szT.szL] at hl
      simp only [Bool.and_eq_true, decide_eq_true_eq] at hl
      have hp2 : ∀ s ∈ p ++ [x.nm], s.size ≤ 1048576 := fun s hs => by
        rcases List.mem_append.1 hs with hs | hs
        · exact hp s hs
        · rw [List.mem_singleton.1 hs]; exact hl.1.1.1
      rw [belT.belL] at hb
      split at hb
      · cases hb
        exact ⟨hp2, by simp; omega⟩
      · rename_i hbad
        have h64 : p.length + 1 ≤ 64 := by
          simp [badB] at hbad
          omega
        split at hb
        · rename_i q' hk
          cases hb
          exact h 0 (by simp) (p ++ [x.nm]) _ hl.1.2 hk hp2 (by simp; omega)
        · exact ihr hl.2 (fun i hi => h (i + 1) (by simpa using hi)) _ hb
  exact key T.kids hz2 (fun i hi p q => ih i hi p q) none hq
theorem wrong_names {T : FT} (hz : szT T = true) : (∀ s ∈ wrongAt T, s.size ≤ 1048576) ∧ (wrongAt T).length ≤ 65 := by
  unfold wrongAt
  split
  · cases hb : belT T [] with
    | none => exact ⟨fun s h => (by cases h), by simp⟩
    | some q => exact bel_names T [] q hz hb (fun s h => (by cases h)) (by simp)
  · exact ⟨fun s h => (by cases h), by simp⟩
theorem list_len (T : FT) : (listT T []).length = (tdT.tdL [] T.kids).length := by
  rw [listT_eq, ← kp_wk T none [], ← td_wk T none [], List.length_map, List.length_map]
theorem sameP_refl (p : List ByteArray) : sameP p p = true := sameP_iff.2 rfl
theorem FileAt.cells4 {w : World} {g : Nat} {T : FT} {a : Option Addr} {c : Nat} (h : FileAt w g T a c) : w.cell? ⟨g, 0, none⟩ = some (.string T.nm) ∧ w.cell? ⟨g, 1, none⟩ = some (.int .u8 (T.k : Int)) ∧ w.cell? ⟨g, 2, none⟩ = some (.string T.d) ∧ w.cell? ⟨g, 3, none⟩ = some (.slice a T.kids.length c) := by
  obtain ⟨h0, h1, h2, h3⟩ := h.four
  rw [Nat.zero_add] at h1 h2 h3
  exact ⟨h0, h1, h2, h3⟩
end Ft
/-- The two arguments' blocks. -/
structure Tw (w0 w : World) (g : Nat) (T U : Ft.FT) (a b : Option Addr) (c d : Nat) : Prop where
  t : Ft.FileAt w g T a c
  u : Ft.FileAt w (g + 1) U b d
  ft : Ft.Fd w (· < w.heap.size) T a c
  fu : Ft.Fd w (· < w.heap.size) U b d
  bel : Below w0.heap.size w0 w
  tab : TxT w
theorem Tw.under {w0 w w' : World} {g : Nat} {T U : Ft.FT} {a b : Option Addr} {c d : Nat} (h : Tw w0 w g T U a b c d) (hb : Below w.heap.size w w') : Tw w0 w' g T U a b c d :=
  ⟨h.t.under hb, h.u.under hb, h.ft.grew hb hb.size, h.fu.grew hb hb.size, h.bel.trans (hb.mono h.bel.size), h.tab.under hb⟩
theorem bel_drewN (w : World) (n : Nat) : Below w.heap.size w (w.drewN n) := ⟨rfl, rfl, rfl, Nat.le_refl _, fun _ _ => rfl⟩
theorem bel_tr {we V w' : World} (h : Below we.heap.size we V) (h' : Below V.heap.size V w') : Below we.heap.size we w' := h.trans (h'.mono h.size)

set_option maxRecDepth 100000 in
set_option maxHeartbeats 8000000 in
theorem law_tchecks (T U : Ft.FT) (a b : Option Addr) (c d : Nat) (w : World) (TT : TxT w) (hT : Ft.Fd w (· < w.heap.size) T a c) (hU : Ft.Fd w (· < w.heap.size) U b d) (hz : Ft.szT T = true) (hc : (Ft.listT T []).length ≤ 1048576) :
    Calls Tryd.prog 4 #[Ft.fdV T a c, Ft.fdV U b d] w fun e w' => e = .returned (.bool true) ∧ Below w.heap.size w w' := by
  obtain ⟨W1, hW1⟩ : ∃ W1, W1 = (w.alloc (.cells (Ft.fdA T a c) 25)).alloc (.cells (Ft.fdA U b d) 25) := ⟨_, rfl⟩
  have hb1 : Below w.heap.size w W1 := by rw [hW1]; exact ((Below.refl _ _).alloc (Nat.le_refl _) _).alloc (by simp) _
  have HS1 : Hid (Tw w W1 w.heap.size T U a b c d) := by
    refine ⟨by rw [hW1]; exact Ft.FileAt.under (Ft.file_new w T a c) ((Below.refl _ _).alloc (Nat.le_refl _) _), ?_, hT.grew hb1 hb1.size, hU.grew hb1 hb1.size, hb1, TT.under hb1⟩
    rw [hW1]
    have h := Ft.file_new (w.alloc (.cells (Ft.fdA T a c) 25)) U b d
    rw [World.size_alloc] at h
    exact h
  have HW1 : Hid (W1 = (w.alloc (.cells #[.string T.nm, .int .u8 (T.k : Int), .string T.d, .slice a T.kids.length c] 25)).alloc (.cells #[.string U.nm, .int .u8 (U.k : Int), .string U.d, .slice b U.kids.length d] 25)) := hW1
  have HZ : Hid (Ft.szT T = true ∧ (Ft.listT T []).length ≤ 1048576) := ⟨hz, hc⟩
  have C1 := rcopy_any T a c W1 HS1.out.ft
  simp only [Ft.fdV, Ft.fdA] at C1 ⊢
  have HC1 : Hid _ := C1
  clear hW1 hb1 hT hU hz hc TT C1
  go_enter Tryd.func4, Tryd.ntmps4
  go_wp2_with fail
  rw [← HW1.out]
  refine Calls.mono HC1.out ?_
  clear HC1 HW1
  rintro e w2 ⟨a1, c1, rfl, hF2, hb2⟩
  have HS2 : Hid (Tw w w2 w.heap.size T U a b c d) := HS1.out.under hb2
  obtain ⟨W3, hW3⟩ : ∃ W3, W3 = w2.alloc (.cells (Ft.fdA T a1 c1) 25) := ⟨_, rfl⟩
  have hb3 : Below w2.heap.size w2 W3 := by rw [hW3]; exact (Below.refl _ _).alloc (Nat.le_refl _) _
  have HS3 : Hid (Tw w W3 w.heap.size T U a b c d) := HS2.out.under hb3
  have HM3 : Hid (Sm w W3 w2.heap.size T a1 c1) := ⟨by rw [hW3]; exact Ft.file_new w2 T a1 c1, (hF2.mono (fun b h => h.2)).grew hb3 hb3.size, HS3.out.bel, HS3.out.tab⟩
  have HW3 : Hid (W3 = w2.alloc (.cells #[.string T.nm, .int .u8 (T.k : Int), .string T.d, .slice a1 T.kids.length c1] 25)) := hW3
  have C2 := tcheck_any T a1 c1 W3 HM3.out.fd HZ.out.1
  simp only [Ft.fdV, Ft.fdA] at C2
  have HC2 : Hid _ := C2
  clear hF2 hb2 hb3 hW3 C2 HS1 HS2
  obtain ⟨q0, q1, q2, q3⟩ := (HM3.out.at_).four
  obtain ⟨CD, hCD⟩ : ∃ CD : Int, CD = (if Ft.rightT T = true then 0 else 30) := ⟨_, rfl⟩
  have HCD : Hid (CD = (if Ft.rightT T = true then 0 else 30)) := hCD
  have hCb : -9223372036854775808 ≤ CD ∧ CD ≤ 9223372036854775807 := by rw [hCD]; split <;> omega
  obtain ⟨LC, hLC⟩ : ∃ LC : Int, LC = Ft.lstC T := ⟨_, rfl⟩
  have HLC : Hid (LC = Ft.lstC T) := hLC
  have hLb : -9223372036854775808 ≤ LC ∧ LC ≤ 9223372036854775807 := by rw [hLC]; unfold Ft.lstC; split <;> omega
  have HWn : Hid ((∀ s ∈ Ft.wrongAt T, s.size ≤ 1048576) ∧ (Ft.wrongAt T).length ≤ 65) := Ft.wrong_names HZ.out.1
  have HLn : Hid ((Ft.lstR T).length ≤ 1048576) := by
    show _ ≤ _
    unfold Ft.lstR
    split
    · exact HZ.out.2
    · simp
  clear hCD hLC q0 q1 q2 q3
  go_wp2_with fail
  rw [← HW3.out]
  refine Calls.mono HC2.out ?_
  clear HC2 HW3
  rintro e w4 ⟨⟨v1, rfl, ho1⟩, hb4⟩
  obtain ⟨p1, e1, rfl, hs1⟩ := Ft.chk_strs ho1 HWn.out.1 (by have := HWn.out.2; omega)
  rw [← HCD.out]
  have HS4 : Hid (Tw w w4 w.heap.size T U a b c d) := HS3.out.under hb4
  have HM4 : Hid (Sm w w4 w2.heap.size T a1 c1) := HM3.out.under hb4
  have HP4 : Hid _ := hs1
  clear HS3 HM3 ho1 hb4 hs1
  obtain ⟨q0, q1, q2, q3⟩ := (HS4.out.t).four
  have C3 := rcheck_any T a c w4 HS4.out.ft HZ.out.1
  simp only [Ft.fdV, Ft.fdA] at C3
  have HC3 : Hid _ := C3
  clear C3
  go_wp2_with fail
  refine Calls.mono HC3.out ?_
  clear HC3
  rintro e w5 ⟨⟨v2, rfl, ho2⟩, hb5⟩
  obtain ⟨p2, e2, rfl, hs2⟩ := Ft.chk_strs ho2 HWn.out.1 (by have := HWn.out.2; omega)
  rw [← HCD.out]
  have HS5 : Hid (Tw w w5 w.heap.size T U a b c d) := HS4.out.under hb5
  have HM5 : Hid (Sm w w5 w2.heap.size T a1 c1) := HM4.out.under hb5
  have HP5 : Hid (Strs w5 p1 e1 (Ft.wrongAt T) ∧ Strs w5 p2 e2 (Ft.wrongAt T)) := ⟨Strs.below HP4.out hb5, hs2⟩
  clear HS4 HM4 HP4 ho2 hb5 hs2 q0 q1 q2 q3
  obtain ⟨q0, q1, q2, q3⟩ := (HM5.out.at_).four
  have C4 := tlist_any T a1 c1 w5 HM5.out.fd HZ.out.1 HZ.out.2
  simp only [Ft.fdV, Ft.fdA] at C4
  have HC4 : Hid _ := C4
  clear C4
  go_wp2_with fail
  refine Calls.mono HC4.out ?_
  clear HC4
  rintro e w6 ⟨v3, rfl, hK3, hb6⟩
  obtain ⟨x3, e3, rfl, hk3⟩ := hK3.kps HLn.out
  rw [← HLC.out]
  have HS6 : Hid (Tw w w6 w.heap.size T U a b c d) := HS5.out.under hb6
  have HM6 : Hid (Sm w w6 w2.heap.size T a1 c1) := HM5.out.under hb6
  have HP6 : Hid (Strs w6 p1 e1 (Ft.wrongAt T) ∧ Strs w6 p2 e2 (Ft.wrongAt T) ∧ Ft.Kps w6 x3 e3 (Ft.lstR T)) := ⟨HP5.out.1.below hb6, HP5.out.2.below hb6, hk3⟩
  clear HS5 HM5 HP5 hK3 hb6 hk3 q0 q1 q2 q3
  obtain ⟨q0, q1, q2, q3⟩ := (HS6.out.t).four
  have C5 := rlist_any T a c w6 HS6.out.ft HZ.out.1 HZ.out.2
  simp only [Ft.fdV, Ft.fdA] at C5
  have HC5 : Hid _ := C5
  clear C5
  go_wp2_with fail
  refine Calls.mono HC5.out ?_
  clear HC5
  rintro e we ⟨v4, rfl, hK4, hb7⟩
  obtain ⟨x4, e4, rfl, hk4⟩ := hK4.kps HLn.out
  rw [← HLC.out]
  have HSe : Hid (Tw w we w.heap.size T U a b c d) := HS6.out.under hb7
  have HMe : Hid (Sm w we w2.heap.size T a1 c1) := HM6.out.under hb7
  have HPe : Hid (Strs we p1 e1 (Ft.wrongAt T) ∧ Strs we p2 e2 (Ft.wrongAt T) ∧ Ft.Kps we x3 e3 (Ft.lstR T) ∧ Ft.Kps we x4 e4 (Ft.lstR T)) := ⟨HP6.out.1.below hb7, HP6.out.2.1.below hb7, HP6.out.2.2.below hb7, hk4⟩
  clear HS6 HM6 HP6 hK4 hb7 hk4 q0 q1 q2 q3
  go_upto_region 6 with fail
  have HL : Hid (∀ V, Below we.heap.size we V → Calls Tryd.prog 8 #[] V fun e w' => e = .returned (.bool true) ∧ Below we.heap.size we w') := fun V hV => (tlives_any V (HSe.out.tab.under hV)).mono fun e w' h => ⟨h.1, bel_tr hV h.2⟩
  have HQ : Hid (∀ V, Below we.heap.size we V → Calls Tryd.prog 17 #[.slice p1 (Ft.wrongAt T).length e1, .slice p2 (Ft.wrongAt T).length e2] V fun e w' => e = .returned (.bool true) ∧ Below we.heap.size we w') := fun V hV => (rpaths_any p1 p2 e1 e2 (Ft.wrongAt T) (Ft.wrongAt T) V (HPe.out.1.below hV) (HPe.out.2.1.below hV)).mono fun e w' h => ⟨by rw [h.1, Ft.sameP_refl], by obtain ⟨n, rfl⟩ := h.2; exact bel_tr hV (bel_drewN V n)⟩
  have HK : Hid (∀ V, Below we.heap.size we V → Calls Tryd.prog 18 #[.slice x3 (Ft.lstR T).length e3, .slice x4 (Ft.lstR T).length e4] V fun e w' => e = .returned (.bool true) ∧ Below we.heap.size we w') := fun V hV => (kept_any x3 x4 e3 e4 (Ft.lstR T) V (HPe.out.2.2.1.below hV) (HPe.out.2.2.2.below hV)).mono fun e w' h => ⟨h.1, by obtain ⟨n, rfl⟩ := h.2; exact bel_tr hV (bel_drewN V n)⟩
  have HS1 : Hid (∀ V, Below we.heap.size we V → Calls Tryd.prog 19 #[.agg #[.string T.nm, .int .u8 (T.k : Int), .string T.d, .slice a1 T.kids.length c1], .agg #[.string U.nm, .int .u8 (U.k : Int), .string U.d, .slice b U.kids.length d]] V fun e w' => e = .returned (.bool (Ft.sameT T U)) ∧ Below we.heap.size we w') := fun V hV => (tsame_any T U a1 b c1 d V (HMe.out.under hV).fd (HSe.out.under hV).fu).mono fun e w' h => ⟨h.1, bel_tr hV h.2⟩
  have HS2 : Hid (∀ V, Below we.heap.size we V → Calls Tryd.prog 12 #[.agg #[.string T.nm, .int .u8 (T.k : Int), .string T.d, .slice a T.kids.length c], .agg #[.string U.nm, .int .u8 (U.k : Int), .string U.d, .slice b U.kids.length d]] V fun e w' => e = .returned (.bool (Ft.sameT T U)) ∧ Below we.heap.size we w') := fun V hV => (rsame_any T U a b c d V (HSe.out.under hV).ft (HSe.out.under hV).fu).mono fun e w' h => ⟨h.1, bel_tr hV h.2⟩
  have HS3 : Hid (∀ V, Below we.heap.size we V → Calls Tryd.prog 19 #[.agg #[.string T.nm, .int .u8 (T.k : Int), .string T.d, .slice a T.kids.length c], .agg #[.string T.nm, .int .u8 (T.k : Int), .string T.d, .slice a T.kids.length c]] V fun e w' => e = .returned (.bool true) ∧ Below we.heap.size we w') := fun V hV => (tsame_any T T a a c c V (HSe.out.under hV).ft (HSe.out.under hV).ft).mono fun e w' h => ⟨by rw [h.1, Ft.sameT_refl], bel_tr hV h.2⟩
  have HCp : Hid (∀ V, Below we.heap.size we V → Calls Tryd.prog 20 #[.agg #[.string T.nm, .int .u8 (T.k : Int), .string T.d, .slice a1 T.kids.length c1]] V fun e w' => ∃ a5 c5, e = .returned (.agg #[.string T.nm, .int .u8 (T.k : Int), .string T.d, .slice a5 T.kids.length c5]) ∧ Hid (Ft.Fd w' (· < w'.heap.size) T a5 c5) ∧ Below we.heap.size we w') := fun V hV => (tcopy_any T a1 c1 V (HMe.out.under hV).fd).mono fun e w' ⟨a5, c5, h1, h2, h3⟩ => ⟨a5, c5, h1, h2.mono (fun b h => h.2), bel_tr hV h3⟩
  have HS4 : Hid (∀ V a5 c5, Below we.heap.size we V → Ft.Fd V (· < V.heap.size) T a5 c5 → Calls Tryd.prog 12 #[.agg #[.string T.nm, .int .u8 (T.k : Int), .string T.d, .slice a5 T.kids.length c5], .agg #[.string T.nm, .int .u8 (T.k : Int), .string T.d, .slice a T.kids.length c]] V fun e w' => e = .returned (.bool true) ∧ Below we.heap.size we w') := fun V a5 c5 hV hF => (rsame_any T T a5 a c5 c V hF (HSe.out.under hV).ft).mono fun e w' h => ⟨by rw [h.1, Ft.sameT_refl], bel_tr hV h.2⟩
  have HS5 : Hid (∀ V, Below we.heap.size we V → Calls Tryd.prog 12 #[.agg #[.string T.nm, .int .u8 (T.k : Int), .string T.d, .slice a1 T.kids.length c1], .agg #[.string T.nm, .int .u8 (T.k : Int), .string T.d, .slice a T.kids.length c]] V fun e w' => e = .returned (.bool true) ∧ Below we.heap.size we w') := fun V hV => (rsame_any T T a1 a c1 c V (HMe.out.under hV).fd (HSe.out.under hV).ft).mono fun e w' h => ⟨by rw [h.1, Ft.sameT_refl], bel_tr hV h.2⟩
  have HF : Hid (∀ V, Below we.heap.size we V → Below w.heap.size w V) := fun V hV => HSe.out.bel.trans (hV.mono HSe.out.bel.size)
  generalize Ft.sameT T U = SB at *
  generalize hpr : (Ft.wrongAt T).length = PL at *
  have hPL : PL ≤ 65 := HWn.out.2
  clear hpr
  generalize hkr : (Ft.lstR T).length = KL at *
  have hKL : KL ≤ 1048576 := HLn.out
  clear hkr
  generalize hg0 : w.heap.size = g at *
  have HG : Hid (w.heap.size = g) := hg0
  clear hg0
  generalize w2.heap.size = i at *
  have HS : Hid (∀ h, g + 1 = h → ∀ V, Below we.heap.size we V → Below we.heap.size we V ∧ (V.cell? ⟨g, 0, none⟩ = some (.string T.nm) ∧ V.cell? ⟨g, 1, none⟩ = some (.int .u8 (T.k : Int)) ∧ V.cell? ⟨g, 2, none⟩ = some (.string T.d) ∧ V.cell? ⟨g, 3, none⟩ = some (.slice a T.kids.length c)) ∧ (V.cell? ⟨h, 0, none⟩ = some (.string U.nm) ∧ V.cell? ⟨h, 1, none⟩ = some (.int .u8 (U.k : Int)) ∧ V.cell? ⟨h, 2, none⟩ = some (.string U.d) ∧ V.cell? ⟨h, 3, none⟩ = some (.slice b U.kids.length d)) ∧ (V.cell? ⟨i, 0, none⟩ = some (.string T.nm) ∧ V.cell? ⟨i, 1, none⟩ = some (.int .u8 (T.k : Int)) ∧ V.cell? ⟨i, 2, none⟩ = some (.string T.d) ∧ V.cell? ⟨i, 3, none⟩ = some (.slice a1 T.kids.length c1))) := fun h hh V hV => by subst hh; exact ⟨hV, (HSe.out.under hV).t.cells4, (HSe.out.under hV).u.cells4, (HMe.out.under hV).at_.cells4⟩
  generalize hh0 : g + 1 = h at *
  have HSh : Hid (∀ V, Below we.heap.size we V → Below we.heap.size we V ∧ (V.cell? ⟨g, 0, none⟩ = some (.string T.nm) ∧ V.cell? ⟨g, 1, none⟩ = some (.int .u8 (T.k : Int)) ∧ V.cell? ⟨g, 2, none⟩ = some (.string T.d) ∧ V.cell? ⟨g, 3, none⟩ = some (.slice a T.kids.length c)) ∧ (V.cell? ⟨h, 0, none⟩ = some (.string U.nm) ∧ V.cell? ⟨h, 1, none⟩ = some (.int .u8 (U.k : Int)) ∧ V.cell? ⟨h, 2, none⟩ = some (.string U.d) ∧ V.cell? ⟨h, 3, none⟩ = some (.slice b U.kids.length d)) ∧ (V.cell? ⟨i, 0, none⟩ = some (.string T.nm) ∧ V.cell? ⟨i, 1, none⟩ = some (.int .u8 (T.k : Int)) ∧ V.cell? ⟨i, 2, none⟩ = some (.string T.d) ∧ V.cell? ⟨i, 3, none⟩ = some (.slice a1 T.kids.length c1))) := HS.out h rfl
  clear hh0 HS
  have b0 : Below we.heap.size we we.drew := (Below.refl _ we).drew
  have s0 := HSh.out we.drew b0
  clear HSe HMe HPe HCD HLC HWn HLn HZ
  go_region_held3 (fun w' => Below we.heap.size we w' ∧ (w'.cell? ⟨g, 0, none⟩ = some (.string T.nm) ∧ w'.cell? ⟨g, 1, none⟩ = some (.int .u8 (T.k : Int)) ∧ w'.cell? ⟨g, 2, none⟩ = some (.string T.d) ∧ w'.cell? ⟨g, 3, none⟩ = some (.slice a T.kids.length c)) ∧ (w'.cell? ⟨h, 0, none⟩ = some (.string U.nm) ∧ w'.cell? ⟨h, 1, none⟩ = some (.int .u8 (U.k : Int)) ∧ w'.cell? ⟨h, 2, none⟩ = some (.string U.d) ∧ w'.cell? ⟨h, 3, none⟩ = some (.slice b U.kids.length d)) ∧ (w'.cell? ⟨i, 0, none⟩ = some (.string T.nm) ∧ w'.cell? ⟨i, 1, none⟩ = some (.int .u8 (T.k : Int)) ∧ w'.cell? ⟨i, 2, none⟩ = some (.string T.d) ∧ w'.cell? ⟨i, 3, none⟩ = some (.slice a1 T.kids.length c1))) ((first | exact s0 | exact HSh.out _ l9)) (first
    | (go_at_call 8; refine Calls.mono (HL.out _ (by first | exact l9 | exact b0)) ?_; rintro e wn ⟨rfl, l9⟩)
    | (go_at_call 17; refine Calls.mono (HQ.out _ (by first | exact l9 | exact b0)) ?_; rintro e wn ⟨rfl, l9⟩)
    | (go_at_call 18; refine Calls.mono (HK.out _ (by first | exact l9 | exact b0)) ?_; rintro e wn ⟨rfl, l9⟩)
    | (go_at_call 20; refine Calls.mono (HCp.out _ (by first | exact l9 | exact b0)) ?_; rintro e wn ⟨a5, c5, rfl, f5, l9⟩)
    | (go_at_call_of 19 (b); refine Calls.mono (HS1.out _ (by first | exact l9 | exact b0)) ?_; rintro e wn ⟨rfl, l9⟩)
    | (go_at_call 19; refine Calls.mono (HS3.out _ (by first | exact l9 | exact b0)) ?_; rintro e wn ⟨rfl, l9⟩)
    | (go_at_call_of 12 (b); refine Calls.mono (HS2.out _ (by first | exact l9 | exact b0)) ?_; rintro e wn ⟨rfl, l9⟩)
    | (go_at_call_of 12 (a1); refine Calls.mono (HS5.out _ (by first | exact l9 | exact b0)) ?_; rintro e wn ⟨rfl, l9⟩)
    | (go_at_call 12; refine Calls.mono (HS4.out _ _ _ (by first | exact l9 | exact b0) f5.out) ?_; rintro e wn ⟨rfl, l9⟩))
  all_goals
    go_wp2_with fail
    go_ret
    exact ⟨by simp, by rw [HG.out]; exact HF.out _ l9⟩
end Go.Proofs.YtgpheecapbhpkaaDoor
