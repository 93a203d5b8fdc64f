/- What (*reading).options does: all arguments ahead of the operands. -/
import Derived.Test.YtklcfjakhabbgaaArOo
import Derived.Deep.LoopGhost
namespace Go.Proofs.Ytklcfjakhabbgaa
open Go.RowKit

namespace Ar
theorem dov_len (k : Nat) (v : ByteArray) (x : Av) : (dov k v x).2.sc.length ≤ x.sc.length + 1 ∧ (dov k v x).2.nm = x.nm := by
  unfold dov
  split <;> simp
/-- Where an option leaves the reading. -/
def Fine (L : List ByteArray) (a : Nat) (x : Av) (y : Bool × Nat × Av) : Prop := a ≤ y.2.1 ∧ y.2.2.sc.length ≤ x.sc.length + 1 ∧ y.2.2.nm = x.nm ∧ (y.1 = true → y.2.1 < L.length)
theorem letters_fine (L : List ByteArray) : ∀ (l : List UInt8) (a : Nat) (x : Av), a < L.length → Fine L a x (lettersF L l a x)
  | [], a, x, h => ⟨Nat.le_refl _, Nat.le_succ _, rfl, fun _ => h⟩
  | c :: r, a, x, h => by
    rw [lettersF]
    split
    · exact ⟨Nat.le_refl _, Nat.le_succ _, rfl, fun q => nomatch q⟩
    · split
      · rename_i h3
        have e : (dov (idxC c) (bs []) x).2.sc = x.sc ∧ (dov (idxC c) (bs []) x).2.nm = x.nm := by
          generalize idxC c = k at *
          match k, h3 with
          | 0, _ => exact ⟨rfl, rfl⟩
          | 1, _ => exact ⟨rfl, rfl⟩
          | 2, _ => exact ⟨rfl, rfl⟩
        obtain ⟨f1, f2, f3, f4⟩ := letters_fine L r a (dov (idxC c) (bs []) x).2 h
        exact ⟨f1, by rw [e.1] at f2; exact f2, f3.trans e.2, f4⟩
      · split
        · split
          · rename_i h4
            exact ⟨Nat.le_succ _, (dov_len _ _ _).1, (dov_len _ _ _).2, fun _ => h4⟩
          · exact ⟨Nat.le_succ _, Nat.le_succ _, rfl, fun q => nomatch q⟩
        · exact ⟨Nat.le_refl _, (dov_len _ _ _).1, (dov_len _ _ _).2, fun _ => h⟩
theorem long_fine (L : List ByteArray) (l : List UInt8) (a : Nat) (x : Av) (h : a < L.length) : Fine L a x (longF l a x) := by
  unfold longF
  dsimp only
  split
  · exact ⟨Nat.le_refl _, Nat.le_succ _, rfl, fun q => nomatch q⟩
  · split
    · exact ⟨Nat.le_refl _, Nat.le_succ _, rfl, fun q => nomatch q⟩
    · exact ⟨Nat.le_refl _, (dov_len _ _ _).1, (dov_len _ _ _).2, fun _ => h⟩
theorem option_fine (L : List ByteArray) (l : List UInt8) (a : Nat) (x : Av) (h : a < L.length) : Fine L a x (optionF L l a x) := by
  unfold optionF
  split
  · exact long_fine L _ a x h
  · exact letters_fine L _ a x h
theorem opts_fine (L : List ByteArray) : ∀ (n a : Nat) (x : Av), a ≤ L.length → x.sc.length ≤ a → x.nm = [] → (optsF L n a x).2.2.sc.length ≤ L.length ∧ (optsF L n a x).2.2.nm = [] ∧ ((optsF L n a x).1 = true → (optsF L n a x).2.1 ≤ L.length)
  | 0, a, x, h, h1, h2 => ⟨Nat.le_trans h1 h, h2, fun _ => h⟩
  | n + 1, a, x, h, h1, h2 => by
    rw [optsF]
    split
    · exact ⟨Nat.le_trans h1 h, h2, fun _ => h⟩
    · dsimp only
      split
      · exact ⟨Nat.le_trans h1 h, h2, fun _ => by show a + 1 ≤ _; omega⟩
      · split
        · exact ⟨Nat.le_trans h1 h, h2, fun _ => h⟩
        · obtain ⟨f1, f2, f3, f4⟩ := option_fine L (List.drop 1 (L.getD a (bs [])).data.toList) a x (by omega)
          generalize optionF L (List.drop 1 (L.getD a (bs [])).data.toList) a x = y at *
          split
          · rename_i h5
            exact opts_fine L n (y.2.1 + 1) y.2.2 (f4 h5) (by omega) (f3.trans h2)
          · exact ⟨by show y.2.2.sc.length ≤ _; omega, f3.trans h2, fun q => nomatch q⟩
end Ar
set_option maxRecDepth 100000 in
set_option maxHeartbeats 1000000 in
theorem optsL_any {w0 W : World} {n0 g B : Nat} {al : Option Addr} {cl : Nat} {L : List ByteArray} {x : Ar.Av} {vs vn : Value} (h : RdM w0 n0 g B al cl L 0 x vs vn W) (hx : x.sc = []) (hz : ∀ i (hi : i < L.length), (L[i]'hi).size ≤ 2097152) (hm : ∃ m, w0.cell? ⟨0, 0, none⟩ = some (.int .i64 m)) (hg0 : 0 < n0) :
    Calls Try.prog 24 #[.pointer (some ⟨g, 0, none⟩)] W fun e w' => e = .returned (.bool (Ar.optsF L L.length 0 x).1) ∧ ∃ vs', RdM w0 n0 g B al cl L (Ar.optsF L L.length 0 x).2.1 (Ar.optsF L L.length 0 x).2.2 vs' vn w' := by
  obtain ⟨Y, hY⟩ : ∃ Y, Y = Ar.optsF L L.length 0 x := ⟨_, rfl⟩
  have HY : Hid _ := hY
  rw [← hY]
  clear hY
  have hLl := h.len
  have HZ : Hid _ := hz
  have HG : Hid _ := hg0
  have HMX : Hid _ := hm
  have HH : Hid _ := h
  clear h hz hm hg0
  go_enter Try.func24, Try.ntmps24
  go_wp2_with fail
  go_loopg [] L.length (fun n wr => ∃ (a1 : Nat) (x1 : Ar.Av) (vs1 : Value), L.length ≤ a1 + n ∧ a1 ≤ L.length ∧ x1.sc.length ≤ a1 ∧ Hid (Y = Ar.optsF L n a1 x1) ∧ Hid (RdM w0 n0 g B al cl L a1 x1 vs1 vn wr))
  case atStart => exact ⟨0, x, vs, by omega, Nat.zero_le _, by rw [hx]; exact Nat.le_refl _, HY, HH⟩
  case round =>
    clear HY HH hx
    obtain ⟨a1, x1, vs1, hn, ha, hsc, HE, HR⟩ := hrel
    have g0 : wr.cell? ⟨g, 0, none⟩ = some (.slice al L.length cl) := HR.out.cell 0
    have g1 : wr.cell? ⟨g, 1, none⟩ = some (.int .i64 (a1 : Int)) := HR.out.cell 1
    by_cases hlt : a1 < L.length
    · have hd : decide ((a1 : Int) < (L.length : Int)) = true := decide_eq_true (by omega)
      obtain ⟨m, rfl⟩ : ∃ m, gk = m + 1 := ⟨gk - 1, by omega⟩
      obtain ⟨bb, off, rfl, hbb, d0⟩ := HR.out.ar.cells a1 hlt
      have hlz := HZ.out a1 hlt
      have HV : Hid (L.getD a1 (Ar.bs []) = L[a1]'hlt) := by show _ = _; rw [List.getD_eq_getElem?_getD, List.getElem?_eq_getElem hlt]; rfl
      generalize L[a1]'hlt = v at *
      have HE2 : Hid (Y = if v.data.toList = [45, 45] then (true, a1 + 1, x1) else if v.data.toList.head? ≠ some 45 ∨ v.data.toList = [45] then (true, a1, x1) else if (Ar.optionF L (v.data.toList.drop 1) a1 x1).1 then Ar.optsF L m ((Ar.optionF L (v.data.toList.drop 1) a1 x1).2.1 + 1) (Ar.optionF L (v.data.toList.drop 1) a1 x1).2.2 else (false, (Ar.optionF L (v.data.toList.drop 1) a1 x1).2.1, (Ar.optionF L (v.data.toList.drop 1) a1 x1).2.2)) := by
        show _ = _
        rw [HE.out, Ar.optsF, if_neg (by omega)]
        dsimp only
        rw [HV.out]
      clear HE HV
      have HRs : Hid (∀ V : World, RdM w0 n0 g B (some ⟨bb, off, none⟩) cl L a1 x1 vs1 vn V → RdM w0 n0 g B (some ⟨bb, off, none⟩) cl L (a1 + 1) x1 vs1 vn (V.setCell ⟨g, 1, none⟩ (.int .i64 ((a1 : Int) + 1)))) := fun V hV => hV.set 1 _ (at2 := a1 + 1) (x2 := x1) rfl rfl rfl
      have hw : IntKind.i64.wrap ((a1 : Int) + 1) = (a1 : Int) + 1 := by rw [IntKind.wrap_i64]; omega
      by_cases q1 : v.data.toList = [45, 45]
      · have hq : (v.toList == [45, 45]) = true := by rw [Lib.toList_data, q1]; rfl
        have HY2 : Hid (Y = (true, a1 + 1, x1)) := by show _ = _; rw [HE2.out, if_pos q1]
        have f1 := HR.out.free 1
        clear HE2 q1
        go_wp2_with fail
        go_quiet (fail)
        go_wp2_with fail
        go_quiet (fail)
        go_wp2_with fail
        go_ret
        exact ⟨ret_bool (by rw [HY2.out]), vs1, by rw [HY2.out]; exact HRs.out _ (by first | exact HR.out.still (drewN_below _ _) | exact (HR.out.still (drewN_below _ _)).still (drewN_below _ _))⟩
      · have hq : (v.toList == [45, 45]) = false := by rw [Lib.toList_data, beq_eq_false_iff_ne]; exact q1
        have HC : Hid (∀ V, Calls Try.prog 41 #[.string v, .string ⟨#[45]⟩] V fun e w' => e = .returned (.tuple #[.string (Ar.bs (Ar.dashR v.data.toList)), .bool (Ar.dashB v.data.toList)]) ∧ w' = V) := fun V => cutP_any v V
        have hz := dashR_size v
        by_cases q2 : v.data.toList.head? ≠ some 45 ∨ v.data.toList = [45]
        · have HY2 : Hid (Y = (true, a1, x1)) := by show _ = _; rw [HE2.out, if_neg q1, if_pos q2]
          clear HE2
          cases hd2 : Ar.dashB v.data.toList
          · rw [hd2] at HC
            generalize Ar.dashR v.data.toList = R at *
            clear hd2 q1 q2
            go_wp2_with fail
            go_quiet (fail)
            go_wp2_with fail
            go_quiet (fail)
            go_wp2_with fail
            refine Calls.mono (HC.out _) ?_
            rintro e w1 ⟨rfl, rfl⟩
            go_wp2_with fail
            go_ret
            exact ⟨ret_bool (by rw [HY2.out]), vs1, by rw [HY2.out]; exact (by first | exact HR.out.still (drewN_below _ _) | exact (HR.out.still (drewN_below _ _)).still (drewN_below _ _))⟩
          · rw [hd2] at HC
            have hem : (Ar.bs (Ar.dashR v.data.toList)).toList.isEmpty = true := by
              have hh : v.data.toList.head? = some 45 := by simpa [Ar.dashB] using hd2
              have hv : v.data.toList = [45] := q2.resolve_left (fun q => q hh)
              rw [Lib.toList_data, Ar.data_bs]
              unfold Ar.dashR
              rw [hd2, hv]; rfl
            generalize Ar.dashR v.data.toList = R at *
            clear hd2 q1 q2
            go_wp2_with fail
            go_quiet (fail)
            go_wp2_with fail
            go_quiet (fail)
            go_wp2_with fail
            refine Calls.mono (HC.out _) ?_
            rintro e w1 ⟨rfl, rfl⟩
            go_wp2_with fail
            go_ret
            exact ⟨ret_bool (by rw [HY2.out]), vs1, by rw [HY2.out]; exact (by first | exact HR.out.still (drewN_below _ _) | exact (HR.out.still (drewN_below _ _)).still (drewN_below _ _))⟩
        · have hh : v.data.toList.head? = some 45 := Decidable.not_not.1 (fun q => q2 (Or.inl q))
          have hd2 : Ar.dashB v.data.toList = true := by simpa [Ar.dashB] using hh
          have hR : Ar.dashR v.data.toList = v.data.toList.drop 1 := by unfold Ar.dashR; rw [hd2]; rfl
          have hem : (Ar.bs (Ar.dashR v.data.toList)).toList.isEmpty = false := by
            rw [Lib.toList_data, Ar.data_bs, hR]
            cases hl : v.data.toList with
            | nil => rw [hl] at hh; exact nomatch hh
            | cons c r =>
              cases r with
              | nil => rw [hl] at hh; exact absurd (Or.inr (by rw [hl, Option.some.inj hh])) q2
              | cons d t => rfl
          rw [hd2] at HC
          rw [if_neg q1, if_neg q2, ← hR] at HE2
          have HO : Hid (∀ V : World, RdM w0 n0 g B (some ⟨bb, off, none⟩) cl L a1 x1 vs1 vn V → Calls Try.prog 42 #[.pointer (some ⟨g, 0, none⟩), .string (Ar.bs (Ar.dashR v.data.toList))] V fun e w' => e = .returned (.bool (Ar.optionF L (Ar.dashR v.data.toList) a1 x1).1) ∧ ∃ vs', RdM w0 n0 g B (some ⟨bb, off, none⟩) cl L (Ar.optionF L (Ar.dashR v.data.toList) a1 x1).2.1 (Ar.optionF L (Ar.dashR v.data.toList) a1 x1).2.2 vs' vn w') := fun V hV => option_any hV (Ar.bs (Ar.dashR v.data.toList)) (by omega) hlt (by omega) HMX.out HG.out
          obtain ⟨f1, f2, f3, f4⟩ := Ar.option_fine L (Ar.dashR v.data.toList) a1 x1 hlt
          generalize Ar.optionF L (Ar.dashR v.data.toList) a1 x1 = y at *
          generalize Ar.dashR v.data.toList = R at *
          obtain ⟨b, a2, x2⟩ := y
          clear hh hd2 hR q1 q2
          dsimp only at *
          go_wp2_with fail
          go_quiet (fail)
          go_wp2_with fail
          go_quiet (fail)
          go_wp2_with fail
          refine Calls.mono (HC.out _) ?_
          rintro e w1 ⟨rfl, rfl⟩
          go_wp2_with fail
          refine Calls.mono (HO.out _ (by first | exact HR.out.still (drewN_below _ _) | exact (HR.out.still (drewN_below _ _)).still (drewN_below _ _))) ?_
          rintro e w3 ⟨rfl, vs2, hr2⟩
          have HR3 : Hid _ := hr2
          clear hr2
          cases b
          · have HY2 : Hid (Y = (false, a2, x2)) := HE2.out
            clear HE2
            go_wp2_with fail
            go_ret
            exact ⟨ret_bool (by rw [HY2.out]), vs2, by rw [HY2.out]; exact HR3.out⟩
          · have HY2 : Hid (Y = Ar.optsF L m (a2 + 1) x2) := HE2.out
            have h4 := f4 rfl
            have g3 : w3.cell? ⟨g, 1, none⟩ = some (.int .i64 (a2 : Int)) := HR3.out.cell 1
            have f3' := HR3.out.free 1
            have hw2 : IntKind.i64.wrap ((a2 : Int) + 1) = (a2 : Int) + 1 := by rw [IntKind.wrap_i64]; omega
            clear HE2 HRs
            go_wp2_with fail
            go_roundg m
            case measure => omega
            case rel => exact ⟨a2 + 1, x2, vs2, by omega, by omega, by omega, HY2, HR3.out.set 1 _ (at2 := a2 + 1) (x2 := x2) rfl rfl rfl⟩
    · have HY2 : Hid (Y = (true, a1, x1)) := by
        show _ = _
        rw [HE.out]
        cases gk with
        | zero => rfl
        | succ m => rw [Ar.optsF, if_pos (by omega)]
      clear HE
      have hd : decide ((a1 : Int) < (L.length : Int)) = false := decide_eq_false (by omega)
      go_wp2_with fail
      go_quiet (fail)
      go_wp2_with fail
      go_ret
      exact ⟨ret_bool (by rw [HY2.out]), vs1, by rw [HY2.out]; exact HR.out.still (drewN_below _ _)⟩
end Go.Proofs.Ytklcfjakhabbgaa
