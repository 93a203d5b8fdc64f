/- LinesBack answers true for every text and every list of lines that are not too long: the walk of the law over its callees' contracts. -/
import Derived.Test.YtmbpebdceaihaaaDoorLLives
namespace Go.Proofs.YtmbpebdceaihaaaDoor
open Go.RowKit

namespace Ln
theorem first_none : ∀ {l p : List UInt8}, (firstP p l).2.2 = false → ∀ c ∈ l, (c == 10) = false
  | [], _, _, c, hc => by cases hc
  | x :: r, p, h, c, hc => by
    cases hx : (x == 10)
    · rw [first_other hx] at h
      rcases List.mem_cons.1 hc with rfl | hc
      · exact hx
      · exact first_none h c hc
    · have : x = 10 := by simpa using hx
      subst this
      rw [first_lf] at h
      cases h
theorem spl_line {a b : List UInt8} (h : ∀ c ∈ a, (c == 10) = false) : spl (a ++ 10 :: b) = (a, true) :: spl b := by
  induction a with
  | nil => exact spl_lf b
  | cons x r ih =>
    rw [List.cons_append, spl_other (h x (by simp)), ih (fun c hc => h c (by simp [hc]))]
    rfl
theorem spl_rest {a : List UInt8} (h : ∀ c ∈ a, (c == 10) = false) (h0 : a ≠ []) : spl a = [(a, false)] := by
  induction a with
  | nil => exact absurd rfl h0
  | cons x r ih =>
    rw [spl_other (h x (by simp))]
    by_cases hr : r = []
    · subst hr; rfl
    · rw [ih (fun c hc => h c (by simp [hc])) hr]; rfl
/-- Lines that may be. -/
def okL : List (ByteArray × Bool) → Bool
  | [] => true
  | x :: r => !(firstP [] x.1.data.toList).2.2 && (x.2 || (!(x.1.toList == []) && r.isEmpty)) && okL r
theorem spl_join : ∀ {l : List (ByteArray × Bool)}, okL l = true → (spl (joinL l)).map lnB = l
  | [], _ => rfl
  | (x, true) :: r, h => by
    simp only [okL, Bool.and_eq_true, Bool.not_eq_true'] at h
    have e : joinL ((x, true) :: r) = x.data.toList ++ 10 :: joinL r := by simp [joinL]
    rw [e, spl_line (first_none h.1.1), List.map_cons, spl_join h.2]
    simp [lnB, bs_data]
  | (x, false) :: r, h => by
    simp only [okL, Bool.and_eq_true, Bool.not_eq_true', Bool.false_or, List.isEmpty_iff] at h
    obtain ⟨⟨h1, h2, rfl⟩, _⟩ := h
    have e : joinL [(x, false)] = x.data.toList := by simp [joinL]
    have h0 : x.data.toList ≠ [] := by rw [← toL]; intro e; rw [e] at h2; cases h2
    rw [e, spl_rest (first_none h1) h0]
    simp [lnB, bs_data]
theorem splB_join {l : List (ByteArray × Bool)} (h : okL l = true) : splB (bs (joinL l)) = l := spl_join h
theorem okL_step {l : List (ByteArray × Bool)} {k : Nat} (hk : k < l.length) (h1 : (firstP [] (l[k]'hk).1.data.toList).2.2 = false) (h2 : (l[k]'hk).2 = true) : okL (l.drop k) = okL (l.drop (k + 1)) := by
  rw [List.drop_eq_getElem_cons hk, okL, h1, h2]; rfl
theorem okL_last {l : List (ByteArray × Bool)} {k : Nat} (hk : k < l.length) (h1 : (firstP [] (l[k]'hk).1.data.toList).2.2 = false) (h2 : ((l[k]'hk).1.toList == []) = false) (h3 : k + 1 = l.length) : okL (l.drop k) = okL (l.drop (k + 1)) := by
  have e : l.drop (k + 1) = [] := List.drop_eq_nil_of_le (by omega)
  rw [List.drop_eq_getElem_cons hk, okL, h1, h2, e]
  cases (l[k]'hk).2 <;> rfl
end Ln

set_option maxHeartbeats 2000000 in
theorem lawBack_any (s : ByteArray) (al : Option Addr) (cl : Nat) (l : List (ByteArray × Bool)) (w : World) (T : Tabs w) (hs : s.size ≤ 1048576) (hl : Lns w al cl l) (ht : Ln.tot l ≤ 1048576) :
    Calls Tryd.prog 5 #[.string s, .slice al l.length cl] w fun e w' => e = .returned (.bool true) ∧ Below w.heap.size w w' := by
  have ll := hl.len
  have hB : Below w.heap.size w w := Below.refl _ _
  have T2 := T.size
  have hn := Ln.splB_len s
  have hm := Ln.splB_tot s
  have HM : Hid (∀ x ∈ Ln.splB s, x.1.size ≤ 4194304) := fun x hx => Nat.le_trans (Ln.splB_mem s x hx) (by omega)
  have HJ : Hid (Ln.bs (Ln.joinL (Ln.splB s)) = s) := by
    show _ = _; rw [Ln.splB, Ln.join_spl, Ln.bs_data]
  obtain ⟨S, hS⟩ : ∃ S, Ln.splB s = S := ⟨_, rfl⟩
  rw [hS] at hn HM hm HJ
  have HS : Hid (Ln.splB s = S) := hS
  clear hS
  go_enter Tryd.func5, Tryd.ntmps5
  go_wp2_with fail
  refine (lives_any _ T).mono ?_
  rintro e w3 ⟨rfl, hb⟩
  replace T := T.below T.size hb; replace hl := hl.below hb; replace hB := hB.trans (hb.mono hB.size); clear hb
  go_wp2_with fail
  refine (split_any s _ (by omega)).mono ?_
  rw [HS.out]
  rintro e w4 ⟨v4, rfl, hown, hb⟩
  obtain ⟨a4, c4, rfl, s4⟩ := own_lns hown (by omega) HM.out
  replace T := T.below T.size hb; replace hl := hl.below hb; replace hB := hB.trans (hb.mono hB.size); clear hb hown
  go_wp2_with fail
  refine (ljoin_any _ _ S _ s4 (by omega)).mono ?_
  rw [HJ.out]
  rintro e w5 ⟨rfl, hb⟩
  replace T := T.below T.size hb; replace hl := hl.below hb; replace hB := hB.trans (hb.mono hB.size); clear hb s4
  go_wp2_with fail
  go_loopw [21] (fun i wr => ∃ k : Nat, k ≤ l.length ∧ i = .int .i64 k ∧ Hid (Ln.okL l = Ln.okL (l.drop k)) ∧ Below w5.heap.size w5 wr) (fun i _ => l.length - (intOf i).toNat)
  case atStart => exact ⟨0, Nat.zero_le _, rfl, rfl, Below.refl _ _⟩
  case round =>
    obtain ⟨k, hk, rfl, HC, hnx⟩ := hrel
    replace T := T.below T.size hnx; replace hl := hl.below hnx; replace hB := hB.trans (hnx.mono hB.size)
    by_cases hlt : k < l.length
    · obtain ⟨b1, o1, hal, hb1, d1, d2⟩ := hl.cells k hlt
      have hx := hl.size (l[k]'hlt) (List.getElem_mem hlt)
      have HS1 : Hid ((Ln.firstP [] (l[k]'hlt).1.data.toList).2.2 = false → (l[k]'hlt).2 = true → Ln.okL (l.drop k) = Ln.okL (l.drop (k + 1))) := Ln.okL_step hlt
      have HS2 : Hid ((Ln.firstP [] (l[k]'hlt).1.data.toList).2.2 = false → ((l[k]'hlt).1.toList == []) = false → k + 1 = l.length → Ln.okL (l.drop k) = Ln.okL (l.drop (k + 1))) := Ln.okL_last hlt
      generalize l[k]'hlt = x at *
      obtain ⟨x1, x2⟩ := x
      have hx' : x1.size ≤ 4194304 := hx
      clear hx
      subst hal
      obtain ⟨F1, F2, F3, hF⟩ : ∃ F1 F2 F3, Ln.firstP [] x1.data.toList = (F1, F2, F3) := ⟨_, _, _, rfl⟩
      have HF : Hid (Ln.firstP [] x1.data.toList = (F1, F2, F3)) := hF
      have HS1' : Hid (F3 = false → x2 = true → Ln.okL (l.drop k) = Ln.okL (l.drop (k + 1))) := fun h1 h2 => HS1.out (by rw [hF]; exact h1) h2
      have HS2' : Hid (F3 = false → (x1.toList == []) = false → k + 1 = l.length → Ln.okL (l.drop k) = Ln.okL (l.drop (k + 1))) := fun h1 h2 h3 => HS2.out (by rw [hF]; exact h1) h2 h3
      clear hF HS1 HS2
      have i1 : (k : Int) < (l.length : Int) := by omega
      go_wp2_with fail
      refine (first_any x1 _ (by omega)).mono ?_
      rw [HF.out]
      rintro e w6 ⟨rfl, n1, hw1⟩
      subst hw1
      have hb : Below w5.heap.size w5 ((wr.alloc (.cells #[.string x1, .bool x2] 32)).drewN n1) := below_drewN (hnx.alloc hnx.size _) n1
      have T4 : Tabs ((wr.alloc (.cells #[.string x1, .bool x2] 32)).drewN n1) := (T.alloc (.cells #[.string x1, .bool x2] 32)).below (T.alloc (.cells #[.string x1, .bool x2] 32)).size (below_drewN (Below.refl _ _) n1)
      have hB4 : Below w.heap.size w ((wr.alloc (.cells #[.string x1, .bool x2] 32)).drewN n1) := below_drewN (hB.alloc hB.size _) n1
      cases F3
      · cases x2
        · cases h0 : (x1.toList == [])
          · by_cases h1 : k + 1 = l.length
            · have h1' : ¬ ((k : Int) + 1 < (l.length : Int)) := by omega
              have HE : Hid (Ln.okL l = Ln.okL (l.drop (k + 1))) := HC.out.trans (HS2'.out rfl h0 h1)
              clear h1
              go_wp2_with fail
              go_roundw
              case rel => exact ⟨k + 1, by omega, by go_num, HE, hb⟩
              case measure => simp [intOf]; omega
            · have h1' : (k : Int) + 1 < (l.length : Int) := by omega
              go_wp2_with fail
              refine (lives_any _ T4).mono ?_
              rintro e w7 ⟨rfl, hb7⟩
              have hB7 := hB4.trans (hb7.mono hB4.size)
              go_wp2_with fail
              go_ret
              exact ⟨rfl, hB7⟩
          · go_wp2_with fail
            refine (lives_any _ T4).mono ?_
            rintro e w7 ⟨rfl, hb7⟩
            have hB7 := hB4.trans (hb7.mono hB4.size)
            go_wp2_with fail
            go_ret
            exact ⟨rfl, hB7⟩
        · have HE : Hid (Ln.okL l = Ln.okL (l.drop (k + 1))) := HC.out.trans (HS1'.out rfl rfl)
          go_wp2_with fail
          go_roundw
          case rel => exact ⟨k + 1, by omega, by go_num, HE, hb⟩
          case measure => simp [intOf]; omega
      · go_wp2_with fail
        refine (lives_any _ T4).mono ?_
        rintro e w7 ⟨rfl, hb7⟩
        have hB7 := hB4.trans (hb7.mono hB4.size)
        go_wp2_with fail
        go_ret
        exact ⟨rfl, hB7⟩
    · have HE : Hid (Ln.okL l = true) := by
        have := HC.out
        rw [List.drop_eq_nil_of_le (by omega)] at this
        exact this
      have HP : Hid (Ln.splB (Ln.bs (Ln.joinL l)) = l) := Ln.splB_join HE.out
      have HR : Hid (Ln.sameL l l = true) := Ln.same_refl l
      have HM2 : Hid (∀ x ∈ l, x.1.size ≤ 4194304) := hl.size
      have hJ : (Ln.bs (Ln.joinL l)).size ≤ 1048576 := by rw [Ln.bs_size]; exact Nat.le_trans (Ln.joinL_length l) ht
      obtain ⟨J, hJe⟩ : ∃ J, Ln.bs (Ln.joinL l) = J := ⟨_, rfl⟩
      rw [hJe] at HP hJ
      have HJ : Hid (Ln.bs (Ln.joinL l) = J) := hJe
      clear hJe
      go_wp2_with fail
      refine (ljoin_any _ _ l _ hl (by omega)).mono ?_
      rw [HJ.out]
      rintro e w7 ⟨rfl, hb⟩
      replace hl := hl.below hb; replace hB := hB.trans (hb.mono hB.size); clear hb
      go_wp2_with fail
      refine (split_any J _ (by omega)).mono ?_
      rw [HP.out]
      rintro e w8 ⟨v8, rfl, hown, hb⟩
      obtain ⟨a8, c8, rfl, s8⟩ := own_lns hown (by omega) HM2.out
      replace hl := hl.below hb; replace hB := hB.trans (hb.mono hB.size); clear hb hown
      go_wp2_with fail
      refine (lsame_b _ _ _ _ l l _ s8 hl).mono ?_
      rw [HR.out]
      rintro e w9 ⟨rfl, hb⟩
      replace hl := hl.below hb; replace hB := hB.trans (hb.mono hB.size); clear hb
      go_wp2_with fail
      refine (ljoin_any _ _ l _ hl (by omega)).mono ?_
      rw [HJ.out]
      rintro e w10 ⟨rfl, hb⟩
      replace hB := hB.trans (hb.mono hB.size); clear hb
      go_wp2_with fail
      refine (count_any J _ (by omega)).mono ?_
      rw [HP.out]
      rintro e w' ⟨rfl, rfl⟩
      go_wp2_with fail
      go_ret
      exact ⟨rfl, hB⟩
end Go.Proofs.YtmbpebdceaihaaaDoor
