/- LinesParts answers true for every two texts that are not too long: the walk of the law over its callees' contracts. -/
import Derived.Test.YtmbpebdceaihaaaDoorLLives
import Derived.Laws.AppendOwnNone
namespace Go.Proofs.YtmbpebdceaihaaaDoor
open Go.RowKit

namespace Ln
theorem glue_append {p : List UInt8} {X Y : List (List UInt8 × Bool)} (h : X ≠ []) : glue p (X ++ Y) = glue p X ++ Y := by
  cases X with
  | nil => exact absurd rfl h
  | cons x r => rfl
theorem spl_ne (a b : List UInt8) : spl (a ++ 10 :: b) ≠ [] := by
  cases a with
  | nil => rw [List.nil_append, spl_lf]; simp
  | cons c r =>
    intro h
    have h1 := spl_count (c :: r ++ 10 :: b)
    rw [h] at h1
    have : 0 < lfs (c :: r ++ 10 :: b) := List.length_pos_of_mem (List.mem_filter.2 ⟨by simp, rfl⟩ : (10 : UInt8) ∈ _)
    simp only [List.length_nil] at h1
    omega
theorem spl_app (a b : List UInt8) : spl (a ++ 10 :: b) = spl (a ++ [10]) ++ spl b := by
  induction a with
  | nil => simp [spl_lf, spl]
  | cons c r ih =>
    rw [List.cons_append, List.cons_append]
    cases hc : (c == 10)
    · rw [spl_other hc, spl_other hc, ih, glue_append (spl_ne r [])]
    · have : c = 10 := by simpa using hc
      subst this
      rw [spl_lf, spl_lf, ih]; rfl
theorem first_app (a b p : List UInt8) : ∃ h r, firstP p (a ++ 10 :: b) = (p ++ h, r, true) ∧ h ++ 10 :: r = a ++ 10 :: b ∧ ∃ t, spl (a ++ 10 :: b) = (h, true) :: t := by
  induction a generalizing p with
  | nil => exact ⟨[], b, by simp [first_lf], rfl, _, spl_lf b⟩
  | cons c r ih =>
    cases hc : (c == 10)
    · obtain ⟨h, r', e1, e2, t, e3⟩ := ih (p ++ [c])
      refine ⟨c :: h, r', ?_, by rw [List.cons_append, e2]; rfl, t, ?_⟩
      · rw [List.cons_append, first_other hc, e1]; simp
      · rw [List.cons_append, spl_other hc, e3]; rfl
    · have : c = 10 := by simpa using hc
      subst this
      exact ⟨[], r ++ 10 :: b, by rw [List.cons_append, first_lf]; simp, rfl, _, spl_lf _⟩
theorem data_app (x y : ByteArray) : (x ++ y).data.toList = x.data.toList ++ y.data.toList := by simp
def endB (s : ByteArray) : ByteArray := s ++ ⟨#[10]⟩
def bothB (s t : ByteArray) : ByteArray := endB s ++ t
def headB (x y : ByteArray) : ByteArray := x ++ ⟨#[10]⟩ ++ y
theorem endB_size (s : ByteArray) : (endB s).size = s.size + 1 := by simp [endB]; rfl
theorem bothB_size (s t : ByteArray) : (bothB s t).size = s.size + 1 + t.size := by simp [bothB, endB_size]
theorem endB_data (s : ByteArray) : (endB s).data.toList = s.data.toList ++ [10] := data_app _ _
theorem bothB_data (s t : ByteArray) : (bothB s t).data.toList = s.data.toList ++ 10 :: t.data.toList := by rw [bothB, data_app, endB_data]; simp
theorem both_spl (s t : ByteArray) : splB (bothB s t) = splB (endB s) ++ splB t := by
  simp only [splB, bothB_data, endB_data]
  rw [spl_app, List.map_append]
theorem both_first (s t : ByteArray) : ∃ h r T, firstP [] (bothB s t).data.toList = (h, r, true) ∧ headB (bs h) (bs r) = bothB s t ∧ splB (bothB s t) = (bs h, true) :: T := by
  rw [bothB_data]
  obtain ⟨h, r, e1, e2, T, e3⟩ := first_app s.data.toList t.data.toList []
  refine ⟨h, r, T.map lnB, by simpa using e1, ?_, ?_⟩
  · apply data_inj
    rw [headB, data_app, data_app, bothB_data, ← e2, data_bs, data_bs]
    simp
  · rw [splB, bothB_data, e3]; rfl
end Ln

theorem lines_oneCell (l : List (ByteArray × Bool)) : ∀ u ∈ lcells l, u.oneCell' = true := by
  intro u hu
  simp only [lcells, List.mem_flatMap] at hu
  obtain ⟨x, _, hx⟩ := hu
  simp at hx
  rcases hx with rfl | rfl <;> rfl
theorem Lns.news {w : World} {ad : Addr} {cap : Nat} {l : List (ByteArray × Bool)} (h : Lns w (some ad) cap l) : ∀ j u, (lcells l)[j]? = some u → w.cell? (ad.add j) = some u := by
  intro j u hj
  have hlt : j < (lcells l).length := (List.getElem?_eq_some_iff.1 hj).1
  rw [lcells_length] at hlt
  obtain ⟨b, off, e, _, d1, d2⟩ := h.cells (j / 2) (by omega)
  cases e
  obtain ⟨g1, g2⟩ := lcells_get l (j / 2) (by omega)
  rw [show ((⟨b, off, none⟩ : Addr).add j) = ⟨b, off + j, none⟩ from by unfold Addr.add; split <;> simp_all]
  rcases Nat.mod_two_eq_zero_or_one j with h0 | h0
  · have e : j / 2 * 2 = j := by omega
    rw [e] at d1 g1
    rw [d1, ← g1, hj]
  · have e : j / 2 * 2 + 1 = j := by omega
    rw [Nat.add_assoc] at d2
    rw [e] at d2 g2
    rw [d2, ← g2, hj]

theorem end_eq (s : ByteArray) : s ++ ⟨#[10]⟩ = Ln.endB s := rfl
theorem both_eq (s t : ByteArray) : Ln.endB s ++ t = Ln.bothB s t := rfl
theorem head_eq (s t : ByteArray) : s ++ ⟨#[10]⟩ ++ t = Ln.headB s t := rfl

set_option maxHeartbeats 2000000 in
theorem lawParts_any (s t : ByteArray) (w : World) (T : Tabs w) (hs : s.size + t.size ≤ 1048576) :
    Calls Tryd.prog 4 #[.string s, .string t] w fun e w' => e = .returned (.bool true) ∧ Below w.heap.size w w' := by
  obtain ⟨i0, hi, hz0, hz1, hz2⟩ := info_parts Tryd.infoLine
  have hB : Below w.heap.size w w := Below.refl _ _
  have T2 := T.size
  have n1 := Ln.splB_len (Ln.endB s)
  have n2 := Ln.splB_len t
  have z1 := Ln.endB_size s
  have z2 := Ln.bothB_size s t
  have M1 := Ln.splB_mem (Ln.endB s)
  have M2 := Ln.splB_mem t
  have E1 := Ln.both_spl s t
  obtain ⟨F1, F2, R, e1, e2, e3⟩ := Ln.both_first s t
  have a1 : s.size + (⟨#[10]⟩ : ByteArray).size ≤ 9223372036854775807 := by show s.size + 1 ≤ _; omega
  have a2 : (Ln.endB s).size + t.size ≤ 9223372036854775807 := by omega
  have hs63 : s.size ≤ 1048576 := by omega
  have HM1 : Hid (∀ x ∈ Ln.splB (Ln.endB s), x.1.size ≤ 4194304) := fun x hx => Nat.le_trans (M1 x hx) (by omega)
  have HM2 : Hid (∀ x ∈ Ln.splB t, x.1.size ≤ 4194304) := fun x hx => Nat.le_trans (M2 x hx) (by omega)
  have hSt := both_eq s t
  have hFR := head_eq (Ln.bs F1) (Ln.bs F2)
  have f1 : F1.length + F2.length + 1 = (Ln.bothB s t).size := by
    rw [← e2, ← hFR, ← Ln.szL, Ln.data_app, Ln.data_app, Ln.data_bs, Ln.data_bs]; simp; omega
  rw [e2] at hFR
  clear M1 M2
  obtain ⟨S, hS⟩ : ∃ S, Ln.endB s = S := ⟨_, rfl⟩
  obtain ⟨B, hBe⟩ : ∃ B, Ln.bothB s t = B := ⟨_, rfl⟩
  obtain ⟨A, hA⟩ : ∃ A, Ln.splB S = A := ⟨_, rfl⟩
  obtain ⟨C, hC⟩ : ∃ C, Ln.splB t = C := ⟨_, rfl⟩
  rw [hS] at n1 z1 HM1 E1 hSt a2
  rw [hBe] at z2 E1 e1 e2 e3 hSt hFR f1
  rw [hA] at n1 HM1 E1
  rw [hC] at n2 HM2 E1
  have HS : Hid (s ++ ⟨#[10]⟩ = S) := (end_eq s).trans hS
  have HSt : Hid (S ++ t = B) := hSt
  have HFR : Hid (Ln.bs F1 ++ ⟨#[10]⟩ ++ Ln.bs F2 = B) := hFR
  have HA : Hid (Ln.splB S = A) := hA
  have HC : Hid (Ln.splB t = C) := hC
  have HD : Hid (Ln.splB B = A ++ C) := E1
  have HF : Hid (Ln.firstP [] B.data.toList = (F1, F2, true)) := e1
  have HH : Hid (A ++ C = (Ln.bs F1, true) :: R) := E1.symm.trans e3
  have HR : Hid (Ln.sameL (A ++ C) (A ++ C) = true) := Ln.same_refl _
  have HM : Hid (∀ x ∈ A ++ C, x.1.size ≤ 4194304) := fun x hx => by
    rcases List.mem_append.1 hx with h | h
    · exact HM1.out x h
    · exact HM2.out x h
  clear hS hBe hA hC E1 e1 e2 e3 hSt hFR
  go_enter Tryd.func4, Tryd.ntmps4
  go_wp2_with fail
  refine (lives_any _ T).mono ?_
  rintro e w3 ⟨rfl, hb⟩
  replace hB := hB.trans (hb.mono hB.size); clear hb
  have hB3 := hB.size
  go_wp2_with fail
  rw [HS.out]
  refine (split_any S _ (by omega)).mono ?_
  rw [HA.out]
  rintro e w4 ⟨v4, rfl, own4, hb⟩
  replace hB := hB.trans (hb.mono hB.size)
  have hz34 := hb.size
  clear hb
  go_wp2_with fail
  refine (split_any t _ (by omega)).mono ?_
  rw [HC.out]
  rintro e w5 ⟨v5, rfl, own5, hb⟩
  replace own4 := own_below own4 hb
  replace hB := hB.trans (hb.mono hB.size)
  have hz45 := hb.size
  clear hb
  obtain ⟨a5, c5, rfl, s5⟩ := own_lns own5 (by omega) HM2.out
  clear own5
  have hz3 : w.heap.size ≤ w3.heap.size := hB3
  cases a5 with
  | none =>
    have hc0 : C.length = 0 := by
      rcases Nat.eq_zero_or_pos C.length with h | h
      · exact h
      · obtain ⟨b, off, e, _⟩ := s5.cells 0 h; cases e
    obtain rfl := List.length_eq_zero_iff.1 hc0
    obtain rfl := s5.nil rfl
    go_wp2_with (at_builtin; refine wpList_append_own_none rfl _ _ 22 rfl w3.heap.size 32 i0 2 Tryd.underlying22 hi _ _ _ rfl own4 rfl ?_)
    have own6 : w5.ownsRow w3.heap.size 32 2 v4 (A ++ []).length (lcells (A ++ [])) := by simpa using own4
    have hl6 : (A ++ ([] : List (ByteArray × Bool))).length ≤ 4194304 := by rw [List.append_nil]; omega
    obtain ⟨D, hD⟩ : ∃ D, A ++ ([] : List (ByteArray × Bool)) = D := ⟨_, rfl⟩
    rw [hD] at own6 hl6 HD HH HR HM
    have own6' : w5.ownsRow w3.heap.size 32 2 v4 D.length (lcells D) := own6
    obtain ⟨a6, c6, rfl, s6⟩ := own_lns own6' (by omega) HM.out
    clear hD own6 own6'
    go_wp2_with fail
    rw [HSt.out]
    refine (first_any B _ (by omega)).mono ?_
    rw [HF.out]
    rintro e w7 ⟨rfl, m7, hw7⟩
    have hb : Below w5.heap.size w5 w7 := by rw [hw7]; exact below_drewN (Below.refl _ _) m7
    clear hw7
    replace s6 := s6.below hb; replace hB := hB.trans (hb.mono hB.size); clear hb
    go_wp2_with fail
    rw [HSt.out]
    refine (rsplit_any B _ (by omega)).mono ?_
    rw [HD.out]
    rintro e w8 ⟨v8, rfl, own8, hb⟩
    obtain ⟨a8, c8, rfl, s8⟩ := own_lns own8 (by omega) HM.out
    replace s6 := s6.below hb; replace hB := hB.trans (hb.mono hB.size); clear hb own8
    go_wp2_with fail
    rw [HSt.out]
    refine (split_any B _ (by omega)).mono ?_
    rw [HD.out]
    rintro e w9 ⟨v9, rfl, own9, hb⟩
    obtain ⟨a9, c9, rfl, s9⟩ := own_lns own9 (by omega) HM.out
    replace s6 := s6.below hb; replace s8 := s8.below hb; replace hB := hB.trans (hb.mono hB.size); clear hb own9
    go_wp2_with fail
    refine (lsame_b _ _ _ _ D D _ s9 s6).mono ?_
    rw [HR.out]
    rintro e w10 ⟨rfl, hb⟩
    replace s8 := s8.below hb; replace hB := hB.trans (hb.mono hB.size); clear hb s9 s6
    have hDl : D.length = R.length + 1 := by rw [HH.out]; rfl
    obtain ⟨b8, o8, hal, hb8, d1, d2⟩ := s8.cells 0 (by omega)
    have hx0 : D[0]'(by omega) = (Ln.bs F1, true) := by simp [HH.out]
    rw [hx0] at d1 d2
    simp only [Nat.zero_mul, Nat.add_zero] at d1 d2
    subst hal
    have h0 : (0 : Int) < (D.length : Int) := by omega
    have a3 : (Ln.bs F1).size + (⟨#[10]⟩ : ByteArray).size ≤ 9223372036854775807 := by rw [Ln.bs_size]; show F1.length + 1 ≤ _; omega
    have a4 : (Ln.bs F1 ++ ⟨#[10]⟩).size + (Ln.bs F2).size ≤ 9223372036854775807 := by rw [ByteArray.size_append, Ln.bs_size, Ln.bs_size]; show F1.length + 1 + F2.length ≤ _; omega
    clear hx0 hDl
    go_wp2_with fail
    go_ret
    exact ⟨ret_bool (by rw [HFR.out, HSt.out]; exact beq_self_eq_true _), hB⟩
  | some ad =>
    go_wp2_with (at_builtin; refine wpList_append_own _ rfl _ _ 22 rfl w3.heap.size 32 i0 (.agg #[.string ⟨#[]⟩, .bool false]) 2 24 Tryd.underlying22 hi hz0 hz1 hz2 rfl (by decide) _ _ _ rfl own4 ad C.length c5 (lcells C) rfl (lcells_length C) s5.news (lines_oneCell C) ?c3 ?c4 ?c5 ?_)
    case c3 => unfold maxLen; omega
    case c4 => omega
    case c5 => omega
    intro v6 w6 own6 hgr _
    replace hB : Below w.heap.size w w6 := hB.grown hgr hB.size (fun g hg => Nat.le_trans hz3 (own4.lt g hg).1)
    rw [← lcells_append, ← List.length_append] at own6
    have hl6 : (A ++ C).length ≤ 4194304 := by rw [List.length_append]; omega
    obtain ⟨D, hD⟩ : ∃ D, A ++ C = D := ⟨_, rfl⟩
    rw [hD] at own6 hl6 HD HH HR HM
    have own6' : w6.ownsRow w3.heap.size 32 2 v6 D.length (lcells D) := own6
    obtain ⟨a6, c6, rfl, s6⟩ := own_lns own6' (by omega) HM.out
    clear hD own6 own6'
    go_wp2_with fail
    rw [HSt.out]
    refine (first_any B _ (by omega)).mono ?_
    rw [HF.out]
    rintro e w7 ⟨rfl, m7, hw7⟩
    have hb : Below w6.heap.size w6 w7 := by rw [hw7]; exact below_drewN (Below.refl _ _) m7
    clear hw7
    replace s6 := s6.below hb; replace hB := hB.trans (hb.mono hB.size); clear hb
    go_wp2_with fail
    rw [HSt.out]
    refine (rsplit_any B _ (by omega)).mono ?_
    rw [HD.out]
    rintro e w8 ⟨v8, rfl, own8, hb⟩
    obtain ⟨a8, c8, rfl, s8⟩ := own_lns own8 (by omega) HM.out
    replace s6 := s6.below hb; replace hB := hB.trans (hb.mono hB.size); clear hb own8
    go_wp2_with fail
    rw [HSt.out]
    refine (split_any B _ (by omega)).mono ?_
    rw [HD.out]
    rintro e w9 ⟨v9, rfl, own9, hb⟩
    obtain ⟨a9, c9, rfl, s9⟩ := own_lns own9 (by omega) HM.out
    replace s6 := s6.below hb; replace s8 := s8.below hb; replace hB := hB.trans (hb.mono hB.size); clear hb own9
    go_wp2_with fail
    refine (lsame_b _ _ _ _ D D _ s9 s6).mono ?_
    rw [HR.out]
    rintro e w10 ⟨rfl, hb⟩
    replace s8 := s8.below hb; replace hB := hB.trans (hb.mono hB.size); clear hb s9 s6
    have hDl : D.length = R.length + 1 := by rw [HH.out]; rfl
    obtain ⟨b8, o8, hal, hb8, d1, d2⟩ := s8.cells 0 (by omega)
    have hx0 : D[0]'(by omega) = (Ln.bs F1, true) := by simp [HH.out]
    rw [hx0] at d1 d2
    simp only [Nat.zero_mul, Nat.add_zero] at d1 d2
    subst hal
    have h0 : (0 : Int) < (D.length : Int) := by omega
    have a3 : (Ln.bs F1).size + (⟨#[10]⟩ : ByteArray).size ≤ 9223372036854775807 := by rw [Ln.bs_size]; show F1.length + 1 ≤ _; omega
    have a4 : (Ln.bs F1 ++ ⟨#[10]⟩).size + (Ln.bs F2).size ≤ 9223372036854775807 := by rw [ByteArray.size_append, Ln.bs_size, Ln.bs_size]; show F1.length + 1 + F2.length ≤ _; omega
    clear hx0 hDl
    go_wp2_with fail
    go_ret
    exact ⟨ret_bool (by rw [HFR.out, HSt.out]; exact beq_self_eq_true _), hB⟩
end Go.Proofs.YtmbpebdceaihaaaDoor
