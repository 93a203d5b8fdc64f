/- What lines.begins and lines.Unquote answer. -/
import Derived.Test.YtpoimhkfajppmaaDoorLUnt
import Derived.Test.YtpoimhkfajppmaaDoorLTell
namespace Go.Proofs.YtpoimhkfajppmaaDoor
open Go.RowKit

set_option maxRecDepth 100000 in
set_option maxHeartbeats 600000 in
theorem lbegins_any (s : ByteArray) (k : Nat) (a b : UInt8) (w : World) (hs : s.size ≤ 16777216) (hk : k ≤ s.size) :
    Calls Tryd.prog 41 #[.string s, .int .i64 k, .int .u8 a.toNat, .int .u8 b.toNat] w fun e w' => e = .returned (.bool (Ln.begL (s.data.toList.drop k) a b)) ∧ w = w' := by
  by_cases h : k + 1 < s.size
  · have HB : Hid (Ln.begL (s.data.toList.drop k) a b = (((s[k].toNat : Int) == (a.toNat : Int)) && ((s[k + 1].toNat : Int) == (b.toNat : Int)))) := Ln.beg_at h a b
    cases h1 : ((s[k].toNat : Int) == (a.toNat : Int))
    · have HB' : Hid (Ln.begL (s.data.toList.drop k) a b = false) := by have := HB.out; rwa [h1] at this
      go_enter Tryd.func41, Tryd.ntmps41
      go_wp2
      go_ret
      exact ⟨ret_bool HB'.out.symm, rfl⟩
    · have HB' : Hid (Ln.begL (s.data.toList.drop k) a b = ((s[k + 1].toNat : Int) == (b.toNat : Int))) := by have := HB.out; rwa [h1, Bool.true_and] at this
      go_enter Tryd.func41, Tryd.ntmps41
      go_wp2
      go_ret
      exact ⟨ret_bool HB'.out.symm, rfl⟩
  · have HB' : Hid (Ln.begL (s.data.toList.drop k) a b = false) := Ln.beg_past h a b
    have h' : decide ((k : Int) + 1 < (s.size : Int)) = false := by simp; omega
    go_enter Tryd.func41, Tryd.ntmps41
    go_wp2
    go_ret
    exact ⟨ret_bool HB'.out.symm, rfl⟩

set_option maxRecDepth 100000 in
set_option maxHeartbeats 1000000 in
theorem unq_any (s : ByteArray) (w : World) (T : Tabs w) (hs : s.size ≤ 16777216) :
    Calls Tryd.prog 34 #[.string s] w fun e w' => e = .returned (.tuple #[.string (Ln.bs (Ln.unqP s).1), .int .i64 ((Ln.unqP s).2.1 : Nat), .int .i64 (Ln.unqP s).2.2.1, .int .i64 ((Ln.unqP s).2.2.2 : Nat)]) ∧ Below w.heap.size w w' := by
  obtain ⟨i0, hi, hz0, hz1, hz2⟩ := info_parts Tryd.infoByte
  by_cases h0 : s.toList = []
  · have HR : Hid (Ln.unqP s = ([], 0, 10, 0)) := by show _ = _; rw [Ln.toL] at h0; rw [Ln.unqP, if_neg (by rw [h0]; simp)]
    go_enter Tryd.func34, Tryd.ntmps34
    go_wp2_with fail
    rw [HR.out]
    exact bodyPost_ret (v := .tuple #[.string ⟨#[]⟩, .int .i64 0, .int .i64 10, .int .i64 0]) (by simp [results, Tryd.results34, go_sem]) rfl ⟨rfl, Below.refl _ _⟩
  have hpos : 0 < s.size := by
    rw [Ln.toL] at h0
    have := Ln.szL s
    cases hl : s.data.toList with
    | nil => exact absurd hl h0
    | cons a b => rw [hl] at this; simp at this; omega
  have b0 : s.toList.isEmpty = false := by simpa using h0
  clear h0
  cases h1 : ((s[0].toNat : Int) == 34)
  · have HR : Hid (Ln.unqP s = ([], 0, 10, 0)) := by
      have hh := @Ln.head_is s 0 34 hpos
      rw [List.drop_zero] at hh
      show _ = _
      rw [Ln.unqP, if_neg (fun q => by have := hh.1 q; rw [show ((34 : UInt8).toNat : Int) = 34 from rfl, h1] at this; cases this)]
    have h1' : ((s[0].toNat : Int) != 34) = true := by simpa using h1
    go_enter Tryd.func34, Tryd.ntmps34
    go_wp2_with fail
    rw [HR.out]
    exact bodyPost_ret (v := .tuple #[.string ⟨#[]⟩, .int .i64 0, .int .i64 10, .int .i64 0]) (by simp [results, Tryd.results34, go_sem]) rfl ⟨rfl, Below.refl _ _⟩
  have HR0 : Ln.unqP s = Ln.unqGo s.data.toList s.size 1 [] := by
    have hh := @Ln.head_is s 0 34 hpos
    rw [List.drop_zero] at hh
    rw [Ln.unqP, if_pos (hh.2 h1)]
  have h1' : ((s[0].toNat : Int) != 34) = false := by simpa using h1
  obtain ⟨R, hR⟩ : ∃ R, Ln.unqP s = R := ⟨_, rfl⟩
  rw [hR] at HR0 ⊢
  have HR : Hid (Ln.unqGo s.data.toList s.size 1 [] = R) := HR0.symm
  have T2 := T.size
  clear hR HR0
  go_enter Tryd.func34, Tryd.ntmps34
  go_wp2_with fail
  go_loopw [6, 7] (fun v i wr => ∃ (off f : Nat) (out : List UInt8), off ≤ s.size ∧ s.size < off + f ∧ i = .int .i64 off ∧ out.length ≤ off ∧ Hid (Ln.unqGo s.data.toList f off out = R) ∧ wr.ownsRow w.heap.size 5 1 v out.length (bcells out) ∧ Tabs wr ∧ Below w.heap.size w wr) (fun _ i _ => s.size + 1 - (intOf i).toNat)
  case atStart => exact ⟨1, s.size, [], by omega, by omega, rfl, by simp, HR, World.ownsRow_nil _ _ _ _, T, Below.refl _ _⟩
  case round =>
    obtain ⟨off, f0, out, hoff, hf, rfl, hol, HC, hown, Tr, hnx⟩ := hrel
    have hsz := hnx.size
    obtain ⟨f, rfl⟩ : ∃ f, f0 = f + 1 := ⟨f0 - 1, by omega⟩
    by_cases hq : (s.data.toList.drop off).head? = some 34
    · have hlt : off < s.size := by
        by_cases h : off < s.size
        · exact h
        · rw [Ln.head_none h] at hq; cases hq
      have hc : ((s[off].toNat : Int) == 34) = true := (Ln.head_is hlt).1 hq
      have hR : R = (out, off + 1, 0, 0) := HC.out.symm.trans (Ln.unq_end hq)
      subst hR
      clear hq HC HR
      have i1 : (off : Int) < (s.size : Int) := by omega
      rcases hown.2 with ⟨hv, hn⟩ | ⟨g, cap, cur, hv, _⟩
      · subst hv
        have ho : out = [] := List.eq_nil_of_length_eq_zero hn
        subst ho
        have hcv : (convert 53 9 (.slice none 0 0)).run Tryd.prog wr = .ok (.string ByteArray.empty) wr := run_convert_bytes_nil wr 53 5 Tryd.underlying53 Tryd.underlying5 0 0 9 Tryd.underlying9
        go_wp2_with fail
        exact bodyPost_ret (v := .tuple #[.string ByteArray.empty, .int .i64 ((off : Int) + 1), .int .i64 0, .int .i64 0]) (by simp [results, Tryd.results34, go_sem]) rfl ⟨rfl, hnx⟩
      · subst hv
        have hcv := conv_own hown
        go_wp2_with fail
        exact bodyPost_ret (v := .tuple #[.string ⟨out.toArray⟩, .int .i64 ((off : Int) + 1), .int .i64 0, .int .i64 0]) (by simp [results, Tryd.results34, go_sem]) rfl ⟨rfl, hnx⟩
    have hguard : off = s.size ∨ (∃ h : off < s.size, (off : Int) < (s.size : Int) ∧ ((s[off].toNat : Int) == 34) = false) := by
      by_cases h : off < s.size
      · right
        refine ⟨h, by omega, ?_⟩
        cases hc : ((s[off].toNat : Int) == 34)
        · rfl
        · exact absurd ((Ln.head_is (a := 34) h).2 hc) hq
      · left; omega
    cases hb : Ln.begL (s.data.toList.drop off) 92 34
    · obtain ⟨U, hU⟩ : ∃ U, Ln.untP (s.data.toList.drop off) off = U := ⟨_, rfl⟩
      have hok := @Ln.unt_ok (s.data.toList.drop off) off
      rw [hU, List.length_drop, Ln.szL] at hok
      have HU : Hid (Ln.untP (s.data.toList.drop off) off = U) := hU
      obtain ⟨ub, un, uk⟩ := U
      cases uk
      · have hR : R = ([], 0, 10, un) := by have := HC.out.symm.trans (Ln.unq_bad hq hb (by rw [hU])); rwa [hU] at this
        subst hR
        clear hq HC HR hU hok
        rcases hguard with rfl | ⟨hlt, g1, g2⟩
        all_goals
          go_wp2_with (first | (go_at_call 41; refine (lbegins_any s _ 92 34 _ hs (by omega)).mono ?_; rintro e w' ⟨rfl, rfl⟩) | (go_at_call 42; refine (untell_any s _ _ Tr hs (by omega)).mono ?_; rw [HU.out]; rintro e w1 ⟨rfl, hb1⟩))
          exact bodyPost_ret (v := .tuple #[.string ⟨#[]⟩, .int .i64 0, .int .i64 10, .int .i64 (un : Int)]) (by simp [results, Tryd.results34, go_sem]) rfl ⟨rfl, hnx.trans (hb1.mono hsz)⟩
      · have HC2 : Hid (Ln.unqGo s.data.toList f un (out ++ [ub]) = R) := by have := HC.out; rw [Ln.unq_on hq hb (by rw [hU]), hU] at this; exact this
        obtain ⟨k1, k2⟩ := hok rfl
        have k1 : off < un := k1
        have k2 : un ≤ off + (s.size - off) := k2
        clear hq HC HR hU hok
        rcases hguard with g1 | ⟨hlt, g1, g2⟩
        · omega
        all_goals
          go_wp2_with (first | (go_at_call 41; refine (lbegins_any s _ 92 34 _ hs (by omega)).mono ?_; rintro e w' ⟨rfl, rfl⟩) | (go_at_call 42; refine (untell_any s _ _ Tr hs (by omega)).mono ?_; rw [HU.out]; rintro e w1 ⟨rfl, hb1⟩; replace hown := own_below hown hb1; replace Tr := Tr.below Tr.size hb1; replace hnx := hnx.trans (hb1.mono hsz); replace hsz := hnx.size) | (at_builtin; refine wpList_append_own _ rfl (.tmp 50) (.tmp 52) 53 rfl w.heap.size 5 i0 (.int .u8 0) 1 1 Tryd.underlying53 hi hz0 hz1 hz2 rfl (by decide) _ _ _ rfl (hown.alloc _) ⟨_, 0, none⟩ 1 1 [.int .u8 (ub.toNat : Int)] rfl rfl (cell_one_new _ _ _) (one_ints (k := .u8) _) (by unfold maxLen; omega) (by omega) (by simp; omega) ?_))
          intro v3 w3 hown3 hgr3 _
          have hB3 : Below w.heap.size w w3 := (hnx.alloc hsz _).grown hgr3 (by simp; omega) (fun g hg => (hown.lt g hg).1)
          have ho3 : w3.ownsRow w.heap.size 5 1 v3 (out ++ [ub]).length (bcells (out ++ [ub])) := by rw [bcells_append, List.length_append]; exact hown3
          have T3 : Tabs w3 := T.below T2 hB3
          clear hgr3 hown3
          go_wp2
          go_roundw
          case rel => exact ⟨un, f, out ++ [ub], by omega, by omega, rfl, by simp; omega, HC2, ho3, T3, hB3⟩
          case measure => simp [intOf]; omega
    · have hl2 : off + 1 < s.size := by
        by_cases h : off + 1 < s.size
        · exact h
        · rw [Ln.beg_past h] at hb; cases hb
      have HC2 : Hid (Ln.unqGo s.data.toList f (off + 2) (out ++ [34]) = R) := by have := HC.out; rwa [Ln.unq_quote hq hb] at this
      clear hq HC HR
      rcases hguard with g1 | ⟨hlt, g1, g2⟩
      · omega
      go_wp2_with (first | (go_at_call 41; refine (lbegins_any s _ 92 34 _ hs (by omega)).mono ?_; rintro e w' ⟨rfl, rfl⟩) | (at_builtin; refine wpList_append_own _ rfl (.tmp 35) (.tmp 36) 53 rfl w.heap.size 5 i0 (.int .u8 0) 1 1 Tryd.underlying53 hi hz0 hz1 hz2 rfl (by decide) _ _ _ rfl (hown.alloc _) ⟨_, 0, none⟩ 1 1 [.int .u8 34] rfl rfl (cell_one_new _ _ _) (one_ints (k := .u8) _) (by unfold maxLen; omega) (by omega) (by simp; omega) ?_))
      intro v3 w3 hown3 hgr3 _
      have hB3 : Below w.heap.size w w3 := (hnx.alloc hsz _).grown hgr3 (by simp; omega) (fun g hg => (hown.lt g hg).1)
      have ho3 : w3.ownsRow w.heap.size 5 1 v3 (out ++ [34]).length (bcells (out ++ [34])) := by rw [bcells_append, List.length_append]; exact hown3
      have T3 : Tabs w3 := T.below T2 hB3
      clear hgr3 hown3
      go_wp2
      go_roundw
      case rel => exact ⟨off + 2, f, out ++ [34], by omega, by omega, by go_num, by simp; omega, HC2, ho3, T3, hB3⟩
      case measure => simp [intOf]; omega
end Go.Proofs.YtpoimhkfajppmaaDoor
