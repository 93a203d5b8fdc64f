/- What lines.Unlist answers. -/
import Derived.Test.YtmbpebdceaihaaaDoorLUnq
namespace Go.Proofs.YtmbpebdceaihaaaDoor
open Go.RowKit

namespace Ln
/-- A listing read from a place on: with so much fuel. -/
def unlGo (L : List UInt8) : Nat → Nat → Bool → List UInt8 → List UInt8 × Int × Nat
  | 0, off, _, _ => ([], 10, off)
  | f + 1, off, br, out =>
    if br = false ∧ begL (L.drop off) 36 10 = true then (if off + 2 < L.length then ([], 10, off + 2) else (out, 0, 0))
    else if br = false ∧ out ≠ [] ∧ begL (L.drop off) 92 10 = true then unlGo L f (off + 2) true out
    else if (untP (L.drop off) off).2.2 = false then ([], 10, (untP (L.drop off) off).2.1)
    else unlGo L f (untP (L.drop off) off).2.1 false (out ++ [(untP (L.drop off) off).1])
def unlP (s : ByteArray) : List UInt8 × Int × Nat := unlGo s.data.toList (s.size + 1) 0 false []
theorem unl_more {L : List UInt8} {f off : Nat} {out : List UInt8} (h : begL (L.drop off) 36 10 = true) (h2 : off + 2 < L.length) : unlGo L (f + 1) off false out = ([], 10, off + 2) := by rw [unlGo, if_pos ⟨rfl, h⟩, if_pos h2]
theorem unl_end {L : List UInt8} {f off : Nat} {out : List UInt8} (h : begL (L.drop off) 36 10 = true) (h2 : ¬ off + 2 < L.length) : unlGo L (f + 1) off false out = (out, 0, 0) := by rw [unlGo, if_pos ⟨rfl, h⟩, if_neg h2]
theorem unl_break {L : List UInt8} {f off : Nat} {out : List UInt8} (h : begL (L.drop off) 36 10 = false) (h2 : out ≠ []) (h3 : begL (L.drop off) 92 10 = true) : unlGo L (f + 1) off false out = unlGo L f (off + 2) true out := by
  rw [unlGo, if_neg (by rw [h]; simp), if_pos ⟨rfl, h2, h3⟩]
/-- A told byte is looked for: no end and no break stand here. -/
def lookB (L : List UInt8) (off : Nat) (br : Bool) (out : List UInt8) : Prop := br = true ∨ (begL (L.drop off) 36 10 = false ∧ (out = [] ∨ begL (L.drop off) 92 10 = false))
theorem unl_bad {L : List UInt8} {f off : Nat} {br : Bool} {out : List UInt8} (h : lookB L off br out) (h3 : (untP (L.drop off) off).2.2 = false) : unlGo L (f + 1) off br out = ([], 10, (untP (L.drop off) off).2.1) := by
  rw [unlGo, if_neg (fun q => ?_), if_neg (fun q => ?_), if_pos h3]
  · rcases h with h | ⟨h, h'⟩
    · rw [h] at q; cases q.1
    · rcases h' with h' | h'
      · exact q.2.1 h'
      · rw [h'] at q; cases q.2.2
  · rcases h with h | ⟨h, _⟩
    · rw [h] at q; cases q.1
    · rw [h] at q; cases q.2
theorem unl_on {L : List UInt8} {f off : Nat} {br : Bool} {out : List UInt8} (h : lookB L off br out) (h3 : (untP (L.drop off) off).2.2 = true) : unlGo L (f + 1) off br out = unlGo L f (untP (L.drop off) off).2.1 false (out ++ [(untP (L.drop off) off).1]) := by
  rw [unlGo, if_neg (fun q => ?_), if_neg (fun q => ?_), if_neg (by rw [h3]; simp)]
  · rcases h with h | ⟨h, h'⟩
    · rw [h] at q; cases q.1
    · rcases h' with h' | h'
      · exact q.2.1 h'
      · rw [h'] at q; cases q.2.2
  · rcases h with h | ⟨h, _⟩
    · rw [h] at q; cases q.1
    · rw [h] at q; cases q.2
end Ln

abbrev UNL (R : List UInt8 × Int × Nat) : Ending := .returned (.tuple #[.string (Ln.bs R.1), .int .i64 R.2.1, .int .i64 (R.2.2 : Nat)])

theorem own_slice {w : World} {base : Nat} {e : TypeId} {size : Nat} {v : Value} {n : Nat} {xs : List Value} (h : w.ownsRow base e size v n xs) : ∃ a c, v = .slice a n c ∧ n ≤ c ∧ c ≤ maxLen := by
  rcases h.2 with ⟨hv, hn⟩ | ⟨g, cap, cur, hv, _, _, h1, h2, _⟩
  · exact ⟨none, 0, by rw [hv, hn], by omega, Nat.zero_le _⟩
  · exact ⟨_, cap, hv, h1, h2⟩

theorem lbeg36 (s : ByteArray) (k : Nat) (w : World) (hs : s.size ≤ 16777216) (hk : k ≤ s.size) :
    Calls Tryd.prog 26 #[.string s, .int .i64 k, .int .u8 36, .int .u8 10] w fun e w' => e = .returned (.bool (Ln.begL (s.data.toList.drop k) 36 10)) ∧ w = w' := lbegins_any s k 36 10 w hs hk
theorem lbeg92 (s : ByteArray) (k : Nat) (w : World) (hs : s.size ≤ 16777216) (hk : k ≤ s.size) :
    Calls Tryd.prog 26 #[.string s, .int .i64 k, .int .u8 92, .int .u8 10] w fun e w' => e = .returned (.bool (Ln.begL (s.data.toList.drop k) 92 10)) ∧ w = w' := lbegins_any s k 92 10 w hs hk

set_option maxRecDepth 100000 in
set_option maxHeartbeats 2000000 in
theorem unl_any (s : ByteArray) (w : World) (T : Tabs w) (hs : s.size ≤ 16777216) :
    Calls Tryd.prog 24 #[.string s] w fun e w' => e = UNL (Ln.unlP s) ∧ Below w.heap.size w w' := by
  obtain ⟨i0, hi, hz0, hz1, hz2⟩ := info_parts Tryd.infoByte
  obtain ⟨R, hR⟩ : ∃ R, Ln.unlP s = R := ⟨_, rfl⟩
  have HR : Hid (Ln.unlGo s.data.toList (s.size + 1) 0 false [] = R) := hR
  rw [hR]
  clear hR
  have T2 := T.size
  go_enter Tryd.func24, Tryd.ntmps24
  go_wp2_with fail
  go_loopw [5, 6, 7] (fun v bv i wr => ∃ (off f : Nat) (br : Bool) (out : List UInt8), off ≤ s.size ∧ s.size < off + f ∧ i = .int .i64 off ∧ bv = .bool br ∧ out.length ≤ off ∧ Hid (Ln.unlGo s.data.toList f off br out = R) ∧ wr.ownsRow w.heap.size 5 1 v out.length (bcells out) ∧ Tabs wr ∧ Below w.heap.size w wr) (fun _ _ i _ => s.size + 1 - (intOf i).toNat)
  case atStart => exact ⟨0, s.size + 1, false, [], by omega, by omega, rfl, rfl, by simp, HR, World.ownsRow_nil _ _ _ _, T, Below.refl _ _⟩
  case round =>
    obtain ⟨off, f0, br, out, hoff, hf, rfl, rfl, hol, HC, hown, Tr, hnx⟩ := hrel
    have hsz := hnx.size
    obtain ⟨f, rfl⟩ : ∃ f, f0 = f + 1 := ⟨f0 - 1, by omega⟩
    cases br
    · cases hb1 : Ln.begL (s.data.toList.drop off) 36 10
      · have HB1 : Hid (Ln.begL (s.data.toList.drop off) 36 10 = false) := hb1
        by_cases ho : out = []
        · have HLK : Hid (Ln.lookB s.data.toList off false out) := .inr ⟨hb1, .inl ho⟩
          subst ho
          obtain ⟨ao, co, rfl, hco, hcm⟩ := own_slice hown
          unfold maxLen at hcm
          replace hown : wr.ownsRow w.heap.size 5 1 (.slice ao 0 co) 0 [] := hown
          rw [show ([] : List UInt8).length = 0 from rfl]
          clear hb1
          obtain ⟨U, hU⟩ : ∃ U, Ln.untP (s.data.toList.drop off) off = U := ⟨_, rfl⟩
          have hok := @Ln.unt_ok (s.data.toList.drop off) off
          rw [hU, List.length_drop, Ln.szL] at hok
          have HU : Hid (Ln.untP (s.data.toList.drop off) off = U) := hU
          obtain ⟨ub, un, uk⟩ := U
          cases uk
          · have hR : R = ([], 10, un) := by have := HC.out.symm.trans (Ln.unl_bad HLK.out (by rw [hU])); rwa [hU] at this
            subst hR
            clear HC HR hU hok HLK
            go_wp2_with (first | (go_at_call 26; refine (lbeg36 s _ _ hs (by omega)).mono ?_; rw [HB1.out]; rintro e w' ⟨rfl, rfl⟩) | (go_at_call 27; refine (untell_any s _ _ Tr hs (by omega)).mono ?_; rw [HU.out]; rintro e w1 ⟨rfl, hb1⟩))
            exact bodyPost_ret (v := .tuple #[.string ⟨#[]⟩, .int .i64 10, .int .i64 (un : Int)]) (by simp [results, Tryd.results24, go_sem]) rfl ⟨rfl, hnx.trans (hb1.mono hsz)⟩
          · have HC2 : Hid (Ln.unlGo s.data.toList f un false [ub] = R) := by have := HC.out; rw [Ln.unl_on HLK.out (by rw [hU]), hU] at this; exact this
            obtain ⟨k1, k2⟩ := hok rfl
            have k1 : off < un := k1
            have k2 : un ≤ off + (s.size - off) := k2
            clear HC HR hU hok HLK
            go_wp2_with (first | (go_at_call 26; refine (lbeg36 s _ _ hs (by omega)).mono ?_; rw [HB1.out]; rintro e w' ⟨rfl, rfl⟩) | (go_at_call 27; refine (untell_any s _ _ Tr hs (by omega)).mono ?_; rw [HU.out]; rintro e w1 ⟨rfl, hb1⟩; replace hown := own_below hown hb1; replace Tr := Tr.below Tr.size hb1; replace hnx := hnx.trans (hb1.mono hsz); replace hsz := hnx.size) | (at_builtin; refine wpList_append_own _ rfl _ _ 43 rfl w.heap.size 5 i0 (.int .u8 0) 1 1 Tryd.underlying43 hi hz0 hz1 hz2 rfl (by decide) _ _ _ rfl (hown.alloc _) ⟨_, 0, none⟩ 1 1 [.int .u8 (ub.toNat : Int)] rfl rfl (cell_one_new _ _ _) (one_ints (k := .u8) _) (by unfold maxLen; omega) (by omega) (by simp; omega) ?_))
            intro v3 w3 hown3 hgr3 _
            have hB3 : Below w.heap.size w w3 := (hnx.alloc hsz _).grown hgr3 (by simp; omega) (fun g hg => (hown.lt g hg).1)
            have ho3 : w3.ownsRow w.heap.size 5 1 v3 [ub].length (bcells [ub]) := hown3
            have T3 : Tabs w3 := T.below T2 hB3
            clear hgr3 hown3
            go_wp2
            go_roundw
            case rel => exact ⟨un, f, false, [ub], by omega, by omega, rfl, rfl, by simp; omega, HC2, ho3, T3, hB3⟩
            case measure => simp [intOf]; omega
        · have hol1 : 0 < out.length := List.length_pos_iff.2 ho
          have hol1' : (out.length : Int) > 0 := by omega
          obtain ⟨ao, co, rfl, hco, hcm⟩ := own_slice hown
          unfold maxLen at hcm
          cases hb2 : Ln.begL (s.data.toList.drop off) 92 10
          · have HB2 : Hid (Ln.begL (s.data.toList.drop off) 92 10 = false) := hb2
            have HLK : Hid (Ln.lookB s.data.toList off false out) := .inr ⟨hb1, .inr hb2⟩
            clear hb1 hb2 ho
            obtain ⟨U, hU⟩ : ∃ U, Ln.untP (s.data.toList.drop off) off = U := ⟨_, rfl⟩
            have hok := @Ln.unt_ok (s.data.toList.drop off) off
            rw [hU, List.length_drop, Ln.szL] at hok
            have HU : Hid (Ln.untP (s.data.toList.drop off) off = U) := hU
            obtain ⟨ub, un, uk⟩ := U
            cases uk
            · have hR : R = ([], 10, un) := by have := HC.out.symm.trans (Ln.unl_bad HLK.out (by rw [hU])); rwa [hU] at this
              subst hR
              clear HC HR hU hok HLK
              go_wp2_with fail
              refine (lbeg36 s _ _ hs (by omega)).mono ?_
              rw [HB1.out]
              rintro e w' ⟨rfl, rfl⟩
              go_wp2_with fail
              refine (lbeg92 s _ _ hs (by omega)).mono ?_
              rw [HB2.out]
              rintro e w' ⟨rfl, rfl⟩
              go_wp2_with (first | (go_at_call 27; refine (untell_any s _ _ Tr hs (by omega)).mono ?_; rw [HU.out]; rintro e w1 ⟨rfl, hb1⟩))
              exact bodyPost_ret (v := .tuple #[.string ⟨#[]⟩, .int .i64 10, .int .i64 (un : Int)]) (by simp [results, Tryd.results24, go_sem]) rfl ⟨rfl, hnx.trans (hb1.mono hsz)⟩
            · have HC2 : Hid (Ln.unlGo s.data.toList f un false (out ++ [ub]) = R) := by have := HC.out; rw [Ln.unl_on HLK.out (by rw [hU]), hU] at this; exact this
              obtain ⟨k1, k2⟩ := hok rfl
              have k1 : off < un := k1
              have k2 : un ≤ off + (s.size - off) := k2
              clear HC HR hU hok HLK
              go_wp2_with fail
              refine (lbeg36 s _ _ hs (by omega)).mono ?_
              rw [HB1.out]
              rintro e w' ⟨rfl, rfl⟩
              go_wp2_with fail
              refine (lbeg92 s _ _ hs (by omega)).mono ?_
              rw [HB2.out]
              rintro e w' ⟨rfl, rfl⟩
              go_wp2_with (first | (go_at_call 27; refine (untell_any s _ _ Tr hs (by omega)).mono ?_; rw [HU.out]; rintro e w1 ⟨rfl, hb1⟩; replace hown := own_below hown hb1; replace Tr := Tr.below Tr.size hb1; replace hnx := hnx.trans (hb1.mono hsz); replace hsz := hnx.size) | (at_builtin; refine wpList_append_own _ rfl _ _ 43 rfl w.heap.size 5 i0 (.int .u8 0) 1 1 Tryd.underlying43 hi hz0 hz1 hz2 rfl (by decide) _ _ _ rfl (hown.alloc _) ⟨_, 0, none⟩ 1 1 [.int .u8 (ub.toNat : Int)] rfl rfl (cell_one_new _ _ _) (one_ints (k := .u8) _) (by unfold maxLen; omega) (by omega) (by simp; omega) ?_))
              intro v3 w3 hown3 hgr3 _
              have hB3 : Below w.heap.size w w3 := (hnx.alloc hsz _).grown hgr3 (by simp; omega) (fun g hg => (hown.lt g hg).1)
              have ho3 : w3.ownsRow w.heap.size 5 1 v3 (out ++ [ub]).length (bcells (out ++ [ub])) := by rw [bcells_append, List.length_append]; exact hown3
              have T3 : Tabs w3 := T.below T2 hB3
              clear hgr3 hown3
              go_wp2
              go_roundw
              case rel => exact ⟨un, f, false, out ++ [ub], by omega, by omega, rfl, rfl, by simp; omega, HC2, ho3, T3, hB3⟩
              case measure => simp [intOf]; omega
          · have HB2 : Hid (Ln.begL (s.data.toList.drop off) 92 10 = true) := hb2
            have hl2 : off + 1 < s.size := by
              by_cases h : off + 1 < s.size
              · exact h
              · rw [Ln.beg_past h] at hb2; cases hb2
            have HC2 : Hid (Ln.unlGo s.data.toList f (off + 2) true out = R) := by have := HC.out; rwa [Ln.unl_break hb1 ho hb2] at this
            clear hb1 hb2 ho HC HR
            go_wp2_with fail
            refine (lbeg36 s _ _ hs (by omega)).mono ?_
            rw [HB1.out]
            rintro e w' ⟨rfl, rfl⟩
            go_wp2_with fail
            refine (lbeg92 s _ _ hs (by omega)).mono ?_
            rw [HB2.out]
            rintro e w' ⟨rfl, rfl⟩
            go_wp2_with fail
            go_roundw
            case rel => exact ⟨off + 2, f, true, out, by omega, by omega, by go_num, rfl, by omega, HC2, hown, Tr, hnx⟩
            case measure => simp [intOf]; omega
      · have HB1 : Hid (Ln.begL (s.data.toList.drop off) 36 10 = true) := hb1
        have hl2 : off + 1 < s.size := by
          by_cases h : off + 1 < s.size
          · exact h
          · rw [Ln.beg_past h] at hb1; cases hb1
        by_cases hm : off + 2 < s.size
        · have hR : R = ([], 10, off + 2) := HC.out.symm.trans (Ln.unl_more hb1 (by rw [Ln.szL]; exact hm))
          subst hR
          have hm' : (off : Int) + 2 < (s.size : Int) := by omega
          clear hb1 HC HR
          go_wp2_with (go_at_call 26; refine (lbeg36 s _ _ hs (by omega)).mono ?_; rw [HB1.out]; rintro e w' ⟨rfl, rfl⟩)
          exact bodyPost_ret (v := .tuple #[.string ⟨#[]⟩, .int .i64 10, .int .i64 ((off : Int) + 2)]) (by simp [results, Tryd.results24, go_sem]) rfl ⟨rfl, hnx⟩
        · have hR : R = (out, 0, 0) := HC.out.symm.trans (Ln.unl_end hb1 (by rw [Ln.szL]; exact hm))
          subst hR
          have hm' : ¬ (off : Int) + 2 < (s.size : Int) := by omega
          clear hb1 HC HR hm
          rcases hown.2 with ⟨hv, hn⟩ | ⟨g, cap, cur, hv, _⟩
          · subst hv
            have ho : out = [] := List.eq_nil_of_length_eq_zero hn
            subst ho
            have hcv : (convert 43 9 (.slice none 0 0)).run Tryd.prog wr = .ok (.string ByteArray.empty) wr := run_convert_bytes_nil wr 43 5 Tryd.underlying43 Tryd.underlying5 0 0 9 Tryd.underlying9
            go_wp2_with (go_at_call 26; refine (lbeg36 s _ _ hs (by omega)).mono ?_; rw [HB1.out]; rintro e w' ⟨rfl, rfl⟩)
            exact bodyPost_ret (v := .tuple #[.string ByteArray.empty, .int .i64 0, .int .i64 0]) (by simp [results, Tryd.results24, go_sem]) rfl ⟨rfl, hnx⟩
          · subst hv
            have hcv := conv_own hown
            go_wp2_with (go_at_call 26; refine (lbeg36 s _ _ hs (by omega)).mono ?_; rw [HB1.out]; rintro e w' ⟨rfl, rfl⟩)
            exact bodyPost_ret (v := .tuple #[.string ⟨out.toArray⟩, .int .i64 0, .int .i64 0]) (by simp [results, Tryd.results24, go_sem]) rfl ⟨rfl, hnx⟩
    · have HLK : Hid (Ln.lookB s.data.toList off true out) := .inl rfl
      obtain ⟨U, hU⟩ : ∃ U, Ln.untP (s.data.toList.drop off) off = U := ⟨_, rfl⟩
      have hok := @Ln.unt_ok (s.data.toList.drop off) off
      rw [hU, List.length_drop, Ln.szL] at hok
      have HU : Hid (Ln.untP (s.data.toList.drop off) off = U) := hU
      obtain ⟨ub, un, uk⟩ := U
      cases uk
      · have hR : R = ([], 10, un) := by have := HC.out.symm.trans (Ln.unl_bad HLK.out (by rw [hU])); rwa [hU] at this
        subst hR
        clear HC HR hU hok HLK
        go_wp2_with (first | (go_at_call 27; refine (untell_any s _ _ Tr hs (by omega)).mono ?_; rw [HU.out]; rintro e w1 ⟨rfl, hb1⟩))
        exact bodyPost_ret (v := .tuple #[.string ⟨#[]⟩, .int .i64 10, .int .i64 (un : Int)]) (by simp [results, Tryd.results24, go_sem]) rfl ⟨rfl, hnx.trans (hb1.mono hsz)⟩
      · have HC2 : Hid (Ln.unlGo s.data.toList f un false (out ++ [ub]) = R) := by have := HC.out; rw [Ln.unl_on HLK.out (by rw [hU]), hU] at this; exact this
        obtain ⟨k1, k2⟩ := hok rfl
        have k1 : off < un := k1
        have k2 : un ≤ off + (s.size - off) := k2
        clear HC HR hU hok HLK
        go_wp2_with (first | (go_at_call 27; refine (untell_any s _ _ Tr hs (by omega)).mono ?_; rw [HU.out]; rintro e w1 ⟨rfl, hb1⟩; replace hown := own_below hown hb1; replace Tr := Tr.below Tr.size hb1; replace hnx := hnx.trans (hb1.mono hsz); replace hsz := hnx.size) | (at_builtin; refine wpList_append_own _ rfl _ _ 43 rfl w.heap.size 5 i0 (.int .u8 0) 1 1 Tryd.underlying43 hi hz0 hz1 hz2 rfl (by decide) _ _ _ rfl (hown.alloc _) ⟨_, 0, none⟩ 1 1 [.int .u8 (ub.toNat : Int)] rfl rfl (cell_one_new _ _ _) (one_ints (k := .u8) _) (by unfold maxLen; omega) (by omega) (by simp; omega) ?_))
        intro v3 w3 hown3 hgr3 _
        have hB3 : Below w.heap.size w w3 := (hnx.alloc hsz _).grown hgr3 (by simp; omega) (fun g hg => (hown.lt g hg).1)
        have ho3 : w3.ownsRow w.heap.size 5 1 v3 (out ++ [ub]).length (bcells (out ++ [ub])) := by rw [bcells_append, List.length_append]; exact hown3
        have T3 : Tabs w3 := T.below T2 hB3
        clear hgr3 hown3
        go_wp2
        go_roundw
        case rel => exact ⟨un, f, false, out ++ [ub], by omega, by omega, rfl, rfl, by simp; omega, HC2, ho3, T3, hB3⟩
        case measure => simp [intOf]; omega
end Go.Proofs.YtmbpebdceaihaaaDoor
