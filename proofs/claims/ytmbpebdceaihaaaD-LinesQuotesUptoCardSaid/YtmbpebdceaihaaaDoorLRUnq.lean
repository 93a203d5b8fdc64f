/- What the reference's Unquote answers: the same as lines.Unquote. -/
import Derived.Test.YtmbpebdceaihaaaDoorLREsc
import Derived.Test.YtmbpebdceaihaaaDoorLUnq
namespace Go.Proofs.YtmbpebdceaihaaaDoor
open Go.RowKit

set_option maxRecDepth 100000 in
set_option maxHeartbeats 2000000 in
theorem runq_any (s : ByteArray) (w : World) (hs : s.size ≤ 1048576) :
    Calls Tryd.prog 19 #[.string s] w fun e w' => e = .returned (.tuple #[.string (Ln.bs (Ln.unqP s).1), .int .i64 ((Ln.unqP s).2.1 : Nat), .int .i64 (Ln.unqP s).2.2.1, .int .i64 ((Ln.unqP s).2.2.2 : Nat)]) ∧ Below w.heap.size w w' := by
  obtain ⟨i0, hi, hz0, hz1, hz2⟩ := info_parts Tryd.infoByte
  by_cases h0 : s.size = 0
  · have HR : Hid (Ln.unqP s = ([], 0, 10, 0)) := by
      have : s.data.toList = [] := List.eq_nil_of_length_eq_zero (by rw [Ln.szL]; exact h0)
      show _ = _; rw [Ln.unqP, if_neg (by rw [this]; simp)]
    have h0' : ((s.size : Int) == 0) = true := by rw [h0]; rfl
    clear h0
    go_enter Tryd.func19, Tryd.ntmps19
    go_wp2_with fail
    rw [HR.out]
    exact bodyPost_ret (v := .tuple #[.string ⟨#[]⟩, .int .i64 0, .int .i64 10, .int .i64 0]) (by simp [results, Tryd.results19, go_sem]) rfl ⟨rfl, Below.refl _ _⟩
  have hpos : 0 < s.size := by omega
  have b0 : ((s.size : Int) == 0) = false := by rw [beq_eq_false_iff_ne]; omega
  clear h0
  cases h1 : ((s[0].toNat : Int) == 34)
  · have HR : Hid (Ln.unqP s = ([], 0, 10, 0)) := by
      have hh := @Ln.head_is s 0 34 hpos
      rw [List.drop_zero] at hh
      show _ = _
      rw [Ln.unqP, if_neg (fun q => by have := hh.1 q; rw [show ((34 : UInt8).toNat : Int) = 34 from rfl, h1] at this; cases this)]
    have h1' : ((s[0].toNat : Int) != 34) = true := by simpa using h1
    go_enter Tryd.func19, Tryd.ntmps19
    go_wp2_with fail
    rw [HR.out]
    exact bodyPost_ret (v := .tuple #[.string ⟨#[]⟩, .int .i64 0, .int .i64 10, .int .i64 0]) (by simp [results, Tryd.results19, go_sem]) rfl ⟨rfl, Below.refl _ _⟩
  have HR0 : Ln.unqP s = Ln.unqGo s.data.toList s.size 1 [] := by
    have hh := @Ln.head_is s 0 34 hpos
    rw [List.drop_zero] at hh
    rw [Ln.unqP, if_pos (hh.2 h1)]
  have h1' : ((s[0].toNat : Int) != 34) = false := by simpa using h1
  obtain ⟨R, hR⟩ : ∃ R, Ln.unqP s = R := ⟨_, rfl⟩
  rw [hR] at HR0 ⊢
  have HR : Hid (Ln.unqGo s.data.toList s.size 1 [] = R) := HR0.symm
  clear hR HR0
  go_enter Tryd.func19, Tryd.ntmps19
  go_wp2_with fail
  go_loopw [6, 7] (fun v i wr => ∃ (off f : Nat) (out : List UInt8), off ≤ s.size ∧ s.size < off + f ∧ i = .int .i64 off ∧ out.length ≤ off ∧ Hid (Ln.unqGo s.data.toList f off out = R) ∧ wr.ownsRow w.heap.size 5 1 v out.length (bcells out) ∧ Below w.heap.size w wr) (fun _ i _ => s.size + 1 - (intOf i).toNat)
  case atStart => exact ⟨1, s.size, [], by omega, by omega, rfl, by simp, HR, World.ownsRow_nil _ _ _ _, Below.refl _ _⟩
  case round =>
    obtain ⟨off, f0, out, hoff, hf, rfl, hol, HC, hown, hnx⟩ := hrel
    have hsz := hnx.size
    obtain ⟨f, rfl⟩ : ∃ f, f0 = f + 1 := ⟨f0 - 1, by omega⟩
    by_cases hlt : off < s.size
    · have i1 : (off : Int) < (s.size : Int) := by omega
      have hcb : s[off].toNat < 256 := s[off].toNat_lt
      cases hq : ((s[off].toNat : Int) == 34)
      · have hh : ¬ (s.data.toList.drop off).head? = some 34 := fun e => by
          have := (Ln.head_is (a := 34) hlt).1 e
          rw [show ((34 : UInt8).toNat : Int) = 34 from rfl, hq] at this; cases this
        cases h92 : ((s[off].toNat : Int) == 92)
        · have hb : Ln.begL (s.data.toList.drop off) 92 34 = false := by
            by_cases h : off + 1 < s.size
            · rw [Ln.beg_at h, show ((92 : UInt8).toNat : Int) = 92 from rfl, h92]; rfl
            · exact Ln.beg_past h _ _
          have hu : Ln.untP (s.data.toList.drop off) off = Ln.plainP s[off] off := by rw [Ln.drop_cons s off hlt]; exact Ln.unt_plain (Ln.byteN92 h92)
          by_cases hp : s[off].toNat < 32 ∨ 127 ≤ s[off].toNat
          · have hR : R = ([], 0, 10, off) := by
              have e : Ln.plainP s[off] off = (0, off, false) := by rw [Ln.plainP, if_pos hp]
              have := HC.out.symm.trans (Ln.unq_bad hh hb (by rw [hu, e]))
              rwa [hu, e] at this
            subst hR
            clear HC HR hh hb hu
            rcases hp with hp | hp
            · have p1 : ¬ (s[off].toNat : Int) ≥ 32 := by omega
              go_wp2_with fail
              exact bodyPost_ret (v := .tuple #[.string ⟨#[]⟩, .int .i64 0, .int .i64 10, .int .i64 (off : Int)]) (by simp [results, Tryd.results19, go_sem]) rfl ⟨rfl, hnx⟩
            · have p1 : (s[off].toNat : Int) ≥ 32 := by omega
              have p2 : ¬ (s[off].toNat : Int) < 127 := by omega
              go_wp2_with fail
              exact bodyPost_ret (v := .tuple #[.string ⟨#[]⟩, .int .i64 0, .int .i64 10, .int .i64 (off : Int)]) (by simp [results, Tryd.results19, go_sem]) rfl ⟨rfl, hnx⟩
          · have HC2 : Hid (Ln.unqGo s.data.toList f (off + 1) (out ++ [s[off]]) = R) := by
              have e : Ln.plainP s[off] off = (s[off], off + 1, true) := by rw [Ln.plainP, if_neg hp]
              have := HC.out
              rw [Ln.unq_on hh hb (by rw [hu, e]), hu, e] at this
              exact this
            have p1 : (s[off].toNat : Int) ≥ 32 := by omega
            have p2 : (s[off].toNat : Int) < 127 := by omega
            clear HC HR hh hb hu hp
            go_wp2_with (at_builtin; refine wpList_append_own _ rfl _ _ 43 rfl w.heap.size 5 i0 (.int .u8 0) 1 1 Tryd.underlying43 hi hz0 hz1 hz2 rfl (by decide) _ _ _ rfl (hown.alloc _) ⟨_, 0, none⟩ 1 1 [.int .u8 (s[off].toNat : Int)] rfl rfl (cell_one_new _ _ _) (one_ints (k := .u8) _) (by unfold maxLen; omega) (by omega) (by simp; omega) ?_)
            intro v3 w3 hown3 hgr3 _
            have hB3 : Below w.heap.size w w3 := (hnx.alloc hsz _).grown hgr3 (by simp; omega) (fun g hg => (hown.lt g hg).1)
            have ho3 : w3.ownsRow w.heap.size 5 1 v3 (out ++ [s[off]]).length (bcells (out ++ [s[off]])) := by rw [bcells_append, List.length_append]; exact hown3
            clear hgr3 hown3
            go_wp2
            go_roundw
            case rel => exact ⟨off + 1, f, out ++ [s[off]], by omega, by omega, by first | rfl | go_num, by simp; omega, HC2, ho3, hB3⟩
            case measure => simp [intOf]; omega
        · cases hb : Ln.begL (s.data.toList.drop off) 92 34
          · have hu : Ln.untP (s.data.toList.drop off) off = Ln.escP (s.data.toList.drop (off + 1)) (off + 1) := by rw [Ln.drop_cons s off hlt, Ln.byte92 h92]; exact Ln.unt_esc _ _
            have hok := @Ln.unt_ok (s.data.toList.drop off) off
            rw [hu, List.length_drop, Ln.szL] at hok
            obtain ⟨U, hU⟩ : ∃ U, Ln.escP (s.data.toList.drop (off + 1)) (off + 1) = U := ⟨_, rfl⟩
            have HU : Hid (Ln.escP (s.data.toList.drop (off + 1)) (off + 1) = U) := hU
            rw [hU] at hu hok
            have hg : off + 1 = s.size ∨ (∃ h : off + 1 < s.size, (off : Int) + 1 < (s.size : Int) ∧ ((s[off + 1].toNat : Int) == 34) = false) := by
              by_cases h : off + 1 < s.size
              · right
                refine ⟨h, by omega, ?_⟩
                rw [Ln.beg_at h, show ((92 : UInt8).toNat : Int) = 92 from rfl, h92] at hb
                simpa using hb
              · left; omega
            obtain ⟨ub, un, uk⟩ := U
            have hesc : Hid (∀ w : World, Calls Tryd.prog 28 #[.string s, .int .i64 ((off : Int) + 1)] w fun e w' => e = TOLD (ub, un, uk) ∧ Below w.heap.size w w') := fun w => by
              have := resc_any s (off + 1) w hs (by omega)
              rw [hU] at this
              exact this
            cases uk
            · have hR : R = ([], 0, 10, un) := by have := HC.out.symm.trans (Ln.unq_bad hh hb (by rw [hu])); rwa [hu] at this
              subst hR
              clear HC HR hh hb hu hok hU
              rcases hg with g1 | ⟨hl2, g1, g2⟩
              · have g1' : ¬ (off : Int) + 1 < (s.size : Int) := by omega
                clear g1
                go_wp2_with (go_at_call 28; refine (hesc.out _).mono ?_; rintro e w1 ⟨rfl, hb1⟩)
                exact bodyPost_ret (v := .tuple #[.string ⟨#[]⟩, .int .i64 0, .int .i64 10, .int .i64 (un : Int)]) (by simp [results, Tryd.results19, go_sem]) rfl ⟨rfl, hnx.trans (hb1.mono hsz)⟩
              · go_wp2_with (go_at_call 28; refine (hesc.out _).mono ?_; rintro e w1 ⟨rfl, hb1⟩)
                exact bodyPost_ret (v := .tuple #[.string ⟨#[]⟩, .int .i64 0, .int .i64 10, .int .i64 (un : Int)]) (by simp [results, Tryd.results19, go_sem]) rfl ⟨rfl, hnx.trans (hb1.mono hsz)⟩
            · have HC2 : Hid (Ln.unqGo s.data.toList f un (out ++ [ub]) = R) := by have := HC.out; rw [Ln.unq_on hh hb (by rw [hu]), hu] at this; exact this
              obtain ⟨k1, k2⟩ := hok rfl
              have k1 : off < un := k1
              have k2 : un ≤ off + (s.size - off) := k2
              clear HC HR hh hb hu hok hU
              rcases hg with g1 | ⟨hl2, g1, g2⟩
              · have g1' : ¬ (off : Int) + 1 < (s.size : Int) := by omega
                clear g1
                go_wp2_with (first | (go_at_call 28; refine (hesc.out _).mono ?_; rintro e w1 ⟨rfl, hb1⟩; replace hown := own_below hown hb1; replace hnx := hnx.trans (hb1.mono hsz); replace hsz := hnx.size) | (at_builtin; refine wpList_append_own _ rfl _ _ 43 rfl w.heap.size 5 i0 (.int .u8 0) 1 1 Tryd.underlying43 hi hz0 hz1 hz2 rfl (by decide) _ _ _ rfl (hown.alloc _) ⟨_, 0, none⟩ 1 1 [.int .u8 (ub.toNat : Int)] rfl rfl (cell_one_new _ _ _) (one_ints (k := .u8) _) (by unfold maxLen; omega) (by omega) (by simp; omega) ?_))
                intro v3 w3 hown3 hgr3 _
                have hB3 : Below w.heap.size w w3 := (hnx.alloc hsz _).grown hgr3 (by simp; omega) (fun g hg => (hown.lt g hg).1)
                have ho3 : w3.ownsRow w.heap.size 5 1 v3 (out ++ [ub]).length (bcells (out ++ [ub])) := by rw [bcells_append, List.length_append]; exact hown3
                clear hgr3 hown3
                go_wp2
                go_roundw
                case rel => exact ⟨un, f, out ++ [ub], by omega, by omega, by first | rfl | go_num, by simp; omega, HC2, ho3, hB3⟩
                case measure => simp [intOf]; omega
              · go_wp2_with (first | (go_at_call 28; refine (hesc.out _).mono ?_; rintro e w1 ⟨rfl, hb1⟩; replace hown := own_below hown hb1; replace hnx := hnx.trans (hb1.mono hsz); replace hsz := hnx.size) | (at_builtin; refine wpList_append_own _ rfl _ _ 43 rfl w.heap.size 5 i0 (.int .u8 0) 1 1 Tryd.underlying43 hi hz0 hz1 hz2 rfl (by decide) _ _ _ rfl (hown.alloc _) ⟨_, 0, none⟩ 1 1 [.int .u8 (ub.toNat : Int)] rfl rfl (cell_one_new _ _ _) (one_ints (k := .u8) _) (by unfold maxLen; omega) (by omega) (by simp; omega) ?_))
                intro v3 w3 hown3 hgr3 _
                have hB3 : Below w.heap.size w w3 := (hnx.alloc hsz _).grown hgr3 (by simp; omega) (fun g hg => (hown.lt g hg).1)
                have ho3 : w3.ownsRow w.heap.size 5 1 v3 (out ++ [ub]).length (bcells (out ++ [ub])) := by rw [bcells_append, List.length_append]; exact hown3
                clear hgr3 hown3
                go_wp2
                go_roundw
                case rel => exact ⟨un, f, out ++ [ub], by omega, by omega, by first | rfl | go_num, by simp; omega, HC2, ho3, hB3⟩
                case measure => simp [intOf]; omega
          · have hl2 : off + 1 < s.size := by
              by_cases h : off + 1 < s.size
              · exact h
              · rw [Ln.beg_past h] at hb; cases hb
            have HC2 : Hid (Ln.unqGo s.data.toList f (off + 2) (out ++ [34]) = R) := by have := HC.out; rwa [Ln.unq_quote hh hb] at this
            have g1 : (off : Int) + 1 < (s.size : Int) := by omega
            have g2 : ((s[off + 1].toNat : Int) == 34) = true := by
              rw [Ln.beg_at hl2, show ((92 : UInt8).toNat : Int) = 92 from rfl, h92] at hb
              simpa using hb
            clear HC HR hh hb
            go_wp2_with (at_builtin; refine wpList_append_own _ rfl _ _ 43 rfl w.heap.size 5 i0 (.int .u8 0) 1 1 Tryd.underlying43 hi hz0 hz1 hz2 rfl (by decide) _ _ _ rfl (hown.alloc _) ⟨_, 0, none⟩ 1 1 [.int .u8 34] rfl rfl (cell_one_new _ _ _) (one_ints (k := .u8) _) (by unfold maxLen; omega) (by omega) (by simp; omega) ?_)
            intro v3 w3 hown3 hgr3 _
            have hB3 : Below w.heap.size w w3 := (hnx.alloc hsz _).grown hgr3 (by simp; omega) (fun g hg => (hown.lt g hg).1)
            have ho3 : w3.ownsRow w.heap.size 5 1 v3 (out ++ [34]).length (bcells (out ++ [34])) := by rw [bcells_append, List.length_append]; exact hown3
            clear hgr3 hown3
            go_wp2
            go_roundw
            case rel => exact ⟨off + 2, f, out ++ [34], by omega, by omega, by first | rfl | go_num, by simp; omega, HC2, ho3, hB3⟩
            case measure => simp [intOf]; omega
      · have hR : R = (out, off + 1, 0, 0) := HC.out.symm.trans (Ln.unq_end ((Ln.head_is (a := 34) hlt).2 hq))
        subst hR
        clear HC HR
        rcases hown.2 with ⟨hv, hn⟩ | ⟨g, cap, cur, hv, _⟩
        · subst hv
          have ho : out = [] := List.eq_nil_of_length_eq_zero hn
          subst ho
          have hcv : (convert 43 9 (.slice none 0 0)).run Tryd.prog wr = .ok (.string ByteArray.empty) wr := run_convert_bytes_nil wr 43 5 Tryd.underlying43 Tryd.underlying5 0 0 9 Tryd.underlying9
          go_wp2_with fail
          exact bodyPost_ret (v := .tuple #[.string ByteArray.empty, .int .i64 ((off : Int) + 1), .int .i64 0, .int .i64 0]) (by simp [results, Tryd.results19, go_sem]) rfl ⟨rfl, hnx⟩
        · subst hv
          have hcv := conv_own hown
          go_wp2_with fail
          exact bodyPost_ret (v := .tuple #[.string ⟨out.toArray⟩, .int .i64 ((off : Int) + 1), .int .i64 0, .int .i64 0]) (by simp [results, Tryd.results19, go_sem]) rfl ⟨rfl, hnx⟩
    · obtain rfl : off = s.size := by omega
      have hR : R = ([], 0, 10, s.size) := by
        have e : s.data.toList.drop s.size = [] := List.drop_eq_nil_of_le (by rw [Ln.szL]; exact Nat.le_refl _)
        have := HC.out.symm.trans (Ln.unq_bad (by rw [e]; simp) (by rw [e]; rfl) (by rw [e]; rfl))
        rwa [e] at this
      subst hR
      clear HC HR
      go_wp2_with fail
      exact bodyPost_ret (v := .tuple #[.string ⟨#[]⟩, .int .i64 0, .int .i64 10, .int .i64 (s.size : Int)]) (by simp [results, Tryd.results19, go_sem]) rfl ⟨rfl, hnx⟩
end Go.Proofs.YtmbpebdceaihaaaDoor
