/- What the reference's Unlist answers: the same as lines.Unlist. -/
import Derived.Test.YtmbpebdceaihaaaDoorLREsc
import Derived.Test.YtmbpebdceaihaaaDoorLUnl
namespace Go.Proofs.YtmbpebdceaihaaaDoor
open Go.RowKit

namespace Ln
theorem beg_first {s : ByteArray} {off : Nat} (h : off < s.size) {a b : UInt8} (hc : ((s[off].toNat : Int) == (a.toNat : Int)) = false) : begL (s.data.toList.drop off) a b = false := by
  by_cases h1 : off + 1 < s.size
  · rw [beg_at h1, hc]; rfl
  · exact beg_past h1 _ _
/-- What a beginning of two bytes says of the bytes. -/
theorem beg_second {s : ByteArray} {off : Nat} (h : off < s.size) {a b : UInt8} (hc : ((s[off].toNat : Int) == (a.toNat : Int)) = true) :
    (begL (s.data.toList.drop off) a b = true ∧ ∃ h2 : off + 1 < s.size, ((s[off + 1].toNat : Int) == (b.toNat : Int)) = true) ∨
    (begL (s.data.toList.drop off) a b = false ∧ ((¬ off + 1 < s.size) ∨ ∃ h2 : off + 1 < s.size, ((s[off + 1].toNat : Int) == (b.toNat : Int)) = false)) := by
  by_cases h1 : off + 1 < s.size
  · cases h2 : ((s[off + 1].toNat : Int) == (b.toNat : Int))
    · exact .inr ⟨by rw [beg_at h1, h2]; simp, .inr ⟨h1, h2⟩⟩
    · exact .inl ⟨by rw [beg_at h1, hc, h2]; rfl, h1, h2⟩
  · exact .inr ⟨beg_past h1 _ _, .inl h1⟩
end Ln

set_option maxRecDepth 100000 in
set_option maxHeartbeats 4000000 in
theorem runl_any (s : ByteArray) (w : World) (hs : s.size ≤ 1048576) :
    Calls Tryd.prog 25 #[.string s] w fun e w' => e = UNL (Ln.unlP s) ∧ Below w.heap.size w w' := by
  obtain ⟨i0, hi, hz0, hz1, hz2⟩ := info_parts Tryd.infoByte
  obtain ⟨R, hR⟩ : ∃ R, Ln.unlP s = R := ⟨_, rfl⟩
  have HR : Hid (Ln.unlGo s.data.toList (s.size + 1) 0 false [] = R) := hR
  rw [hR]
  clear hR
  go_enter Tryd.func25, Tryd.ntmps25
  go_wp2_with fail
  go_loopw [5, 6, 7, 8] (fun v tv bv i wr => ∃ (off f : Nat) (br bt : Bool) (out : List UInt8), off ≤ s.size ∧ s.size < off + f ∧ i = .int .i64 off ∧ tv = .bool bt ∧ bv = .bool br ∧ Hid (bt = (!br && !out.isEmpty)) ∧ out.length ≤ off ∧ Hid (Ln.unlGo s.data.toList f off br out = R) ∧ wr.ownsRow w.heap.size 5 1 v out.length (bcells out) ∧ Below w.heap.size w wr) (fun _ _ _ i _ => s.size + 1 - (intOf i).toNat)
  case atStart => exact ⟨0, s.size + 1, false, false, [], by omega, by omega, rfl, rfl, rfl, rfl, by simp, HR, World.ownsRow_nil _ _ _ _, Below.refl _ _⟩
  case round =>
    obtain ⟨off, f0, br, bt, out, hoff, hf, rfl, rfl, rfl, HBT, hol, HC, hown, hnx⟩ := hrel
    have hsz := hnx.size
    obtain ⟨f, rfl⟩ : ∃ f, f0 = f + 1 := ⟨f0 - 1, by omega⟩
    by_cases hlt : off < s.size
    · have i1 : (off : Int) < (s.size : Int) := by omega
      have hcb : s[off].toNat < 256 := s[off].toNat_lt
      cases h36 : ((s[off].toNat : Int) == 36)
      · have b36 : Ln.begL (s.data.toList.drop off) 36 10 = false := Ln.beg_first hlt h36
        cases h92 : ((s[off].toNat : Int) == 92)
        · have b92 : Ln.begL (s.data.toList.drop off) 92 10 = false := Ln.beg_first hlt h92
          have HLK : Hid (Ln.lookB s.data.toList off br out) := .inr ⟨b36, .inr b92⟩
          have hu : Ln.untP (s.data.toList.drop off) off = Ln.plainP s[off] off := by rw [Ln.drop_cons s off hlt]; exact Ln.unt_plain (Ln.byteN92 h92)
          by_cases hp : s[off].toNat < 32 ∨ 127 ≤ s[off].toNat
          · have hR : R = ([], 10, off) := by
              have e : Ln.plainP s[off] off = (0, off, false) := by rw [Ln.plainP, if_pos hp]
              have := HC.out.symm.trans (Ln.unl_bad HLK.out (by rw [hu, e]))
              rwa [hu, e] at this
            subst hR
            clear HC HR b36 b92 hu HLK
            rcases hp with hp | hp
            · have p1 : ¬ (s[off].toNat : Int) ≥ 32 := by omega
              go_wp2_with fail
              exact bodyPost_ret (v := .tuple #[.string ⟨#[]⟩, .int .i64 10, .int .i64 (off : Int)]) (by simp [results, Tryd.results25, go_sem]) rfl ⟨rfl, hnx⟩
            · have p1 : (s[off].toNat : Int) ≥ 32 := by omega
              have p2 : ¬ (s[off].toNat : Int) < 127 := by omega
              go_wp2_with fail
              exact bodyPost_ret (v := .tuple #[.string ⟨#[]⟩, .int .i64 10, .int .i64 (off : Int)]) (by simp [results, Tryd.results25, go_sem]) rfl ⟨rfl, hnx⟩
          · skip
            have HC2 : Hid (Ln.unlGo s.data.toList f (off + 1) false (out ++ [s[off]]) = R) := by
              have e : Ln.plainP s[off] off = (s[off], off + 1, true) := by rw [Ln.plainP, if_neg hp]
              have := HC.out
              rw [Ln.unl_on HLK.out (by rw [hu, e]), hu, e] at this
              exact this
            have hid_ne : Hid (true = (!false && !(out ++ [s[off]]).isEmpty)) := by show true = _; simp
            have p1 : (s[off].toNat : Int) ≥ 32 := by omega
            have p2 : (s[off].toNat : Int) < 127 := by omega
            clear HC HR b36 b92 hu HLK hp HBT
            go_wp2_with (at_builtin; refine wpList_append_own _ rfl _ _ 43 rfl w.heap.size 5 i0 (.int .u8 0) 1 1 Tryd.underlying43 hi hz0 hz1 hz2 rfl (by decide) _ _ _ rfl (hown.alloc _) ⟨_, 0, none⟩ 1 1 [.int .u8 (s[off].toNat : Int)] rfl rfl (cell_one_new _ _ _) (one_ints (k := .u8) _) (by unfold maxLen; omega) (by omega) (by simp; omega) ?_)
            intro v3 w3 hown3 hgr3 _
            have hB3 : Below w.heap.size w w3 := (hnx.alloc hsz _).grown hgr3 (by simp; omega) (fun g hg => (hown.lt g hg).1)
            have ho3 : w3.ownsRow w.heap.size 5 1 v3 (out ++ [s[off]]).length (bcells (out ++ [s[off]])) := by rw [bcells_append, List.length_append]; exact hown3
            clear hgr3 hown3
            go_wp2
            go_roundw
            case rel => exact ⟨off + 1, f, false, true, out ++ [s[off]], by omega, by omega, by first | rfl | go_num, rfl, rfl, hid_ne, by simp; omega, HC2, ho3, hB3⟩
            case measure => simp [intOf]; omega
        · have hu : Ln.untP (s.data.toList.drop off) off = Ln.escP (s.data.toList.drop (off + 1)) (off + 1) := by rw [Ln.drop_cons s off hlt, Ln.byte92 h92]; exact Ln.unt_esc _ _
          have hok := @Ln.unt_ok (s.data.toList.drop off) off
          rw [hu, List.length_drop, Ln.szL] at hok
          obtain ⟨U, hU⟩ : ∃ U, Ln.escP (s.data.toList.drop (off + 1)) (off + 1) = U := ⟨_, rfl⟩
          rw [hU] at hu hok
          obtain ⟨ub, un, uk⟩ := U
          have hesc : Hid (∀ w : World, Calls Tryd.prog 28 #[.string s, .int .i64 ((off : Int) + 1)] w fun e w' => e = TOLD (ub, un, uk) ∧ Below w.heap.size w w') := fun w => by
            have := resc_any s (off + 1) w hs (by omega)
            rw [hU] at this
            exact this
          cases bt
          · have HLK : Hid (Ln.lookB s.data.toList off br out) := by
              have := HBT.out
              cases br
              · refine .inr ⟨b36, .inl ?_⟩
                simpa using this
              · exact .inl rfl
            clear b36 HBT
            cases uk
            · have hR : R = ([], 10, un) := by have := HC.out.symm.trans (Ln.unl_bad HLK.out (by rw [hu])); rwa [hu] at this
              subst hR
              clear HC HR hu hok hU HLK
              go_wp2_with (go_at_call 28; refine (hesc.out _).mono ?_; rintro e w1 ⟨rfl, hb1⟩)
              exact bodyPost_ret (v := .tuple #[.string ⟨#[]⟩, .int .i64 10, .int .i64 (un : Int)]) (by simp [results, Tryd.results25, go_sem]) rfl ⟨rfl, hnx.trans (hb1.mono hsz)⟩
            · have HC2 : Hid (Ln.unlGo s.data.toList f un false (out ++ [ub]) = R) := by have := HC.out; rw [Ln.unl_on HLK.out (by rw [hu]), hu] at this; exact this
              have hid_ne : Hid (true = (!false && !(out ++ [ub]).isEmpty)) := by show true = _; simp
              obtain ⟨k1, k2⟩ := hok rfl
              have k1 : off < un := k1
              have k2 : un ≤ off + (s.size - off) := k2
              clear HC HR hu hok hU HLK
              go_wp2_with (first | (go_at_call 28; refine (hesc.out _).mono ?_; rintro e w1 ⟨rfl, hb1⟩; replace hown := own_below hown hb1; replace hnx := hnx.trans (hb1.mono hsz); replace hsz := hnx.size) | (at_builtin; refine wpList_append_own _ rfl _ _ 43 rfl w.heap.size 5 i0 (.int .u8 0) 1 1 Tryd.underlying43 hi hz0 hz1 hz2 rfl (by decide) _ _ _ rfl (hown.alloc _) ⟨_, 0, none⟩ 1 1 [.int .u8 (ub.toNat : Int)] rfl rfl (cell_one_new _ _ _) (one_ints (k := .u8) _) (by unfold maxLen; omega) (by omega) (by simp; omega) ?_))
              intro v3 w3 hown3 hgr3 _
              have hB3 : Below w.heap.size w w3 := (hnx.alloc hsz _).grown hgr3 (by simp; omega) (fun g hg => (hown.lt g hg).1)
              have ho3 : w3.ownsRow w.heap.size 5 1 v3 (out ++ [ub]).length (bcells (out ++ [ub])) := by rw [bcells_append, List.length_append]; exact hown3
              clear hgr3 hown3
              go_wp2
              go_roundw
              case rel => exact ⟨un, f, false, true, out ++ [ub], by omega, by omega, by first | rfl | go_num, rfl, rfl, hid_ne, by simp; omega, HC2, ho3, hB3⟩
              case measure => simp [intOf]; omega
          · obtain ⟨rfl, hone⟩ : br = false ∧ out ≠ [] := by
              have := HBT.out
              cases br
              · exact ⟨rfl, fun e => by rw [e] at this; cases this⟩
              · cases this
            rcases Ln.beg_second (a := 92) (b := 10) hlt h92 with ⟨hb, hl2, g2⟩ | ⟨hb, hg⟩
            · have HC2 : Hid (Ln.unlGo s.data.toList f (off + 2) true out = R) := by have := HC.out; rwa [Ln.unl_break b36 hone hb] at this
              have g1 : (off : Int) + 1 < (s.size : Int) := by omega
              have g2' : ((s[off + 1].toNat : Int) == 10) = true := g2
              have hid_f : Hid (false = (!true && !out.isEmpty)) := rfl
              clear HC HR hu hok hU b36 hb HBT g2 hone
              go_wp2_with fail
              go_roundw
              case rel => exact ⟨off + 2, f, true, false, out, by omega, by omega, by go_num, rfl, rfl, hid_f, by omega, HC2, hown, hnx⟩
              case measure => simp [intOf]; omega
            · have HLK : Hid (Ln.lookB s.data.toList off false out) := .inr ⟨b36, .inr hb⟩
              clear b36 hb HBT hone
              rcases hg with g1 | ⟨hl2, g2⟩
              · have g1' : ¬ (off : Int) + 1 < (s.size : Int) := by omega
                clear g1
                cases uk
                · have hR : R = ([], 10, un) := by have := HC.out.symm.trans (Ln.unl_bad HLK.out (by rw [hu])); rwa [hu] at this
                  subst hR
                  clear HC HR hu hok hU HLK
                  go_wp2_with (go_at_call 28; refine (hesc.out _).mono ?_; rintro e w1 ⟨rfl, hb1⟩)
                  exact bodyPost_ret (v := .tuple #[.string ⟨#[]⟩, .int .i64 10, .int .i64 (un : Int)]) (by simp [results, Tryd.results25, go_sem]) rfl ⟨rfl, hnx.trans (hb1.mono hsz)⟩
                · have HC2 : Hid (Ln.unlGo s.data.toList f un false (out ++ [ub]) = R) := by have := HC.out; rw [Ln.unl_on HLK.out (by rw [hu]), hu] at this; exact this
                  have hid_ne : Hid (true = (!false && !(out ++ [ub]).isEmpty)) := by show true = _; simp
                  obtain ⟨k1, k2⟩ := hok rfl
                  have k1 : off < un := k1
                  have k2 : un ≤ off + (s.size - off) := k2
                  clear HC HR hu hok hU HLK
                  go_wp2_with (first | (go_at_call 28; refine (hesc.out _).mono ?_; rintro e w1 ⟨rfl, hb1⟩; replace hown := own_below hown hb1; replace hnx := hnx.trans (hb1.mono hsz); replace hsz := hnx.size) | (at_builtin; refine wpList_append_own _ rfl _ _ 43 rfl w.heap.size 5 i0 (.int .u8 0) 1 1 Tryd.underlying43 hi hz0 hz1 hz2 rfl (by decide) _ _ _ rfl (hown.alloc _) ⟨_, 0, none⟩ 1 1 [.int .u8 (ub.toNat : Int)] rfl rfl (cell_one_new _ _ _) (one_ints (k := .u8) _) (by unfold maxLen; omega) (by omega) (by simp; omega) ?_))
                  intro v3 w3 hown3 hgr3 _
                  have hB3 : Below w.heap.size w w3 := (hnx.alloc hsz _).grown hgr3 (by simp; omega) (fun g hg => (hown.lt g hg).1)
                  have ho3 : w3.ownsRow w.heap.size 5 1 v3 (out ++ [ub]).length (bcells (out ++ [ub])) := by rw [bcells_append, List.length_append]; exact hown3
                  clear hgr3 hown3
                  go_wp2
                  go_roundw
                  case rel => exact ⟨un, f, false, true, out ++ [ub], by omega, by omega, by first | rfl | go_num, rfl, rfl, hid_ne, by simp; omega, HC2, ho3, hB3⟩
                  case measure => simp [intOf]; omega
              · have g1 : (off : Int) + 1 < (s.size : Int) := by omega
                have g2' : ((s[off + 1].toNat : Int) == 10) = false := g2
                clear g2
                cases uk
                · have hR : R = ([], 10, un) := by have := HC.out.symm.trans (Ln.unl_bad HLK.out (by rw [hu])); rwa [hu] at this
                  subst hR
                  clear HC HR hu hok hU HLK
                  go_wp2_with (go_at_call 28; refine (hesc.out _).mono ?_; rintro e w1 ⟨rfl, hb1⟩)
                  exact bodyPost_ret (v := .tuple #[.string ⟨#[]⟩, .int .i64 10, .int .i64 (un : Int)]) (by simp [results, Tryd.results25, go_sem]) rfl ⟨rfl, hnx.trans (hb1.mono hsz)⟩
                · have HC2 : Hid (Ln.unlGo s.data.toList f un false (out ++ [ub]) = R) := by have := HC.out; rw [Ln.unl_on HLK.out (by rw [hu]), hu] at this; exact this
                  have hid_ne : Hid (true = (!false && !(out ++ [ub]).isEmpty)) := by show true = _; simp
                  obtain ⟨k1, k2⟩ := hok rfl
                  have k1 : off < un := k1
                  have k2 : un ≤ off + (s.size - off) := k2
                  clear HC HR hu hok hU HLK
                  go_wp2_with (first | (go_at_call 28; refine (hesc.out _).mono ?_; rintro e w1 ⟨rfl, hb1⟩; replace hown := own_below hown hb1; replace hnx := hnx.trans (hb1.mono hsz); replace hsz := hnx.size) | (at_builtin; refine wpList_append_own _ rfl _ _ 43 rfl w.heap.size 5 i0 (.int .u8 0) 1 1 Tryd.underlying43 hi hz0 hz1 hz2 rfl (by decide) _ _ _ rfl (hown.alloc _) ⟨_, 0, none⟩ 1 1 [.int .u8 (ub.toNat : Int)] rfl rfl (cell_one_new _ _ _) (one_ints (k := .u8) _) (by unfold maxLen; omega) (by omega) (by simp; omega) ?_))
                  intro v3 w3 hown3 hgr3 _
                  have hB3 : Below w.heap.size w w3 := (hnx.alloc hsz _).grown hgr3 (by simp; omega) (fun g hg => (hown.lt g hg).1)
                  have ho3 : w3.ownsRow w.heap.size 5 1 v3 (out ++ [ub]).length (bcells (out ++ [ub])) := by rw [bcells_append, List.length_append]; exact hown3
                  clear hgr3 hown3
                  go_wp2
                  go_roundw
                  case rel => exact ⟨un, f, false, true, out ++ [ub], by omega, by omega, by first | rfl | go_num, rfl, rfl, hid_ne, by simp; omega, HC2, ho3, hB3⟩
                  case measure => simp [intOf]; omega
      · have h92 : ((s[off].toNat : Int) == 92) = false := by
          have : (s[off].toNat : Int) = 36 := by simpa using h36
          rw [this]; rfl
        have b92 : Ln.begL (s.data.toList.drop off) 92 10 = false := Ln.beg_first hlt h92
        have hu : Ln.untP (s.data.toList.drop off) off = Ln.plainP s[off] off := by rw [Ln.drop_cons s off hlt]; exact Ln.unt_plain (Ln.byteN92 h92)
        have hp : ¬ (s[off].toNat < 32 ∨ 127 ≤ s[off].toNat) := by
          have : (s[off].toNat : Int) = 36 := by simpa using h36
          omega
        cases br
        · rcases Ln.beg_second (a := 36) (b := 10) hlt h36 with ⟨hb, hl2, g2⟩ | ⟨hb, hg⟩
          · have g1 : (off : Int) + 1 < (s.size : Int) := by omega
            have g2' : ((s[off + 1].toNat : Int) == 10) = true := g2
            by_cases hm : off + 2 < s.size
            · have hR : R = ([], 10, off + 2) := HC.out.symm.trans (Ln.unl_more hb (by rw [Ln.szL]; exact hm))
              subst hR
              have hm' : (off : Int) + 2 < (s.size : Int) := by omega
              clear HC HR hu hb b92 hp g2 HBT
              go_wp2_with fail
              exact bodyPost_ret (v := .tuple #[.string ⟨#[]⟩, .int .i64 10, .int .i64 ((off : Int) + 2)]) (by simp [results, Tryd.results25, go_sem]) rfl ⟨rfl, hnx⟩
            · have hR : R = (out, 0, 0) := HC.out.symm.trans (Ln.unl_end hb (by rw [Ln.szL]; exact hm))
              subst hR
              have hm' : ¬ (off : Int) + 2 < (s.size : Int) := by omega
              clear HC HR hu hb b92 hp g2 HBT hm
              rcases hown.2 with ⟨hv, hn⟩ | ⟨g, cap, cur, hv, _⟩
              · subst hv
                have ho : out = [] := List.eq_nil_of_length_eq_zero hn
                subst ho
                have hcv : (convert 43 9 (.slice none 0 0)).run Tryd.prog wr = .ok (.string ByteArray.empty) wr := run_convert_bytes_nil wr 43 5 Tryd.underlying43 Tryd.underlying5 0 0 9 Tryd.underlying9
                go_wp2_with fail
                exact bodyPost_ret (v := .tuple #[.string ByteArray.empty, .int .i64 0, .int .i64 0]) (by simp [results, Tryd.results25, go_sem]) rfl ⟨rfl, hnx⟩
              · subst hv
                have hcv := conv_own hown
                go_wp2_with fail
                exact bodyPost_ret (v := .tuple #[.string ⟨out.toArray⟩, .int .i64 0, .int .i64 0]) (by simp [results, Tryd.results25, go_sem]) rfl ⟨rfl, hnx⟩
          · have HLK : Hid (Ln.lookB s.data.toList off false out) := .inr ⟨hb, .inr b92⟩
            have HC2 : Hid (Ln.unlGo s.data.toList f (off + 1) false (out ++ [s[off]]) = R) := by
              have e : Ln.plainP s[off] off = (s[off], off + 1, true) := by rw [Ln.plainP, if_neg hp]
              have := HC.out
              rw [Ln.unl_on HLK.out (by rw [hu, e]), hu, e] at this
              exact this
            have hid_ne : Hid (true = (!false && !(out ++ [s[off]]).isEmpty)) := by show true = _; simp
            have p1 : (s[off].toNat : Int) ≥ 32 := by omega
            have p2 : (s[off].toNat : Int) < 127 := by omega
            clear HC HR b92 hu HLK hp HBT hb
            rcases hg with g1 | ⟨hl2, g2⟩
            · have g1' : ¬ (off : Int) + 1 < (s.size : Int) := by omega
              clear g1
              go_wp2_with (at_builtin; refine wpList_append_own _ rfl _ _ 43 rfl w.heap.size 5 i0 (.int .u8 0) 1 1 Tryd.underlying43 hi hz0 hz1 hz2 rfl (by decide) _ _ _ rfl (hown.alloc _) ⟨_, 0, none⟩ 1 1 [.int .u8 (s[off].toNat : Int)] rfl rfl (cell_one_new _ _ _) (one_ints (k := .u8) _) (by unfold maxLen; omega) (by omega) (by simp; omega) ?_)
              intro v3 w3 hown3 hgr3 _
              have hB3 : Below w.heap.size w w3 := (hnx.alloc hsz _).grown hgr3 (by simp; omega) (fun g hg => (hown.lt g hg).1)
              have ho3 : w3.ownsRow w.heap.size 5 1 v3 (out ++ [s[off]]).length (bcells (out ++ [s[off]])) := by rw [bcells_append, List.length_append]; exact hown3
              clear hgr3 hown3
              go_wp2
              go_roundw
              case rel => exact ⟨off + 1, f, false, true, out ++ [s[off]], by omega, by omega, by first | rfl | go_num, rfl, rfl, hid_ne, by simp; omega, HC2, ho3, hB3⟩
              case measure => simp [intOf]; omega
            · have g1 : (off : Int) + 1 < (s.size : Int) := by omega
              have g2' : ((s[off + 1].toNat : Int) == 10) = false := g2
              clear g2
              go_wp2_with (at_builtin; refine wpList_append_own _ rfl _ _ 43 rfl w.heap.size 5 i0 (.int .u8 0) 1 1 Tryd.underlying43 hi hz0 hz1 hz2 rfl (by decide) _ _ _ rfl (hown.alloc _) ⟨_, 0, none⟩ 1 1 [.int .u8 (s[off].toNat : Int)] rfl rfl (cell_one_new _ _ _) (one_ints (k := .u8) _) (by unfold maxLen; omega) (by omega) (by simp; omega) ?_)
              intro v3 w3 hown3 hgr3 _
              have hB3 : Below w.heap.size w w3 := (hnx.alloc hsz _).grown hgr3 (by simp; omega) (fun g hg => (hown.lt g hg).1)
              have ho3 : w3.ownsRow w.heap.size 5 1 v3 (out ++ [s[off]]).length (bcells (out ++ [s[off]])) := by rw [bcells_append, List.length_append]; exact hown3
              clear hgr3 hown3
              go_wp2
              go_roundw
              case rel => exact ⟨off + 1, f, false, true, out ++ [s[off]], by omega, by omega, by first | rfl | go_num, rfl, rfl, hid_ne, by simp; omega, HC2, ho3, hB3⟩
              case measure => simp [intOf]; omega
        · have HLK : Hid (Ln.lookB s.data.toList off true out) := .inl rfl
          have HC2 : Hid (Ln.unlGo s.data.toList f (off + 1) false (out ++ [s[off]]) = R) := by
            have e : Ln.plainP s[off] off = (s[off], off + 1, true) := by rw [Ln.plainP, if_neg hp]
            have := HC.out
            rw [Ln.unl_on HLK.out (by rw [hu, e]), hu, e] at this
            exact this
          have hid_ne : Hid (true = (!false && !(out ++ [s[off]]).isEmpty)) := by show true = _; simp
          have p1 : (s[off].toNat : Int) ≥ 32 := by omega
          have p2 : (s[off].toNat : Int) < 127 := by omega
          clear HC HR b92 hu HLK hp HBT
          go_wp2_with (at_builtin; refine wpList_append_own _ rfl _ _ 43 rfl w.heap.size 5 i0 (.int .u8 0) 1 1 Tryd.underlying43 hi hz0 hz1 hz2 rfl (by decide) _ _ _ rfl (hown.alloc _) ⟨_, 0, none⟩ 1 1 [.int .u8 (s[off].toNat : Int)] rfl rfl (cell_one_new _ _ _) (one_ints (k := .u8) _) (by unfold maxLen; omega) (by omega) (by simp; omega) ?_)
          intro v3 w3 hown3 hgr3 _
          have hB3 : Below w.heap.size w w3 := (hnx.alloc hsz _).grown hgr3 (by simp; omega) (fun g hg => (hown.lt g hg).1)
          have ho3 : w3.ownsRow w.heap.size 5 1 v3 (out ++ [s[off]]).length (bcells (out ++ [s[off]])) := by rw [bcells_append, List.length_append]; exact hown3
          clear hgr3 hown3
          go_wp2
          go_roundw
          case rel => exact ⟨off + 1, f, false, true, out ++ [s[off]], by omega, by omega, by first | rfl | go_num, rfl, rfl, hid_ne, by simp; omega, HC2, ho3, hB3⟩
          case measure => simp [intOf]; omega
    · obtain rfl : off = s.size := by omega
      have hR : R = ([], 10, s.size) := by
        have e : s.data.toList.drop s.size = [] := List.drop_eq_nil_of_le (by rw [Ln.szL]; exact Nat.le_refl _)
        have hlk : Ln.lookB s.data.toList s.size br out := .inr ⟨by rw [e]; rfl, .inr (by rw [e]; rfl)⟩
        have := HC.out.symm.trans (Ln.unl_bad hlk (by rw [e]; rfl))
        rwa [e] at this
      subst hR
      clear HC HR HBT
      go_wp2_with fail
      exact bodyPost_ret (v := .tuple #[.string ⟨#[]⟩, .int .i64 10, .int .i64 (s.size : Int)]) (by simp [results, Tryd.results25, go_sem]) rfl ⟨rfl, hnx⟩
end Go.Proofs.YtmbpebdceaihaaaDoor
