/- What the reference's Normal answers: the same as paths.Normal. -/
import Derived.Test.YtjmfgffihkbnlabRefA
import Derived.Test.YtjmfgffihkbnlabNormal
import Derived.Test.YtjmfgffihkbnlabPlainRef
namespace Go.Proofs.Ytjmfgffihkbnlab
open Go.RowKit

theorem own_base {w : World} {base base' : Nat} {e : TypeId} {size : Nat} {v : Value} {n : Nat} {xs : List Value} (h : w.ownsRow base e size v n xs) (hb : base' ≤ base) : w.ownsRow base' e size v n xs := by
  refine ⟨h.1, ?_⟩
  rcases h.2 with h2 | ⟨g, cap, cur, hv, hbg, r⟩
  · exact .inl h2
  · exact .inr ⟨g, cap, cur, hv, Nat.le_trans hb hbg, r⟩

set_option maxHeartbeats 4000000 in
theorem rnormal_any (a : Option Addr) (cap : Nat) (l : List ByteArray) (s : ByteArray) (w : World) (h : Strs w a cap l) (hs : s.size ≤ 4611686018427387904) :
    Calls Try.prog 7 #[.slice a l.length cap, .string s] w fun e w' => ∃ v, e = .returned (.tuple #[v, .bool (Pl.normalP l s).2.1, .int .i64 (Pl.normalP l s).2.2]) ∧
      w'.ownsRow w.heap.size 9 1 v (Pl.normalP l s).1.length ((Pl.normalP l s).1.map Value.string) ∧ Below w.heap.size w w' := by
  obtain ⟨i0, hi, hz0, hz1, hz2⟩ := info_parts Try.infoStr
  cases hr : Pl.rightP l
  · rw [Pl.normal_wrong hr]
    go_enter Try.func7, Try.ntmps7
    go_wp2_with (go_at_call 12; refine (rright_any _ _ l _ h).mono ?_; rintro e w' ⟨rfl, rfl⟩)
    go_ret3
    exact ⟨_, rfl, World.ownsRow_nil _ _ _ _, Below.refl _ _⟩
  by_cases h2 : 1024 < s.size
  · rw [Pl.normal_far hr h2]
    have h2' : (1024 : Int) < (s.size : Int) := by omega
    go_enter Try.func7, Try.ntmps7
    go_wp2_with (go_at_call 12; refine (rright_any _ _ l _ h).mono ?_; rintro e w' ⟨rfl, rfl⟩)
    go_ret3
    exact ⟨_, rfl, World.ownsRow_nil _ _ _ _, Below.refl _ _⟩
  by_cases h3 : s.toList = []
  · rw [Pl.normal_none hr h2 h3]
    have h2' : ¬ (1024 : Int) < (s.size : Int) := by omega
    go_enter Try.func7, Try.ntmps7
    go_wp2_with (go_at_call 12; refine (rright_any _ _ l _ h).mono ?_; rintro e w' ⟨rfl, rfl⟩)
    go_ret3
    exact ⟨_, rfl, World.ownsRow_nil _ _ _ _, Below.refl _ _⟩
  have h2' : ¬ (1024 : Int) < (s.size : Int) := by omega
  have h0 := Pl.size_pos h3
  have b3 : s.toList.isEmpty = false := by simpa using h3
  have hl := Pl.right_len hr
  have HN := Pl.right_names hr
  have hbad := @Pl.normal_bad l s hr h2 h3
  have hlong := @Pl.normal_long l s hr h2 h3
  have hok := @Pl.normal_ok l s hr h2 h3
  have hpl := Pl.parts_len s
  have hpm := Pl.parts_mem s
  have hpn := Pl.parts_ne s
  have hcl := @Pl.clean_all s
  have hnul := @Pl.nul_bad s
  clear h3
  obtain ⟨ps, hps⟩ : ∃ ps, Pl.partsB s = ps := ⟨_, rfl⟩
  obtain ⟨R, hR⟩ : ∃ R, Pl.normalP l s = R := ⟨_, rfl⟩
  obtain ⟨st, hst⟩ : ∃ st, Pl.startP l s = st := ⟨_, rfl⟩
  rw [hps] at hbad hlong hok hpl hpm hpn hcl
  simp only [hps] at hnul
  rw [hR] at hbad hlong hok ⊢
  rw [hst] at hlong hok
  have HB : Hid (ps.all Pl.mayB = false → R = ([], false, 20)) := hbad
  have HL : Hid (ps.all Pl.mayB = true → 1024 < Pl.sizeP (ps.foldl Pl.stepP st) → R = ([], false, 4)) := hlong
  have HO : Hid (ps.all Pl.mayB = true → ¬ 1024 < Pl.sizeP (ps.foldl Pl.stepP st) → R = (ps.foldl Pl.stepP st, Pl.lastDir ps, 0)) := hok
  have HPM : Hid (∀ p ∈ ps, p.size ≤ s.size) := hpm
  have HPN : Hid (ps ≠ []) := hpn
  have HPS : Hid (Pl.partsB s = ps) := hps
  have HST : Hid (Pl.startP l s = st) := hst
  have HNN : Hid (l.all Pl.nameB = true) := HN
  have HCL : Hid (s.data.toList.all (fun c => !(c == 0)) = true → ps.all (fun x => decide (x.size ≤ 255)) = true → ps.all Pl.mayB = true) := hcl
  have HNUL : Hid (∀ {k : Nat} (h : k < s.size), ((s[k].toNat : Int) == 0) = true → ps.all Pl.mayB = false) := hnul
  have hps0 := List.length_pos_iff.2 hpn
  clear hbad hlong hok hps hpm hR hst HN hpn hcl hnul
  go_enter Try.func7, Try.ntmps7
  go_wp2_with (go_at_call 12; refine (rright_any _ _ l _ h).mono ?_; rintro e w' ⟨rfl, rfl⟩)
  go_loop [8] (fun i => ∃ k : Nat, k ≤ s.size ∧ i = .int .i64 k ∧ Hid ((s.data.toList.take k).all (fun c => !(c == 0)) = true)) (fun i => s.size - (intOf i).toNat)
  case atStart => exact ⟨0, Nat.zero_le _, rfl, rfl⟩
  case round =>
    obtain ⟨k, hk, rfl, HA⟩ := hrel
    by_cases hlt : k < s.size
    · cases hc : ((s[k].toNat : Int) == 0)
      · have HR : Hid ((s.data.toList.take (k + 1)).all (fun c => !(c == 0)) = true) := Pl.nul_step hlt HA.out hc
        go_wp2
        go_round
        case rel => exact ⟨k + 1, by omega, by go_num, HR⟩
        case measure => simp [intOf]; omega
      · have hR := HB.out (HNUL.out hlt hc)
        subst hR
        go_wp2
        go_ret3
        exact ⟨_, rfl, World.ownsRow_nil _ _ _ _, Below.refl _ _⟩
    have HA' : Hid (s.data.toList.all (fun c => !(c == 0)) = true) := by have := HA.out; rwa [Pl.take_all s k (by omega)] at this
    clear HA HNUL
    go_wp2_with fail
    refine (rparts_any s _ (by omega)).mono ?_
    rintro e w2 ⟨vp, rfl, hownp, hb2⟩
    rw [HPS.out] at hownp
    have hs2 := hb2.size
    obtain ⟨ap, cp, rfl, hpst, hpb⟩ := own_strs_at hownp (by omega) (fun p hp => by have := HPM.out p hp; omega)
    clear hownp
    go_wp2_with fail
    go_loop [10] (fun i => ∃ j : Nat, j ≤ ps.length ∧ i = .int .i64 j ∧ Hid ((ps.take j).all (fun x => decide (x.size ≤ 255)) = true)) (fun i => ps.length - (intOf i).toNat)
    case atStart => exact ⟨0, Nat.zero_le _, rfl, rfl⟩
    case round =>
      clear hlt hk
      obtain ⟨j, hj, rfl, HS⟩ := hrel
      by_cases hlt : j < ps.length
      · obtain ⟨b, off, rfl, hb0, hc⟩ := hpst.cells j hlt
        have hxs := hpst.size j hlt
        by_cases hbig : 255 < (ps[j]'hlt).size
        · have hR := HB.out (Pl.long_bad hlt hbig)
          subst hR
          have hbi : (255 : Int) < ((ps[j]'hlt).size : Int) := by omega
          generalize ps[j]'hlt = x at *
          go_wp2
          go_ret3
          exact ⟨_, rfl, World.ownsRow_nil _ _ _ _, hb2⟩
        · have HR : Hid ((ps.take (j + 1)).all (fun x => decide (x.size ≤ 255)) = true) := Pl.short_step hlt HS.out (by omega)
          have hbi : ¬ (255 : Int) < ((ps[j]'hlt).size : Int) := by omega
          generalize ps[j]'hlt = x at *
          go_wp2
          go_round
          case rel => exact ⟨j + 1, by omega, by go_num, HR⟩
          case measure => simp [intOf]; omega
      have HM : Hid (ps.all Pl.mayB = true) := HCL.out HA'.out (by have := HS.out; rwa [List.take_of_length_le (by omega)] at this)
      have hjl : ¬ j < ps.length := hlt
      clear HS HA' HCL HB hlt
      go_wp2_with fail
      refine (copy_any _ _ l _ (h.below hb2)).mono ?_
      rintro e w3 ⟨v3, rfl, hown3, hb3⟩
      have hpst3 := hpst.below hb3
      have hs3 := hb3.size
      have hbw : Below w.heap.size w w3 := hb2.trans (hb3.mono hs2)
      have hap3 : Hid (∀ ad : Addr, ap = some ad → v3.ownBlock ≠ some ad.block) := fun ad e1 e2 => by
        have := (hpb ad e1).2
        have := (hown3.lt _ e2).1
        omega
      have hown4 : w3.ownsRow w.heap.size 9 1 v3 l.length (l.map Value.string) := by
        refine ⟨hown3.1, ?_⟩
        rcases hown3.2 with h2 | ⟨g, cap, cur, hv, hbg, r⟩
        · exact .inl h2
        · exact .inr ⟨g, cap, cur, hv, Nat.le_trans hs2 hbg, r⟩
      clear hpst hb3 hown3 hjl hj
      cases hsl : ((s[0].toNat : Int) == 47)
      · have hst : l = st := (@Pl.start_other l s h0 hsl).symm.trans HST.out
        obtain ⟨hown, hstl, HSN⟩ : w3.ownsRow w.heap.size 9 1 v3 st.length (st.map Value.string) ∧ st.length ≤ 1024 ∧ Hid (st.all Pl.nameB = true) := by rw [← hst]; exact ⟨hown4, hl, HNN.out⟩
        clear hst hown4
        go_wp2_with fail
        go_loopw [11, 12] (fun v i wr => ∃ k : Nat, k ≤ ps.length ∧ i = .int .i64 k ∧ wr.ownsRow w.heap.size 9 1 v ((ps.take k).foldl Pl.stepP st).length (((ps.take k).foldl Pl.stepP st).map Value.string) ∧ Strs wr ap cp ps ∧ Hid (∀ ad : Addr, ap = some ad → v.ownBlock ≠ some ad.block) ∧ Below w.heap.size w wr)
          (fun _ i _ => ps.length - (intOf i).toNat)
        case atStart => exact ⟨0, Nat.zero_le _, rfl, hown, hpst3, hap3, hbw⟩
        case round =>
          clear hown hpst3 hbw
          obtain ⟨k, hk, rfl, hown, hpst, hap, hbw⟩ := hrel
          have hsz := hbw.size
          have hol : ((ps.take k).foldl Pl.stepP st).length ≤ 1024 + k := by have := Pl.fold_len st (ps.take k); simp at this; omega
          have HON : Hid (((ps.take k).foldl Pl.stepP st).all Pl.nameB = true) := Pl.fold_names HSN.out _ (by
            have := HM.out
            rw [List.all_eq_true] at this ⊢
            exact fun x hx => this x (List.mem_of_mem_take hx))
          by_cases hlt : k < ps.length
          · obtain ⟨b, off, rfl, hb0, hc⟩ := hpst.cells k hlt
            have hxs := hpst.size k hlt
            have HF : Hid ((ps.take (k + 1)).foldl Pl.stepP st = Pl.stepP ((ps.take k).foldl Pl.stepP st) (ps[k]'hlt)) := Pl.fold_snoc ps st k hlt
            generalize ps[k]'hlt = x at *
            generalize (ps.take k).foldl Pl.stepP st = out at *
            by_cases e1 : x.toList = []
            · have HF' : Hid ((ps.take (k + 1)).foldl Pl.stepP st = out) := HF.out.trans (Pl.step_same (Or.inl e1))
              go_wp2_with fail
              go_roundw
              case rel => exact ⟨k + 1, by omega, by go_num, by rw [HF'.out]; exact hown, hpst, hap, hbw⟩
              case measure => simp [intOf]; omega
            by_cases e2 : x.toList = [46]
            · have HF' : Hid ((ps.take (k + 1)).foldl Pl.stepP st = out) := HF.out.trans (Pl.step_same (Or.inr e2))
              have b1 : x.toList.isEmpty = false := by simpa using e1
              go_wp2_with fail
              go_roundw
              case rel => exact ⟨k + 1, by omega, by go_num, by rw [HF'.out]; exact hown, hpst, hap, hbw⟩
              case measure => simp [intOf]; omega
            have b1 : x.toList.isEmpty = false := by simpa using e1
            have b2 : (x.toList == [46]) = false := by simpa using e2
            by_cases e3 : x.toList = [46, 46]
            · have HF' : Hid ((ps.take (k + 1)).foldl Pl.stepP st = out.dropLast) := HF.out.trans (Pl.step_up e3)
              by_cases e4 : out = []
              · have HG : Hid ((ps.take (k + 1)).foldl Pl.stepP st = out) := by rw [e4] at HF' ⊢; exact HF'
                obtain ⟨ao, co, rfl, hos⟩ := own_strs hown (by omega) (names_size HON.out)
                have hn0 : ¬ (0 : Int) < (out.length : Int) := by rw [e4]; simp
                clear e1 e2 e4
                go_wp2_with fail
                go_roundw
                case rel => exact ⟨k + 1, by omega, by go_num, by rw [HG.out]; exact hown, hpst, hap, hbw⟩
                case measure => simp [intOf]; omega
              · obtain ⟨n, hn⟩ : ∃ n, out.length = n + 1 := ⟨out.length - 1, by have := List.length_pos_iff.2 e4; omega⟩
                obtain ⟨g, co, rfl, hbg, hglt⟩ := hown.form (by omega)
                have hown' := hown
                rw [hn] at hown'
                have hpop := own_pop hn (by rw [hn]; exact hown')
                have hcc := own_cap hown'
                have hc1 := hcc.1
                have hc2 : co ≤ 9223372036854775807 := hcc.2
                clear e1 e2 e4 hown' hcc
                rw [hn]
                clear hn
                go_wp2_with fail
                go_roundw
                case rel => exact ⟨k + 1, by omega, by go_num, by rw [HF'.out]; exact hpop, hpst, hap, hbw⟩
                case measure => simp [intOf]; omega
            · have HF' : Hid ((ps.take (k + 1)).foldl Pl.stepP st = out ++ [x]) := HF.out.trans (Pl.step_down e1 e2 e3)
              have b3 : (x.toList == [46, 46]) = false := by simpa using e3
              clear e1 e2 e3
              go_wp2_with (at_builtin; refine wpList_append_own_at _ rfl (.tmp 59) (.tmp 64) 23 rfl w.heap.size 9 i0 (.string ⟨#[]⟩) 1 16 Try.underlying23 hi hz0 hz1 hz2 rfl (by decide) _ _ _ rfl (hown.alloc _) ⟨wr.heap.size, 0, none⟩ 1 1 [.string x] rfl rfl (cell_one_new _ _ _) ?c2 ?c3 ?c4 ?c5 ?_)
              case c2 => intro u hu; simp at hu; subst hu; rfl
              case c3 => unfold maxLen; omega
              case c4 => omega
              case c5 => simp; omega
              intro v' w4 hown' hgrow _ hat
              have hb4 : Below w.heap.size w w4 := (hbw.alloc hsz _).grown hgrow (by simp; omega) (fun g hg => (hown.lt g hg).1)
              have hp4 : Strs w4 (some ⟨b, off, none⟩) cp ps := (hpst.alloc _).grown hgrow (fun ad e1 e2 => hap.out ad e1 e2.symm)
              have ha4 : Hid (∀ ad : Addr, some (⟨b, off, none⟩ : Addr) = some ad → v'.ownBlock ≠ some ad.block) := fun ad e1 e2 => by
                rcases hat with hat | hat
                · rw [hat] at e2; exact hap.out ad e1 e2
                · rw [hat] at e2
                  cases e1
                  simp at e2
                  omega
              clear hgrow hat hown
              go_wp2
              go_roundw
              case rel => exact ⟨k + 1, by omega, by go_num, by rw [HF'.out]; simpa using hown', hp4, ha4, hb4⟩
              case measure => simp [intOf]; omega
          · have ht : ps.take k = ps := List.take_of_length_le (by omega)
            rw [ht] at hown HON hol
            clear ht
            obtain ⟨out, hout⟩ : ∃ out, ps.foldl Pl.stepP st = out := ⟨_, rfl⟩
            rw [hout] at hown HON hol HL HO
            clear hout
            obtain ⟨ao, co, rfl, hos⟩ := own_strs hown (by omega) (names_size HON.out)
            by_cases hbig : 1024 < Pl.sizeP out
            · have hR := HL.out HM.out hbig
              subst hR
              have hbi : (1024 : Int) < (Pl.sizeR out : Int) := by have := (Pl.sizeR_iff out).2 hbig; omega
              clear HL HO
              go_wp2_with (go_at_call 26; refine (rsize_any _ _ _ _ hos).mono ?_; rintro e w' ⟨rfl, rfl⟩)
              go_ret3
              exact ⟨_, rfl, World.ownsRow_nil _ _ _ _, hbw⟩
            · have hR := HO.out HM.out hbig
              subst hR
              have hbi : ¬ (1024 : Int) < (Pl.sizeR out : Int) := by have := mt (Pl.sizeR_iff out).1 hbig; omega
              clear HL HO
              obtain ⟨n, hn⟩ : ∃ n, ps.length = n + 1 := ⟨ps.length - 1, by omega⟩
              have HLD : Hid (Pl.lastDir ps = Pl.dirB (ps[n]'(by omega))) := by
                have := @Pl.lastDir_take ps n (by omega)
                rwa [List.take_of_length_le (by omega)] at this
              obtain ⟨b, off, rfl, hb0, hc⟩ := hpst.cells n (by omega)
              generalize ps[n]'(by omega) = x at *
              have hnb : n ≤ 1025 := by omega
              rw [hn] at hk hlt ⊢
              clear hn
              by_cases e1 : x.toList = []
              · have HD' : Hid (Pl.lastDir ps = true) := HLD.out.trans (Pl.dir_empty e1)
                go_wp2_with (first | (go_at_call 26; refine (rsize_any _ _ _ _ hos).mono ?_; rintro e w' ⟨rfl, rfl⟩) | (go_at_call 5; refine (copy_any _ _ _ _ hos).mono ?_; rintro e w5 ⟨v5, rfl, hown5, hb5⟩))
                go_ret3
                refine ⟨v5, ?_, own_base hown5 hsz, hbw.trans (hb5.mono hsz)⟩
                show _ = Ending.returned (.tuple #[v5, .bool (Pl.lastDir ps), .int .i64 0])
                rw [HD'.out]
                rfl
              by_cases e2 : x.toList = [46]
              · have HD' : Hid (Pl.lastDir ps = true) := HLD.out.trans (Pl.dir_dot e2)
                have b1 : x.toList.isEmpty = false := by simpa using e1
                clear e1
                go_wp2_with (first | (go_at_call 26; refine (rsize_any _ _ _ _ hos).mono ?_; rintro e w' ⟨rfl, rfl⟩) | (go_at_call 5; refine (copy_any _ _ _ _ hos).mono ?_; rintro e w5 ⟨v5, rfl, hown5, hb5⟩))
                go_ret3
                refine ⟨v5, ?_, own_base hown5 hsz, hbw.trans (hb5.mono hsz)⟩
                show _ = Ending.returned (.tuple #[v5, .bool (Pl.lastDir ps), .int .i64 0])
                rw [HD'.out]
                rfl
              by_cases e3 : x.toList = [46, 46]
              · have HD' : Hid (Pl.lastDir ps = true) := HLD.out.trans (Pl.dir_dots e3)
                have b1 : x.toList.isEmpty = false := by simpa using e1
                have b2 : (x.toList == [46]) = false := by simpa using e2
                clear e1 e2
                go_wp2_with (first | (go_at_call 26; refine (rsize_any _ _ _ _ hos).mono ?_; rintro e w' ⟨rfl, rfl⟩) | (go_at_call 5; refine (copy_any _ _ _ _ hos).mono ?_; rintro e w5 ⟨v5, rfl, hown5, hb5⟩))
                go_ret3
                refine ⟨v5, ?_, own_base hown5 hsz, hbw.trans (hb5.mono hsz)⟩
                show _ = Ending.returned (.tuple #[v5, .bool (Pl.lastDir ps), .int .i64 0])
                rw [HD'.out]
                rfl
              · have HD' : Hid (Pl.lastDir ps = false) := HLD.out.trans (Pl.dir_not e1 e2 e3)
                have b1 : x.toList.isEmpty = false := by simpa using e1
                have b2 : (x.toList == [46]) = false := by simpa using e2
                have b3 : (x.toList == [46, 46]) = false := by simpa using e3
                clear e1 e2 e3
                go_wp2_with (first | (go_at_call 26; refine (rsize_any _ _ _ _ hos).mono ?_; rintro e w' ⟨rfl, rfl⟩) | (go_at_call 5; refine (copy_any _ _ _ _ hos).mono ?_; rintro e w5 ⟨v5, rfl, hown5, hb5⟩))
                go_ret3
                refine ⟨v5, ?_, own_base hown5 hsz, hbw.trans (hb5.mono hsz)⟩
                show _ = Ending.returned (.tuple #[v5, .bool (Pl.lastDir ps), .int .i64 0])
                rw [HD'.out]
                rfl
      · have hst : [] = st := (@Pl.start_slash l s h0 hsl).symm.trans HST.out
        obtain ⟨hown, hstl, HSN⟩ : w3.ownsRow w.heap.size 9 1 (.slice none 0 0) st.length (st.map Value.string) ∧ st.length ≤ 1024 ∧ Hid (st.all Pl.nameB = true) := by rw [← hst]; exact ⟨World.ownsRow_nil _ _ _ _, by simp, rfl⟩
        have hap4 : Hid (∀ ad : Addr, ap = some ad → (Value.slice none 0 0).ownBlock ≠ some ad.block) := fun ad _ e2 => by cases e2
        clear hst hown4 hap3
        go_wp2_with fail
        go_loopw [11, 12] (fun v i wr => ∃ k : Nat, k ≤ ps.length ∧ i = .int .i64 k ∧ wr.ownsRow w.heap.size 9 1 v ((ps.take k).foldl Pl.stepP st).length (((ps.take k).foldl Pl.stepP st).map Value.string) ∧ Strs wr ap cp ps ∧ Hid (∀ ad : Addr, ap = some ad → v.ownBlock ≠ some ad.block) ∧ Below w.heap.size w wr)
          (fun _ i _ => ps.length - (intOf i).toNat)
        case atStart => exact ⟨0, Nat.zero_le _, rfl, hown, hpst3, hap4, hbw⟩
        case round =>
          clear hown hpst3 hbw
          obtain ⟨k, hk, rfl, hown, hpst, hap, hbw⟩ := hrel
          have hsz := hbw.size
          have hol : ((ps.take k).foldl Pl.stepP st).length ≤ 1024 + k := by have := Pl.fold_len st (ps.take k); simp at this; omega
          have HON : Hid (((ps.take k).foldl Pl.stepP st).all Pl.nameB = true) := Pl.fold_names HSN.out _ (by
            have := HM.out
            rw [List.all_eq_true] at this ⊢
            exact fun x hx => this x (List.mem_of_mem_take hx))
          by_cases hlt : k < ps.length
          · obtain ⟨b, off, rfl, hb0, hc⟩ := hpst.cells k hlt
            have hxs := hpst.size k hlt
            have HF : Hid ((ps.take (k + 1)).foldl Pl.stepP st = Pl.stepP ((ps.take k).foldl Pl.stepP st) (ps[k]'hlt)) := Pl.fold_snoc ps st k hlt
            generalize ps[k]'hlt = x at *
            generalize (ps.take k).foldl Pl.stepP st = out at *
            by_cases e1 : x.toList = []
            · have HF' : Hid ((ps.take (k + 1)).foldl Pl.stepP st = out) := HF.out.trans (Pl.step_same (Or.inl e1))
              go_wp2_with fail
              go_roundw
              case rel => exact ⟨k + 1, by omega, by go_num, by rw [HF'.out]; exact hown, hpst, hap, hbw⟩
              case measure => simp [intOf]; omega
            by_cases e2 : x.toList = [46]
            · have HF' : Hid ((ps.take (k + 1)).foldl Pl.stepP st = out) := HF.out.trans (Pl.step_same (Or.inr e2))
              have b1 : x.toList.isEmpty = false := by simpa using e1
              go_wp2_with fail
              go_roundw
              case rel => exact ⟨k + 1, by omega, by go_num, by rw [HF'.out]; exact hown, hpst, hap, hbw⟩
              case measure => simp [intOf]; omega
            have b1 : x.toList.isEmpty = false := by simpa using e1
            have b2 : (x.toList == [46]) = false := by simpa using e2
            by_cases e3 : x.toList = [46, 46]
            · have HF' : Hid ((ps.take (k + 1)).foldl Pl.stepP st = out.dropLast) := HF.out.trans (Pl.step_up e3)
              by_cases e4 : out = []
              · have HG : Hid ((ps.take (k + 1)).foldl Pl.stepP st = out) := by rw [e4] at HF' ⊢; exact HF'
                obtain ⟨ao, co, rfl, hos⟩ := own_strs hown (by omega) (names_size HON.out)
                have hn0 : ¬ (0 : Int) < (out.length : Int) := by rw [e4]; simp
                clear e1 e2 e4
                go_wp2_with fail
                go_roundw
                case rel => exact ⟨k + 1, by omega, by go_num, by rw [HG.out]; exact hown, hpst, hap, hbw⟩
                case measure => simp [intOf]; omega
              · obtain ⟨n, hn⟩ : ∃ n, out.length = n + 1 := ⟨out.length - 1, by have := List.length_pos_iff.2 e4; omega⟩
                obtain ⟨g, co, rfl, hbg, hglt⟩ := hown.form (by omega)
                have hown' := hown
                rw [hn] at hown'
                have hpop := own_pop hn (by rw [hn]; exact hown')
                have hcc := own_cap hown'
                have hc1 := hcc.1
                have hc2 : co ≤ 9223372036854775807 := hcc.2
                clear e1 e2 e4 hown' hcc
                rw [hn]
                clear hn
                go_wp2_with fail
                go_roundw
                case rel => exact ⟨k + 1, by omega, by go_num, by rw [HF'.out]; exact hpop, hpst, hap, hbw⟩
                case measure => simp [intOf]; omega
            · have HF' : Hid ((ps.take (k + 1)).foldl Pl.stepP st = out ++ [x]) := HF.out.trans (Pl.step_down e1 e2 e3)
              have b3 : (x.toList == [46, 46]) = false := by simpa using e3
              clear e1 e2 e3
              go_wp2_with (at_builtin; refine wpList_append_own_at _ rfl (.tmp 59) (.tmp 64) 23 rfl w.heap.size 9 i0 (.string ⟨#[]⟩) 1 16 Try.underlying23 hi hz0 hz1 hz2 rfl (by decide) _ _ _ rfl (hown.alloc _) ⟨wr.heap.size, 0, none⟩ 1 1 [.string x] rfl rfl (cell_one_new _ _ _) ?c2 ?c3 ?c4 ?c5 ?_)
              case c2 => intro u hu; simp at hu; subst hu; rfl
              case c3 => unfold maxLen; omega
              case c4 => omega
              case c5 => simp; omega
              intro v' w4 hown' hgrow _ hat
              have hb4 : Below w.heap.size w w4 := (hbw.alloc hsz _).grown hgrow (by simp; omega) (fun g hg => (hown.lt g hg).1)
              have hp4 : Strs w4 (some ⟨b, off, none⟩) cp ps := (hpst.alloc _).grown hgrow (fun ad e1 e2 => hap.out ad e1 e2.symm)
              have ha4 : Hid (∀ ad : Addr, some (⟨b, off, none⟩ : Addr) = some ad → v'.ownBlock ≠ some ad.block) := fun ad e1 e2 => by
                rcases hat with hat | hat
                · rw [hat] at e2; exact hap.out ad e1 e2
                · rw [hat] at e2
                  cases e1
                  simp at e2
                  omega
              clear hgrow hat hown
              go_wp2
              go_roundw
              case rel => exact ⟨k + 1, by omega, by go_num, by rw [HF'.out]; simpa using hown', hp4, ha4, hb4⟩
              case measure => simp [intOf]; omega
          · have ht : ps.take k = ps := List.take_of_length_le (by omega)
            rw [ht] at hown HON hol
            clear ht
            obtain ⟨out, hout⟩ : ∃ out, ps.foldl Pl.stepP st = out := ⟨_, rfl⟩
            rw [hout] at hown HON hol HL HO
            clear hout
            obtain ⟨ao, co, rfl, hos⟩ := own_strs hown (by omega) (names_size HON.out)
            by_cases hbig : 1024 < Pl.sizeP out
            · have hR := HL.out HM.out hbig
              subst hR
              have hbi : (1024 : Int) < (Pl.sizeR out : Int) := by have := (Pl.sizeR_iff out).2 hbig; omega
              clear HL HO
              go_wp2_with (go_at_call 26; refine (rsize_any _ _ _ _ hos).mono ?_; rintro e w' ⟨rfl, rfl⟩)
              go_ret3
              exact ⟨_, rfl, World.ownsRow_nil _ _ _ _, hbw⟩
            · have hR := HO.out HM.out hbig
              subst hR
              have hbi : ¬ (1024 : Int) < (Pl.sizeR out : Int) := by have := mt (Pl.sizeR_iff out).1 hbig; omega
              clear HL HO
              obtain ⟨n, hn⟩ : ∃ n, ps.length = n + 1 := ⟨ps.length - 1, by omega⟩
              have HLD : Hid (Pl.lastDir ps = Pl.dirB (ps[n]'(by omega))) := by
                have := @Pl.lastDir_take ps n (by omega)
                rwa [List.take_of_length_le (by omega)] at this
              obtain ⟨b, off, rfl, hb0, hc⟩ := hpst.cells n (by omega)
              generalize ps[n]'(by omega) = x at *
              have hnb : n ≤ 1025 := by omega
              rw [hn] at hk hlt ⊢
              clear hn
              by_cases e1 : x.toList = []
              · have HD' : Hid (Pl.lastDir ps = true) := HLD.out.trans (Pl.dir_empty e1)
                go_wp2_with (first | (go_at_call 26; refine (rsize_any _ _ _ _ hos).mono ?_; rintro e w' ⟨rfl, rfl⟩) | (go_at_call 5; refine (copy_any _ _ _ _ hos).mono ?_; rintro e w5 ⟨v5, rfl, hown5, hb5⟩))
                go_ret3
                refine ⟨v5, ?_, own_base hown5 hsz, hbw.trans (hb5.mono hsz)⟩
                show _ = Ending.returned (.tuple #[v5, .bool (Pl.lastDir ps), .int .i64 0])
                rw [HD'.out]
                rfl
              by_cases e2 : x.toList = [46]
              · have HD' : Hid (Pl.lastDir ps = true) := HLD.out.trans (Pl.dir_dot e2)
                have b1 : x.toList.isEmpty = false := by simpa using e1
                clear e1
                go_wp2_with (first | (go_at_call 26; refine (rsize_any _ _ _ _ hos).mono ?_; rintro e w' ⟨rfl, rfl⟩) | (go_at_call 5; refine (copy_any _ _ _ _ hos).mono ?_; rintro e w5 ⟨v5, rfl, hown5, hb5⟩))
                go_ret3
                refine ⟨v5, ?_, own_base hown5 hsz, hbw.trans (hb5.mono hsz)⟩
                show _ = Ending.returned (.tuple #[v5, .bool (Pl.lastDir ps), .int .i64 0])
                rw [HD'.out]
                rfl
              by_cases e3 : x.toList = [46, 46]
              · have HD' : Hid (Pl.lastDir ps = true) := HLD.out.trans (Pl.dir_dots e3)
                have b1 : x.toList.isEmpty = false := by simpa using e1
                have b2 : (x.toList == [46]) = false := by simpa using e2
                clear e1 e2
                go_wp2_with (first | (go_at_call 26; refine (rsize_any _ _ _ _ hos).mono ?_; rintro e w' ⟨rfl, rfl⟩) | (go_at_call 5; refine (copy_any _ _ _ _ hos).mono ?_; rintro e w5 ⟨v5, rfl, hown5, hb5⟩))
                go_ret3
                refine ⟨v5, ?_, own_base hown5 hsz, hbw.trans (hb5.mono hsz)⟩
                show _ = Ending.returned (.tuple #[v5, .bool (Pl.lastDir ps), .int .i64 0])
                rw [HD'.out]
                rfl
              · have HD' : Hid (Pl.lastDir ps = false) := HLD.out.trans (Pl.dir_not e1 e2 e3)
                have b1 : x.toList.isEmpty = false := by simpa using e1
                have b2 : (x.toList == [46]) = false := by simpa using e2
                have b3 : (x.toList == [46, 46]) = false := by simpa using e3
                clear e1 e2 e3
                go_wp2_with (first | (go_at_call 26; refine (rsize_any _ _ _ _ hos).mono ?_; rintro e w' ⟨rfl, rfl⟩) | (go_at_call 5; refine (copy_any _ _ _ _ hos).mono ?_; rintro e w5 ⟨v5, rfl, hown5, hb5⟩))
                go_ret3
                refine ⟨v5, ?_, own_base hown5 hsz, hbw.trans (hb5.mono hsz)⟩
                show _ = Ending.returned (.tuple #[v5, .bool (Pl.lastDir ps), .int .i64 0])
                rw [HD'.out]
                rfl
end Go.Proofs.Ytjmfgffihkbnlab
