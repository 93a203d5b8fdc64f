/- What paths.Normal answers: where a text leads from a path, and whether it asks for a folder. -/
import Derived.Test.YtcloljkaojnipaaGreatDoorPgE
import Derived.Maps.AppendAt
namespace Go.Proofs.YtcloljkaojnipaaGreatDoor
open Go.RowKit

theorem own_strs_at {w : World} {base : Nat} {e : TypeId} {v : Value} {l : List ByteArray} (h : w.ownsRow base e 1 v l.length (l.map Value.string)) (hlen : l.length ≤ 8796093022208) (hsz : ∀ s ∈ l, s.size ≤ 140737488355328) :
    ∃ a cap, v = .slice a l.length cap ∧ Strs w a cap l ∧ ∀ ad : Addr, a = some ad → base ≤ ad.block ∧ ad.block < w.heap.size := by
  obtain ⟨a, cap, hv, hs⟩ := own_strs h hlen hsz
  refine ⟨a, cap, hv, hs, fun ad e1 => ?_⟩
  subst e1
  exact h.lt ad.block (by rw [hv]; rfl)

theorem names_size {l : List ByteArray} (h : l.all Pl.nameB = true) : ∀ s ∈ l, s.size ≤ 140737488355328 := by
  intro s hs
  rw [List.all_eq_true] at h
  have := Pl.name_size (h s hs)
  omega

theorem own_pop {w : World} {base : Nat} {e : TypeId} {g cap n : Nat} {l : List ByteArray} (hn : l.length = n + 1) (h : w.ownsRow base e 1 (.slice (some ⟨g, 0, none⟩) (n + 1) cap) l.length (l.map Value.string)) :
    w.ownsRow base e 1 (.slice (some ⟨g, 0, none⟩) n cap) l.dropLast.length (l.dropLast.map Value.string) := by
  have hl : l ≠ [] := by intro e; subst e; simp at hn
  have h1 : l.dropLast.length = n := by simp [hn]
  rw [h1]
  have h2 : l.map Value.string = l.dropLast.map Value.string ++ [Value.string (l.getLast hl)] := by
    rw [← List.map_singleton, ← List.map_append, List.dropLast_concat_getLast hl]
  rw [hn, h2] at h
  exact ownsRow_pop (by simp [hn]) h

theorem own_cap {w : World} {base : Nat} {e : TypeId} {size g n cap : Nat} {xs : List Value} (h : w.ownsRow base e size (.slice (some ⟨g, 0, none⟩) n cap) n xs) : n ≤ cap ∧ cap ≤ maxLen := by
  rcases h.2 with ⟨h0, _⟩ | ⟨g', cap', cur, hv, _, _, h1, h2, _⟩
  · cases h0
  · cases hv; exact ⟨h1, h2⟩

set_option maxRecDepth 100000 in
set_option maxHeartbeats 2000000 in
theorem normal_any (a : Option Addr) (cap : Nat) (l : List ByteArray) (s : ByteArray) (w : World) (h : Strs w a cap l) (hs : s.size ≤ 4611686018427387904) :
    Calls Tryz.prog 92 #[.slice a l.length cap, .string s] w fun e w' => ∃ v, e = .returned (.tuple #[v, .bool (Pl.normalP l s).2.1, .int .i64 (Pl.normalP l s).2.2]) ∧
      w'.ownsRow w.heap.size 9 1 v (Pl.normalP l s).1.length ((Pl.normalP l s).1.map Value.string) ∧ Below w.heap.size w w' := by
  obtain ⟨i0, hi, hz0, hz1, hz2⟩ := info_parts Tryz.infoStr
  cases hr : Pl.rightP l
  · rw [Pl.normal_wrong hr]
    go_enter Tryz.func92, Tryz.ntmps92
    go_wp2_with (go_at_call 35; refine (right_any _ _ l _ h).mono ?_; rintro e w' ⟨rfl, rfl⟩)
    go_ret3
    exact ⟨_, rfl, World.ownsRow_nil _ _ _ _, Below.refl _ _⟩
  by_cases h2 : 1024 < s.size
  · rw [Pl.normal_far hr h2]
    have h2' : (1024 : Int) < (s.size : Int) := by omega
    go_enter Tryz.func92, Tryz.ntmps92
    go_wp2_with (go_at_call 35; refine (right_any _ _ l _ h).mono ?_; rintro e w' ⟨rfl, rfl⟩)
    go_ret3
    exact ⟨_, rfl, World.ownsRow_nil _ _ _ _, Below.refl _ _⟩
  by_cases h3 : s.toList = []
  · rw [Pl.normal_none hr h2 h3]
    have h2' : ¬ (1024 : Int) < (s.size : Int) := by omega
    go_enter Tryz.func92, Tryz.ntmps92
    go_wp2_with (go_at_call 35; refine (right_any _ _ l _ h).mono ?_; rintro e w' ⟨rfl, rfl⟩)
    go_ret3
    exact ⟨_, rfl, World.ownsRow_nil _ _ _ _, Below.refl _ _⟩
  have h2' : ¬ (1024 : Int) < (s.size : Int) := by omega
  have h0 := Pl.size_pos h3
  have b3 : s.toList.isEmpty = false := by simpa using h3
  have hl := Pl.right_len hr
  have HN := Pl.right_names hr
  have hbad := @Pl.normal_bad l s hr h2 h3
  have hlong := @Pl.normal_long l s hr h2 h3
  have hok := @Pl.normal_ok l s hr h2 h3
  have hpl := Pl.parts_len s
  have hpm := Pl.parts_mem s
  clear h3
  obtain ⟨ps, hps⟩ : ∃ ps, Pl.partsB s = ps := ⟨_, rfl⟩
  obtain ⟨R, hR⟩ : ∃ R, Pl.normalP l s = R := ⟨_, rfl⟩
  obtain ⟨st, hst⟩ : ∃ st, Pl.startP l s = st := ⟨_, rfl⟩
  rw [hps] at hbad hlong hok hpl hpm
  rw [hR] at hbad hlong hok ⊢
  rw [hst] at hlong hok
  have HB : Hid (ps.all Pl.mayB = false → R = ([], false, 20)) := hbad
  have HL : Hid (ps.all Pl.mayB = true → 1024 < Pl.sizeP (ps.foldl Pl.stepP st) → R = ([], false, 4)) := hlong
  have HO : Hid (ps.all Pl.mayB = true → ¬ 1024 < Pl.sizeP (ps.foldl Pl.stepP st) → R = (ps.foldl Pl.stepP st, Pl.lastDir ps, 0)) := hok
  have HPM : Hid (∀ p ∈ ps, p.size ≤ s.size) := hpm
  have HPS : Hid (Pl.partsB s = ps) := hps
  have HST : Hid (Pl.startP l s = st) := hst
  have HNN : Hid (l.all Pl.nameB = true) := HN
  clear hbad hlong hok hps hpm hR hst HN
  cases hsl : ((s[0].toNat : Int) == 47)
  · have hst : l = st := (@Pl.start_other l s h0 hsl).symm.trans HST.out
    have HS : Hid (l = st) := hst
    clear hst
    go_enter Tryz.func92, Tryz.ntmps92
    go_wp2_with (first | (go_at_call 35; refine (right_any _ _ l _ h).mono ?_; rintro e w' ⟨rfl, rfl⟩) | (go_at_call 60; refine (fresh_any _ _ l _ h).mono ?_; rintro e w1 ⟨v1, rfl, hown1, hb1⟩))
    obtain ⟨hown, hstl, HSN⟩ : w1.ownsRow w.heap.size 9 1 v1 st.length (st.map Value.string) ∧ st.length ≤ 1024 ∧ Hid (st.all Pl.nameB = true) := by rw [← HS.out]; exact ⟨hown1, hl, HNN.out⟩
    clear hown1 HS HNN
    refine (parts_any s _ (by omega)).mono ?_
    rintro e w2 ⟨vp, rfl, hownp, hb2⟩
    rw [HPS.out] at hownp
    have hs1 := hb1.size
    have hs2 := hb2.size
    obtain ⟨ap, cp, rfl, hpst, hpb⟩ := own_strs_at hownp (by omega) (fun p hp => by have := HPM.out p hp; omega)
    have hown2 := own_below hown hb2
    have hbw : Below w.heap.size w w2 := hb1.trans (hb2.mono hs1)
    have hap : ∀ ad : Addr, ap = some ad → v1.ownBlock ≠ some ad.block := fun ad e1 e2 => by
      have := (hpb ad e1).1
      have := (hown.lt _ e2).2
      omega
    clear hownp hown hb1 hb2 h
    go_wp2_with fail
    go_loopw [7, 8, 27] (fun v f i wr => ∃ k : Nat, k ≤ ps.length ∧ i = .int .i64 k ∧ f = .bool (Pl.lastDir (ps.take k)) ∧ Hid ((ps.take k).all Pl.mayB = true) ∧ wr.ownsRow w.heap.size 9 1 v ((ps.take k).foldl Pl.stepP st).length (((ps.take k).foldl Pl.stepP st).map Value.string) ∧ Strs wr ap cp ps ∧ Hid (∀ ad : Addr, ap = some ad → v.ownBlock ≠ some ad.block) ∧ Below w.heap.size w wr)
      (fun _ _ i _ => ps.length - (intOf i).toNat)
    case atStart => exact ⟨0, Nat.zero_le _, rfl, rfl, rfl, hown2, hpst, hap, hbw⟩
    case round =>
      obtain ⟨k, hk, rfl, rfl, hmay, hown, hpst, hap, hbw⟩ := hrel
      have hsz := hbw.size
      have hol : ((ps.take k).foldl Pl.stepP st).length ≤ 1024 + k := by have := Pl.fold_len st (ps.take k); simp at this; omega
      have HON : Hid (((ps.take k).foldl Pl.stepP st).all Pl.nameB = true) := Pl.fold_names HSN.out _ hmay.out
      by_cases hlt : k < ps.length
      · obtain ⟨b, off, rfl, hb0, hc⟩ := hpst.cells k hlt
        have hxs := hpst.size k hlt
        have HF : Hid ((ps.take (k + 1)).foldl Pl.stepP st = Pl.stepP ((ps.take k).foldl Pl.stepP st) (ps[k]'hlt)) := Pl.fold_snoc ps st k hlt
        have HD : Hid (Pl.lastDir (ps.take (k + 1)) = Pl.dirB (ps[k]'hlt)) := Pl.lastDir_take hlt
        have HM1 : Hid (Pl.mayB (ps[k]'hlt) = true → (ps.take (k + 1)).all Pl.mayB = true) := Pl.all_may_step hlt hmay.out
        have HM0 : Hid (Pl.mayB (ps[k]'hlt) = false → ps.all Pl.mayB = false) := Pl.all_may_stop hlt
        generalize ps[k]'hlt = x at *
        generalize (ps.take k).foldl Pl.stepP st = out at *
        generalize Pl.lastDir (ps.take k) = ld at *
        have hxm : x.size ≤ maxLen := by unfold maxLen; omega
        cases hm : Pl.mayB x
        · have hR := HB.out (HM0.out hm)
          subst hR
          go_wp2_with (go_at_call 116; refine (may_any _ _ hxm).mono ?_; rintro e w' ⟨rfl, rfl⟩)
          go_ret3
          exact ⟨_, rfl, World.ownsRow_nil _ _ _ _, hbw⟩
        have HM : Hid ((ps.take (k + 1)).all Pl.mayB = true) := HM1.out hm
        clear HM1 HM0
        by_cases e1 : x.toList = []
        · have HF' : Hid ((ps.take (k + 1)).foldl Pl.stepP st = out) := HF.out.trans (Pl.step_same (Or.inl e1))
          have HD' : Hid (Pl.lastDir (ps.take (k + 1)) = true) := HD.out.trans (Pl.dir_empty e1)
          have e3 : (x.toList == [46, 46]) = false := by rw [e1]; rfl
          go_wp2_with (go_at_call 116; refine (may_any _ _ hxm).mono ?_; rintro e w' ⟨rfl, rfl⟩)
          go_roundw
          case rel => exact ⟨k + 1, by omega, by go_num, by rw [HD'.out], HM, by rw [HF'.out]; exact hown, hpst, hap, hbw⟩
          case measure => simp [intOf]; omega
        by_cases e2 : x.toList = [46]
        · have HF' : Hid ((ps.take (k + 1)).foldl Pl.stepP st = out) := HF.out.trans (Pl.step_same (Or.inr e2))
          have HD' : Hid (Pl.lastDir (ps.take (k + 1)) = true) := HD.out.trans (Pl.dir_dot e2)
          have e3 : (x.toList == [46, 46]) = false := by rw [e2]; rfl
          have b1 : x.toList.isEmpty = false := by simpa using e1
          go_wp2_with (go_at_call 116; refine (may_any _ _ hxm).mono ?_; rintro e w' ⟨rfl, rfl⟩)
          go_roundw
          case rel => exact ⟨k + 1, by omega, by go_num, by rw [HD'.out], HM, by rw [HF'.out]; exact hown, hpst, hap, hbw⟩
          case measure => simp [intOf]; omega
        have b1 : x.toList.isEmpty = false := by simpa using e1
        have b2 : (x.toList == [46]) = false := by simpa using e2
        by_cases e3 : x.toList = [46, 46]
        · have HF' : Hid ((ps.take (k + 1)).foldl Pl.stepP st = out.dropLast) := HF.out.trans (Pl.step_up e3)
          have HD' : Hid (Pl.lastDir (ps.take (k + 1)) = true) := HD.out.trans (Pl.dir_dots e3)
          by_cases e4 : out = []
          · have HG : Hid ((ps.take (k + 1)).foldl Pl.stepP st = out) := by rw [e4] at HF' ⊢; exact HF'
            obtain ⟨ao, co, rfl, hos⟩ := own_strs hown (by omega) (names_size HON.out)
            have hn0 : ¬ (0 : Int) < (out.length : Int) := by rw [e4]; simp
            clear e1 e2 e4
            go_wp2_with (go_at_call 116; refine (may_any _ _ hxm).mono ?_; rintro e w' ⟨rfl, rfl⟩)
            go_roundw
            case rel => exact ⟨k + 1, by omega, by go_num, by rw [HD'.out], HM, by rw [HG.out]; exact hown, hpst, hap, hbw⟩
            case measure => simp [intOf]; omega
          · obtain ⟨n, hn⟩ : ∃ n, out.length = n + 1 := ⟨out.length - 1, by have := List.length_pos_iff.2 e4; omega⟩
            obtain ⟨g, co, rfl, hbg, hglt⟩ := hown.form (by omega)
            have hown' := hown
            rw [hn] at hown'
            have hpop := own_pop hn (by rw [hn]; exact hown')
            have hcc := own_cap hown'
            have hc1 := hcc.1
            have hc2 : co ≤ 9223372036854775807 := hcc.2
            have HN' : Hid (out.length = n + 1) := hn
            clear e1 e2 e4 hown' hcc
            rw [hn]
            clear hn
            go_wp2_with (go_at_call 116; refine (may_any _ _ hxm).mono ?_; rintro e w' ⟨rfl, rfl⟩)
            go_roundw
            case rel => exact ⟨k + 1, by omega, by go_num, by rw [HD'.out], HM, by rw [HF'.out]; exact hpop, hpst, hap, hbw⟩
            case measure => simp [intOf]; omega
        · have HF' : Hid ((ps.take (k + 1)).foldl Pl.stepP st = out ++ [x]) := HF.out.trans (Pl.step_down e1 e2 e3)
          have HD' : Hid (Pl.lastDir (ps.take (k + 1)) = false) := HD.out.trans (Pl.dir_not e1 e2 e3)
          have b3 : (x.toList == [46, 46]) = false := by simpa using e3
          clear e1 e2 e3
          go_wp2_with (first | (go_at_call 116; refine (may_any _ _ hxm).mono ?_; rintro e w' ⟨rfl, rfl⟩) | (at_builtin; refine wpList_append_own_at _ rfl (.tmp 46) (.tmp 48) 26 rfl w.heap.size 9 i0 (.string ⟨#[]⟩) 1 16 Tryz.underlying26 hi hz0 hz1 hz2 rfl (by decide) _ _ _ rfl (hown.alloc _) ⟨wr.heap.size, 0, none⟩ 1 1 [.string x] rfl rfl (cell_one_new _ _ _) ?c2 ?c3 ?c4 ?c5 ?_))
          case c2 => intro u hu; simp at hu; subst hu; rfl
          case c3 => unfold maxLen; omega
          case c4 => omega
          case c5 => simp; omega
          intro v' w3 hown' hgrow _ hat
          have hb3 : Below w.heap.size w w3 := (hbw.alloc hsz _).grown hgrow (by simp; omega) (fun g hg => (hown.lt g hg).1)
          have hp3 : Strs w3 (some ⟨b, off, none⟩) cp ps := (hpst.alloc _).grown hgrow (fun ad e1 e2 => hap.out ad e1 e2.symm)
          have ha3 : Hid (∀ ad : Addr, some (⟨b, off, none⟩ : Addr) = some ad → v'.ownBlock ≠ some ad.block) := fun ad e1 e2 => by
            rcases hat with hat | hat
            · rw [hat] at e2; exact hap.out ad e1 e2
            · rw [hat] at e2
              cases e1
              simp at e2
              omega
          clear hgrow hat hown
          go_wp2
          go_roundw
          case rel => exact ⟨k + 1, by omega, by go_num, by rw [HD'.out], HM, by rw [HF'.out]; simpa using hown', hp3, ha3, hb3⟩
          case measure => simp [intOf]; omega
      · have ht : ps.take k = ps := List.take_of_length_le (by omega)
        rw [ht] at hmay hown HON hol ⊢
        obtain ⟨ao, co, rfl, hos⟩ := own_strs hown (by omega) (names_size HON.out)
        have hsum : Pl.sumP (ps.foldl Pl.stepP st) ≤ 4611686018427387904 := by have := Pl.sumP_names _ HON.out; omega
        by_cases hbig : 1024 < Pl.sizeP (ps.foldl Pl.stepP st)
        · have hR := HL.out hmay.out hbig
          subst hR
          have hbi : (1024 : Int) < (Pl.sizeP (ps.foldl Pl.stepP st) : Int) := by omega
          generalize ps.foldl Pl.stepP st = out at *
          clear ht HB HL HO
          go_wp2_with (go_at_call 69; refine (size_any _ _ _ _ hos hsum).mono ?_; rintro e w' ⟨rfl, rfl⟩)
          go_ret3
          exact ⟨_, rfl, World.ownsRow_nil _ _ _ _, hbw⟩
        · have hR := HO.out hmay.out hbig
          subst hR
          have hbi : ¬ (1024 : Int) < (Pl.sizeP (ps.foldl Pl.stepP st) : Int) := by omega
          obtain ⟨out, hout⟩ : ∃ out, ps.foldl Pl.stepP st = out := ⟨_, rfl⟩
          rw [hout] at hown hos hsum hbi ⊢
          have HOUT : Hid (ps.foldl Pl.stepP st = out) := hout
          clear ht HB HL HO hout
          go_wp2_with (go_at_call 69; refine (size_any _ _ _ _ hos hsum).mono ?_; rintro e w' ⟨rfl, rfl⟩)
          go_ret3
          refine ⟨_, rfl, ?_, hbw⟩
          rw [HOUT.out]
          exact hown
  · have hst : [] = st := (@Pl.start_slash l s h0 hsl).symm.trans HST.out
    have HS : Hid ([] = st) := hst
    clear hst
    go_enter Tryz.func92, Tryz.ntmps92
    go_wp2_with (first | (go_at_call 35; refine (right_any _ _ l _ h).mono ?_; rintro e w' ⟨rfl, rfl⟩) | (go_at_call 60; refine (fresh_any none 0 [] _ (Strs.empty _)).mono ?_; rintro e w1 ⟨v1, rfl, hown1, hb1⟩))
    obtain ⟨hown, hstl, HSN⟩ : w1.ownsRow w.heap.size 9 1 v1 st.length (st.map Value.string) ∧ st.length ≤ 1024 ∧ Hid (st.all Pl.nameB = true) := by rw [← HS.out]; exact ⟨hown1, by simp, rfl⟩
    clear hown1 HS HNN
    refine (parts_any s _ (by omega)).mono ?_
    rintro e w2 ⟨vp, rfl, hownp, hb2⟩
    rw [HPS.out] at hownp
    have hs1 := hb1.size
    have hs2 := hb2.size
    obtain ⟨ap, cp, rfl, hpst, hpb⟩ := own_strs_at hownp (by omega) (fun p hp => by have := HPM.out p hp; omega)
    have hown2 := own_below hown hb2
    have hbw : Below w.heap.size w w2 := hb1.trans (hb2.mono hs1)
    have hap : ∀ ad : Addr, ap = some ad → v1.ownBlock ≠ some ad.block := fun ad e1 e2 => by
      have := (hpb ad e1).1
      have := (hown.lt _ e2).2
      omega
    clear hownp hown hb1 hb2 h
    go_wp2_with fail
    go_loopw [7, 8, 27] (fun v f i wr => ∃ k : Nat, k ≤ ps.length ∧ i = .int .i64 k ∧ f = .bool (Pl.lastDir (ps.take k)) ∧ Hid ((ps.take k).all Pl.mayB = true) ∧ wr.ownsRow w.heap.size 9 1 v ((ps.take k).foldl Pl.stepP st).length (((ps.take k).foldl Pl.stepP st).map Value.string) ∧ Strs wr ap cp ps ∧ Hid (∀ ad : Addr, ap = some ad → v.ownBlock ≠ some ad.block) ∧ Below w.heap.size w wr)
      (fun _ _ i _ => ps.length - (intOf i).toNat)
    case atStart => exact ⟨0, Nat.zero_le _, rfl, rfl, rfl, hown2, hpst, hap, hbw⟩
    case round =>
      obtain ⟨k, hk, rfl, rfl, hmay, hown, hpst, hap, hbw⟩ := hrel
      have hsz := hbw.size
      have hol : ((ps.take k).foldl Pl.stepP st).length ≤ 1024 + k := by have := Pl.fold_len st (ps.take k); simp at this; omega
      have HON : Hid (((ps.take k).foldl Pl.stepP st).all Pl.nameB = true) := Pl.fold_names HSN.out _ hmay.out
      by_cases hlt : k < ps.length
      · obtain ⟨b, off, rfl, hb0, hc⟩ := hpst.cells k hlt
        have hxs := hpst.size k hlt
        have HF : Hid ((ps.take (k + 1)).foldl Pl.stepP st = Pl.stepP ((ps.take k).foldl Pl.stepP st) (ps[k]'hlt)) := Pl.fold_snoc ps st k hlt
        have HD : Hid (Pl.lastDir (ps.take (k + 1)) = Pl.dirB (ps[k]'hlt)) := Pl.lastDir_take hlt
        have HM1 : Hid (Pl.mayB (ps[k]'hlt) = true → (ps.take (k + 1)).all Pl.mayB = true) := Pl.all_may_step hlt hmay.out
        have HM0 : Hid (Pl.mayB (ps[k]'hlt) = false → ps.all Pl.mayB = false) := Pl.all_may_stop hlt
        generalize ps[k]'hlt = x at *
        generalize (ps.take k).foldl Pl.stepP st = out at *
        generalize Pl.lastDir (ps.take k) = ld at *
        have hxm : x.size ≤ maxLen := by unfold maxLen; omega
        cases hm : Pl.mayB x
        · have hR := HB.out (HM0.out hm)
          subst hR
          go_wp2_with (go_at_call 116; refine (may_any _ _ hxm).mono ?_; rintro e w' ⟨rfl, rfl⟩)
          go_ret3
          exact ⟨_, rfl, World.ownsRow_nil _ _ _ _, hbw⟩
        have HM : Hid ((ps.take (k + 1)).all Pl.mayB = true) := HM1.out hm
        clear HM1 HM0
        by_cases e1 : x.toList = []
        · have HF' : Hid ((ps.take (k + 1)).foldl Pl.stepP st = out) := HF.out.trans (Pl.step_same (Or.inl e1))
          have HD' : Hid (Pl.lastDir (ps.take (k + 1)) = true) := HD.out.trans (Pl.dir_empty e1)
          have e3 : (x.toList == [46, 46]) = false := by rw [e1]; rfl
          go_wp2_with (go_at_call 116; refine (may_any _ _ hxm).mono ?_; rintro e w' ⟨rfl, rfl⟩)
          go_roundw
          case rel => exact ⟨k + 1, by omega, by go_num, by rw [HD'.out], HM, by rw [HF'.out]; exact hown, hpst, hap, hbw⟩
          case measure => simp [intOf]; omega
        by_cases e2 : x.toList = [46]
        · have HF' : Hid ((ps.take (k + 1)).foldl Pl.stepP st = out) := HF.out.trans (Pl.step_same (Or.inr e2))
          have HD' : Hid (Pl.lastDir (ps.take (k + 1)) = true) := HD.out.trans (Pl.dir_dot e2)
          have e3 : (x.toList == [46, 46]) = false := by rw [e2]; rfl
          have b1 : x.toList.isEmpty = false := by simpa using e1
          go_wp2_with (go_at_call 116; refine (may_any _ _ hxm).mono ?_; rintro e w' ⟨rfl, rfl⟩)
          go_roundw
          case rel => exact ⟨k + 1, by omega, by go_num, by rw [HD'.out], HM, by rw [HF'.out]; exact hown, hpst, hap, hbw⟩
          case measure => simp [intOf]; omega
        have b1 : x.toList.isEmpty = false := by simpa using e1
        have b2 : (x.toList == [46]) = false := by simpa using e2
        by_cases e3 : x.toList = [46, 46]
        · have HF' : Hid ((ps.take (k + 1)).foldl Pl.stepP st = out.dropLast) := HF.out.trans (Pl.step_up e3)
          have HD' : Hid (Pl.lastDir (ps.take (k + 1)) = true) := HD.out.trans (Pl.dir_dots e3)
          by_cases e4 : out = []
          · have HG : Hid ((ps.take (k + 1)).foldl Pl.stepP st = out) := by rw [e4] at HF' ⊢; exact HF'
            obtain ⟨ao, co, rfl, hos⟩ := own_strs hown (by omega) (names_size HON.out)
            have hn0 : ¬ (0 : Int) < (out.length : Int) := by rw [e4]; simp
            clear e1 e2 e4
            go_wp2_with (go_at_call 116; refine (may_any _ _ hxm).mono ?_; rintro e w' ⟨rfl, rfl⟩)
            go_roundw
            case rel => exact ⟨k + 1, by omega, by go_num, by rw [HD'.out], HM, by rw [HG.out]; exact hown, hpst, hap, hbw⟩
            case measure => simp [intOf]; omega
          · obtain ⟨n, hn⟩ : ∃ n, out.length = n + 1 := ⟨out.length - 1, by have := List.length_pos_iff.2 e4; omega⟩
            obtain ⟨g, co, rfl, hbg, hglt⟩ := hown.form (by omega)
            have hown' := hown
            rw [hn] at hown'
            have hpop := own_pop hn (by rw [hn]; exact hown')
            have hcc := own_cap hown'
            have hc1 := hcc.1
            have hc2 : co ≤ 9223372036854775807 := hcc.2
            have HN' : Hid (out.length = n + 1) := hn
            clear e1 e2 e4 hown' hcc
            rw [hn]
            clear hn
            go_wp2_with (go_at_call 116; refine (may_any _ _ hxm).mono ?_; rintro e w' ⟨rfl, rfl⟩)
            go_roundw
            case rel => exact ⟨k + 1, by omega, by go_num, by rw [HD'.out], HM, by rw [HF'.out]; exact hpop, hpst, hap, hbw⟩
            case measure => simp [intOf]; omega
        · have HF' : Hid ((ps.take (k + 1)).foldl Pl.stepP st = out ++ [x]) := HF.out.trans (Pl.step_down e1 e2 e3)
          have HD' : Hid (Pl.lastDir (ps.take (k + 1)) = false) := HD.out.trans (Pl.dir_not e1 e2 e3)
          have b3 : (x.toList == [46, 46]) = false := by simpa using e3
          clear e1 e2 e3
          go_wp2_with (first | (go_at_call 116; refine (may_any _ _ hxm).mono ?_; rintro e w' ⟨rfl, rfl⟩) | (at_builtin; refine wpList_append_own_at _ rfl (.tmp 46) (.tmp 48) 26 rfl w.heap.size 9 i0 (.string ⟨#[]⟩) 1 16 Tryz.underlying26 hi hz0 hz1 hz2 rfl (by decide) _ _ _ rfl (hown.alloc _) ⟨wr.heap.size, 0, none⟩ 1 1 [.string x] rfl rfl (cell_one_new _ _ _) ?c2 ?c3 ?c4 ?c5 ?_))
          case c2 => intro u hu; simp at hu; subst hu; rfl
          case c3 => unfold maxLen; omega
          case c4 => omega
          case c5 => simp; omega
          intro v' w3 hown' hgrow _ hat
          have hb3 : Below w.heap.size w w3 := (hbw.alloc hsz _).grown hgrow (by simp; omega) (fun g hg => (hown.lt g hg).1)
          have hp3 : Strs w3 (some ⟨b, off, none⟩) cp ps := (hpst.alloc _).grown hgrow (fun ad e1 e2 => hap.out ad e1 e2.symm)
          have ha3 : Hid (∀ ad : Addr, some (⟨b, off, none⟩ : Addr) = some ad → v'.ownBlock ≠ some ad.block) := fun ad e1 e2 => by
            rcases hat with hat | hat
            · rw [hat] at e2; exact hap.out ad e1 e2
            · rw [hat] at e2
              cases e1
              simp at e2
              omega
          clear hgrow hat hown
          go_wp2
          go_roundw
          case rel => exact ⟨k + 1, by omega, by go_num, by rw [HD'.out], HM, by rw [HF'.out]; simpa using hown', hp3, ha3, hb3⟩
          case measure => simp [intOf]; omega
      · have ht : ps.take k = ps := List.take_of_length_le (by omega)
        rw [ht] at hmay hown HON hol ⊢
        obtain ⟨ao, co, rfl, hos⟩ := own_strs hown (by omega) (names_size HON.out)
        have hsum : Pl.sumP (ps.foldl Pl.stepP st) ≤ 4611686018427387904 := by have := Pl.sumP_names _ HON.out; omega
        by_cases hbig : 1024 < Pl.sizeP (ps.foldl Pl.stepP st)
        · have hR := HL.out hmay.out hbig
          subst hR
          have hbi : (1024 : Int) < (Pl.sizeP (ps.foldl Pl.stepP st) : Int) := by omega
          generalize ps.foldl Pl.stepP st = out at *
          clear ht HB HL HO
          go_wp2_with (go_at_call 69; refine (size_any _ _ _ _ hos hsum).mono ?_; rintro e w' ⟨rfl, rfl⟩)
          go_ret3
          exact ⟨_, rfl, World.ownsRow_nil _ _ _ _, hbw⟩
        · have hR := HO.out hmay.out hbig
          subst hR
          have hbi : ¬ (1024 : Int) < (Pl.sizeP (ps.foldl Pl.stepP st) : Int) := by omega
          obtain ⟨out, hout⟩ : ∃ out, ps.foldl Pl.stepP st = out := ⟨_, rfl⟩
          rw [hout] at hown hos hsum hbi ⊢
          have HOUT : Hid (ps.foldl Pl.stepP st = out) := hout
          clear ht HB HL HO hout
          go_wp2_with (go_at_call 69; refine (size_any _ _ _ _ hos hsum).mono ?_; rintro e w' ⟨rfl, rfl⟩)
          go_ret3
          refine ⟨_, rfl, ?_, hbw⟩
          rw [HOUT.out]
          exact hown
end Go.Proofs.YtcloljkaojnipaaGreatDoor
