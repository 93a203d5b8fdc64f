/- What both Apply answer. -/
import Derived.Test.YtpoimhkfajppmaaDoorLApp
import Derived.Test.YtpoimhkfajppmaaDoorLPlainA
import Derived.Test.YtpoimhkfajppmaaDoorLLives
namespace Go.Proofs.YtpoimhkfajppmaaDoor
open Go.RowKit

theorem Lns.tail {w : World} {b off cap : Nat} {x : ByteArray × Bool} {A : List (ByteArray × Bool)} (h : Lns w (some ⟨b, off, none⟩) cap (x :: A)) : Lns w (some ⟨b, off + 2, none⟩) (cap - 1) A := by
  have hr := h.room
  have hm := h.most
  have hl := h.len
  simp at hr hl
  refine ⟨by omega, fun h => (by cases h), by omega, by omega, fun y hy => h.size y (by simp [hy]), fun i hi => ?_⟩
  obtain ⟨b', off', e, hlt, h1, h2⟩ := h.cells (i + 1) (by simp; omega)
  cases e
  refine ⟨b, off + 2, rfl, hlt, ?_, ?_⟩
  · rw [show off + 2 + i * 2 = off + (i + 1) * 2 by omega, h1]; rfl
  · rw [show off + 2 + i * 2 + 1 = off + (i + 1) * 2 + 1 by omega, h2]; rfl
theorem Lns.tail' {w : World} {b off cap : Nat} {x : ByteArray × Bool} {A : List (ByteArray × Bool)} (h : Lns w (some ⟨b, off, none⟩) cap (x :: A)) : Lns w (if cap = 1 then some ⟨b, off, none⟩ else some ⟨b, off + 2, none⟩) (cap - 1) A := by
  by_cases e : cap = 1
  · subst e
    have hr := h.room
    simp at hr
    subst hr
    rw [if_pos rfl]
    exact ⟨by simp, fun h => (by cases h), by simp, by decide, fun y hy => by simp at hy, fun i hi => absurd hi (by simp)⟩
  · rw [if_neg e]; exact h.tail

set_option maxRecDepth 100000 in
set_option maxHeartbeats 4000000 in
theorem apply_any (s : ByteArray) (a : Option Addr) (cap : Nat) (l : List (Nat × (ByteArray × Bool))) (w : World) (h : Chs w a cap l) (hs : s.size ≤ 16777216) (ht : Ln.tot (l.map (·.2)) ≤ 16777216) :
    Calls Tryd.prog 8 #[.string s, .slice a l.length cap] w fun e w' => e = .returned (.tuple #[.string (Ln.bs (Ln.applyR (Ln.splB s) l).1), .int .i64 ((Ln.applyR (Ln.splB s) l).2 : Nat)]) ∧ Below w.heap.size w w' := by
  have hl := h.len
  have hB : Below w.heap.size w w := Below.refl _ _
  have hn := Ln.splB_len s
  have HM : Hid (∀ x ∈ Ln.splB s, x.1.size ≤ 67108864) := fun x hx => Nat.le_trans (Ln.splB_mem s x hx) (by omega)
  obtain ⟨S, hS⟩ : ∃ S, Ln.splB s = S := ⟨_, rfl⟩
  rw [hS] at hn HM ⊢
  have HS : Hid (Ln.splB s = S) := hS
  clear hS
  go_enter Tryd.func8, Tryd.ntmps8
  go_wp2_with fail
  refine (split_any s _ (by omega)).mono ?_
  rw [HS.out]
  rintro e w1 ⟨v1, rfl, hown, hb⟩
  obtain ⟨a1, c1, rfl, s1⟩ := own_lns hown (by omega) HM.out
  replace h := h.below hb; replace hB := hB.trans (hb.mono hB.size); clear hb hown
  have hB1 := hB.size
  go_wp2_with fail
  go_loopw [6, 7, 14] (fun vo v i wr => ∃ (k : Nat) (A J : List (ByteArray × Bool)) (ao : Option Addr) (co : Nat), k ≤ l.length ∧ J.length ≤ k ∧ i = .int .i64 k ∧ vo = .slice ao A.length co ∧ Hid (Lns w1 ao co A) ∧ Hid (Ln.AppInv S l A J k) ∧ wr.ownsRow w1.heap.size 38 2 v J.length (lcells J) ∧ Below w1.heap.size w1 wr) (fun _ _ i _ => l.length - (intOf i).toNat)
  case atStart => exact ⟨0, S, [], _, _, Nat.zero_le _, Nat.le_refl _, rfl, rfl, s1, Ln.app_start S l, World.ownsRow_nil _ _ _ _, Below.refl _ _⟩
  case round =>
    obtain ⟨k, A, J, ao, co, hk, hJ, rfl, rfl, LA, HI, hown, hnx⟩ := hrel
    have hsz := hnx.size
    have hA := LA.out.len
    clear s1
    by_cases hlt : k < l.length
    · obtain ⟨b, off, rfl, hb0, hc1, hc2, hc3⟩ := h.cells k hlt
      have d1 : wr.cell? ⟨b, off + k * 3, none⟩ = some (.int .u8 ((l[k]'hlt).1 : Int)) := (hnx.cell (p := ⟨b, off + k * 3, none⟩) hb0).trans hc1
      have d2 : wr.cell? ⟨b, off + k * 3 + 1, none⟩ = some (.string (l[k]'hlt).2.1) := (hnx.cell (p := ⟨b, off + k * 3 + 1, none⟩) hb0).trans hc2
      have d3 : wr.cell? ⟨b, off + k * 3 + 2, none⟩ = some (.bool (l[k]'hlt).2.2) := (hnx.cell (p := ⟨b, off + k * 3 + 2, none⟩) hb0).trans hc3
      clear hc1 hc2 hc3
      obtain ⟨⟨kd, x1, x2⟩, hx⟩ : ∃ x, l[k]'hlt = x := ⟨_, rfl⟩
      rw [hx] at d1 d2 d3
      have HX : Hid (l[k]'hlt = (kd, (x1, x2))) := hx
      have hkd : kd < 256 := by have := h.kind _ (List.getElem_mem hlt); rw [hx] at this; exact this
      clear hx
      by_cases k3 : kd = 3
      · subst k3
        have HN : Hid (Ln.AppInv S l A (J ++ [(x1, x2)]) (k + 1)) := Ln.app_add HI.out hlt HX.out
        go_wp2_with (at_builtin; refine app_line _ rfl (.tmp 41) (.tmp 44) rfl w1.heap.size _ J rfl ((hown.alloc _).alloc _) _ _ x1 x2 rfl ?c1 ?c2 ?c3 ?c4 ?_)
        case c3 => omega
        case c4 => first | omega | (simp; omega)
        intro v2 w2 hown2 hg
        have hB2 : Below w1.heap.size w1 w2 := ((hnx.alloc hsz _).alloc (by simp; omega) _).grown hg (by simp; omega) (fun g hg => (hown.lt g hg).1)
        go_wp2_with fail
        go_roundw
        case rel => exact ⟨k + 1, A, J ++ [(x1, x2)], ao, co, by omega, by simp; omega, by go_num, rfl, LA, HN, by simpa using hown2, hB2⟩
        case measure => simp [intOf]; omega
      by_cases k12 : kd = 1 ∨ kd = 2
      · cases A with
        | nil =>
          have HE : Hid (Ln.applyR S l = ([], 11)) := Ln.app_bad HI.out hlt HX.out (.inr ⟨k12, .inl rfl⟩)
          rcases k12 with rfl | rfl
          all_goals
            go_wp2_with fail
            go_quiet (fail)
            go_wp2_with fail
            go_ret2
            rw [HE.out]
            exact ⟨rfl, hB.trans ((below_drewN (hnx.alloc hsz _) _).mono hB1)⟩
        | cons y A =>
          obtain ⟨y1, y2⟩ := y
          obtain ⟨b2, o2, rfl, hb2, e1, e2⟩ := LA.out.cells 0 (by simp)
          have f1 : wr.cell? ⟨b2, o2, none⟩ = some (.string y1) := (hnx.cell (p := ⟨b2, o2, none⟩) hb2).trans (by simpa using e1)
          have f2 : wr.cell? ⟨b2, o2 + 1, none⟩ = some (.bool y2) := (hnx.cell (p := ⟨b2, o2 + 1, none⟩) hb2).trans (by simpa using e2)
          clear e1 e2
          have hb3 : b2 < wr.heap.size := by omega
          have hne := fun wx => line_neq y1 x1 y2 x2 wx
          have hco := LA.out.room
          have hcm := LA.out.most
          unfold maxLen at hcm
          simp only [List.length_cons] at hco hA
          have g0 : (((A.length : Int) + 1) == 0) = false := by simp; omega
          by_cases hq : ((y1.toList == x1.toList) && (y2 == x2)) = true
          · have hyx : ((y1, y2) : ByteArray × Bool) = (x1, x2) := (Ln.line_eq _ _).2 hq
            rw [hq] at hne
            have hq1 : Hid ((y1, y2) = (x1, x2)) := hyx
            clear hyx hq
            obtain ⟨az, hz⟩ : ∃ az, (if co = 1 then some (⟨b2, o2, none⟩ : Addr) else some ⟨b2, o2 + 2, none⟩) = az := ⟨_, rfl⟩
            have LA' : Hid (Lns w1 az (co - 1) A) := by rw [← hz]; exact LA.out.tail'
            by_cases hc1 : co = 1
            · subst hc1
              rw [if_pos rfl] at hz
              subst hz
              obtain rfl : A = [] := List.eq_nil_of_length_eq_zero (by omega)
              rcases k12 with rfl | rfl
              · have HN : Hid (Ln.AppInv S l [] (J ++ [(x1, x2)]) (k + 1)) := Ln.app_keep (by have := HI.out; rwa [hq1.out] at this) hlt HX.out
                go_wp2_with fail
                go_quiet (fail)
                go_wp2_with (at_builtin; refine app_line _ rfl (.tmp 41) (.tmp 44) rfl w1.heap.size _ J rfl ((own_drewN (hown.alloc _) _).alloc _) _ _ x1 x2 rfl ?p1 ?p2 ?p3 ?p4 ?_)
                case p1 => exact cell_at_new _ _ _ _ _ _ (by simp) rfl
                case p2 => exact cell_at_new _ _ _ _ _ _ (by simp) rfl
                case p3 => omega
                case p4 => first | omega | (simp; omega)
                intro v2 w2 hown2 hg
                have hB2 : Below w1.heap.size w1 w2 := ((below_drewN (hnx.alloc hsz _) _).alloc (by simp; omega) _).grown hg (by simp; omega) (fun g hg => (hown.lt g hg).1)
                go_wp2_with fail
                go_roundw
                case rel => exact ⟨k + 1, [], J ++ [(x1, x2)], _, _, by omega, by simp; omega, by go_num, rfl, LA', HN, by simpa using hown2, hB2⟩
                case measure => simp [intOf]; omega
              · have HN : Hid (Ln.AppInv S l [] J (k + 1)) := Ln.app_drop (by have := HI.out; rwa [hq1.out] at this) hlt HX.out
                go_wp2_with fail
                go_quiet (fail)
                go_wp2_with fail
                go_roundw
                case rel => exact ⟨k + 1, [], J, _, _, by omega, by omega, by go_num, rfl, LA', HN, own_drewN (hown.alloc _) _, below_drewN (hnx.alloc hsz _) _⟩
                case measure => simp [intOf]; omega
            · rw [if_neg hc1] at hz
              subst hz
              rcases k12 with rfl | rfl
              · have HN : Hid (Ln.AppInv S l A (J ++ [(x1, x2)]) (k + 1)) := Ln.app_keep (by have := HI.out; rwa [hq1.out] at this) hlt HX.out
                go_wp2_with fail
                go_quiet (fail)
                go_wp2_with (at_builtin; refine app_line _ rfl (.tmp 41) (.tmp 44) rfl w1.heap.size _ J rfl ((own_drewN (hown.alloc _) _).alloc _) _ _ x1 x2 rfl ?r1 ?r2 ?r3 ?r4 ?_)
                case r1 => exact cell_at_new _ _ _ _ _ _ (by simp) rfl
                case r2 => exact cell_at_new _ _ _ _ _ _ (by simp) rfl
                case r3 => omega
                case r4 => first | omega | (simp; omega)
                intro v2 w2 hown2 hg
                have hB2 : Below w1.heap.size w1 w2 := ((below_drewN (hnx.alloc hsz _) _).alloc (by simp; omega) _).grown hg (by simp; omega) (fun g hg => (hown.lt g hg).1)
                go_wp2_with fail
                go_roundw
                case rel => exact ⟨k + 1, A, J ++ [(x1, x2)], _, _, by omega, by simp; omega, by go_num, rfl, LA', HN, by simpa using hown2, hB2⟩
                case measure => simp [intOf]; omega
              · have HN : Hid (Ln.AppInv S l A J (k + 1)) := Ln.app_drop (by have := HI.out; rwa [hq1.out] at this) hlt HX.out
                go_wp2_with fail
                go_quiet (fail)
                go_wp2_with fail
                go_roundw
                case rel => exact ⟨k + 1, A, J, _, _, by omega, by omega, by go_num, rfl, LA', HN, own_drewN (hown.alloc _) _, below_drewN (hnx.alloc hsz _) _⟩
                case measure => simp [intOf]; omega
          · have HE : Hid (Ln.applyR S l = ([], 11)) := Ln.app_bad HI.out hlt HX.out (.inr ⟨k12, .inr ⟨_, _, rfl, fun e => hq ((Ln.line_eq _ _).1 e)⟩⟩)
            have hq' : ((y1.toList == x1.toList) && (y2 == x2)) = false := by simpa using hq
            rw [hq'] at hne
            clear hq hq'
            rcases k12 with rfl | rfl
            all_goals
              go_wp2_with fail
              go_quiet (fail)
              go_wp2_with fail
              go_ret2
              rw [HE.out]
              exact ⟨rfl, hB.trans ((below_drewN (hnx.alloc hsz _) _).mono hB1)⟩
      · have HE : Hid (Ln.applyR S l = ([], 11)) := Ln.app_bad HI.out hlt HX.out (.inl ⟨fun e => k12 (.inl e), fun e => k12 (.inr e), k3⟩)
        have g1 : (((kd : Nat) : Int) == 1) = false := by simp; omega
        have g2 : (((kd : Nat) : Int) == 2) = false := by simp; omega
        have g3 : (((kd : Nat) : Int) == 3) = false := by simp; omega
        clear k3 k12
        go_wp2_with fail
        go_ret2
        rw [HE.out]
        exact ⟨rfl, hB.trans ((hnx.alloc hsz _).mono hB1)⟩
    · cases A with
      | nil =>
        obtain ⟨h1, h2⟩ := Ln.app_end HI.out (by omega)
        have HE : Hid (Ln.applyR S l = (Ln.joinL J, 0)) := h1
        clear h1
        obtain ⟨aj, cj, rfl, sj⟩ := own_lns hown (by omega) (fun x hx => Nat.le_trans (Ln.tot_mem hx) (by omega))
        go_wp2_with fail
        refine (ljoin_any _ _ J _ sj (by omega)).mono ?_
        rintro e w3 ⟨rfl, hb⟩
        go_wp2_with fail
        go_ret2
        rw [HE.out]
        exact ⟨rfl, hB.trans ((hnx.trans (hb.mono hsz)).mono hB1)⟩
      | cons y A =>
        have HE : Hid (Ln.applyR S l = ([], 11)) := Ln.app_left HI.out (by omega) (by simp)
        simp only [List.length_cons] at hA
        have g0 : (0 < ((A.length : Int) + 1)) := by omega
        go_wp2_with fail
        go_ret2
        rw [HE.out]
        exact ⟨rfl, hB.trans (hnx.mono hB1)⟩

set_option maxRecDepth 100000 in
set_option maxHeartbeats 4000000 in
theorem rapply_any (s : ByteArray) (a : Option Addr) (cap : Nat) (l : List (Nat × (ByteArray × Bool))) (w : World) (h : Chs w a cap l) (hs : s.size ≤ 16777216) (ht : Ln.tot (l.map (·.2)) ≤ 16777216) :
    Calls Tryd.prog 9 #[.string s, .slice a l.length cap] w fun e w' => e = .returned (.tuple #[.string (Ln.bs (Ln.applyR (Ln.splB s) l).1), .int .i64 ((Ln.applyR (Ln.splB s) l).2 : Nat)]) ∧ Below w.heap.size w w' := by
  have hl := h.len
  have hB : Below w.heap.size w w := Below.refl _ _
  have hn := Ln.splB_len s
  have HM : Hid (∀ x ∈ Ln.splB s, x.1.size ≤ 67108864) := fun x hx => Nat.le_trans (Ln.splB_mem s x hx) (by omega)
  obtain ⟨S, hS⟩ : ∃ S, Ln.splB s = S := ⟨_, rfl⟩
  rw [hS] at hn HM ⊢
  have HS : Hid (Ln.splB s = S) := hS
  clear hS
  go_enter Tryd.func9, Tryd.ntmps9
  go_wp2_with fail
  refine (rsplit_any s _ (by omega)).mono ?_
  rw [HS.out]
  rintro e w1 ⟨v1, rfl, hown, hb⟩
  obtain ⟨a1, c1, rfl, s1⟩ := own_lns hown (by omega) HM.out
  replace h := h.below hb; replace hB := hB.trans (hb.mono hB.size); clear hb hown
  have hB1 := hB.size
  go_wp2_with fail
  go_loopw [6, 7, 14] (fun vo v i wr => ∃ (k : Nat) (A J : List (ByteArray × Bool)) (ao : Option Addr) (co : Nat), k ≤ l.length ∧ J.length ≤ k ∧ i = .int .i64 k ∧ vo = .slice ao A.length co ∧ Hid (Lns w1 ao co A) ∧ Hid (Ln.AppInv S l A J k) ∧ wr.ownsRow w1.heap.size 38 2 v J.length (lcells J) ∧ Below w1.heap.size w1 wr) (fun _ _ i _ => l.length - (intOf i).toNat)
  case atStart => exact ⟨0, S, [], _, _, Nat.zero_le _, Nat.le_refl _, rfl, rfl, s1, Ln.app_start S l, World.ownsRow_nil _ _ _ _, Below.refl _ _⟩
  case round =>
    obtain ⟨k, A, J, ao, co, hk, hJ, rfl, rfl, LA, HI, hown, hnx⟩ := hrel
    have hsz := hnx.size
    have hA := LA.out.len
    clear s1
    by_cases hlt : k < l.length
    · obtain ⟨b, off, rfl, hb0, hc1, hc2, hc3⟩ := h.cells k hlt
      have d1 : wr.cell? ⟨b, off + k * 3, none⟩ = some (.int .u8 ((l[k]'hlt).1 : Int)) := (hnx.cell (p := ⟨b, off + k * 3, none⟩) hb0).trans hc1
      have d2 : wr.cell? ⟨b, off + k * 3 + 1, none⟩ = some (.string (l[k]'hlt).2.1) := (hnx.cell (p := ⟨b, off + k * 3 + 1, none⟩) hb0).trans hc2
      have d3 : wr.cell? ⟨b, off + k * 3 + 2, none⟩ = some (.bool (l[k]'hlt).2.2) := (hnx.cell (p := ⟨b, off + k * 3 + 2, none⟩) hb0).trans hc3
      clear hc1 hc2 hc3
      obtain ⟨⟨kd, x1, x2⟩, hx⟩ : ∃ x, l[k]'hlt = x := ⟨_, rfl⟩
      rw [hx] at d1 d2 d3
      have HX : Hid (l[k]'hlt = (kd, (x1, x2))) := hx
      have hkd : kd < 256 := by have := h.kind _ (List.getElem_mem hlt); rw [hx] at this; exact this
      clear hx
      by_cases k3 : kd = 3
      · subst k3
        have HN : Hid (Ln.AppInv S l A (J ++ [(x1, x2)]) (k + 1)) := Ln.app_add HI.out hlt HX.out
        go_wp2_with (at_builtin; refine app_line _ rfl (.tmp 41) (.tmp 44) rfl w1.heap.size _ J rfl ((hown.alloc _).alloc _) _ _ x1 x2 rfl ?c1 ?c2 ?c3 ?c4 ?_)
        case c3 => omega
        case c4 => first | omega | (simp; omega)
        intro v2 w2 hown2 hg
        have hB2 : Below w1.heap.size w1 w2 := ((hnx.alloc hsz _).alloc (by simp; omega) _).grown hg (by simp; omega) (fun g hg => (hown.lt g hg).1)
        go_wp2_with fail
        go_roundw
        case rel => exact ⟨k + 1, A, J ++ [(x1, x2)], ao, co, by omega, by simp; omega, by go_num, rfl, LA, HN, by simpa using hown2, hB2⟩
        case measure => simp [intOf]; omega
      by_cases k12 : kd = 1 ∨ kd = 2
      · cases A with
        | nil =>
          have HE : Hid (Ln.applyR S l = ([], 11)) := Ln.app_bad HI.out hlt HX.out (.inr ⟨k12, .inl rfl⟩)
          rcases k12 with rfl | rfl
          all_goals
            go_wp2_with fail
            go_quiet (fail)
            go_wp2_with fail
            go_ret2
            rw [HE.out]
            exact ⟨rfl, hB.trans ((below_drewN (hnx.alloc hsz _) _).mono hB1)⟩
        | cons y A =>
          obtain ⟨y1, y2⟩ := y
          obtain ⟨b2, o2, rfl, hb2, e1, e2⟩ := LA.out.cells 0 (by simp)
          have f1 : wr.cell? ⟨b2, o2, none⟩ = some (.string y1) := (hnx.cell (p := ⟨b2, o2, none⟩) hb2).trans (by simpa using e1)
          have f2 : wr.cell? ⟨b2, o2 + 1, none⟩ = some (.bool y2) := (hnx.cell (p := ⟨b2, o2 + 1, none⟩) hb2).trans (by simpa using e2)
          clear e1 e2
          have hb3 : b2 < wr.heap.size := by omega
          have hne := fun wx => line_neq y1 x1 y2 x2 wx
          have hco := LA.out.room
          have hcm := LA.out.most
          unfold maxLen at hcm
          simp only [List.length_cons] at hco hA
          have g0 : (((A.length : Int) + 1) == 0) = false := by simp; omega
          by_cases hq : ((y1.toList == x1.toList) && (y2 == x2)) = true
          · have hyx : ((y1, y2) : ByteArray × Bool) = (x1, x2) := (Ln.line_eq _ _).2 hq
            rw [hq] at hne
            have hq1 : Hid ((y1, y2) = (x1, x2)) := hyx
            clear hyx hq
            obtain ⟨az, hz⟩ : ∃ az, (if co = 1 then some (⟨b2, o2, none⟩ : Addr) else some ⟨b2, o2 + 2, none⟩) = az := ⟨_, rfl⟩
            have LA' : Hid (Lns w1 az (co - 1) A) := by rw [← hz]; exact LA.out.tail'
            by_cases hc1 : co = 1
            · subst hc1
              rw [if_pos rfl] at hz
              subst hz
              obtain rfl : A = [] := List.eq_nil_of_length_eq_zero (by omega)
              rcases k12 with rfl | rfl
              · have HN : Hid (Ln.AppInv S l [] (J ++ [(x1, x2)]) (k + 1)) := Ln.app_keep (by have := HI.out; rwa [hq1.out] at this) hlt HX.out
                go_wp2_with fail
                go_quiet (fail)
                go_wp2_with (at_builtin; refine app_line _ rfl (.tmp 41) (.tmp 44) rfl w1.heap.size _ J rfl ((own_drewN (hown.alloc _) _).alloc _) _ _ x1 x2 rfl ?p1 ?p2 ?p3 ?p4 ?_)
                case p1 => exact cell_at_new _ _ _ _ _ _ (by simp) rfl
                case p2 => exact cell_at_new _ _ _ _ _ _ (by simp) rfl
                case p3 => omega
                case p4 => first | omega | (simp; omega)
                intro v2 w2 hown2 hg
                have hB2 : Below w1.heap.size w1 w2 := ((below_drewN (hnx.alloc hsz _) _).alloc (by simp; omega) _).grown hg (by simp; omega) (fun g hg => (hown.lt g hg).1)
                go_wp2_with fail
                go_roundw
                case rel => exact ⟨k + 1, [], J ++ [(x1, x2)], _, _, by omega, by simp; omega, by go_num, rfl, LA', HN, by simpa using hown2, hB2⟩
                case measure => simp [intOf]; omega
              · have HN : Hid (Ln.AppInv S l [] J (k + 1)) := Ln.app_drop (by have := HI.out; rwa [hq1.out] at this) hlt HX.out
                go_wp2_with fail
                go_quiet (fail)
                go_wp2_with fail
                go_roundw
                case rel => exact ⟨k + 1, [], J, _, _, by omega, by omega, by go_num, rfl, LA', HN, own_drewN (hown.alloc _) _, below_drewN (hnx.alloc hsz _) _⟩
                case measure => simp [intOf]; omega
            · rw [if_neg hc1] at hz
              subst hz
              rcases k12 with rfl | rfl
              · have HN : Hid (Ln.AppInv S l A (J ++ [(x1, x2)]) (k + 1)) := Ln.app_keep (by have := HI.out; rwa [hq1.out] at this) hlt HX.out
                go_wp2_with fail
                go_quiet (fail)
                go_wp2_with (at_builtin; refine app_line _ rfl (.tmp 41) (.tmp 44) rfl w1.heap.size _ J rfl ((own_drewN (hown.alloc _) _).alloc _) _ _ x1 x2 rfl ?r1 ?r2 ?r3 ?r4 ?_)
                case r1 => exact cell_at_new _ _ _ _ _ _ (by simp) rfl
                case r2 => exact cell_at_new _ _ _ _ _ _ (by simp) rfl
                case r3 => omega
                case r4 => first | omega | (simp; omega)
                intro v2 w2 hown2 hg
                have hB2 : Below w1.heap.size w1 w2 := ((below_drewN (hnx.alloc hsz _) _).alloc (by simp; omega) _).grown hg (by simp; omega) (fun g hg => (hown.lt g hg).1)
                go_wp2_with fail
                go_roundw
                case rel => exact ⟨k + 1, A, J ++ [(x1, x2)], _, _, by omega, by simp; omega, by go_num, rfl, LA', HN, by simpa using hown2, hB2⟩
                case measure => simp [intOf]; omega
              · have HN : Hid (Ln.AppInv S l A J (k + 1)) := Ln.app_drop (by have := HI.out; rwa [hq1.out] at this) hlt HX.out
                go_wp2_with fail
                go_quiet (fail)
                go_wp2_with fail
                go_roundw
                case rel => exact ⟨k + 1, A, J, _, _, by omega, by omega, by go_num, rfl, LA', HN, own_drewN (hown.alloc _) _, below_drewN (hnx.alloc hsz _) _⟩
                case measure => simp [intOf]; omega
          · have HE : Hid (Ln.applyR S l = ([], 11)) := Ln.app_bad HI.out hlt HX.out (.inr ⟨k12, .inr ⟨_, _, rfl, fun e => hq ((Ln.line_eq _ _).1 e)⟩⟩)
            have hq' : ((y1.toList == x1.toList) && (y2 == x2)) = false := by simpa using hq
            rw [hq'] at hne
            clear hq hq'
            rcases k12 with rfl | rfl
            all_goals
              go_wp2_with fail
              go_quiet (fail)
              go_wp2_with fail
              go_ret2
              rw [HE.out]
              exact ⟨rfl, hB.trans ((below_drewN (hnx.alloc hsz _) _).mono hB1)⟩
      · have HE : Hid (Ln.applyR S l = ([], 11)) := Ln.app_bad HI.out hlt HX.out (.inl ⟨fun e => k12 (.inl e), fun e => k12 (.inr e), k3⟩)
        have g1 : (((kd : Nat) : Int) == 1) = false := by simp; omega
        have g2 : (((kd : Nat) : Int) == 2) = false := by simp; omega
        have g3 : (((kd : Nat) : Int) == 3) = false := by simp; omega
        clear k3 k12
        go_wp2_with fail
        go_ret2
        rw [HE.out]
        exact ⟨rfl, hB.trans ((hnx.alloc hsz _).mono hB1)⟩
    · cases A with
      | nil =>
        obtain ⟨h1, h2⟩ := Ln.app_end HI.out (by omega)
        have HE : Hid (Ln.applyR S l = (Ln.joinL J, 0)) := h1
        clear h1
        obtain ⟨aj, cj, rfl, sj⟩ := own_lns hown (by omega) (fun x hx => Nat.le_trans (Ln.tot_mem hx) (by omega))
        go_wp2_with fail
        refine (rjoin_any _ _ J _ sj (by omega)).mono ?_
        rintro e w3 ⟨rfl, hb⟩
        go_wp2_with fail
        go_ret2
        rw [HE.out]
        exact ⟨rfl, hB.trans ((hnx.trans (hb.mono hsz)).mono hB1)⟩
      | cons y A =>
        have HE : Hid (Ln.applyR S l = ([], 11)) := Ln.app_left HI.out (by omega) (by simp)
        simp only [List.length_cons] at hA
        have g0 : (0 < ((A.length : Int) + 1)) := by omega
        go_wp2_with fail
        go_ret2
        rw [HE.out]
        exact ⟨rfl, hB.trans (hnx.mono hB1)⟩
end Go.Proofs.YtpoimhkfajppmaaDoor
