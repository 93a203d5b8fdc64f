/- What lines.hunks answers. -/
import Derived.Test.YtpoimhkfajppmaaDoorLApp
import Derived.Test.YtpoimhkfajppmaaDoorLPlainU
namespace Go.Proofs.YtpoimhkfajppmaaDoor
open Go.RowKit

def pcells (l : List (Nat × Nat)) : List Value := l.flatMap fun x => [.int .i64 (x.1 : Int), .int .i64 (x.2 : Int)]
theorem pcells_length (l : List (Nat × Nat)) : (pcells l).length = l.length * 2 := by
  induction l with
  | nil => rfl
  | cons x r ih => simp only [pcells, List.flatMap_cons, List.length_append, List.length_cons, List.length_nil] at ih ⊢; omega
theorem pcells_append (a b : List (Nat × Nat)) : pcells (a ++ b) = pcells a ++ pcells b := by simp [pcells]
theorem pcells_get : ∀ (l : List (Nat × Nat)) (i : Nat) (h : i < l.length), (pcells l)[i * 2]? = some (.int .i64 ((l[i]'h).1 : Int)) ∧ (pcells l)[i * 2 + 1]? = some (.int .i64 ((l[i]'h).2 : Int))
  | [], i, h => absurd h (by simp)
  | x :: r, 0, h => by simp [pcells]
  | x :: r, i + 1, h => by
    have ih := pcells_get r i (by simpa using h)
    have e1 : (i + 1) * 2 = i * 2 + 1 + 1 := by omega
    have e2 : (i + 1) * 2 + 1 = i * 2 + 1 + 1 + 1 := by omega
    have e3 : pcells (x :: r) = .int .i64 (x.1 : Int) :: .int .i64 (x.2 : Int) :: pcells r := rfl
    rw [e2, e1, e3]
    simpa using ih
theorem pcells_set (A : List (Nat × Nat)) (x : Nat × Nat) (B : List (Nat × Nat)) (f t : Nat) : (pcells (A ++ x :: B)).set (A.length * 2) (.int .i64 (f : Int)) = pcells (A ++ (f, x.2) :: B) ∧ (pcells (A ++ x :: B)).set (A.length * 2 + 1) (.int .i64 (t : Int)) = pcells (A ++ (x.1, t) :: B) := by
  have e : ∀ y : Nat × Nat, pcells (A ++ y :: B) = pcells A ++ (.int .i64 (y.1 : Int) :: .int .i64 (y.2 : Int) :: pcells B) := fun y => by rw [pcells_append]; rfl
  have l := pcells_length A
  constructor
  · rw [e, e, ← l, List.set_append_right _ _ (Nat.le_refl _)]; simp
  · rw [e, e, ← l, List.set_append_right _ _ (by omega)]
    congr 1
    rw [show (pcells A).length + 1 - (pcells A).length = 1 by omega]
    rfl
theorem Tryd.infoHunk : (Tryd.prog.info? 58).map (fun i => (i.zero, i.size, i.bytes)) = some (some (.agg #[.int .i64 0, .int .i64 0]), 2, 16) := by kernel_rfl
theorem app_hunk (w : World) {ops : Array Oper} {rest : List Oper} {o : Oper} {a : Act} {Q : Exit → Act → World → Prop} (hgd : o.guard = none) (s x : Operand)
    (ho : o.op = .call { callee := .builtin .append, args := #[s, x], argTypes := #[55, 55] })
    (base : Nat) (v : Value) (J : List (Nat × Nat)) (hs : a.eval s = v) (hown : w.ownsRow base 58 2 v J.length (pcells J))
    (g c f t : Nat) (hx : a.eval x = .slice (some ⟨g, 0, none⟩) 1 c) (hc1 : w.cell? ⟨g, 0, none⟩ = some (.int .i64 (f : Int))) (hc2 : w.cell? ⟨g, 1, none⟩ = some (.int .i64 (t : Int)))
    (hJ : J.length ≤ 67108864) (hbase : base ≤ w.heap.size)
    (h : ∀ v' w', w'.ownsRow base 58 2 v' (J ++ [(f, t)]).length (pcells (J ++ [(f, t)])) → w.grownBy w' v.ownBlock → wpList Tryd.prog ops Q rest (a.put o.dst v') w') : wpList Tryd.prog ops Q (o :: rest) a w := by
  obtain ⟨i0, hi, hz0, hz1, hz2⟩ := info_parts Tryd.infoHunk
  refine wpList_append_own w hgd s x 55 ho base 58 i0 (.agg #[.int .i64 0, .int .i64 0]) 2 16 Tryd.underlying55 hi hz0 hz1 hz2 rfl (by decide) v J.length (pcells J) hs hown ⟨g, 0, none⟩ 1 c [.int .i64 (f : Int), .int .i64 (t : Int)] hx rfl ?_ ?_ (by unfold maxLen; omega) (by omega) hbase ?_
  · intro j u hu
    rw [add_at]
    match j, hu with
    | 0, hu => simpa [hc1] using hu
    | 1, hu => simpa [hc2] using hu
    | j + 2, hu => simp at hu
  · intro u hu; simp at hu; rcases hu with rfl | rfl <;> rfl
  · intro v' w' h1 h2 _
    exact h v' w' (by rw [pcells_append, List.length_append]; exact h1) h2

set_option maxRecDepth 100000 in
set_option maxHeartbeats 4000000 in
theorem hunks_any (a : Option Addr) (cap ar : Nat) (l : List Ln.Chg) (w : World) (h : Chs w a cap l) (har : ar ≤ 4096) (hl : l.length ≤ 100000) :
    Calls Tryd.prog 26 #[.slice a l.length cap, .int .i64 (ar : Int)] w fun e w' => ∃ v, e = .returned v ∧ w'.ownsRow w.heap.size 58 2 v (Ln.hunksP ar l).length (pcells (Ln.hunksP ar l)) ∧ Below w.heap.size w w' := by
  go_enter Tryd.func26, Tryd.ntmps26
  go_wp2
  go_loopw [5, 11] (fun v i wr => ∃ (k : Nat) (H : List (Nat × Nat)), k ≤ l.length ∧ i = .int .i64 k ∧ H.length ≤ k ∧ Hid (Ln.hks ar l k = H) ∧ wr.ownsRow w.heap.size 58 2 v H.length (pcells H) ∧ Below w.heap.size w wr) (fun _ i _ => l.length - (intOf i).toNat)
  case atStart => exact ⟨0, [], Nat.zero_le _, rfl, Nat.le_refl _, rfl, World.ownsRow_nil _ _ _ _, Below.refl _ _⟩
  case round =>
    obtain ⟨k, H, hk, rfl, hHk, HH, hown, hnx⟩ := hrel
    have hsz := hnx.size
    by_cases hlt : k < l.length
    · obtain ⟨b, off, rfl, hb0, hc1, _, _⟩ := h.cells k hlt
      have d1 : wr.cell? ⟨b, off + k * 3, none⟩ = some (.int .u8 ((l[k]'hlt).1 : Int)) := (hnx.cell (p := ⟨b, off + k * 3, none⟩) hb0).trans hc1
      have hkd : (l[k]'hlt).1 < 256 := h.kind _ (List.getElem_mem hlt)
      have HS : Hid (Ln.hks ar l (k + 1) = if (l[k]'hlt).1 = 1 then H else Ln.hstep ar H k) := by
        show _ = _
        rw [Ln.hks, HH.out, List.getElem?_eq_getElem hlt]
        simp
      clear hc1
      generalize (l[k]'hlt).1 = kd at *
      by_cases e1 : kd = 1
      · subst e1
        have HN : Hid (Ln.hks ar l (k + 1) = H) := by show _ = _; rw [HS.out, if_pos rfl]
        go_wp2_with fail
        go_roundw
        case rel => exact ⟨k + 1, H, by omega, by go_num, by omega, HN, hown, hnx⟩
        case measure => simp [intOf]; omega
      have HN0 : Hid (Ln.hks ar l (k + 1) = Ln.hstep ar H k) := by show _ = _; rw [HS.out, if_neg e1]
      have g1 : ((kd : Int) == 1) = false := by simp; omega
      clear HS
      have hcs : H = [] ∨ ∃ H' f t, H = H' ++ [(f, t)] := by
        rcases List.eq_nil_or_concat H with e | ⟨H', p, e⟩
        · exact .inl e
        · exact .inr ⟨H', p.1, p.2, by simpa using e⟩
      rcases hcs with rfl | ⟨H', f, t, rfl⟩
      · have HN : Hid (Ln.hks ar l (k + 1) = [(k, k + 1)]) := by show _ = _; rw [HN0.out]; rfl
        obtain ⟨av, cv, hav⟩ : ∃ av cv, u5 = .slice av 0 cv := by
          rcases hown.2 with ⟨hv, _⟩ | ⟨g, cp, cur, hv, _⟩
          · exact ⟨_, _, hv⟩
          · exact ⟨_, _, hv⟩
        subst hav
        go_wp2_with (at_builtin; refine app_hunk _ rfl _ _ rfl w.heap.size _ [] rfl (hown.alloc _) _ _ k (k + 1) rfl ?a1 ?a2 ?a3 ?a4 ?_)
        case a1 => exact cell_at_new _ _ _ _ _ _ (by simp) rfl
        case a2 => exact cell_at_new _ _ _ _ _ _ (by simp) rfl
        case a3 => simp
        case a4 => first | omega | (simp; omega)
        intro v2 w2 ho2 hg
        have hB2 : Below w.heap.size w w2 := (hnx.alloc hsz _).grown hg (by simp; omega) (fun g hg => (hown.lt g hg).1)
        go_wp2_with fail
        go_roundw
        case rel => exact ⟨k + 1, [(k, k + 1)], by omega, by go_num, by simp, HN, by simpa using ho2, hB2⟩
        case measure => simp [intOf]; omega
      · have hsep := Ln.sep_hks ar l k
        rw [HH.out] at hsep
        have htk : t ≤ k := by
          have := (hsep.1 H'.length (by simp)).2
          simpa using this
        have HSEP : Hid (Ln.Sep ar k (H' ++ [(f, t)])) := hsep
        clear hsep
        obtain ⟨g, cg, hvg, hgb, _⟩ := hown.form (by simp)
        subst hvg
        have hHl : H'.length + 1 ≤ k := by simpa using hHk
        have q1 := (hown.cellAt (H'.length * 2 + 1) (by simp; omega)).trans (pcells_get (H' ++ [(f, t)]) H'.length (by simp)).2
        have q1' : wr.cell? ⟨g, H'.length * 2 + 1, none⟩ = some (.int .i64 (t : Int)) := by simpa using q1
        have fz := hown.frozenAt (H'.length * 2 + 1)
        have hcap : H'.length + 1 ≤ cg := by
          rcases hown.2 with ⟨e, _⟩ | ⟨g', c', cur, e, _, _, hc, _⟩
          · cases e
          · cases e; simpa using hc
        clear q1
        obtain ⟨M, hM⟩ : ∃ M, H'.length = M := ⟨_, rfl⟩
        have HMl : Hid (H'.length = M) := hM
        have hown' : wr.ownsRow w.heap.size 58 2 (.slice (some ⟨g, 0, none⟩) (M + 1) cg) (M + 1) (pcells (H' ++ [(f, t)])) := by simpa [hM] using hown
        rw [hM] at q1' fz hHl hcap
        have hlen : (H' ++ [(f, t)]).length = M + 1 := by simp [hM]
        rw [hlen]
        clear hM hlen
        by_cases c : k ≤ t + 2 * ar
        · have HN : Hid (Ln.hks ar l (k + 1) = H' ++ [(f, k + 1)]) := by
            show _ = _
            rw [HN0.out]
            unfold Ln.hstep
            simp [c]
          obtain ⟨st, gr⟩ := hown'.stored (M * 2 + 1) (.int .i64 ((k + 1 : Nat) : Int))
          have hps := (pcells_set H' (f, t) [] 0 (k + 1)).2
          rw [HMl.out] at hps
          rw [hps] at st
          have hB2 := hnx.setCell (p := ⟨g, M * 2 + 1, none⟩) (show w.heap.size ≤ g from (hown'.lt g rfl).1) (.int .i64 ((k + 1 : Nat) : Int))
          clear gr hps hown
          have ci : (k : Int) - (t : Int) ≤ 2 * (ar : Int) := by omega
          go_wp2_with fail
          go_roundw
          case rel => exact ⟨k + 1, H' ++ [(f, k + 1)], by omega, by go_num, by simp; have := HMl.out; omega, HN, by simpa [HMl.out] using st, hB2⟩
          case measure => simp [intOf]; omega
        · have HN : Hid (Ln.hks ar l (k + 1) = H' ++ [(f, t)] ++ [(k, k + 1)]) := by
            show _ = _
            rw [HN0.out]
            unfold Ln.hstep
            simp [c]
          have ci : ¬ ((k : Int) - (t : Int) ≤ 2 * (ar : Int)) := by omega
          go_wp2_with (at_builtin; refine app_hunk _ rfl _ _ rfl w.heap.size _ (H' ++ [(f, t)]) rfl ?b0 _ _ k (k + 1) rfl ?b1 ?b2 ?b3 ?b4 ?_)
          case b0 => simpa [HMl.out] using hown'.alloc _
          case b3 => have := HMl.out; simp; omega
          case b4 => first | omega | (simp; omega)
          intro v2 w2 ho2 hg
          have hB2 : Below w.heap.size w w2 := (hnx.alloc hsz _).grown hg (by simp; omega) (fun g hg => (hown'.lt g hg).1)
          go_wp2_with fail
          go_roundw
          case rel => exact ⟨k + 1, H' ++ [(f, t)] ++ [(k, k + 1)], by omega, by go_num, by have := HMl.out; simp; omega, HN, by simpa using ho2, hB2⟩
          case measure => simp [intOf]; omega
    · obtain rfl : k = l.length := by omega
      have HP : Hid (Ln.hunksP ar l = H.map (Ln.clampP ar l.length)) := by show _ = _; unfold Ln.hunksP; rw [HH.out]
      have hsep := Ln.sep_hks ar l l.length
      rw [HH.out] at hsep
      have HSEP : Hid (Ln.Sep ar l.length H) := hsep
      clear hsep
      obtain ⟨av, cv, hav, hcv1, hcv2⟩ : ∃ av cv, u5 = .slice av H.length cv ∧ H.length ≤ cv ∧ cv ≤ maxLen := by
        rcases hown.2 with ⟨hv, hn⟩ | ⟨g, cp, cur, hv, _, _, h1, h2, _⟩
        · exact ⟨none, 0, by rw [hv, hn], by omega, Nat.zero_le _⟩
        · exact ⟨_, cp, hv, h1, h2⟩
      subst hav
      unfold maxLen at hcv2
      obtain ⟨wo, hwo⟩ : ∃ wo, wo = wr := ⟨_, rfl⟩
      subst hwo
      go_wp2_with fail
      go_loopw [53] (fun i w2 => ∃ k : Nat, k ≤ H.length ∧ i = .int .i64 k ∧ w2.ownsRow w.heap.size 58 2 (.slice av H.length cv) H.length (pcells ((H.take k).map (Ln.clampP ar l.length) ++ H.drop k)) ∧ Below w.heap.size w w2) (fun i _ => H.length - (intOf i).toNat)
      case atStart => exact ⟨0, Nat.zero_le _, rfl, by simpa using hown, hnx⟩
      case round =>
        obtain ⟨k, hk2, rfl, own2, hnx2⟩ := hrel
        clear hown hnx hsz
        by_cases hlt2 : k < H.length
        · obtain ⟨g, cg, hvg, hgb, hgl⟩ := own2.form (by omega)
          obtain ⟨rfl, rfl⟩ : av = some ⟨g, 0, none⟩ ∧ cv = cg := by cases hvg; exact ⟨rfl, rfl⟩
          clear hvg
          have hft := HSEP.out.1 k hlt2
          have HD : Hid (H.drop k = H[k]'hlt2 :: H.drop (k + 1)) := List.drop_eq_getElem_cons hlt2
          have HT : Hid (H.take (k + 1) = H.take k ++ [H[k]'hlt2]) := List.take_succ_eq_append_getElem hlt2
          have HAl : Hid (((H.take k).map (Ln.clampP ar l.length)).length = k) := by show _ = _; simp; omega
          generalize H[k]'hlt2 = x at *
          obtain ⟨f, t⟩ := x
          simp only at hft
          rw [HD.out] at own2
          have HR : Hid ((H.take (k + 1)).map (Ln.clampP ar l.length) ++ H.drop (k + 1) = (H.take k).map (Ln.clampP ar l.length) ++ (f - ar, min (t + ar) l.length) :: H.drop (k + 1)) := by show _ = _; rw [HT.out]; simp [Ln.clampP]
          generalize hA : (H.take k).map (Ln.clampP ar l.length) = A at *
          clear hA
          have gq := pcells_get (A ++ (f, t) :: H.drop (k + 1)) k (by have := HAl.out; simp; omega)
          have hge : (A ++ (f, t) :: H.drop (k + 1))[k]'(by have := HAl.out; simp; omega) = (f, t) := by
            rw [List.getElem_append_right (by have := HAl.out; omega)]
            have := HAl.out
            simp [this]
          rw [hge] at gq
          have hlc := own2.1
          have q0 := (own2.cellAt (k * 2) (by omega)).trans gq.1
          have q1 := (own2.cellAt (k * 2 + 1) (by omega)).trans gq.2
          have f0 := own2.frozenAt (k * 2)
          have f1 := own2.frozenAt (k * 2 + 1)
          obtain ⟨st, gr⟩ := own2.stored (k * 2) (.int .i64 ((f - ar : Nat) : Int))
          have hp1 := (pcells_set A (f, t) (H.drop (k + 1)) (f - ar) 0).1
          rw [HAl.out] at hp1
          rw [hp1] at st
          obtain ⟨st2, gr2⟩ := st.stored (k * 2 + 1) (.int .i64 ((min (t + ar) l.length : Nat) : Int))
          have hp2 := (pcells_set A (f - ar, t) (H.drop (k + 1)) 0 (min (t + ar) l.length)).2
          rw [HAl.out] at hp2
          rw [hp2, ← HR.out] at st2
          have hB2 := (hnx2.setCell (p := ⟨g, k * 2, none⟩) hgb (.int .i64 ((f - ar : Nat) : Int))).setCell (p := ⟨g, k * 2 + 1, none⟩) hgb (.int .i64 ((min (t + ar) l.length : Nat) : Int))
          clear gr gr2 hp1 hp2 st hge gq own2
          have ci : (k : Int) < (H.length : Int) := by omega
          rcases Nat.lt_or_ge f ar with c1 | c1
          · have e1 : ((f - ar : Nat) : Int) = 0 := by omega
            rw [e1] at st2 hB2
            clear e1
            rcases Nat.lt_or_ge l.length (t + ar) with c2 | c2
            · have e2 : ((min (t + ar) l.length : Nat) : Int) = (l.length : Int) := by omega
              rw [e2] at st2 hB2
              clear e2
              go_wp2_with fail
              go_roundw
              case rel => exact ⟨k + 1, by omega, by go_num, st2, hB2⟩
              case measure => simp [intOf]; omega
            · have e2 : ((min (t + ar) l.length : Nat) : Int) = (t : Int) + (ar : Int) := by omega
              rw [e2] at st2 hB2
              clear e2
              go_wp2_with fail
              go_roundw
              case rel => exact ⟨k + 1, by omega, by go_num, st2, hB2⟩
              case measure => simp [intOf]; omega
          · have e1 : ((f - ar : Nat) : Int) = (f : Int) - (ar : Int) := by omega
            rw [e1] at st2 hB2
            clear e1
            rcases Nat.lt_or_ge l.length (t + ar) with c2 | c2
            · have e2 : ((min (t + ar) l.length : Nat) : Int) = (l.length : Int) := by omega
              rw [e2] at st2 hB2
              clear e2
              go_wp2_with fail
              go_roundw
              case rel => exact ⟨k + 1, by omega, by go_num, st2, hB2⟩
              case measure => simp [intOf]; omega
            · have e2 : ((min (t + ar) l.length : Nat) : Int) = (t : Int) + (ar : Int) := by omega
              rw [e2] at st2 hB2
              clear e2
              go_wp2_with fail
              go_roundw
              case rel => exact ⟨k + 1, by omega, by go_num, st2, hB2⟩
              case measure => simp [intOf]; omega
        · have HE : Hid ((H.take k).map (Ln.clampP ar l.length) ++ H.drop k = Ln.hunksP ar l) := by
            show _ = _
            rw [HP.out, List.take_of_length_le (by omega), List.drop_eq_nil_of_le (by omega)]
            simp
          have HL : Hid (H.length = (Ln.hunksP ar l).length) := by show _ = _; rw [HP.out]; simp
          rw [HE.out] at own2
          go_wp2_with fail
          go_ret
          exact ⟨_, rfl, by rw [← HL.out]; exact own2, hnx2⟩
end Go.Proofs.YtpoimhkfajppmaaDoor
