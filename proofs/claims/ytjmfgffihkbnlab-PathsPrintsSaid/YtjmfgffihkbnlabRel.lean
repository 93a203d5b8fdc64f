/- What paths.Relative answers: a text that leads to a path from another one. -/
import Derived.Test.YtjmfgffihkbnlabShared
import Derived.Test.YtjmfgffihkbnlabPrint
import Derived.Test.YtjmfgffihkbnlabNormal
import Derived.Test.YtjmfgffihkbnlabPlainRel
namespace Go.Proofs.Ytjmfgffihkbnlab
open Go.RowKit

theorem own_pop_bytes {w : World} {base : Nat} {e : TypeId} {g cap n : Nat} {l : List UInt8} (hn : l.length = n + 1) (h : w.ownsRow base e 1 (.slice (some ⟨g, 0, none⟩) (n + 1) cap) l.length (bcells l)) :
    w.ownsRow base e 1 (.slice (some ⟨g, 0, none⟩) l.dropLast.length cap) l.dropLast.length (bcells l.dropLast) := by
  have hl : l ≠ [] := by intro e; subst e; simp at hn
  have h1 : l.dropLast.length = n := by simp [hn]
  rw [h1]
  have h2 : bcells l = bcells l.dropLast ++ bcells [l.getLast hl] := by
    rw [← bcells_append, List.dropLast_concat_getLast hl]
  rw [hn, h2] at h
  exact ownsRow_pop (by rw [bcells_length, h1]; omega) h

set_option maxHeartbeats 4000000 in
theorem rel_any (a1 a2 : Option Addr) (c1 c2 : Nat) (l p : List ByteArray) (w : World) (h1 : Strs w a1 c1 l) (h2 : Strs w a2 c2 p) :
    Calls Try.prog 15 #[.slice a1 l.length c1, .slice a2 p.length c2] w fun e w' => e = .returned (.tuple #[.string (Pl.relP l p).1, .int .i64 (Pl.relP l p).2]) ∧ Below w.heap.size w w' := by
  obtain ⟨i0, hi, hz0, hz1, hz2⟩ := info_parts Try.infoByte
  have ll := h1.len
  have lp := h2.len
  cases r1 : Pl.rightP l
  · rw [Pl.rel_wrong (.inl r1)]
    go_enter Try.func15, Try.ntmps15
    go_wp2_with fail
    refine (right_any _ _ l _ h1).mono ?_
    rintro e w' ⟨rfl, rfl⟩
    go_wp2_with fail
    go_ret2
    exact ⟨rfl, Below.refl _ _⟩
  cases r2 : Pl.rightP p
  · rw [Pl.rel_wrong (.inr r2)]
    go_enter Try.func15, Try.ntmps15
    go_wp2_with fail
    refine (right_any _ _ l _ h1).mono ?_
    rintro e w' ⟨rfl, rfl⟩
    go_wp2_with fail
    refine (right_any _ _ p _ h2).mono ?_
    rintro e w' ⟨rfl, rfl⟩
    go_wp2_with fail
    go_ret2
    exact ⟨rfl, Below.refl _ _⟩
  have hco := Pl.com_le l p
  have l1 := Pl.right_len r1
  have l2 := Pl.right_len r2
  have su := Pl.right_sum r2
  have HS := @Pl.rel_same l p r1 r2
  have HF := @Pl.rel_far l p r1 r2
  have HO := @Pl.rel_ok l p r1 r2
  have HNE := @Pl.steps_ne l p
  have HSH := fun wx => shared_any a1 a2 c1 c2 l p wx
  simp only [Pl.stepsP] at HF HO HNE
  obtain ⟨R, hR⟩ : ∃ R, Pl.relP l p = R := ⟨_, rfl⟩
  obtain ⟨k, hk⟩ : ∃ k, Pl.com l p = k := ⟨_, rfl⟩
  rw [hR] at HS HF HO ⊢
  rw [hk] at hco HS HF HO HNE HSH
  have HSH' : Hid (∀ wx, Strs wx a1 c1 l → Strs wx a2 c2 p → Calls Try.prog 29 #[.slice a1 l.length c1, .slice a2 p.length c2] wx fun e w' => e = .returned (.int .i64 (k : Nat)) ∧ ∃ n, w' = wx.drewN n) := HSH
  obtain ⟨hk2, hk1⟩ := hco
  clear hR hk HSH
  by_cases hs : k = l.length ∧ k = p.length
  · have hR := HS hs
    subst hR
    have q1 : ((k : Int) == (l.length : Int)) = true := by simp; omega
    have q2 : ((k : Int) == (p.length : Int)) = true := by simp; omega
    clear HS HF HO hs HNE
    go_enter Try.func15, Try.ntmps15
    go_wp2_with fail
    refine (right_any _ _ l _ h1).mono ?_
    rintro e w' ⟨rfl, rfl⟩
    go_wp2_with fail
    refine (right_any _ _ p _ h2).mono ?_
    rintro e w' ⟨rfl, rfl⟩
    go_wp2_with fail
    refine (HSH'.out _ h1 h2).mono ?_
    rintro e w' ⟨rfl, n, rfl⟩
    go_wp2_with fail
    go_ret2
    exact ⟨rfl, below_drewN (Below.refl _ _) n⟩
  have HF' : Hid (1024 < (Pl.flat (Pl.ups (l.length - k) ++ p.drop k)).length - 1 → R = (Pl.bs [], 4)) := HF hs
  have HO' : Hid (¬ 1024 < (Pl.flat (Pl.ups (l.length - k) ++ p.drop k)).length - 1 → R = (Pl.bs (Pl.flat (Pl.ups (l.length - k) ++ p.drop k)).dropLast, 0)) := HO hs
  have HNE' : Hid (Pl.ups (l.length - k) ++ p.drop k ≠ []) := HNE hs
  clear HS HF HO HNE
  have hq : (((k : Int) == (l.length : Int)) = false) ∨ (((k : Int) == (l.length : Int)) = true ∧ ((k : Int) == (p.length : Int)) = false) := by
    by_cases e : k = l.length
    · right; exact ⟨by simp; omega, by simp; omega⟩
    · left; simp; omega
  clear hs
  rcases hq with q1 | ⟨q1, q2⟩
  · go_enter Try.func15, Try.ntmps15
    go_wp2_with fail
    refine (right_any _ _ l _ h1).mono ?_
    rintro e w' ⟨rfl, rfl⟩
    go_wp2_with fail
    refine (right_any _ _ p _ h2).mono ?_
    rintro e w' ⟨rfl, rfl⟩
    go_wp2_with fail
    refine (HSH'.out _ h1 h2).mono ?_
    rintro e w' ⟨rfl, n, rfl⟩
    go_wp2_with fail
    go_loopw [7, 35] (fun v i wr => ∃ j : Nat, j ≤ l.length - k ∧ i = .int .i64 j ∧ wr.ownsRow w.heap.size 5 1 v (Pl.flat (Pl.ups j)).length (bcells (Pl.flat (Pl.ups j))) ∧ Below w.heap.size w wr)
      (fun _ i _ => l.length - k - (intOf i).toNat)
    case atStart => exact ⟨0, Nat.zero_le _, rfl, World.ownsRow_nil _ _ _ _, below_drewN (Below.refl _ _) n⟩
    case round =>
      obtain ⟨j, hj, rfl, hown, hnx⟩ := hrel
      have hsz := hnx.size
      have hfl : (Pl.flat (Pl.ups j)).length ≤ 3 * j := by rw [Pl.flat_length, Pl.ups_sum]; omega
      by_cases hlt : j < l.length - k
      · have HU : Hid (Pl.flat (Pl.ups (j + 1)) = Pl.flat (Pl.ups j) ++ [46, 46, 47]) := Pl.flat_ups_snoc j
        generalize Pl.flat (Pl.ups j) = T at *
        go_wp2_with (at_builtin; refine Lib.wpList_append_own_string _ rfl _ _ 43 9 rfl w.heap.size 5 i0 Try.underlying43 Try.underlying9 hi hz0 hz1 hz2 _ _ _ rfl hown ⟨#[46, 46, 47]⟩ rfl ?d1 ?d2 ?d3 ?_)
        case d1 => show T.length + 3 ≤ maxLen; unfold maxLen; omega
        case d2 => show T.length + 3 ≤ _; omega
        case d3 => exact hsz
        intro v2 w2 hown2 hgrow2 _
        have hb2 : Below w.heap.size w w2 := hnx.grown hgrow2 hsz (fun g hg => (hown.lt g hg).1)
        have hown3 : w2.ownsRow w.heap.size 5 1 v2 (T ++ [46, 46, 47]).length (bcells (T ++ [46, 46, 47])) := by
          rw [bcells_append, List.length_append]; exact hown2
        clear hgrow2 hown hown2
        go_wp2
        go_roundw
        case rel => exact ⟨j + 1, by omega, by go_num, by rw [HU.out]; exact hown3, hb2⟩
        case measure => simp [intOf]; omega
      · have hjj : j = l.length - k := by omega
        rw [hjj] at hown
        clear hfl hjj
        by_cases hkp : k < p.length
        · obtain ⟨b, off, rfl, hb0, hc0⟩ := h2.cells k hkp
          clear hc0
          have hroom := h2.room
          have hmost : c2 ≤ 9223372036854775807 := h2.most
          go_wp2_with fail
          go_loopw [7, 44] (fun v i wr => ∃ j : Nat, j ≤ p.length - k ∧ i = .int .i64 j ∧ wr.ownsRow w.heap.size 5 1 v (Pl.flat (Pl.ups (l.length - k) ++ (p.drop k).take j)).length (bcells (Pl.flat (Pl.ups (l.length - k) ++ (p.drop k).take j))) ∧ Below w.heap.size w wr)
            (fun _ i _ => p.length - k - (intOf i).toNat)
          case atStart => exact ⟨0, Nat.zero_le _, rfl, by rw [List.take_zero, List.append_nil]; exact hown, hnx⟩
          case round =>
            clear hown hnx hsz hj hlt
            obtain ⟨j2, hj, rfl, hown, hnx⟩ := hrel
            have hsz := hnx.size
            by_cases hlt : j2 < p.length - k
            · obtain ⟨b', off', e', _, hc0⟩ := h2.cells (k + j2) (by omega)
              cases e'
              have hc : wr.cell? ⟨b, off + k + j2, none⟩ = some (.string (p[k + j2]'(by omega))) := by
                rw [Nat.add_assoc]; exact (hnx.cell (p := ⟨b, off + (k + j2), none⟩) hb0).trans hc0
              have hx1 := h2.size (k + j2) (by omega)
              have HT : Hid (Pl.flat (Pl.ups (l.length - k) ++ (p.drop k).take (j2 + 1)) = Pl.flat (Pl.ups (l.length - k) ++ (p.drop k).take j2) ++ (p[k + j2]'(by omega)).data.toList ++ [47]) := by
                show _ = _
                rw [List.take_succ_eq_append_getElem (by simp; omega), ← List.append_assoc, Pl.flat_snoc]
                simp
              have hbd : (Pl.flat (Pl.ups (l.length - k) ++ (p.drop k).take j2)).length + (p[k + j2]'(by omega)).size + 1 ≤ 4096 := by
                have h4 := congrArg List.length HT.out
                rw [List.length_append, List.length_append, Pl.szL, Pl.flat_length, Pl.sumP_append, Pl.ups_sum] at h4
                have h3 := Pl.sumP_append (p.take k) (p.drop k)
                rw [List.take_append_drop] at h3
                have h5 := Pl.sumP_take_le (p.drop k) (j2 + 1)
                simp at h4
                omega
              generalize p[k + j2]'(by omega) = x at *
              generalize Pl.flat (Pl.ups (l.length - k) ++ (p.drop k).take j2) = T at *
              clear hc0
              go_wp2_with (at_builtin; refine Lib.wpList_append_own_string _ rfl (.tmp 48) (.tmp 49) 43 9 rfl w.heap.size 5 i0 Try.underlying43 Try.underlying9 hi hz0 hz1 hz2 _ _ _ rfl hown x rfl ?d1 ?d2 ?d3 ?_)
              case d1 => unfold maxLen; omega
              case d2 => omega
              case d3 => exact hsz
              intro v1 w1 hown1 hgrow1 _
              have hb1 : Below w.heap.size w w1 := hnx.grown hgrow1 hsz (fun g hg => (hown.lt g hg).1)
              have hs1 := hb1.size
              clear hgrow1 hown hc
              go_wp2_with (at_builtin; refine wpList_append_own _ rfl (.tmp 51) (.tmp 52) 43 rfl w.heap.size 5 i0 (.int .u8 0) 1 1 Try.underlying43 hi hz0 hz1 hz2 rfl (by decide) _ _ _ rfl (hown1.alloc _) ⟨w1.heap.size, 0, none⟩ 1 1 [.int .u8 47] rfl rfl (cell_one_new _ _ _) ?c2 ?c3 ?c4 ?c5 ?_)
              case c2 => intro u hu; simp at hu; subst hu; rfl
              case c3 => unfold maxLen; omega
              case c4 => omega
              case c5 => simp; omega
              intro v2 w2 hown2 hgrow2 _
              have hb2 : Below w.heap.size w w2 := (hb1.alloc hs1 _).grown hgrow2 (by simp; omega) (fun g hg => (hown1.lt g hg).1)
              have hown3 : w2.ownsRow w.heap.size 5 1 v2 (T ++ x.data.toList ++ [47]).length (bcells (T ++ x.data.toList ++ [47])) := by
                rw [bcells_append, bcells_append, List.length_append, List.length_append, Pl.szL]
                simpa [strCells_eq, bcells] using hown2
              clear hgrow2 hown1 hown2
              go_wp2
              go_roundw
              case rel => exact ⟨j2 + 1, by omega, by go_num, by rw [HT.out]; exact hown3, hb2⟩
              case measure => simp [intOf]; omega
            · have ht : (p.drop k).take j2 = p.drop k := List.take_of_length_le (by simp; omega)
              rw [ht] at hown
              clear ht
              have hpos : 0 < (Pl.flat (Pl.ups (l.length - k) ++ p.drop k)).length := Pl.flat_pos HNE'.out
              have hbd : (Pl.flat (Pl.ups (l.length - k) ++ p.drop k)).length ≤ 4096 := by
                rw [Pl.flat_length, Pl.sumP_append, Pl.ups_sum]
                have h3 := Pl.sumP_append (p.take k) (p.drop k)
                rw [List.take_append_drop] at h3
                omega
              generalize Pl.flat (Pl.ups (l.length - k) ++ p.drop k) = T at *
              obtain ⟨m, hm⟩ : ∃ m, T.length = m + 1 := ⟨T.length - 1, by omega⟩
              obtain ⟨g, co, rfl, hbg, hglt⟩ := hown.form hpos
              have hown' := hown
              rw [hm] at hown'
              have hpop := own_pop_bytes hm (by rw [hm]; exact hown')
              have hcc := own_cap hown'
              have hc1 := hcc.1
              have hc2 : co ≤ 9223372036854775807 := hcc.2
              have hcv := conv_own hpop
              have hdl : T.dropLast.length = m := by simp [hm]
              rw [hdl] at hcv
              rw [hm] at HF' HO' hbd ⊢
              have HM : Hid (T.length = m + 1) := hm
              have HCV : Hid ((convert 43 9 (.slice (some ⟨g, 0, none⟩) m co)).run Try.prog wr = .ok (.string ⟨T.dropLast.toArray⟩) wr) := hcv
              clear hown hown' hcc hpop hdl hm hcv hpos
              by_cases hbig : 1024 < m
              · have hR := HF'.out (by omega)
                subst hR
                have hbi : (1024 : Int) < (m : Int) := by omega
                go_wp2
                go_ret2
                exact ⟨rfl, hnx⟩
              · have hR := HO'.out (by omega)
                subst hR
                have hbi : ¬ (1024 : Int) < (m : Int) := by omega
                have hcv := HCV.out
                go_wp2
                go_ret2
                exact ⟨rfl, hnx⟩
        · have hmost : c2 ≤ 9223372036854775807 := h2.most
          have hroom := h2.room
          obtain rfl : k = p.length := by omega
          have HF2 : Hid (1024 < (Pl.flat (Pl.ups (l.length - p.length))).length - 1 → R = (Pl.bs [], 4)) := by have := HF'.out; rwa [List.drop_length, List.append_nil] at this
          have HO2 : Hid (¬ 1024 < (Pl.flat (Pl.ups (l.length - p.length))).length - 1 → R = (Pl.bs (Pl.flat (Pl.ups (l.length - p.length))).dropLast, 0)) := by have := HO'.out; rwa [List.drop_length, List.append_nil] at this
          have hpos : 0 < (Pl.flat (Pl.ups (l.length - p.length))).length := by have := Pl.flat_pos HNE'.out; rwa [List.drop_length, List.append_nil] at this
          have hbd : (Pl.flat (Pl.ups (l.length - p.length))).length ≤ 4096 := by rw [Pl.flat_length, Pl.ups_sum]; omega
          clear HF' HO' HNE'
          generalize Pl.flat (Pl.ups (l.length - p.length)) = T at *
          obtain ⟨m, hm⟩ : ∃ m, T.length = m + 1 := ⟨T.length - 1, by omega⟩
          obtain ⟨g, co, rfl, hbg, hglt⟩ := hown.form hpos
          have hown' := hown
          rw [hm] at hown'
          have hpop := own_pop_bytes hm (by rw [hm]; exact hown')
          have hcc := own_cap hown'
          have hc1 := hcc.1
          have hc2 : co ≤ 9223372036854775807 := hcc.2
          have hcv := conv_own hpop
          have hdl : T.dropLast.length = m := by simp [hm]
          rw [hdl] at hcv
          rw [hm] at HF2 HO2 hbd ⊢
          have HM : Hid (T.length = m + 1) := hm
          have HCV : Hid ((convert 43 9 (.slice (some ⟨g, 0, none⟩) m co)).run Try.prog wr = .ok (.string ⟨T.dropLast.toArray⟩) wr) := hcv
          clear hown hown' hcc hpop hdl hm hcv hpos
          by_cases hbig : 1024 < m
          · have hR := HF2.out (by omega)
            subst hR
            have hbi : (1024 : Int) < (m : Int) := by omega
            cases a2
            all_goals
              go_wp2_with fail
              all_goals
                refine wp_loop_rounds 1 ?_
                rw [rounds_succ]
                go_wp2
                go_ret2
                exact ⟨rfl, hnx⟩
          · have hR := HO2.out (by omega)
            subst hR
            have hbi : ¬ (1024 : Int) < (m : Int) := by omega
            have hcv := HCV.out
            cases a2
            all_goals
              go_wp2_with fail
              all_goals
                refine wp_loop_rounds 1 ?_
                rw [rounds_succ]
                go_wp2
                go_ret2
                exact ⟨rfl, hnx⟩
  · go_enter Try.func15, Try.ntmps15
    go_wp2_with fail
    refine (right_any _ _ l _ h1).mono ?_
    rintro e w' ⟨rfl, rfl⟩
    go_wp2_with fail
    refine (right_any _ _ p _ h2).mono ?_
    rintro e w' ⟨rfl, rfl⟩
    go_wp2_with fail
    refine (HSH'.out _ h1 h2).mono ?_
    rintro e w' ⟨rfl, n, rfl⟩
    go_wp2_with fail
    go_loopw [7, 35] (fun v i wr => ∃ j : Nat, j ≤ l.length - k ∧ i = .int .i64 j ∧ wr.ownsRow w.heap.size 5 1 v (Pl.flat (Pl.ups j)).length (bcells (Pl.flat (Pl.ups j))) ∧ Below w.heap.size w wr)
      (fun _ i _ => l.length - k - (intOf i).toNat)
    case atStart => exact ⟨0, Nat.zero_le _, rfl, World.ownsRow_nil _ _ _ _, below_drewN (Below.refl _ _) n⟩
    case round =>
      obtain ⟨j, hj, rfl, hown, hnx⟩ := hrel
      have hsz := hnx.size
      have hfl : (Pl.flat (Pl.ups j)).length ≤ 3 * j := by rw [Pl.flat_length, Pl.ups_sum]; omega
      by_cases hlt : j < l.length - k
      · have HU : Hid (Pl.flat (Pl.ups (j + 1)) = Pl.flat (Pl.ups j) ++ [46, 46, 47]) := Pl.flat_ups_snoc j
        generalize Pl.flat (Pl.ups j) = T at *
        go_wp2_with (at_builtin; refine Lib.wpList_append_own_string _ rfl _ _ 43 9 rfl w.heap.size 5 i0 Try.underlying43 Try.underlying9 hi hz0 hz1 hz2 _ _ _ rfl hown ⟨#[46, 46, 47]⟩ rfl ?d1 ?d2 ?d3 ?_)
        case d1 => show T.length + 3 ≤ maxLen; unfold maxLen; omega
        case d2 => show T.length + 3 ≤ _; omega
        case d3 => exact hsz
        intro v2 w2 hown2 hgrow2 _
        have hb2 : Below w.heap.size w w2 := hnx.grown hgrow2 hsz (fun g hg => (hown.lt g hg).1)
        have hown3 : w2.ownsRow w.heap.size 5 1 v2 (T ++ [46, 46, 47]).length (bcells (T ++ [46, 46, 47])) := by
          rw [bcells_append, List.length_append]; exact hown2
        clear hgrow2 hown hown2
        go_wp2
        go_roundw
        case rel => exact ⟨j + 1, by omega, by go_num, by rw [HU.out]; exact hown3, hb2⟩
        case measure => simp [intOf]; omega
      · have hjj : j = l.length - k := by omega
        rw [hjj] at hown
        clear hfl hjj
        by_cases hkp : k < p.length
        · obtain ⟨b, off, rfl, hb0, hc0⟩ := h2.cells k hkp
          clear hc0
          have hroom := h2.room
          have hmost : c2 ≤ 9223372036854775807 := h2.most
          go_wp2_with fail
          go_loopw [7, 44] (fun v i wr => ∃ j : Nat, j ≤ p.length - k ∧ i = .int .i64 j ∧ wr.ownsRow w.heap.size 5 1 v (Pl.flat (Pl.ups (l.length - k) ++ (p.drop k).take j)).length (bcells (Pl.flat (Pl.ups (l.length - k) ++ (p.drop k).take j))) ∧ Below w.heap.size w wr)
            (fun _ i _ => p.length - k - (intOf i).toNat)
          case atStart => exact ⟨0, Nat.zero_le _, rfl, by rw [List.take_zero, List.append_nil]; exact hown, hnx⟩
          case round =>
            clear hown hnx hsz hj hlt
            obtain ⟨j2, hj, rfl, hown, hnx⟩ := hrel
            have hsz := hnx.size
            by_cases hlt : j2 < p.length - k
            · obtain ⟨b', off', e', _, hc0⟩ := h2.cells (k + j2) (by omega)
              cases e'
              have hc : wr.cell? ⟨b, off + k + j2, none⟩ = some (.string (p[k + j2]'(by omega))) := by
                rw [Nat.add_assoc]; exact (hnx.cell (p := ⟨b, off + (k + j2), none⟩) hb0).trans hc0
              have hx1 := h2.size (k + j2) (by omega)
              have HT : Hid (Pl.flat (Pl.ups (l.length - k) ++ (p.drop k).take (j2 + 1)) = Pl.flat (Pl.ups (l.length - k) ++ (p.drop k).take j2) ++ (p[k + j2]'(by omega)).data.toList ++ [47]) := by
                show _ = _
                rw [List.take_succ_eq_append_getElem (by simp; omega), ← List.append_assoc, Pl.flat_snoc]
                simp
              have hbd : (Pl.flat (Pl.ups (l.length - k) ++ (p.drop k).take j2)).length + (p[k + j2]'(by omega)).size + 1 ≤ 4096 := by
                have h4 := congrArg List.length HT.out
                rw [List.length_append, List.length_append, Pl.szL, Pl.flat_length, Pl.sumP_append, Pl.ups_sum] at h4
                have h3 := Pl.sumP_append (p.take k) (p.drop k)
                rw [List.take_append_drop] at h3
                have h5 := Pl.sumP_take_le (p.drop k) (j2 + 1)
                simp at h4
                omega
              generalize p[k + j2]'(by omega) = x at *
              generalize Pl.flat (Pl.ups (l.length - k) ++ (p.drop k).take j2) = T at *
              clear hc0
              go_wp2_with (at_builtin; refine Lib.wpList_append_own_string _ rfl (.tmp 48) (.tmp 49) 43 9 rfl w.heap.size 5 i0 Try.underlying43 Try.underlying9 hi hz0 hz1 hz2 _ _ _ rfl hown x rfl ?d1 ?d2 ?d3 ?_)
              case d1 => unfold maxLen; omega
              case d2 => omega
              case d3 => exact hsz
              intro v1 w1 hown1 hgrow1 _
              have hb1 : Below w.heap.size w w1 := hnx.grown hgrow1 hsz (fun g hg => (hown.lt g hg).1)
              have hs1 := hb1.size
              clear hgrow1 hown hc
              go_wp2_with (at_builtin; refine wpList_append_own _ rfl (.tmp 51) (.tmp 52) 43 rfl w.heap.size 5 i0 (.int .u8 0) 1 1 Try.underlying43 hi hz0 hz1 hz2 rfl (by decide) _ _ _ rfl (hown1.alloc _) ⟨w1.heap.size, 0, none⟩ 1 1 [.int .u8 47] rfl rfl (cell_one_new _ _ _) ?c2 ?c3 ?c4 ?c5 ?_)
              case c2 => intro u hu; simp at hu; subst hu; rfl
              case c3 => unfold maxLen; omega
              case c4 => omega
              case c5 => simp; omega
              intro v2 w2 hown2 hgrow2 _
              have hb2 : Below w.heap.size w w2 := (hb1.alloc hs1 _).grown hgrow2 (by simp; omega) (fun g hg => (hown1.lt g hg).1)
              have hown3 : w2.ownsRow w.heap.size 5 1 v2 (T ++ x.data.toList ++ [47]).length (bcells (T ++ x.data.toList ++ [47])) := by
                rw [bcells_append, bcells_append, List.length_append, List.length_append, Pl.szL]
                simpa [strCells_eq, bcells] using hown2
              clear hgrow2 hown1 hown2
              go_wp2
              go_roundw
              case rel => exact ⟨j2 + 1, by omega, by go_num, by rw [HT.out]; exact hown3, hb2⟩
              case measure => simp [intOf]; omega
            · have ht : (p.drop k).take j2 = p.drop k := List.take_of_length_le (by simp; omega)
              rw [ht] at hown
              clear ht
              have hpos : 0 < (Pl.flat (Pl.ups (l.length - k) ++ p.drop k)).length := Pl.flat_pos HNE'.out
              have hbd : (Pl.flat (Pl.ups (l.length - k) ++ p.drop k)).length ≤ 4096 := by
                rw [Pl.flat_length, Pl.sumP_append, Pl.ups_sum]
                have h3 := Pl.sumP_append (p.take k) (p.drop k)
                rw [List.take_append_drop] at h3
                omega
              generalize Pl.flat (Pl.ups (l.length - k) ++ p.drop k) = T at *
              obtain ⟨m, hm⟩ : ∃ m, T.length = m + 1 := ⟨T.length - 1, by omega⟩
              obtain ⟨g, co, rfl, hbg, hglt⟩ := hown.form hpos
              have hown' := hown
              rw [hm] at hown'
              have hpop := own_pop_bytes hm (by rw [hm]; exact hown')
              have hcc := own_cap hown'
              have hc1 := hcc.1
              have hc2 : co ≤ 9223372036854775807 := hcc.2
              have hcv := conv_own hpop
              have hdl : T.dropLast.length = m := by simp [hm]
              rw [hdl] at hcv
              rw [hm] at HF' HO' hbd ⊢
              have HM : Hid (T.length = m + 1) := hm
              have HCV : Hid ((convert 43 9 (.slice (some ⟨g, 0, none⟩) m co)).run Try.prog wr = .ok (.string ⟨T.dropLast.toArray⟩) wr) := hcv
              clear hown hown' hcc hpop hdl hm hcv hpos
              by_cases hbig : 1024 < m
              · have hR := HF'.out (by omega)
                subst hR
                have hbi : (1024 : Int) < (m : Int) := by omega
                go_wp2
                go_ret2
                exact ⟨rfl, hnx⟩
              · have hR := HO'.out (by omega)
                subst hR
                have hbi : ¬ (1024 : Int) < (m : Int) := by omega
                have hcv := HCV.out
                go_wp2
                go_ret2
                exact ⟨rfl, hnx⟩
        · have hmost : c2 ≤ 9223372036854775807 := h2.most
          have hroom := h2.room
          obtain rfl : k = p.length := by omega
          have HF2 : Hid (1024 < (Pl.flat (Pl.ups (l.length - p.length))).length - 1 → R = (Pl.bs [], 4)) := by have := HF'.out; rwa [List.drop_length, List.append_nil] at this
          have HO2 : Hid (¬ 1024 < (Pl.flat (Pl.ups (l.length - p.length))).length - 1 → R = (Pl.bs (Pl.flat (Pl.ups (l.length - p.length))).dropLast, 0)) := by have := HO'.out; rwa [List.drop_length, List.append_nil] at this
          have hpos : 0 < (Pl.flat (Pl.ups (l.length - p.length))).length := by have := Pl.flat_pos HNE'.out; rwa [List.drop_length, List.append_nil] at this
          have hbd : (Pl.flat (Pl.ups (l.length - p.length))).length ≤ 4096 := by rw [Pl.flat_length, Pl.ups_sum]; omega
          clear HF' HO' HNE'
          generalize Pl.flat (Pl.ups (l.length - p.length)) = T at *
          obtain ⟨m, hm⟩ : ∃ m, T.length = m + 1 := ⟨T.length - 1, by omega⟩
          obtain ⟨g, co, rfl, hbg, hglt⟩ := hown.form hpos
          have hown' := hown
          rw [hm] at hown'
          have hpop := own_pop_bytes hm (by rw [hm]; exact hown')
          have hcc := own_cap hown'
          have hc1 := hcc.1
          have hc2 : co ≤ 9223372036854775807 := hcc.2
          have hcv := conv_own hpop
          have hdl : T.dropLast.length = m := by simp [hm]
          rw [hdl] at hcv
          rw [hm] at HF2 HO2 hbd ⊢
          have HM : Hid (T.length = m + 1) := hm
          have HCV : Hid ((convert 43 9 (.slice (some ⟨g, 0, none⟩) m co)).run Try.prog wr = .ok (.string ⟨T.dropLast.toArray⟩) wr) := hcv
          clear hown hown' hcc hpop hdl hm hcv hpos
          by_cases hbig : 1024 < m
          · have hR := HF2.out (by omega)
            subst hR
            have hbi : (1024 : Int) < (m : Int) := by omega
            cases a2
            all_goals
              go_wp2_with fail
              all_goals
                refine wp_loop_rounds 1 ?_
                rw [rounds_succ]
                go_wp2
                go_ret2
                exact ⟨rfl, hnx⟩
          · have hR := HO2.out (by omega)
            subst hR
            have hbi : ¬ (1024 : Int) < (m : Int) := by omega
            have hcv := HCV.out
            cases a2
            all_goals
              go_wp2_with fail
              all_goals
                refine wp_loop_rounds 1 ?_
                rw [rounds_succ]
                go_wp2
                go_ret2
                exact ⟨rfl, hnx⟩
end Go.Proofs.Ytjmfgffihkbnlab
