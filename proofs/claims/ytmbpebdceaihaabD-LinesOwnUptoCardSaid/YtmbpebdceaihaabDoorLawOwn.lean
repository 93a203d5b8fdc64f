/- LinesOwn answers true for every text that is not too long: the walk of the law over its callees' contracts. -/
import Derived.Test.YtmbpebdceaihaabDoorLLives
import Derived.Laws.OwnMore
namespace Go.Proofs.YtmbpebdceaihaabDoor
open Go.RowKit

theorem own_slice {w : World} {base : Nat} {e : TypeId} {size : Nat} {v : Value} {n : Nat} {xs : List Value} (h : w.ownsRow base e size v n xs) : ∃ a c, v = .slice a n c ∧ n ≤ c ∧ c ≤ maxLen := by
  rcases h.2 with ⟨hv, hn⟩ | ⟨g, cap, cur, hv, _, _, h1, h2, _⟩
  · exact ⟨none, 0, by rw [hv, hn], by omega, Nat.zero_le _⟩
  · exact ⟨_, cap, hv, h1, h2⟩

set_option maxRecDepth 100000 in
set_option maxHeartbeats 2000000 in
theorem lawOwn_any (s : ByteArray) (w : World) (T : Tabs w) (hs : s.size ≤ 1048576) :
    Calls Tryd.prog 3 #[.string s] w fun e w' => e = .returned (.bool true) ∧ Below w.heap.size w w' := by
  obtain ⟨i0, hi, hz0, hz1, hz2⟩ := info_parts Tryd.infoLine
  have hB : Below w.heap.size w w := Below.refl _ _
  have hn := Ln.splB_len s
  have HM : Hid (∀ x ∈ Ln.splB s, x.1.size ≤ 67108864) := fun x hx => Nat.le_trans (Ln.splB_mem s x hx) (by omega)
  obtain ⟨S, hS⟩ : ∃ S, Ln.splB s = S := ⟨_, rfl⟩
  rw [hS] at hn HM
  have HS : Hid (Ln.splB s = S) := hS
  have HE : Hid (Ln.sameL S S = true) := Ln.same_refl S
  clear hS
  go_enter Tryd.func3, Tryd.ntmps3
  go_wp2_with fail
  refine (lives_any _ T).mono ?_
  rintro e w1 ⟨rfl, hb⟩
  replace hB := hB.trans (hb.mono hB.size); clear hb
  have h01 := hB.size
  go_wp2_with fail
  refine (split_any s _ (by omega)).mono ?_
  rw [HS.out]
  rintro e w2 ⟨va, rfl, oa, hb⟩
  have h12 := hb.size
  replace hB := hB.trans (hb.mono hB.size); clear hb
  go_wp2_with fail
  refine (split_any s _ (by omega)).mono ?_
  rw [HS.out]
  rintro e w3 ⟨vb, rfl, ob, hb⟩
  have h23 := hb.size
  have oa2 := oa
  replace oa := own_below oa hb
  replace hB := hB.trans (hb.mono hB.size); clear hb
  obtain ⟨aa, ca, rfl, hca1, hca2⟩ := own_slice oa
  unfold maxLen at hca2
  go_wp2_with fail
  go_loopw [14] (fun i wr => ∃ (k : Nat) (xs : List Value), k ≤ S.length ∧ i = .int .i64 k ∧ wr.ownsRow w1.heap.size 26 2 (.slice aa S.length ca) S.length xs ∧ wr.ownsRow w2.heap.size 26 2 vb S.length (lcells S) ∧ Below w.heap.size w wr ∧ w3.heap.size ≤ wr.heap.size) (fun i _ => S.length - (intOf i).toNat)
  case atStart => exact ⟨0, lcells S, Nat.zero_le _, rfl, oa, ob, hB, Nat.le_refl _⟩
  case round =>
    obtain ⟨k, xs, hk, rfl, oa', ob', hB', h3r⟩ := hrel
    have hsz' := hB'.size
    by_cases hlt : k < S.length
    · have i1 : (k : Int) < (S.length : Int) := by omega
      obtain ⟨ga, ca', hva, hga, _⟩ := oa'.form (by omega)
      obtain ⟨rfl, rfl⟩ : aa = some ⟨ga, 0, none⟩ ∧ ca = ca' := by cases hva; exact ⟨rfl, rfl⟩
      have hxl := oa'.1
      have q0 := oa'.cellAt (k * 2) (by omega)
      have q1 := oa'.cellAt (k * 2 + 1) (by omega)
      rw [List.getElem?_eq_getElem (by omega)] at q0 q1
      generalize xs[k * 2]'(by omega) = y0 at q0
      generalize xs[k * 2 + 1]'(by omega) = y1 at q1
      have f0 := oa'.frozenAt (k * 2)
      have f1 := oa'.frozenAt (k * 2 + 1)
      have hlt2 : ga < w2.heap.size := (oa2.lt ga rfl).2
      have hne : vb.ownBlock = none ∨ vb.ownBlock ≠ some ga := by
        cases hv : vb.ownBlock with
        | none => exact .inl rfl
        | some g =>
          right
          have := (ob'.lt g hv).1
          intro e
          have := Option.some.inj e
          omega
      obtain ⟨st1, gr1⟩ := oa'.stored (k * 2) (.string ⟨#[103, 111, 110, 101]⟩)
      obtain ⟨st2, gr2⟩ := st1.stored (k * 2 + 1) (.bool false)
      have ob2 := (ob'.kept gr1 hne).kept gr2 hne
      have hB2 := (hB'.setCell (p := ⟨ga, k * 2, none⟩) (by show _ ≤ ga; omega) (.string ⟨#[103, 111, 110, 101]⟩)).setCell (p := ⟨ga, k * 2 + 1, none⟩) (by show _ ≤ ga; omega) (.bool false)
      clear gr1 gr2 st1
      go_wp2_with fail
      go_roundw
      case rel => exact ⟨k + 1, _, by omega, by go_num, st2, ob2, hB2, by simpa [World.setCell] using h3r⟩
      case measure => simp [intOf]; omega
    · have i1 : ¬ (k : Int) < (S.length : Int) := by omega
      go_wp2_with (at_builtin; refine wpList_append_own _ rfl _ _ 23 rfl w1.heap.size 26 i0 (.agg #[.string ⟨#[]⟩, .bool false]) 2 24 Tryd.underlying23 hi hz0 hz1 hz2 rfl (by decide) _ _ _ rfl (oa'.alloc _) ⟨wr.heap.size, 0, none⟩ 2 2 [.string ⟨#[]⟩, .bool false, .string ⟨#[]⟩, .bool false] rfl rfl (cell_four_new _ _ _ _ _ _) ?c2 ?c3 ?c4 ?c5 ?_)
      case c2 => exact ⟨rfl, rfl, rfl, rfl⟩
      case c3 => unfold maxLen; omega
      case c4 => omega
      case c5 => omega
      intro v6 w6 own6 hgr _
      have hne : vb.ownBlock = none ∨ vb.ownBlock ≠ (Value.slice aa S.length ca).ownBlock := by
        cases hv : vb.ownBlock with
        | none => exact .inl rfl
        | some g =>
          right
          have h1 := (ob'.lt g hv).1
          intro e
          have := (oa2.lt g e.symm).2
          omega
      have ob6 := (ob'.alloc (.cells #[.string ⟨#[]⟩, .bool false, .string ⟨#[]⟩, .bool false] 26)).kept hgr hne
      have hB6 : Below w.heap.size w w6 := (hB'.alloc hsz' _).grown hgr (by simp; omega) (fun g hg => by have := (oa2.lt g hg).1; omega)
      obtain ⟨a6, c6, hv6, hc61, hc62⟩ := own_slice own6
      subst hv6
      unfold maxLen at hc62
      obtain ⟨ab, cb, rfl, sb⟩ := own_lns ob6 (by omega) HM.out
      clear hgr own6 ob' oa' hB'
      go_wp2_with fail
      refine (rsplit_any s _ (by omega)).mono ?_
      rw [HS.out]
      rintro e w7 ⟨v7, rfl, own7, hb⟩
      obtain ⟨a7, c7, rfl, s7⟩ := own_lns own7 (by omega) HM.out
      replace sb := sb.below hb; replace hB6 := hB6.trans (hb.mono hB6.size); clear hb own7
      go_wp2_with fail
      refine (lsame_b _ _ _ _ S S _ sb s7).mono ?_
      rw [HE.out]
      rintro e w8 ⟨rfl, hb⟩
      replace sb := sb.below hb; replace hB6 := hB6.trans (hb.mono hB6.size); clear hb s7
      go_wp2_with fail
      refine (split_any s _ (by omega)).mono ?_
      rw [HS.out]
      rintro e w9 ⟨v9, rfl, own9, hb⟩
      obtain ⟨a9, c9, rfl, s9⟩ := own_lns own9 (by omega) HM.out
      replace sb := sb.below hb; replace hB6 := hB6.trans (hb.mono hB6.size); clear hb own9
      go_wp2_with fail
      refine (lsame_b _ _ _ _ S S _ s9 sb).mono ?_
      rw [HE.out]
      rintro e w10 ⟨rfl, hb⟩
      replace hB6 := hB6.trans (hb.mono hB6.size); clear hb sb s9
      go_wp2_with fail
      go_ret
      exact ⟨ret_bool (by simp), hB6⟩
end Go.Proofs.YtmbpebdceaihaabDoor
