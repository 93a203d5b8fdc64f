/- What the reference's alone and longer answer. -/
import Derived.Test.YtfbhofomcenabaaGreatDoorTA
import Derived.Test.YtfbhofomcenabaaGreatDoorStrs
namespace Go.Proofs.YtfbhofomcenabaaGreatDoor
open Go.RowKit

namespace Ft
theorem alone_dir {T : FT} (h : T.k = 1) : aloneT T = T.d.data.toList.isEmpty := by unfold aloneT; rw [h]; rfl
theorem alone_text {T : FT} (h : T.k = 2) : aloneT T = T.kids.isEmpty := by unfold aloneT; rw [h]; rfl
theorem alone_link {T : FT} (h : T.k = 3) : aloneT T = (T.kids.isEmpty && tgtB T.d) := by unfold aloneT; rw [h]; rfl
theorem alone_none {T : FT} (h1 : T.k ≠ 1) (h2 : T.k ≠ 2) (h3 : T.k ≠ 3) : aloneT T = false := by
  unfold aloneT
  split
  · exact absurd ‹_› h1
  · exact absurd ‹_› h2
  · exact absurd ‹_› h3
  · rfl
end Ft
set_option maxRecDepth 100000 in
set_option maxHeartbeats 400000 in
theorem ralone_any (T : Ft.FT) (a : Option Addr) (cap : Nat) (w : World) (hd : T.d.size ≤ 1048576) (_hl : T.kids.length ≤ 1048576) :
    Calls Tryz.prog 135 #[Ft.fdV T a cap] w fun e w' => e = .returned (.bool (Ft.aloneT T)) ∧ Below w.heap.size w w' := by
  have hB0 : Below w.heap.size w (w.alloc (.cells (Ft.fdA T a cap) 25)) := (Below.refl w.heap.size w).alloc (Nat.le_refl _) _
  have HTg : Hid (∀ w, _) := fun w => rtarget_any T.d w hd
  have HB0 : Hid _ := hB0
  clear hB0
  simp only [Ft.fdV, Ft.fdA] at HB0 ⊢
  cases k1 : ((T.k : Int) == 1)
  · cases k2 : ((T.k : Int) == 2)
    · cases k3 : ((T.k : Int) == 3)
      · have HE : Hid (Ft.aloneT T = false) := Ft.alone_none (by simp at k1; omega) (by simp at k2; omega) (by simp at k3; omega)
        go_enter Tryz.func135, Tryz.ntmps135
        go_wp2_with fail
        go_ret
        exact ⟨by rw [HE.out]; rfl, HB0.out⟩
      · have HE : Hid (Ft.aloneT T = (T.kids.isEmpty && Ft.tgtB T.d)) := Ft.alone_link (by simp at k3; omega)
        cases kl : ((T.kids.length : Int) == 0)
        · have HL : Hid (T.kids.isEmpty = false) := by
            show _ = _
            rw [List.isEmpty_eq_false_iff]
            intro q
            rw [q] at kl
            simp at kl
          go_enter Tryz.func135, Tryz.ntmps135
          go_wp2_with fail
          go_ret
          exact ⟨by rw [HE.out, HL.out]; rfl, HB0.out⟩
        · have HL : Hid (T.kids.isEmpty = true) := by
            show _ = _
            simp at kl
            rw [kl]; rfl
          go_enter Tryz.func135, Tryz.ntmps135
          go_wp2_with (go_at_call 50; refine Calls.mono (HTg.out _) ?_; rintro e w1 ⟨rfl, rfl⟩)
          go_ret
          exact ⟨by rw [HE.out, HL.out]; rfl, HB0.out⟩
    · have HE : Hid (Ft.aloneT T = T.kids.isEmpty) := Ft.alone_text (by simp at k2; omega)
      have HL : Hid (T.kids.isEmpty = ((T.kids.length : Int) == 0)) := by
        show _ = _
        cases T.kids with
        | nil => rfl
        | cons x r => simp; omega
      go_enter Tryz.func135, Tryz.ntmps135
      go_wp2_with fail
      go_ret
      exact ⟨by rw [HE.out, HL.out]; rfl, HB0.out⟩
  · have HE : Hid (Ft.aloneT T = T.d.data.toList.isEmpty) := Ft.alone_dir (by simp at k1; omega)
    have HL : Hid (T.d.data.toList.isEmpty = T.d.toList.isEmpty) := by show _ = _; rw [Pl.toL]
    go_enter Tryz.func135, Tryz.ntmps135
    go_wp2_with fail
    go_ret
    exact ⟨by rw [HE.out, HL.out]; rfl, HB0.out⟩

theorem Tryz.infoStr : (Tryz.prog.info? 9).map (fun i => (i.zero, i.size, i.bytes)) = some (some (.string ⟨#[]⟩), 1, 16) := by kernel_rfl
set_option maxRecDepth 100000 in
set_option maxHeartbeats 400000 in
theorem longer_any (a : Option Addr) (cap : Nat) (p : List ByteArray) (x : ByteArray) (w : World) (h : Strs w a cap p) (hp : p.length ≤ 1048576) :
    Calls Tryz.prog 76 #[.slice a p.length cap, .string x] w fun e w' => ∃ v, e = .returned v ∧ w'.ownsRow w.heap.size 9 1 v (p.length + 1) ((p ++ [x]).map Value.string) ∧ Below w.heap.size w w' := by
  obtain ⟨i0, hi0, hz0, hz1, hz2⟩ := info_parts Tryz.infoStr
  cases a with
  | none =>
    obtain ⟨rfl, rfl⟩ := h.none
    clear h
    go_enter Tryz.func76, Tryz.ntmps76
    go_wp2_with (at_builtin; first
      | (refine wpList_append_own_at _ rfl _ _ 37 rfl w.heap.size 9 i0 (.string ⟨#[]⟩) 1 16 Tryz.underlying37 hi0 hz0 hz1 hz2 rfl (by decide) (.slice none 0 0) 0 [] rfl (World.ownsRow_nil _ _ _ _) ⟨w.heap.size, 0, none⟩ 1 1 [.string x] rfl rfl (cell_one_new _ _ _) ?c2 ?c3 ?c4 ?c5 ?_))
    case c2 => first | rfl | (intro u hu; simp at hu; subst hu; rfl)
    case c3 => unfold maxLen; omega
    case c4 => omega
    case c5 => simp
    intro v' w9 hown' hgrow _ hat
    have hb9 : Below w.heap.size w w9 := ((Below.refl _ w).alloc (Nat.le_refl _) _).grown hgrow (by simp) (fun g hg => by cases hg)
    go_wp2_with fail
    go_ret
    exact ⟨_, rfl, hown', hb9⟩
  | some ad =>
    obtain ⟨b, off, hsp⟩ : ∃ b off, ad = ⟨b, off, ad.spot⟩ := ⟨ad.block, ad.off, rfl⟩
    have hnw : ∀ j u, (p.map Value.string)[j]? = some u → w.cell? (ad.add j) = some u := by
      intro j u hu
      have hj : j < p.length := by have := (List.getElem?_eq_some_iff.1 hu).1; simpa using this
      obtain ⟨b', off', e, _, hc⟩ := h.cells j hj
      cases e
      have e1 : u = .string (p[j]'hj) := by
        rw [List.getElem?_map, List.getElem?_eq_getElem hj] at hu
        simpa using hu.symm
      rw [e1, ← hc]
      congr 1
      unfold Addr.add
      split <;> simp_all
    have HNW : Hid _ := hnw
    clear hnw h hsp
    go_enter Tryz.func76, Tryz.ntmps76
    go_wp2_with (at_builtin; refine wpList_append_own_at _ rfl _ _ 37 rfl w.heap.size 9 i0 (.string ⟨#[]⟩) 1 16 Tryz.underlying37 hi0 hz0 hz1 hz2 rfl (by decide) (.slice none 0 0) 0 [] rfl (World.ownsRow_nil _ _ _ _) ad p.length cap (p.map Value.string) rfl (by simp) HNW.out ?d2 ?d3 ?d4 ?d5 ?_)
    case d2 => intro u hu; obtain ⟨y, _, rfl⟩ := List.mem_map.1 hu; rfl
    case d3 => unfold maxLen; omega
    case d4 => omega
    case d5 => exact Nat.le_refl _
    intro v1 w1 hown1 hgrow1 _ hat1
    have hb1 : Below w.heap.size w w1 := (Below.refl _ w).grown hgrow1 (Nat.le_refl _) (fun g hg => by cases hg)
    have hs1 := hb1.size
    go_wp2_with (at_builtin; refine wpList_append_own_at _ rfl _ _ 37 rfl w.heap.size 9 i0 (.string ⟨#[]⟩) 1 16 Tryz.underlying37 hi0 hz0 hz1 hz2 rfl (by decide) _ _ _ rfl (hown1.alloc _) ⟨w1.heap.size, 0, none⟩ 1 1 [.string x] rfl rfl (cell_one_new _ _ _) ?e2 ?e3 ?e4 ?e5 ?_)
    case e2 => first | rfl | (intro u hu; simp at hu; subst hu; rfl)
    case e3 => unfold maxLen; omega
    case e4 => omega
    case e5 => simp; omega
    intro v2 w2 hown2 hgrow2 _ hat2
    have hb2 : Below w.heap.size w w2 := (hb1.alloc hs1 _).grown hgrow2 (by simp; omega) (fun g hg => (hown1.lt g hg).1)
    go_wp2_with fail
    go_ret
    refine ⟨_, rfl, ?_, hb2⟩
    rw [List.map_append]
    simpa using hown2
end Go.Proofs.YtfbhofomcenabaaGreatDoor
