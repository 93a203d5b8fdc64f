/- What trees.walk yields: each file of a tree, in order. -/
import Derived.Test.YtfbhofomcenabaaGreatDoorTD
import Derived.RangeFuncCalls
import Derived.RangeFuncLeaves
import Derived.Shelf.Abstract
import Derived.OwnWalkIn
import Derived.TacticsInMore
import Derived.LoopNIn
import Derived.LoopIn
namespace Go.Proofs.YtfbhofomcenabaaGreatDoor
open Go Go.RowKit Go.Shelf

attribute [local go_sem] Oper.semAt_some

namespace Ft
/-- What a walk leaves that comes to its end. -/
def WkOk (B : Nat) (Z O : Nat → Prop) (J : (Nat → Prop) → List Wy → World → Prop) (pre : List Wy) (v : Value) (p : List ByteArray) (l : List It) (W W' : World) : Prop :=
  ∃ L O', L.map Wy.it = l ∧ J O' (pre ++ L) W' ∧ (∀ k, O k → O' k) ∧ (∀ k, O' k → (O k ∨ W.heap.size ≤ k) ∧ k < W'.heap.size) ∧ W'.ownsRow B 9 1 v p.length (p.map Value.string) ∧ Ke (fun k => (O k ∧ v.ownBlock ≠ some k) ∨ Z k) W W'
/-- What a yield gives. -/
def WkY (l B : Nat) (Z : Nat → Prop) (J : (Nat → Prop) → List Wy → World → Prop) (Jx : (Nat → Prop) → World → Prop) (ALL : List It) : Prop :=
  ∀ (m : Nat) (O : Nat → Prop) (pre : List Wy) (x : Wy) (W1 : World), J O pre W1 → WyAt B Z x O W1 → x.p.length ≤ 65 → (pre ++ [x]).map Wy.it <+: ALL → YieldAt Fence.wide m Tryz.prog l x.enc W1 fun e W' =>
    (e = .returned (.bool true) ∧ J O (pre ++ [x]) W' ∧ Ke (fun k => O k ∨ Z k) W1 W' ∧ x.p.length ≤ 64) ∨ (e = .returned (.bool false) ∧ Jx O W')
end Ft

theorem two_ways {e : Ending} {A B : Prop} (h : (e = .returned (.bool true) ∧ A) ∨ (e = .returned (.bool false) ∧ B)) : ∃ bb, e = .returned (.bool bb) ∧ ((bb = true ∧ A) ∨ (bb = false ∧ B)) := by
  rcases h with ⟨h, a⟩ | ⟨h, b⟩
  · exact ⟨true, h, .inl ⟨rfl, a⟩⟩
  · exact ⟨false, h, .inr ⟨rfl, b⟩⟩

set_option maxRecDepth 100000 in
set_option maxHeartbeats 4000000 in
theorem twalk_in (l B : Nat) (Z : Nat → Prop) (J : (Nat → Prop) → List Ft.Wy → World → Prop) (Jx : (Nat → Prop) → World → Prop) (ALL : List Ft.It) (hJ : Abi J) (hY : Ft.WkY l B Z J Jx ALL) (T : Ft.FT) :
    ∀ (n : Nat) (p : List ByteArray) (ap : Option Addr) (cp : Nat) (pv : Option Addr) (bn : Option ByteArray) (b o : Nat) (a : Option Addr) (cap : Nat) (O : Nat → Prop) (pre : List Ft.Wy) (W : World), J O pre W → Ft.WyAt B Z ⟨p, ap, cp, pv, bn, T, b, o, a, cap⟩ O W → pre.map Ft.Wy.it ++ Ft.wkT bn p T <+: ALL → (∀ k, O k → k < W.heap.size) → (∀ k, Z k → k < B) → B ≤ W.heap.size → p.length ≤ 65 →
      CallsIn Fence.wide n Tryz.prog 103 #[.agg #[.slice ap p.length cp, .pointer pv], .pointer (some ⟨b, o, none⟩), .func (.yield l) #[] #[]] W fun e W' =>
        (e = .returned (.bool true) ∧ Ft.WkOk B Z O J pre (.slice ap p.length cp) p (Ft.wkT bn p T) W W') ∨ (e = .returned (.bool false) ∧ ∃ O', Jx O' W') := by
  induction T using Ft.FT.ind with
  | h T ih =>
  intro n p ap cp pv bn b o a cap O pre W hJ0 hX hALL hltO hZB hBW hp65
  have hlt : ∀ k, O k ∨ Z k → k < W.heap.size := fun k h => h.elim (hltO k) (fun h => by have := hZB k h; omega)
  have HZB : Hid _ := hZB
  have hlm : T.kids.length ≤ 1048576 := hX.sub.room.1
  have IH : Hid _ := ih
  clear ih
  obtain ⟨i0, hi0, hz0, hz1, hz2⟩ := info_parts Tryz.infoStr
  obtain ⟨W1, hW1⟩ : ∃ W1, W1 = W.alloc (.cells #[.slice ap p.length cp, .pointer pv] 119) := ⟨_, rfl⟩
  have hT1 : Tu O W W1 := by rw [hW1]; exact (Tu.refl _ _).alloc _
  have hs1 : W1.heap.size = W.heap.size + 1 := by rw [hW1]; simp
  have hK1 : Ke (fun k => O k ∨ Z k) W W1 := ⟨hT1.size, fun k hk => by rw [hW1]; exact ((Below.refl W.heap.size W).alloc (Nat.le_refl _) _).block k (hlt k hk)⟩
  have hbx : W1.heap[W.heap.size]? = some (.cells #[.slice ap p.length cp, .pointer pv] 119 (0, 0)) := by rw [hW1]; exact heap_alloc_new W _
  obtain ⟨O1, hO1⟩ : ∃ O1 : Nat → Prop, O1 = fun k => O k ∨ k = W.heap.size := ⟨_, rfl⟩
  have hO1a : ∀ k, O k → O1 k := fun k h => by rw [hO1]; exact .inl h
  have hO1b : O1 W.heap.size := by rw [hO1]; exact .inr rfl
  have hO1c : ∀ k, O1 k → (O k ∨ W.heap.size ≤ k) ∧ k < W1.heap.size := fun k h => by
    rw [hO1] at h
    rcases h with h | h
    · exact ⟨.inl h, by have := hlt k (.inl h); omega⟩
    · exact ⟨.inr (by omega), by omega⟩
  have hX1 : Ft.WyAt B Z ⟨p, ap, cp, pv, bn, T, b, o, a, cap⟩ O1 W1 := (hX.kept hK1).more hO1a
  have hJ1 : J O1 pre W1 := hJ _ _ pre W W1 hJ0 hT1 hO1c
  have HA0 : Hid (Ft.wkT bn p T = (p, bn, T) :: Ft.wkT.wkL none p T.kids) := Ft.wk_eq bn p T
  have HY0 := YieldAt.mono (R' := fun e W' => (e = .returned (.bool true) ∧ J O1 (pre ++ [⟨p, ap, cp, pv, bn, T, b, o, a, cap⟩]) W' ∧ Ke (fun k => O1 k ∨ Z k) W1 W' ∧ p.length ≤ 64 ∧ W'.cell? ⟨b, o + 3, none⟩ = some (.slice a T.kids.length cap)) ∨ (e = .returned (.bool false) ∧ Jx O1 W')) (hY (n - 1) O1 pre ⟨p, ap, cp, pv, bn, T, b, o, a, cap⟩ W1 hJ1 hX1 hp65 (by
    rw [HA0.out] at hALL
    refine List.IsPrefix.trans ?_ hALL
    rw [List.map_append]
    exact (List.prefix_append_right_inj _).2 ⟨_, rfl⟩)) fun e W' h => h.elim (fun ⟨he, hj, hk, hp⟩ => .inl ⟨he, hj, hk, hp, (hX1.kept hk).four.c3⟩) .inr
  obtain ⟨fn, tmps, assign, body, hy, hR⟩ := HY0
  simp only [Ft.Wy.enc] at hy
  have x0 : W1.cell? ⟨W.heap.size, 0, none⟩ = some (.slice ap p.length cp) := by simp only [World.cell?, hbx]; rfl
  have x1 : W1.cell? ⟨W.heap.size, 1, none⟩ = some (.pointer pv) := by simp only [World.cell?, hbx]; rfl
  have HDD : Hid (Fence.wide.depth.isSome = true → 1 ≤ n) := fun h => by cases h
  have HX : Hid _ := hX
  have HX1 : Hid _ := hX1
  have HJ : Hid _ := hJ
  have HJ0 : Hid _ := hJ0
  have HYY : Hid _ := hY
  have HAL : Hid _ := hALL
  have HLt : Hid _ := hlt
  have HO : Hid _ := And.intro hO1a (And.intro hO1b hO1c)
  have HO1 : Hid _ := hO1
  have HT1 : Hid _ := hT1
  have HK1 : Hid _ := hK1
  have HBx : Hid _ := hbx
  have HW1 : Hid _ := hW1
  clear hX hX1 hJ hJ0 hY hALL hlt hltO hZB hO1a hO1b hO1c hO1 hT1 hK1 hbx hJ1
  rw [hW1] at hy hR x0 x1
  clear hW1
  refine callsIn_of_wp Tryz.func103 rfl trivial ?_ rfl
  simp only [Tryz.ntmps103, List.size_toArray, List.length_cons, List.length_nil, Nat.reduceAdd, Nat.reduceSub, Array.replicate_succ, Array.replicate_zero, List.push_toArray, List.append_toArray, List.nil_append, List.cons_append]
  gi_wp2_with (first | ((try refine ⟨HDD.out, ?_⟩); refine hR.mono ?_; clear hR; rintro e W2 (⟨rfl, hJ2, hK2, hp64, q3⟩ | ⟨rfl, hx2⟩)))
  · clear hy
    rw [← HW1.out] at hK2
    have hX2 := HX1.out.kept hK2
    have HX2 : Hid _ := hX2
    have HK2 : Hid _ := hK2
    have HJ2 : Hid _ := hJ2
    have hb2 : W2.heap[W.heap.size]? = some (.cells #[.slice ap p.length cp, .pointer pv] 119 (0, 0)) := (hK2.block _ (.inl HO.out.2.1)).trans HBx.out
    have hs2 := hK2.size
    have HB2 : Hid _ := hb2
    clear hX2 hK2 hJ2 hb2 x0 x1
    gi_loopw [7, 20] (fun pw iv wr => ∃ (i : Nat) (L : List Ft.Wy) (O2 : Nat → Prop), i ≤ T.kids.length ∧ iv = .int .i64 (i : Int) ∧ Hid (L.map Ft.Wy.it ++ Ft.wkT.wkL (Ft.ahead T.kids i) p (T.kids.drop i) = Ft.wkT bn p T) ∧ Hid (J O2 (pre ++ L) wr) ∧ Hid (Ft.AhZ Z wr pw (Ft.ahead T.kids i)) ∧ Hid (∀ k, O1 k → O2 k) ∧ Hid (∀ k, O2 k → (O1 k ∨ W1.heap.size ≤ k) ∧ k < wr.heap.size) ∧ Hid (wr.ownsRow B 9 1 (.slice ap p.length cp) p.length (p.map Value.string)) ∧ Hid (Ke (fun k => (O1 k ∧ (Value.slice ap p.length cp).ownBlock ≠ some k) ∨ Z k) W1 wr)) (fun _ iv _ => T.kids.length - (intOf iv).toNat)
    case atStart =>
      exact ⟨0, [⟨p, ap, cp, pv, bn, T, b, o, a, cap⟩], O1, by omega, rfl, (by show _ = _; rw [HA0.out]; rfl), HJ2.out, .inl ⟨rfl, rfl⟩, fun k h => h, fun k h => ⟨.inl h, by have := (HO.out.2.2 k h).2; omega⟩, HX2.out.row, HK2.out.mono (fun k e => e.imp And.left id)⟩
    case round =>
      obtain ⟨i, L, O2, hi, rfl, HLk, HJr, HAh, HOa, HOb, HRow, HKe⟩ := hrel
      have hsr := HKe.out.size
      have hZr : ∀ k, Z k → wr.heap[k]? = W.heap[k]? := fun k e => (HKe.out.block k (.inr e)).trans (HK1.out.block k (.inr e))
      have q3r : wr.cell? ⟨b, o + 3, none⟩ = some (.slice a T.kids.length cap) := (HX.out.four.same (hZr b HX.out.lies)).c3
      have hnb : (Value.slice ap p.length cp).ownBlock ≠ some W.heap.size := fun e => by have := HLt.out _ (.inl (HX.out.own _ e)); omega
      have hbr : wr.heap[W.heap.size]? = some (.cells #[.slice ap p.length cp, .pointer pv] 119 (0, 0)) := (HKe.out.block _ (.inl ⟨HO.out.2.1, hnb⟩)).trans HBx.out
      have x0 : wr.cell? ⟨W.heap.size, 0, none⟩ = some (.slice ap p.length cp) := by simp only [World.cell?, hbr]; rfl
      clear q3
      by_cases hlt : i < T.kids.length
      · obtain ⟨cb, coff, a', cap', rfl, hcZ, h4, hk⟩ := (HX.out.sub.same hZr (fun _ e => e)).kid hlt
        have r0 := h4.c0
        have H4 : Hid _ := h4
        have HK : Hid _ := hk
        have HNb : Hid _ := hnb
        have HBr : Hid _ := hbr
        have hcl : cb < wr.heap.size := by have := HLt.out cb (.inr hcZ); omega
        clear h4 hk hnb hbr hZr
        obtain ⟨wa, hwa⟩ : ∃ wa, wa = wr.alloc (.cells #[.string (T.kids[i]).nm] 9) := ⟨_, rfl⟩
        have x0a : (wr.alloc (.cells #[.string (T.kids[i]).nm] 9)).cell? ⟨W.heap.size, 0, none⟩ = some (.slice ap p.length cp) := (((Below.refl wr.heap.size wr).alloc (Nat.le_refl _) _).cell (p := ⟨W.heap.size, 0, none⟩) (by simp; omega)).trans x0
        have hn1 : (wr.alloc (.cells #[.string (T.kids[i]).nm] 9)).cell? ⟨wr.heap.size, 0, none⟩ = some (.string (T.kids[i]).nm) := by simp only [World.cell?, heap_alloc_new]; rfl
        obtain ⟨po, rfl⟩ : ∃ po, u7 = Value.pointer po := by
          rcases HAh.out with ⟨h, _⟩ | ⟨g, o, x, h, _⟩ <;> exact ⟨_, h⟩
        have HC : Hid (∀ (g3 c3 : Nat) (w3 : World), w3.ownsRow B 9 1 (.slice (some ⟨g3, 0, none⟩) (p.length + 1) c3) (p.length + 1) (p.map Value.string ++ [.string (T.kids[i]).nm]) → ((wr.alloc (.cells #[.string (T.kids[i]).nm] 9)).drew).grownBy w3 (Value.slice ap p.length cp).ownBlock → ((Value.slice ap p.length cp) = .slice (some ⟨g3, 0, none⟩) p.length c3 ∨ (g3 = wr.heap.size + 1 ∧ Below (wr.heap.size + 1) ((wr.alloc (.cells #[.string (T.kids[i]).nm] 9)).drew) w3)) →
            Calls Tryz.prog 103 #[.agg #[.slice (some ⟨g3, 0, none⟩) (p.length + 1) c3, .pointer po], .pointer (some ⟨cb, coff + i * 4, none⟩), .func (.yield l) #[] #[]] w3 fun e W' => (e = .returned (.bool true) ∧ ∃ (L' : List Ft.Wy) (O3 : Nat → Prop), Hid (L'.map Ft.Wy.it ++ Ft.wkT.wkL (Ft.ahead T.kids (i + 1)) p (T.kids.drop (i + 1)) = Ft.wkT bn p T) ∧ Hid (J O3 (pre ++ L') W') ∧ Hid (Ft.AhZ Z W' (.pointer (some ⟨cb, coff + i * 4, none⟩)) (Ft.ahead T.kids (i + 1))) ∧ Hid (∀ k, O1 k → O3 k) ∧ Hid (∀ k, O3 k → (O1 k ∨ W1.heap.size ≤ k) ∧ k < W'.heap.size) ∧ Hid (W'.ownsRow B 9 1 (.slice ap p.length cp) p.length (p.map Value.string)) ∧ Hid (Ke (fun k => (O1 k ∧ (Value.slice ap p.length cp).ownBlock ≠ some k) ∨ Z k) W1 W')) ∨ (e = .returned (.bool false) ∧ ∃ O', Jx O' W')) := by
          intro g3 c3 w3 ho hg hat
          have hsg : wr.heap.size + 1 ≤ w3.heap.size := by have := hg.size; simpa using this
          have hown : ∀ k, (Value.slice ap p.length cp).ownBlock = some k → O2 k := fun k e => HOa.out k (HO.out.1 k (HX.out.own k e))
          have hbase : ∀ k, (Value.slice ap p.length cp).ownBlock = some k → B ≤ k := fun k e => own_base HRow.out e
          have hblk : ∀ k, k < wr.heap.size → (Value.slice ap p.length cp).ownBlock ≠ some k → w3.heap[k]? = wr.heap[k]? := fun k hk hn =>
            (hg.block k (by simp; omega) (fun e => hn e.symm)).trans (((Below.refl wr.heap.size wr).alloc (Nat.le_refl _) _).block k hk)
          have hZ3 : ∀ k, Z k → w3.heap[k]? = wr.heap[k]? := fun k e => hblk k (by have := HLt.out k (.inr e); omega) (fun e2 => by have := hbase k e2; have := HZB.out k e; omega)
          have hg3 : g3 < w3.heap.size := by
            rcases ho.2 with ⟨h, _⟩ | ⟨g, _, _, h, _, h2, _⟩
            · cases h
            · cases h; exact lt_of_block h2
          obtain ⟨Oc, hOc⟩ : ∃ Oc : Nat → Prop, Oc = fun k => O2 k ∨ (wr.heap.size ≤ k ∧ k < w3.heap.size) := ⟨_, rfl⟩
          have hTu : Tu O2 wr w3 := by
            have y := (Below.refl wr.heap.size wr).alloc (Nat.le_refl _) (.cells #[.string (T.kids[i]).nm] 9)
            exact ⟨hg.os.trans y.os, hg.tape.trans y.tape, hg.output.trans y.output, by omega, fun k hk hn => hblk k hk (fun e => hn (hown k e))⟩
          have hJ3 : J Oc (pre ++ L) w3 := HJ.out _ _ _ wr w3 HJr.out hTu (fun k h => by
            rw [hOc] at h
            rcases h with h | h
            · exact ⟨.inl h, by have := (HOb.out k h).2; omega⟩
            · exact ⟨.inr h.1, h.2⟩)
          have hgO : Oc g3 := by
            rw [hOc]
            rcases hat with h | ⟨h, _⟩
            · exact .inl (hown g3 (by rw [h]; rfl))
            · exact .inr ⟨by omega, hg3⟩
          have hX3 : Ft.WyAt B Z ⟨p ++ [(T.kids[i]).nm], some ⟨g3, 0, none⟩, c3, po, Ft.ahead T.kids i, T.kids[i], cb, coff + i * 4, a', cap'⟩ Oc w3 :=
            ⟨by simpa using ho, fun k e => by simp only [Value.ownBlock, Option.some.injEq] at e; rw [← e]; exact hgO, HAh.out.kept hZ3, hcZ, H4.out.same (hZ3 cb hcZ), HK.out.same hZ3 (fun _ e => e)⟩
          have hIH := IH.out i hlt 0 (p ++ [(T.kids[i]).nm]) (some ⟨g3, 0, none⟩) c3 po (Ft.ahead T.kids i) cb (coff + i * 4) a' cap' Oc (pre ++ L) w3 hJ3 hX3 (by
              refine List.IsPrefix.trans ?_ HAL.out
              rw [List.map_append, List.append_assoc]
              refine (List.prefix_append_right_inj _).2 ?_
              rw [← HLk.out, Ft.wk_drop hlt p, ← List.append_assoc]
              exact ⟨_, rfl⟩) (fun k h => by
              rw [hOc] at h
              rcases h with h | h
              · have := (HOb.out k h).2; omega
              · exact h.2) HZB.out (by omega) (by simp; omega)
          have hln : (p ++ [(T.kids[i]).nm]).length = p.length + 1 := by simp
          rw [hln] at hIH
          refine Calls.mono (callsIn_wide.1 hIH) ?_
          rintro e W' (⟨rfl, L2, O3, hL2, hJ4, hO3a, hO3b, ho3, hK3⟩ | h)
          · refine .inl ⟨rfl, L ++ L2, O3, ?_, ?_, ?_, ?_, ?_, ?_, ?_⟩
            · show _ = _
              rw [List.map_append, hL2, ← HLk.out, Ft.wk_drop hlt p, List.append_assoc]
            · show J _ _ _
              rw [← List.append_assoc]; exact hJ4
            · exact .inr ⟨cb, coff + i * 4, _, rfl, Ft.ahead_next hlt, hcZ, ((World.cell?_of_block (hK3.block cb (.inr hcZ))).trans (World.cell?_of_block (hZ3 cb hcZ))).trans H4.out.c0⟩
            · exact fun k h => hO3a k (by rw [hOc]; exact .inl (HOa.out k h))
            · intro k h
              refine ⟨?_, (hO3b k h).2⟩
              rcases (hO3b k h).1 with h | h
              · rw [hOc] at h
                rcases h with h | h
                · exact (HOb.out k h).1
                · exact .inr (by omega)
              · exact .inr (by omega)
            · show World.ownsRow _ _ _ _ _ _ _
              rcases hat with h | ⟨h, hb⟩
              · rw [h]
                refine own_less (u := .string (T.kids[i]).nm) ?_
                simpa using ho3
              · refine own_kept HRow.out (fun k e => ?_)
                have hkw := HOb.out k (hown k e)
                refine (hK3.block k (.inl ⟨by rw [hOc]; exact .inl (hown k e), fun e2 => ?_⟩)).trans ((hb.block k (by omega)).trans (((Below.refl wr.heap.size wr).alloc (Nat.le_refl _) _).block k hkw.2))
                simp only [Value.ownBlock, Option.some.injEq] at e2
                omega
            · refine ⟨by have := hK3.size; omega, fun k h => ?_⟩
              have hkw : k < wr.heap.size := by
                rcases h with h | h
                · have := (HO.out.2.2 k h.1).2; omega
                · have := HLt.out k (.inr h); omega
              have h1 : w3.heap[k]? = wr.heap[k]? := by
                rcases h with h | h
                · exact hblk k hkw h.2
                · exact hZ3 k h
              refine (hK3.block k ?_).trans (h1.trans (HKe.out.block k h))
              rcases h with h | h
              · refine .inl ⟨by rw [hOc]; exact .inl (HOa.out k h.1), fun e2 => ?_⟩
                simp only [Value.ownBlock, Option.some.injEq] at e2
                rcases hat with h5 | ⟨h5, _⟩
                · exact h.2 (by rw [h5, ← e2]; rfl)
                · omega
              · exact .inr h
          · exact .inr h
        clear hwa wa
        have hon : ∀ j u, [Value.string (T.kids[i]).nm][j]? = some u → (wr.alloc (.cells #[.string (T.kids[i]).nm] 9)).drew.cell? ((⟨wr.heap.size, 0, none⟩ : Addr).add j) = some u := World.news_of_block (w := (wr.alloc (.cells #[.string (T.kids[i]).nm] 9)).drew) (cs := #[.string (T.kids[i]).nm]) (heap_alloc_new wr _)
        have HOn : Hid _ := hon
        clear hon
        gi_wp2
        refine wpIn_wide.2 ?_
        go_region_law (first
          | (go_simp; go_at_call 103; refine Calls.mono (HC.out _ _ _ hov hgv (by simpa using hatv)) ?_; intro e W3 hres; obtain ⟨bb, rfl, hway⟩ := two_ways hres; clear hres)
          | (refine step_append_stays _ rfl (.tmp 30) (.tmp 35) 37 rfl B 9 i0 _ 1 16 Tryz.underlying37 hi0 hz0 hz1 hz2 rfl (by decide) (.slice ap p.length cp) p.length (p.map Value.string) (by simp [Act.eval]) (World.ownsRow.drew (World.ownsRow.alloc HRow.out _)) ⟨wr.heap.size, 0, none⟩ 1 1 [.string (T.kids[i]).nm] (by simp [Act.eval]) rfl HOn.out (fun u hu => by simp only [List.mem_singleton] at hu; subst hu; rfl) (by decide) (by unfold maxLen; omega) (by omega) (by simp; omega) _ rfl ?_; intro g3 c3 w3 hov hgv hatv hlt3))
        all_goals
          rcases hway with ⟨rfl, L3, O3, HLk3, HJ3, HAh3, HOa3, HOb3, HRow3, HKe3⟩ | ⟨rfl, hx3⟩
          · gi_wp2
            go_roundw
            case rel => exact ⟨i + 1, L3, O3, by omega, by go_num, HLk3, HJ3, HAh3, HOa3, HOb3, HRow3, HKe3⟩
            case measure => simp [intOf]; omega
          · gi_wp2
            go_ret
            exact .inr ⟨rfl, hx3⟩
      · obtain rfl : i = T.kids.length := by omega
        gi_wp2
        go_ret
        refine .inl ⟨rfl, L, O2, ?_, HJr.out, fun k h => HOa.out k (HO.out.1 k h), fun k h => ?_, HRow.out, ⟨by have := HT1.out.size; omega, fun k h => ?_⟩⟩
        · have := HLk.out
          rw [List.drop_length, Ft.wkT.wkL, List.append_nil] at this
          exact this
        · refine ⟨?_, (HOb.out k h).2⟩
          rcases (HOb.out k h).1 with h | h
          · exact (HO.out.2.2 k h).1
          · exact .inr (by omega)
        · refine (HKe.out.block k (h.imp (fun h => ⟨HO.out.1 k h.1, h.2⟩) id)).trans (HK1.out.block k (h.imp And.left id))
  · clear hy
    go_ret
    exact .inr ⟨rfl, _, hx2⟩
end Go.Proofs.YtfbhofomcenabaaGreatDoor
