/- What lines.numbered answers: the same number just where the lines are the same. -/
import Derived.Test.YtpoimhkfajppmaaDoorLNum
namespace Go.Proofs.YtpoimhkfajppmaaDoor
open Go.RowKit
open Go.Maps (Keyed)

theorem Tryd.infoInt : (Tryd.prog.info? 3).map (fun i => (i.zero, i.size, i.bytes)) = some (some (.int .i64 0), 1, 8) := by kernel_rfl
theorem zeroInt (w : World) : (zeroValue 3).run Tryd.prog w = .ok (.int .i64 0) w := by kernel_rfl
def icells (ns : List Nat) : List Value := ns.map fun (k : Nat) => Value.int .i64 (k : Int)
theorem set_next (ns : List Nat) (m c : Nat) (z : Value) : ((icells ns) ++ List.replicate (m + 1) z).set ns.length (.int .i64 (c : Int)) = icells (ns ++ [c]) ++ List.replicate m z := by
  have e : ns.length = (icells ns).length := by simp [icells]
  rw [e, List.set_append_right _ _ (Nat.le_refl _)]
  simp [icells, List.replicate_succ]
theorem map_block_ne {w : World} {b o mb n : Nat} {v : Value} {D : DataW Unit} {P : Program} {k : TypeId} {R : Value → Option (DataW Unit × List MemPlace)} (h : w.cell? ⟨b, o, none⟩ = some v) (hm : w.ownsMap P k R mb n D) : b ≠ mb := by
  rintro rfl
  obtain ⟨es, clock, hb, _⟩ := hm
  simp [World.cell?, hb] at h

/-- The numbers ns of the lines l, as places in Ds. -/
def Placed (Ds : List (ByteArray × Bool)) (l : List (ByteArray × Bool)) (ns : List Nat) : Prop := ∀ i, i < ns.length → ∃ c, ns[i]? = some c ∧ ∃ x, l[i]? = some x ∧ Ds[c]? = some x
theorem Placed.more {Ds l : List (ByteArray × Bool)} {ns : List Nat} (h : Placed Ds l ns) (E : List (ByteArray × Bool)) : Placed (Ds ++ E) l ns := fun i hi => by
  obtain ⟨c, h1, x, h2, h3⟩ := h i hi
  exact ⟨c, h1, x, h2, by rw [List.getElem?_append_left (List.getElem?_eq_some_iff.1 h3).1]; exact h3⟩
theorem Placed.snoc {Ds l : List (ByteArray × Bool)} {ns : List Nat} (h : Placed Ds l ns) {c : Nat} {x : ByteArray × Bool} (hl : l[ns.length]? = some x) (hc : Ds[c]? = some x) : Placed Ds l (ns ++ [c]) := fun i hi => by
  by_cases e : i = ns.length
  · subst e
    exact ⟨c, by simp, x, hl, hc⟩
  · have hi' : i < ns.length := by simp at hi; omega
    obtain ⟨c, h1, x, h2, h3⟩ := h i hi'
    exact ⟨c, by rw [List.getElem?_append_left hi']; exact h1, x, h2, h3⟩

set_option maxRecDepth 100000 in
set_option maxHeartbeats 4000000 in
theorem number_any (cb mb n : Nat) (D : DataW Unit) (Ds : List (ByteArray × Bool)) (a : Option Addr) (cap : Nat) (l : List (ByteArray × Bool)) (w : World) (h : Lns w a cap l) (hc : w.cell? ⟨cb, 0, none⟩ = some (.map (some mb)))
    (hm : w.ownsMap Tryd.prog 38 (plainElem Tryd.prog 3) mb n D) (hN : NumInv D Ds) (hn : n + l.length ≤ 10000000) :
    Calls Tryd.prog 40 #[.slice a l.length cap, .pointer (some ⟨cb, 0, none⟩)] w fun e w' => ∃ v ns D' E, e = .returned v ∧ w'.ownsRow w.heap.size 3 1 v l.length (icells ns) ∧ ns.length = l.length ∧ Placed (Ds ++ E) l ns ∧
      w'.ownsMap Tryd.prog 38 (plainElem Tryd.prog 3) mb (n + l.length) D' ∧ NumInv D' (Ds ++ E) ∧ w.grownBy w' (some mb) := by
  obtain ⟨i0, hi, hz0, hz1, hz2⟩ := info_parts Tryd.infoInt
  have hl := h.len
  have hcb := World.block_lt_of_cell? w _ hc
  have hcm := map_block_ne hc hm
  have hmlt := hm.lt
  have HN : Hid (NumInv D Ds) := hN
  clear hN
  go_enter Tryd.func40, Tryd.ntmps40
  go_wp2_with (at_make; refine wpList_make_full _ rfl _ _ 51 rfl w.heap.size 3 i0 (.int .i64 0) 1 Tryd.underlying51 hi hz0 hz1 .i64 .i64 _ _ l.length rfl rfl rfl rfl ?m1 ?m2 ?m3 ?_)
  case m1 => first | omega | (rw [hz2]; omega)
  case m2 => unfold maxLen; omega
  intro w1 hown hg
  rw [toList_madeCells_one] at hown
  have hm1 := hm.kept hg (by simp)
  have hg1 : w.grownBy w1 (some mb) := hg.but _
  clear hg
  go_wp2_with fail
  go_loopw [14] (fun i wr => ∃ (k : Nat) (ns : List Nat) (D' : DataW Unit) (E : List (ByteArray × Bool)), k ≤ l.length ∧ i = .int .i64 k ∧ Hid (ns.length = k) ∧ wr.ownsRow w.heap.size 3 1 (.slice (some ⟨w.heap.size, 0, none⟩) l.length l.length) l.length (icells ns ++ List.replicate (l.length - k) (.int .i64 0)) ∧ Hid (Placed (Ds ++ E) l ns) ∧
    wr.ownsMap Tryd.prog 38 (plainElem Tryd.prog 3) mb (n + k) D' ∧ Hid (NumInv D' (Ds ++ E)) ∧ Hid (w.grownBy wr (some mb))) (fun i _ => l.length - (intOf i).toNat)
  case atStart => exact ⟨0, [], D, [], Nat.zero_le _, rfl, rfl, by simpa [icells] using hown, fun i hi => absurd hi (by simp), hm1, by simpa [Hid] using HN.out, hg1⟩
  case round =>
    obtain ⟨k, ns, D', E, hk, rfl, HL, ho, HP, hmr, HI, HG⟩ := hrel
    have hsz := HG.out.size
    clear hown hm1 hg1
    by_cases hlt : k < l.length
    · obtain ⟨b, off, rfl, hb0, hc1, hc2⟩ := h.cells k hlt
      have hbm := map_block_ne hc1 hm
      have d1 : wr.cell? ⟨b, off + k * 2, none⟩ = some (.string (l[k]'hlt).1) := HG.out.cell hc1 (by simpa using hbm)
      have d2 : wr.cell? ⟨b, off + k * 2 + 1, none⟩ = some (.bool (l[k]'hlt).2) := HG.out.cell hc2 (by simpa using hbm)
      have d3 : wr.cell? ⟨cb, 0, none⟩ = some (.map (some mb)) := HG.out.cell hc (by simpa using hcm)
      have hcbr : cb < wr.heap.size := Nat.lt_of_lt_of_le hcb hsz
      have HX : Hid (l[k]? = some (l[k]'hlt)) := List.getElem?_eq_getElem hlt
      have hxs : (l[k]'hlt).1.size ≤ maxLen := by have := h.size _ (List.getElem_mem hlt); unfold maxLen; omega
      obtain ⟨kl, hkl⟩ := keyed_line (l[k]'hlt) hxs
      generalize l[k]'hlt = x at *
      obtain ⟨x1, x2⟩ := x
      have HK : Hid (keyOf Tryd.prog 38 (.agg #[.string x1, .bool x2]) = some kl) := hkl
      clear hkl hxs hc1 hc2
      have fz := ho.frozenAt k
      have hb3 : b < wr.heap.size := by omega
      have hmn : mb < wr.heap.size := by omega
      have hwl : w.heap.size < wr.heap.size := (ho.lt _ rfl).2
      have q0 := ho.cellAt k (by have := ho.1; omega)
      rw [List.getElem?_eq_getElem (by have := ho.1; omega)] at q0
      generalize (icells ns ++ List.replicate (l.length - k) (Value.int .i64 0))[k]'(by have := ho.1; omega) = y0 at q0
      obtain ⟨m, hm'⟩ : ∃ m, l.length - k = m + 1 := ⟨l.length - k - 1, by omega⟩
      have hm2 : l.length - (k + 1) = m := by omega
      have HM1 : Hid (l.length - k = m + 1) := hm'
      have HM2 : Hid (l.length - (k + 1) = m) := hm2
      clear hm' hm2
      by_cases hin : (x1, x2) ∈ Ds ++ E
      · have hh : Maps.has D' kl = true := (HI.out.has (x1, x2) kl HK.out).2 hin
        obtain ⟨j, hj1, hj2⟩ := HI.out.at' (x1, x2) kl HK.out hin
        have HJ : Hid (D'.atKey kl (.lit (.int .i64 0)) = .lit (.int .i64 (j : Int))) := hj2
        have HP2 : Hid (Placed (Ds ++ E) l (ns ++ [j])) := HP.out.snoc (by rw [HL.out]; exact HX.out) hj1
        clear hj1 hj2
        obtain ⟨st, gr⟩ := ho.stored k (.int .i64 (j : Int))
        have st' : Hid (((wr.setCell ⟨w.heap.size, k, none⟩ (.int .i64 (j : Int))).alloc (.cells #[.string x1, .bool x2] 38)).ownsRow w.heap.size 3 1 (.slice (some ⟨w.heap.size, 0, none⟩) l.length l.length) l.length (icells (ns ++ [j]) ++ List.replicate (l.length - (k + 1)) (.int .i64 0))) := by
          rw [HM1.out] at st
          rw [HM2.out, ← set_next, HL.out]
          exact st.alloc _
        have GR : Hid (w.grownBy ((wr.setCell ⟨w.heap.size, k, none⟩ (.int .i64 (j : Int))).alloc (.cells #[.string x1, .bool x2] 38)) (some mb)) := (HG.out.andThen gr (fun j e => by cases e; exact .inl (Nat.le_refl _))).andThen (World.grownBy_alloc _ _ none) (fun j e => by cases e)
        have hm3 := ((hmr.kept gr (by simp; omega)).alloc (.cells #[.string x1, .bool x2] 38)).mono (n' := n + (k + 1)) (by omega)
        clear st gr
        go_wp2_with (at_lookup; refine wpList_lookup_own_ok_int _ rfl _ _ 73 rfl 38 3 .i64 lawLine Tryd.underlying73 Tryd.underlying3 (zeroInt _) mb (n + k) D' rfl (hmr.alloc _) _ kl rfl HK.out ?_; intro c hat _; rw [HJ.out] at hat; cases hat)
        go_roundw
        case rel => exact ⟨k + 1, ns ++ [j], D', E, by omega, by go_num, by simp [Hid, HL.out], st'.out, HP2, hm3, HI, GR⟩
        case measure => simp [intOf]; omega
      · have hh : Maps.has D' kl = false := by
          cases q : Maps.has D' kl
          · rfl
          · exact absurd ((HI.out.has (x1, x2) kl HK.out).1 q) hin
        have HS : Hid (Maps.size D' = (Ds ++ E).length) := HI.out.size
        have HD0 : Hid (D'.atKey kl (.lit (.int .i64 0)) = .lit (.int .i64 0)) := Maps.atKey_of_not_has hh _
        obtain ⟨j, hj⟩ : ∃ j, j = (Ds ++ E).length := ⟨_, rfl⟩
        have hjn : j ≤ n + k := by rw [hj, ← HS.out]; exact hmr.size_le
        have HS' : Hid (Maps.size D' = j) := by rw [hj]; exact HS.out
        have HI2 : Hid (NumInv (D'.put kl (.lit (.int .i64 (j : Int)))) (Ds ++ (E ++ [(x1, x2)]))) := by
          have := num_step (x := (x1, x2)) (kl := kl) HI.out (hmr.tidy lawLine) HK.out hin
          rw [← hj, List.append_assoc] at this
          exact this
        have HP2 : Hid (Placed (Ds ++ (E ++ [(x1, x2)])) l (ns ++ [j])) := by
          rw [← List.append_assoc]
          exact (HP.out.more [(x1, x2)]).snoc (by rw [HL.out]; exact HX.out) (by rw [hj]; simp)
        clear hj HS
        go_wp2_with (first
          | (at_lookup; refine wpList_lookup_own_ok_int _ rfl _ _ 73 rfl 38 3 .i64 lawLine Tryd.underlying73 Tryd.underlying3 (zeroInt _) mb (n + k) D' rfl (hmr.alloc _) _ kl rfl HK.out ?_; intro c hat _; rw [HD0.out] at hat; cases hat)
          | (at_len; refine wpList_len_own _ rfl _ 73 rfl 38 3 Tryd.underlying73 _ mb (n + k) D' rfl (hmr.alloc _) ?_; rw [HS'.out])
          | (at_mapUpdate; refine wpList_mapUpdate_own _ rfl _ _ _ 73 rfl 38 3 lawLine Tryd.underlying73 _ mb (n + k) D' rfl (hmr.alloc _) ?u1 _ _ kl rfl rfl HK.out _ [] (plainElem_int Tryd.underlying3 ?u2) ?_))
        case u1 => unfold maxLen; omega
        case u2 => exact WalkArith.wf_i64 (by omega)
        intro w2 hm2 hg2
        have hs2 := hg2.size
        simp only [World.size_alloc] at hs2
        have ho2 : w2.ownsRow w.heap.size 3 1 (.slice (some ⟨w.heap.size, 0, none⟩) l.length l.length) l.length (icells ns ++ List.replicate (l.length - k) (.int .i64 0)) := (ho.alloc _).kept hg2 (.inr (by simp [Value.ownBlock]; omega))
        have fz2 := ho2.frozenAt k
        have q2 : w2.cell? ⟨w.heap.size, k, none⟩ = some y0 := hg2.cell (a := ⟨w.heap.size, k, none⟩) (by rw [World.cell?_alloc_past _ _ _ hwl]; exact q0) (by simp; omega)
        obtain ⟨st, gr⟩ := ho2.stored k (.int .i64 (j : Int))
        have st' : Hid ((w2.setCell ⟨w.heap.size, k, none⟩ (.int .i64 (j : Int))).ownsRow w.heap.size 3 1 (.slice (some ⟨w.heap.size, 0, none⟩) l.length l.length) l.length (icells (ns ++ [j]) ++ List.replicate (l.length - (k + 1)) (.int .i64 0))) := by
          rw [HM1.out] at st
          rw [HM2.out, ← set_next, HL.out]
          exact st
        have GR : Hid (w.grownBy (w2.setCell ⟨w.heap.size, k, none⟩ (.int .i64 (j : Int))) (some mb)) := ((HG.out.andThen (World.grownBy_alloc _ _ none) (fun j e => by cases e)).andThen hg2 (fun j e => by cases e; exact .inr rfl)).andThen gr (fun j e => by cases e; exact .inl (Nat.le_refl _))
        have hm3 := hm2.kept gr (by simp; omega)
        clear st gr hg2
        go_wp2_with fail
        go_roundw
        case rel => exact ⟨k + 1, ns ++ [j], _, E ++ [(x1, x2)], by omega, by go_num, by simp [Hid, HL.out], st'.out, HP2, hm3, HI2, GR⟩
        case measure => simp [intOf]; omega
    · obtain rfl : k = l.length := by omega
      have ho' : wr.ownsRow w.heap.size 3 1 (.slice (some ⟨w.heap.size, 0, none⟩) l.length l.length) l.length (icells ns) := by simpa using ho
      go_wp2_with fail
      go_ret
      exact ⟨_, ns, D', E, rfl, ho', HL.out, HP.out, hmr, HI.out, HG.out⟩
end Go.Proofs.YtpoimhkfajppmaaDoor
