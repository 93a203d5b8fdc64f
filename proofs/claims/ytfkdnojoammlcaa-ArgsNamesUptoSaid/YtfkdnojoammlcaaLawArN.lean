/- The law ArgsNames: what stands behind two dashes is a name. -/
import Derived.Test.YtfkdnojoammlcaaArBg
import Derived.Test.YtfkdnojoammlcaaArSm
import Derived.Test.YtfkdnojoammlcaaArEq
import Derived.Maps.AppendAt
namespace Go.Proofs.Ytfkdnojoammlcaa
open Go.RowKit

/-- append of texts, be there any or none. -/
theorem wpList_append_strs (w : World) {ops : Array Oper} {rest : List Oper} {o : Oper} {a : Act} {Q : Exit → Act → World → Prop} (hgd : o.guard = none) (s x : Operand)
    (ho : o.op = .call { callee := .builtin .append, args := #[s, x], argTypes := #[22, 22] }) (base : Nat) (v : Value) (X : List ByteArray) (hs : a.eval s = v) (hown : w.ownsRow base 9 1 v X.length (X.map Value.string))
    (na : Option Addr) (nc : Nat) (L : List ByteArray) (hx : a.eval x = .slice na L.length nc) (hL : Strs w na nc L) (hn : X.length + L.length ≤ 131072) (hbase : base ≤ w.heap.size)
    (h : ∀ v' w', w'.ownsRow base 9 1 v' (X ++ L).length ((X ++ L).map Value.string) → w.grownBy w' v.ownBlock → wpList Try.prog ops Q rest (a.put o.dst v') w') :
    wpList Try.prog ops Q (o :: rest) a w := by
  obtain ⟨i0, hi, hz0, hz1, hz2⟩ := info_parts Try.infoStr
  cases na with
  | none =>
    obtain ⟨rfl, rfl⟩ := hL.none
    refine wpList_append_none2 w hgd s x 22 22 ho 9 9 Try.underlying22 Try.underlying22 i0 hi base v _ _ 1 hs hown hx ?_
    exact h v w (by rw [List.append_nil]; exact hown) ⟨rfl, rfl, rfl, Nat.le_refl _, fun _ _ _ => rfl⟩
  | some ad =>
    refine wpList_append_own_at w hgd s x 22 ho base 9 i0 (.string ⟨#[]⟩) 1 16 Try.underlying22 hi hz0 hz1 hz2 rfl (by decide) v X.length (X.map Value.string) hs hown ad L.length nc (L.map Value.string) hx (by simp) hL.news (strings_oneCell L) (by unfold maxLen; omega) (by omega) hbase ?_
    intro v' w' h1 h2 _ _
    exact h v' w' (by rw [List.length_append, List.map_append]; exact h1) h2
theorem row_lit (w : World) (l : List ByteArray) (hl : l.length ≤ 65536) : (w.alloc (.cells (l.map Value.string).toArray 9)).ownsRow w.heap.size 9 1 (.slice (some ⟨w.heap.size, 0, none⟩) l.length l.length) l.length (l.map Value.string) :=
  ⟨by simp, Or.inr ⟨w.heap.size, l.length, (l.map Value.string).toArray, rfl, Nat.le_refl _, heap_alloc_new _ _, Nat.le_refl _, by unfold maxLen; omega, by simp, by rw [Nat.mul_one, ← List.length_map (f := Value.string)]; exact List.take_length⟩⟩

/-- A list that append made, ready to be read. -/
theorem read_made {w W V : World} {B : Nat} {v : Value} (X : List ByteArray) (hX : X.length ≤ 65536) (hz : ∀ s ∈ X, s.size ≤ 1048576) (hm : ∃ m, w.cell? ⟨0, 0, none⟩ = some (.int .i64 m)) (hg0 : 0 < w.heap.size) (hB : Below w.heap.size w W) (hBW : B = W.heap.size) (o : Obj) (hg : (W.alloc o).grownBy V (some B)) (ho : V.ownsRow B 9 1 v X.length (X.map Value.string)) :
    ∃ a c, v = .slice a X.length c ∧ Below w.heap.size w V ∧ Calls Try.prog 10 #[.slice a X.length c] V (ReadIs X V) := by
  obtain ⟨a, c, rfl, hs, hk⟩ := own_strs ho (by omega) (fun s h => Nat.le_trans (hz s h) (by omega))
  have hWV : Below W.heap.size W V := ⟨hg.os, hg.tape, hg.output, Nat.le_trans (by simp) hg.size, fun k h => (hg.block k (by simp; omega) (fun e => by have := Option.some.inj e; omega)).trans (heap_alloc_old W o h)⟩
  have hV := hB.trans (hWV.mono hB.size)
  refine ⟨a, c, rfl, hV, read_any X a c V hs (fun ad e => (ho.lt ad.block (hk ad e)).2) (fun i hi => hz _ (List.getElem_mem hi)) ?_ (Nat.lt_of_lt_of_le hg0 hV.size)⟩
  obtain ⟨m, hm⟩ := hm
  exact ⟨m, (hV.cell (p := ⟨0, 0, none⟩) hg0).trans hm⟩

set_option maxRecDepth 100000 in
set_option maxHeartbeats 4000000 in
theorem law_names (p : ByteArray) (L : List ByteArray) (na : Option Addr) (nc : Nat) (w : World) (hL : Strs w na nc L) (hp : p.size ≤ 1048576) (hz : ∀ i (hi : i < L.length), (L[i]'hi).size ≤ 1048576) (hm : ∃ m, w.cell? ⟨0, 0, none⟩ = some (.int .i64 m)) (hg0 : 0 < w.heap.size) :
    Calls Try.prog 8 #[.string p, .slice na L.length nc] w fun e w' => e = .returned (.bool true) ∧ Below w.heap.size w w' := by
  obtain ⟨i0, hi, hz0, hz1, hz2⟩ := info_parts Try.infoStr
  have hlen := hL.len
  have HBg : Hid _ := begins_any w hm hg0
  by_cases hbig : 65536 < L.length + 3
  · have hd : (65536 : Int) < (L.length : Int) + 3 := by omega
    have hw : IntKind.i64.wrap ((L.length : Int) + 3) = (L.length : Int) + 3 := by rw [IntKind.wrap_i64]; omega
    go_enter Try.func8, Try.ntmps8
    go_wp2_with fail
    refine Calls.mono HBg.out ?_
    rintro e w1 ⟨rfl, hb1⟩
    have HB1 : Hid _ := hb1
    clear hb1
    go_wp2_with fail
    go_ret
    exact ⟨rfl, HB1.out⟩
  · have hd : decide ((65536 : Int) < (L.length : Int) + 3) = false := decide_eq_false (by omega)
    have HLb : Hid (L.length ≤ 65533) := by show _ ≤ _; omega
    have HM : Hid _ := hm
    have HG : Hid _ := hg0
    have HPz : Hid _ := hp
    have HZ : Hid _ := hz
    clear hbig hm hg0 hp hz hlen
    have hw : IntKind.i64.wrap ((L.length : Int) + 3) = (L.length : Int) + 3 := by have := HLb.out; rw [IntKind.wrap_i64]; omega
    go_enter Try.func8, Try.ntmps8
    go_wp2_with fail
    refine Calls.mono HBg.out ?_
    rintro e w1 ⟨rfl, hb1⟩
    have HB1 : Hid _ := hb1
    clear hb1 HBg
    have HL1 : Hid (Strs w1 na nc L) := hL.below (HB1.out.mono (Nat.le_refl _))
    have HRow : Hid ((w1.alloc (.cells #[.string ⟨#[45, 101]⟩, .string p, .string ⟨#[45, 45]⟩] 9)).ownsRow w1.heap.size 9 1 (.slice (some ⟨w1.heap.size, 0, none⟩) 3 3) [Ar.dashE, p, Ar.dash2].length ([Ar.dashE, p, Ar.dash2].map Value.string)) := row_lit w1 [Ar.dashE, p, Ar.dash2] (by simp)
    have HA : Hid (Strs (w1.alloc (.cells #[.string ⟨#[45, 101]⟩, .string p, .string ⟨#[45, 45]⟩] 9)) na nc L) := HL1.out.below (alloc_below w1 _)
    have hL0 : Hid _ := hL
    clear hL
    go_wp2_with (at_builtin; refine wpList_append_strs _ rfl _ _ rfl w1.heap.size _ [Ar.dashE, p, Ar.dash2] rfl HRow.out na nc L rfl HA.out (by have := HLb.out; show 3 + _ ≤ _; omega) (by simp) ?_)
    intro v2 w2 ho2 hg2
    obtain ⟨a2, c2, rfl, hb2, hr2⟩ := read_made (Ar.dashE :: p :: Ar.dash2 :: L) (by have := HLb.out; simp; omega) (fun s h => by
      rcases List.mem_cons.1 h with rfl | h
      · decide
      rcases List.mem_cons.1 h with rfl | h
      · exact HPz.out
      rcases List.mem_cons.1 h with rfl | h
      · decide
      obtain ⟨i, hi, rfl⟩ := List.getElem_of_mem h
      exact HZ.out i hi) HM.out HG.out HB1.out rfl _ hg2 ho2
    have HB2 : Hid _ := hb2
    have HR2 : Hid _ := hr2
    clear hb2 hr2 ho2 hg2
    go_wp2_with fail
    refine Calls.mono HR2.out ?_
    rintro e w3 ⟨xa, xc, xb, xd, rfl, hc3, hb3⟩
    have HE1 : Hid _ := Ar.read_e p L (by have := HLb.out; omega)
    have he : avA (Ar.readF (Ar.dashE :: p :: Ar.dash2 :: L)).1 xa xc xb xd = #[.bool false, .bool false, .bool false, .bool false, .string ⟨#[]⟩, .slice xa 1 xc, .slice xb L.length xd] := by rw [HE1.out]; rfl
    rw [he, show (Ar.readF (Ar.dashE :: p :: Ar.dash2 :: L)).2.1 = 0 by rw [HE1.out], show (Ar.readF (Ar.dashE :: p :: Ar.dash2 :: L)).2.2 = 0 by rw [HE1.out]]
    rw [HE1.out] at hc3
    have HX3 : Hid (AvR w3 (Ar.nmAv p L) xa xc xb xd) := Cop.avR (x := Ar.nmAv p L) hc3 (Nat.le_of_ble_eq_true rfl) (fun q h => by cases List.mem_singleton.1 h; have := HPz.out; show p.size ≤ _; omega) (by have := HLb.out; show L.length ≤ _; omega) (fun s h => by obtain ⟨i, hi, rfl⟩ := List.getElem_of_mem h; exact Nat.le_trans (HZ.out i hi) (by omega)) (Nat.le_of_ble_eq_true rfl)
    have HB3 : Hid (Below w.heap.size w w3) := HB2.out.trans (hb3.mono HB2.out.size)
    clear he HE1 hc3 hb3 HR2 HRow HA
    have HLx : Hid (∀ o o2, Strs ((w3.alloc o).alloc o2) na nc L) := fun o o2 => (((hL0.out.below HB3.out).below (alloc_below _ o)).below (alloc_below _ o2))
    have HRow2 : Hid (((w3.alloc (.cells #[.bool false, .bool false, .bool false, .bool false, .string ⟨#[]⟩, .slice xa 1 xc, .slice xb L.length xd] 28)).alloc (.cells #[.string ⟨#[45, 45]⟩, .string p] 9)).ownsRow (w3.heap.size + 1) 9 1 (.slice (some ⟨w3.heap.size + 1, 0, none⟩) 2 2) [Ar.dash2, p].length ([Ar.dash2, p].map Value.string)) := by
      have := row_lit (w3.alloc (.cells #[.bool false, .bool false, .bool false, .bool false, .string ⟨#[]⟩, .slice xa 1 xc, .slice xb L.length xd] 28)) [Ar.dash2, p] (by simp)
      rw [World.size_alloc] at this
      exact this
    go_wp2_with (at_builtin; refine wpList_append_strs _ rfl _ _ rfl (w3.heap.size + 1) _ [Ar.dash2, p] rfl HRow2.out na nc L rfl (HLx.out _ _) (by have := HLb.out; show 2 + _ ≤ _; omega) (by simp) ?_)
    intro v5 w5 ho5 hg5
    obtain ⟨a5, c5, rfl, hb5, hr5⟩ := read_made (Ar.dash2 :: p :: L) (by have := HLb.out; simp; omega) (fun s h => by
      rcases List.mem_cons.1 h with rfl | h
      · decide
      rcases List.mem_cons.1 h with rfl | h
      · exact HPz.out
      obtain ⟨i, hi, rfl⟩ := List.getElem_of_mem h
      exact HZ.out i hi) HM.out HG.out (HB3.out.trans ((alloc_below w3 (.cells #[.bool false, .bool false, .bool false, .bool false, .string ⟨#[]⟩, .slice xa 1 xc, .slice xb L.length xd] 28)).mono HB3.out.size)) (by simp) _ hg5 ho5
    have HB5 : Hid _ := hb5
    have HR5 : Hid _ := hr5
    have HW5 : Hid (Below (w3.alloc (.cells #[.bool false, .bool false, .bool false, .bool false, .string ⟨#[]⟩, .slice xa 1 xc, .slice xb L.length xd] 28)).heap.size (w3.alloc (.cells #[.bool false, .bool false, .bool false, .bool false, .string ⟨#[]⟩, .slice xa 1 xc, .slice xb L.length xd] 28)) w5) := ⟨hg5.os, hg5.tape, hg5.output, Nat.le_trans (by simp) hg5.size, fun k h => (hg5.block k (by simp at h ⊢; omega) (fun e => by have h9 : k = w3.heap.size + 1 := Option.some.inj e; simp at h; omega)).trans (heap_alloc_old _ _ h)⟩
    clear hb5 hr5 ho5 hg5
    go_wp2_with fail
    refine Calls.mono HR5.out ?_
    rintro e w6 ⟨ya, yc, yb, yd, rfl, hc6, hb6⟩
    have HE2 : Hid _ := Ar.read_2 p L (by have := HLb.out; omega)
    have he : avA (Ar.readF (Ar.dash2 :: p :: L)).1 ya yc yb yd = #[.bool false, .bool false, .bool false, .bool false, .string ⟨#[]⟩, .slice ya 1 yc, .slice yb L.length yd] := by rw [HE2.out]; rfl
    rw [he, show (Ar.readF (Ar.dash2 :: p :: L)).2.1 = 0 by rw [HE2.out], show (Ar.readF (Ar.dash2 :: p :: L)).2.2 = 0 by rw [HE2.out]]
    rw [HE2.out] at hc6
    have HY6 : Hid (AvR w6 (Ar.nmAv p L) ya yc yb yd) := Cop.avR (x := Ar.nmAv p L) hc6 (Nat.le_of_ble_eq_true rfl) (fun q h => by cases List.mem_singleton.1 h; have := HPz.out; show p.size ≤ _; omega) (by have := HLb.out; show L.length ≤ _; omega) (fun s h => by obtain ⟨i, hi, rfl⟩ := List.getElem_of_mem h; exact Nat.le_trans (HZ.out i hi) (by omega)) (Nat.le_of_ble_eq_true rfl)
    have HW6 : Hid (Below (w3.alloc (.cells #[.bool false, .bool false, .bool false, .bool false, .string ⟨#[]⟩, .slice xa 1 xc, .slice xb L.length xd] 28)).heap.size (w3.alloc (.cells #[.bool false, .bool false, .bool false, .bool false, .string ⟨#[]⟩, .slice xa 1 xc, .slice xb L.length xd] 28)) w6) := HW5.out.trans (hb6.mono HW5.out.size)
    have hbx : w6.heap[w3.heap.size]? = some (.cells #[.bool false, .bool false, .bool false, .bool false, .string ⟨#[]⟩, .slice xa 1 xc, .slice xb L.length xd] 28) := (HW6.out.block _ (by simp)).trans (heap_alloc_new _ _)
    have HX6 : Hid (AvR w6 (Ar.nmAv p L) xa xc xb xd) := (HX3.out.alloc _).below HW6.out
    have HB6 : Hid (Below w.heap.size w w6) := HB5.out.trans (hb6.mono HB5.out.size)
    have HL6 : Hid (Strs w6 na nc L) := hL0.out.below HB6.out
    clear he HE2 hc6 hb6 HR5 HRow2 HLx
    obtain ⟨sb, so, rfl, hsb, s0, s1⟩ := HX6.out.sc.cells 0 (Nat.le_of_ble_eq_true rfl)
    have s0' : w6.cell? ⟨sb, so, none⟩ = some (.bool false) := s0
    have s1' : w6.cell? ⟨sb, so + 1, none⟩ = some (.string p) := s1
    clear s0 s1
    have hlt6 : w3.heap.size < w6.heap.size := lt_of_block hbx
    have HX : Hid (∀ V, Below w6.heap.size w6 V → (V.cell? ⟨sb, so, none⟩ = some (.bool false) ∧ V.cell? ⟨sb, so + 1, none⟩ = some (.string p)) ∧ V.cell? ⟨w3.heap.size, 0, none⟩ = some (.bool false) ∧ V.cell? ⟨w3.heap.size, 1, none⟩ = some (.bool false) ∧ V.cell? ⟨w3.heap.size, 2, none⟩ = some (.bool false) ∧ V.cell? ⟨w3.heap.size, 3, none⟩ = some (.bool false) ∧ V.cell? ⟨w3.heap.size, 4, none⟩ = some (.string ⟨#[]⟩) ∧ V.cell? ⟨w3.heap.size, 5, none⟩ = some (.slice (some ⟨sb, so, none⟩) 1 xc) ∧ V.cell? ⟨w3.heap.size, 6, none⟩ = some (.slice xb L.length xd)) := fun V hV => by
      have hc : ∀ q, V.cell? ⟨w3.heap.size, q, none⟩ = w6.cell? ⟨w3.heap.size, q, none⟩ := fun q => hV.cell (p := ⟨w3.heap.size, q, none⟩) hlt6
      exact ⟨⟨(hV.cell (p := ⟨sb, so, none⟩) hsb).trans s0', (hV.cell (p := ⟨sb, so + 1, none⟩) hsb).trans s1'⟩, (hc 0).trans (cell_of_row _ _ _ _ _ _ hbx), (hc 1).trans (cell_of_row _ _ _ _ _ _ hbx), (hc 2).trans (cell_of_row _ _ _ _ _ _ hbx), (hc 3).trans (cell_of_row _ _ _ _ _ _ hbx), (hc 4).trans (cell_of_row _ _ _ _ _ _ hbx), (hc 5).trans (cell_of_row _ _ _ _ _ _ hbx), (hc 6).trans (cell_of_row _ _ _ _ _ _ hbx)⟩
    have HS : Hid (∀ V, Below w6.heap.size w6 V → Calls Try.prog 12 #[.agg #[.bool false, .bool false, .bool false, .bool false, .string ⟨#[]⟩, .slice (some ⟨sb, so, none⟩) 1 xc, .slice xb L.length xd], .agg #[.bool false, .bool false, .bool false, .bool false, .string ⟨#[]⟩, .slice ya 1 yc, .slice yb L.length yd]] V fun e w' => e = .returned (.bool true) ∧ Below w6.heap.size w6 w') := fun V hV => by
      refine (rsame_any (Ar.nmAv p L) (Ar.nmAv p L) _ xb ya yb xc xd yc yd V (HX6.out.below hV) (HY6.out.below hV)).mono ?_
      rintro e w' ⟨rfl, hb⟩
      exact ⟨by rw [Ar.sameA_refl], hV.trans (hb.mono hV.size)⟩
    have HT : Hid (∀ V, Below w6.heap.size w6 V → Calls Try.prog 13 #[.slice xb L.length xd, .slice na L.length nc] V fun e w' => e = .returned (.bool true) ∧ Below w6.heap.size w6 w') := fun V hV => by
      refine (texts_any xb na xd nc L L V (HX6.out.nm.below hV) (HL6.out.below hV)).mono ?_
      rintro e w' ⟨rfl, hb⟩
      exact ⟨by rw [decide_eq_true rfl], hV.trans (hb.mono hV.size)⟩
    obtain ⟨_, x0, x1, x2, x3, x4, x5, x6⟩ := HX.out w6 (Below.refl _ _)
    clear hbx HX6 HY6 HL6 HW6 HW5 HB5 HX3
    go_wp2_with fail
    refine Calls.mono (HS.out _ (alloc_below _ _)) ?_
    rintro e w7 ⟨rfl, hb7⟩
    obtain ⟨_, y0, y1, y2, y3, y4, y5, y6⟩ := HX.out w7 hb7
    have HB7 : Hid _ := hb7
    clear hb7
    go_wp2_with fail
    refine Calls.mono (HT.out _ HB7.out) ?_
    rintro e w8 ⟨rfl, hb8⟩
    obtain ⟨⟨t0, t1⟩, z0, z1, z2, z3, z4, z5, z6⟩ := HX.out w8 hb8
    have HB8 : Hid (Below w.heap.size w w8) := HB6.out.trans (hb8.mono HB6.out.size)
    clear hb8 HS HT HX
    go_wp2_with fail
    go_ret
    exact ⟨rfl, HB8.out⟩
end Go.Proofs.Ytfkdnojoammlcaa
