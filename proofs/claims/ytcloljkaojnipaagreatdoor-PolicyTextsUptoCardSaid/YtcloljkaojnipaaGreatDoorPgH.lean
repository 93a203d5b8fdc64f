/- What a reader of a number does with what stands behind its word. Maps of readers; what policy.pathReader and policy.numberReader answer. The region of policy.readers that makes the map of the two readers of paths: what holds behind whichever of its operations have come up. What policy.readers answers: a map of six readers, their boxes. -/
import Derived.Test.YtcloljkaojnipaaGreatDoorPgG
import Derived.Test.YtcloljkaojnipaaGreatDoorPgB
import Derived.Maps.OwnSet
import Derived.Laws.EntriesVeiled
import Derived.Deep.DeepCutAuto
namespace Go.Proofs.YtcloljkaojnipaaGreatDoor
open Go.RowKit

theorem most_lt (i : Nat) : Pl.mostN i ≤ 4294967296 := by unfold Pl.mostN; split <;> omega
set_option maxRecDepth 100000 in
set_option maxHeartbeats 1000000 in
theorem rdNum_any (L : Lo) (S : Pl.PSt) (vR vW : Value) (i : Nat) (hi : i < 4) (s : ByteArray) (w : World) (T : PT w) (h : Sta L S vR vW w) (hs : s.size ≤ 16777216) (hv : ∀ s, vR ≠ .string s ∧ vW ≠ .string s) :
    Calls Tryz.prog 93 #[.string s, .pointer (some ⟨L.qb i, 0, none⟩), .pointer (some ⟨L.tb i, 0, none⟩)] w fun e w' =>
      e = .returned (.int .i64 ((Pl.numR S i s.data.toList).1 : Nat)) ∧ Sta L (Pl.numR S i s.data.toList).2 vR vW w' ∧ Tu L.tch w w' := by
  have hml := most_lt i
  have HV : Hid (∀ s, vR ≠ .string s ∧ vW ≠ .string s) := hv
  clear hv
  have HN := isnum_any s w (by unfold maxLen; omega)
  cases e1 : Pl.isNum s.data.toList
  · have HE : Hid (Pl.numR S i s.data.toList = (2, S)) := Pl.numR_form e1
    rw [e1] at HN
    have HH : Hid (Sta L S vR vW w) := h
    clear h
    go_enter Tryz.func93, Tryz.ntmps93
    go_wp2_with fail
    refine HN.mono ?_
    rintro e w1 ⟨rfl, rfl⟩
    go_wp2_with fail
    go_ret
    rw [HE.out]
    exact ⟨rfl, HH.out, Tu.refl _ _⟩
  rw [e1] at HN
  rcases Pl.atoi_digits e1 with ⟨ha, hlt⟩ | ⟨ha, hge⟩
  · have HA := atoi_ok s (Pl.valN s.data.toList) w hs ha
    have HM : Hid (Pl.mostN i < Pl.valN s.data.toList → Pl.numR S i s.data.toList = (3, S)) := fun q => Pl.numR_most e1 q
    have HT : Hid (¬ Pl.mostN i < Pl.valN s.data.toList → S.t i = true → Pl.numR S i s.data.toList = (4, S)) := fun q r => Pl.numR_twice e1 q r
    have HO : Hid (¬ Pl.mostN i < Pl.valN s.data.toList → S.t i = false → Pl.numR S i s.data.toList = (0, { S with q := Pl.upd S.q i (Pl.valN s.data.toList), t := Pl.upd S.t i true })) := fun q r => Pl.numR_ok e1 q r
    clear ha e1
    generalize Pl.valN s.data.toList = n at *
    have HS : Hid (∀ w', Below w.heap.size w w' → Sta L S vR vW w') := fun w' hb => h.below hb
    clear h
    by_cases hm : Pl.mostN i < n
    · have HE : Hid (Pl.numR S i s.data.toList = (3, S)) := HM.out hm
      have d1 : decide ((Pl.mostN i : Int) < (n : Int)) = true := decide_eq_true (by omega)
      have hm' : (Pl.mostN i : Int) < (n : Int) := by omega
      go_enter Tryz.func93, Tryz.ntmps93
      go_wp2_with fail
      refine HN.mono ?_
      rintro e w1 ⟨rfl, rfl⟩
      go_wp2_with fail
      refine HA.mono ?_
      rintro e w2 ⟨rfl, hb⟩
      have HS2 : Hid (Sta L S vR vW w2) := HS.out w2 hb
      obtain ⟨q1, q2⟩ := HS2.out.qc i hi
      generalize Pl.mostN i = most at *
      go_wp2_with fail
      go_ret
      rw [HE.out]
      exact ⟨rfl, HS2.out, Tu.of_below hb⟩
    have d1 : decide ((Pl.mostN i : Int) < (n : Int)) = false := decide_eq_false (by omega)
    have hm' : ¬ (Pl.mostN i : Int) < (n : Int) := by omega
    cases e2 : S.t i
    · have HE : Hid (Pl.numR S i s.data.toList = (0, { S with q := Pl.upd S.q i n, t := Pl.upd S.t i true })) := HO.out hm e2
      go_enter Tryz.func93, Tryz.ntmps93
      go_wp2_with fail
      refine HN.mono ?_
      rintro e w1 ⟨rfl, rfl⟩
      go_wp2_with fail
      refine HA.mono ?_
      rintro e w2 ⟨rfl, hb⟩
      have HS2 : Hid (Sta L S vR vW w2) := HS.out w2 hb
      obtain ⟨q1, q2⟩ := HS2.out.qc i hi
      have q3 := HS2.out.tc i hi
      rw [e2] at q3
      have q4 := HS2.out.tf i hi
      have q5 := HS2.out.pc i hi
      have q6 := HS2.out.pf (2 + i)
      have n1 := HS2.out.bx.tp i hi
      have n2 := HS2.out.bx.qt i i hi hi
      have n3 := HS2.out.bx.qp i hi
      have HF : Hid (Sta L { S with q := Pl.upd S.q i n, t := Pl.upd S.t i true } vR vW ((w2.setCell ⟨L.tb i, 0, none⟩ (.bool true)).setCell ⟨L.pg, 2 + i, none⟩ (.int .i64 (n : Int))) ∧ Tu L.tch w2 ((w2.setCell ⟨L.tb i, 0, none⟩ (.bool true)).setCell ⟨L.pg, 2 + i, none⟩ (.int .i64 (n : Int)))) := HS2.out.num i hi n HV.out
      generalize Pl.mostN i = most at *
      generalize S.q i = was at *
      have HQ : Hid (L.qb i = L.qb i) := rfl
      generalize L.qb i = gq at *
      generalize L.tb i = gt at *
      generalize L.pg = gp at *
      go_wp2_with fail
      go_ret
      rw [HE.out]
      exact ⟨rfl, HF.out.1, (Tu.of_below hb).trans HF.out.2 (fun k _ e => e)⟩
    · have HE : Hid (Pl.numR S i s.data.toList = (4, S)) := HT.out hm e2
      go_enter Tryz.func93, Tryz.ntmps93
      go_wp2_with fail
      refine HN.mono ?_
      rintro e w1 ⟨rfl, rfl⟩
      go_wp2_with fail
      refine HA.mono ?_
      rintro e w2 ⟨rfl, hb⟩
      have HS2 : Hid (Sta L S vR vW w2) := HS.out w2 hb
      obtain ⟨q1, q2⟩ := HS2.out.qc i hi
      have q3 := HS2.out.tc i hi
      rw [e2] at q3
      generalize Pl.mostN i = most at *
      go_wp2_with fail
      go_ret
      rw [HE.out]
      exact ⟨rfl, HS2.out, Tu.of_below hb⟩
  · have HA := atoi_no s w T hs ha
    have HE : Hid (Pl.numR S i s.data.toList = (3, S)) := Pl.numR_most e1 (by omega)
    have HS : Hid (∀ w', Below w.heap.size w w' → Sta L S vR vW w') := fun w' hb => h.below hb
    clear h ha e1 hge
    go_enter Tryz.func93, Tryz.ntmps93
    go_wp2_with fail
    refine HN.mono ?_
    rintro e w1 ⟨rfl, rfl⟩
    go_wp2_with fail
    refine HA.mono ?_
    rintro e w2 ⟨nt, N, x, rfl, hb⟩
    go_wp2_with fail
    go_ret
    rw [HE.out]
    exact ⟨rfl, HS.out w2 hb, Tu.of_below hb⟩
end Go.Proofs.YtcloljkaojnipaaGreatDoor
namespace Go.Proofs.YtcloljkaojnipaaGreatDoor
open Go.RowKit

/-- How an element of a map reads: as it is. -/
def hR (v : Value) : Option (DataW Value × List MemPlace) := some (.held v, [])
/-- What a map holds, by its keys. -/
def mapF (F : List UInt8 → Option Value) (D : DataW Value) : Prop := ∀ (n : List UInt8) (z : DataW Value), D.atKey (.string n) z = ((F n).map DataW.held).getD z
theorem mapF_none : mapF (fun _ => none) (.map []) := fun _ _ => rfl
theorem mapF_put {F : List UInt8 → Option Value} {D : DataW Value} (h : mapF F D) (hD : Maps.IsMap D) (n : List UInt8) (v : Value) : mapF (fun k => if k = n then some v else F k) (D.put (.string n) (.held v)) := by
  intro k z
  by_cases e : k = n
  · subst e
    rw [Maps.atKey_put_same hD (show WideAt.IsKeyLit (.string k) from trivial)]
    simp
  · rw [Maps.atKey_put_other (fun x => e (by injection x)), h k z]
    simp [e]
theorem Tryz.keyStr : Maps.Keyed Tryz.prog 9 := Maps.Keyed.of_law (WideMaps.string_law Tryz.underlying9)
/-- A map of the call's own that holds what F says. -/
def MapIs (w : World) (m n : Nat) (F : List UInt8 → Option Value) : Prop := ∃ D, w.ownsMap Tryz.prog 9 hR m n D ∧ mapF F D
theorem MapIs.under {w w' : World} {m n : Nat} {F : List UInt8 → Option Value} (h : MapIs w m n F) (hb : w'.heap[m]? = w.heap[m]?) : MapIs w' m n F := by
  obtain ⟨D, ho, hD⟩ := h
  obtain ⟨es, clock, hb0, r⟩ := ho
  exact ⟨D, ⟨es, clock, hb.trans hb0, r⟩, hD⟩
theorem MapIs.lt {w : World} {m n : Nat} {F : List UInt8 → Option Value} (h : MapIs w m n F) : m < w.heap.size := by obtain ⟨D, ho, _⟩ := h; exact ho.lt
theorem MapIs.store {w : World} {m n : Nat} {F : List UInt8 → Option Value} (h : MapIs w m n F) (s : ByteArray) (v : Value) (hn : n < maxLen) (hs : s.size ≤ maxLen) :
    ∃ w', (Instr.mapUpdate 61 (.map (some m)) (.string s) v).run Tryz.prog w = .ok () w' ∧ MapIs w' m (n + 1) (fun k => if k = s.data.toList then some v else F k) ∧ w.mapTurned w' m := by
  obtain ⟨D, ho, hD⟩ := h
  obtain ⟨w', hrun, h1, h2⟩ := ho.store Tryz.keyStr Tryz.underlying61 hn (key := .string s) (val := v) (Go.WideMaps.keyOf_string_mk Tryz.underlying9 hs) (rfl : hR v = some (.held v, []))
  exact ⟨w', hrun, ⟨_, h1, mapF_put hD ho.isMap s.data.toList v⟩, h2⟩
theorem zero_reader (w : World) : (zeroValue 92).run Tryz.prog w = .ok .nilFunc w := by kernel_rfl
theorem MapIs.look {w : World} {m n : Nat} {F : List UInt8 → Option Value} (h : MapIs w m n F) (s : ByteArray) (hs : s.size ≤ maxLen) :
    (Instr.lookup 61 (.map (some m)) (.string s) true).run Tryz.prog w = .ok (.tuple #[(F s.data.toList).getD .nilFunc, .bool (F s.data.toList).isSome]) w := by
  obtain ⟨D, ho, hD⟩ := h
  obtain ⟨v, ps, hr, hv⟩ := ho.look_ok Tryz.keyStr Tryz.underlying61 (zero_reader w) (rfl : hR _ = some (.held _, [])) (Go.WideMaps.keyOf_string_mk Tryz.underlying9 hs)
  rw [hr]
  have hd := hD s.data.toList
  cases hc : F s.data.toList with
  | none =>
    rw [hc] at hd
    have e1 : v = .nilFunc := by
      rw [hd] at hv
      simp only [hR, Option.map_none, Option.getD_none, Option.some.injEq, Prod.mk.injEq, DataW.held.injEq] at hv
      exact hv.1
    have e2 : Maps.has D (.string s.data.toList) = false := Maps.has_false_of_atKey (fun z => by rw [hd]; rfl)
    rw [e1, e2]
    rfl
  | some e =>
    rw [hc] at hd
    have e1 : v = e := by
      rw [hd] at hv
      simp only [hR, Option.map_some, Option.getD_some, Option.some.injEq, Prod.mk.injEq, DataW.held.injEq] at hv
      exact hv.1
    have e2 : Maps.has D (.string s.data.toList) = true := Maps.has_true_of_atKey (y := .held e) (fun z => by rw [hd]; rfl)
    rw [e1, e2]
    rfl

set_option maxRecDepth 100000 in
theorem pathReader_any (g o : Nat) (w : World) :
    Calls Tryz.prog 73 #[.pointer (some ⟨g, o, none⟩)] w fun e w' => e = .returned (.func (.func 90) #[] #[.pointer (some ⟨w.heap.size, 0, none⟩)]) ∧ w' = w.alloc (.cells #[.pointer (some ⟨g, o, none⟩)] 94) := by
  go_enter Tryz.func73, Tryz.ntmps73
  go_wp2_with fail
  go_ret
  exact ⟨rfl, rfl⟩
set_option maxRecDepth 100000 in
theorem numberReader_any (s : ByteArray) (g o : Nat) (n : Int) (w : World) :
    Calls Tryz.prog 74 #[.agg #[.string s, .pointer (some ⟨g, o, none⟩), .int .i64 n]] w fun e w' => e = .returned (.func (.func 93) #[] #[.pointer (some ⟨w.heap.size, 0, none⟩), .pointer (some ⟨w.heap.size + 1, 0, none⟩)]) ∧
      w' = (w.alloc (.cells #[.string s, .pointer (some ⟨g, o, none⟩), .int .i64 n] 52)).alloc (.cells #[.bool false] 4) := by
  go_enter Tryz.func74, Tryz.ntmps74
  go_wp2_with fail
  go_ret
  exact ⟨rfl, rfl⟩
end Go.Proofs.YtcloljkaojnipaaGreatDoor
namespace Go.Proofs.YtcloljkaojnipaaGreatDoor
open Go.RowKit

abbrev pathV (g : Nat) : Value := .func (.func 90) #[] #[.pointer (some ⟨g, 0, none⟩)]
def readL : List UInt8 := [114, 101, 97, 100]
def writeL : List UInt8 := [119, 114, 105, 116, 101]
/-- What the map holds, by what has come up. -/
def rdG (listed : Array Bool) (a : Act) : List UInt8 → Option Value := fun k => if k = readL then (if listed.getD 5 false = true then some (a.eval (.tmp 10)) else none) else if k = writeL then (if listed.getD 10 false = true then some (a.eval (.tmp 14)) else none) else none
def rdT (pg : Nat) : List (Nat × Nat × Value) := [(1, 7, pt pg), (2, 8, pt pg), (3, 9, .pointer (some ⟨pg, 0, none⟩)), (6, 11, pt pg), (7, 12, pt pg), (8, 13, .pointer (some ⟨pg, 1, none⟩))]
def rdS : List Nat := [6, 7, 8, 9, 10, 11, 12, 13, 14, 15, 3]
def boxO (pg o : Nat) : Obj := .cells #[.pointer (some ⟨pg, o, none⟩)] 94 (0, 0)
structure RJ (N pg : Nat) (w0 : World) (a0 : Act) (listed : Array Bool) (a : Act) (w : World) : Prop where
  fr : Fr rdS a0 a
  sz : a.tmps.size = 28
  e0 : a.eval (.tmp 0) = pt pg
  bel : Below N w0 w
  hN : N ≤ w.heap.size
  sl : Slots (rdT pg) listed a
  lf : leftOf listed ≤ 13
  rb : up listed 4 → ∃ g, a.eval (.tmp 10) = pathV g ∧ N ≤ g ∧ w.heap[g]? = some (boxO pg 0)
  wb : up listed 9 → ∃ g, a.eval (.tmp 14) = pathV g ∧ N ≤ g ∧ w.heap[g]? = some (boxO pg 1)
  l5 : up listed 5 → up listed 0 ∧ up listed 4
  l10 : up listed 10 → up listed 0 ∧ up listed 9
  mp : up listed 0 → ∃ m n, a.eval (.tmp 6) = .map (some m) ∧ N ≤ m ∧ n + leftOf listed ≤ 13 ∧ MapIs w m n (rdG listed a)
  out : up listed 11 → up listed 0 ∧ a.eval (.tmp 15) = a.eval (.tmp 6)
  out2 : up listed 12 → up listed 0 ∧ a.eval (.tmp 3) = a.eval (.tmp 6)

section
variable {N pg : Nat} {w0 : World} {a0 : Act} {listed : Array Bool} {a : Act} {w : World}
theorem old_up {i : Nat} (hun : listed.getD i true = false) {j : Nat} (hj : j ≠ i) (hu : up (listed.setIfInBounds i true) j) : up listed j := ((up_step hun).1 hu).resolve_left hj
theorem new_up {i : Nat} (hun : listed.getD i true = false) {j : Nat} (hu : up listed j) : up (listed.setIfInBounds i true) j := (up_step hun).2 (.inr hu)
theorem old_get {i : Nat} {j : Nat} (hj : j ≠ i) : (listed.setIfInBounds i true).getD j false = listed.getD j false := getD_set_ne false (fun e => hj e.symm)
theorem mapIs_congr {w : World} {m n : Nat} {F F' : List UInt8 → Option Value} (h : MapIs w m n F) (e : ∀ k, F k = F' k) : MapIs w m n F' := by
  obtain ⟨D, h1, h2⟩ := h
  exact ⟨D, h1, fun k z => by rw [h2 k z, e k]⟩
theorem not_get {i : Nat} (hun : listed.getD i true = false) : listed.getD i false = false := by
  by_cases hlt : i < listed.size
  · simp [hlt] at hun ⊢; exact hun
  · simp [hlt] at hun
theorem rdS_lt : ∀ d ∈ rdS, d < 28 := by decide
theorem frames (h : RJ N pg w0 a0 listed a w) {d : Nat} (hd : d ∈ rdS) (v : Value) : Fr rdS a0 (a.put (some d) v) ∧ (a.put (some d) v).tmps.size = 28 ∧ (a.put (some d) v).eval (.tmp 0) = pt pg :=
  ⟨h.fr.put hd v, by simp [Act.put, h.sz], (eval_other v (fun e => by subst e; exact absurd hd (by decide))).trans h.e0⟩
/-- An operation that yields a value beside the map, the readers and the answer. -/
theorem RJ.step (h : RJ N pg w0 a0 listed a w) {i d : Nat} {v : Value} (hun : listed.getD i true = false) (hi : i ≠ 0 ∧ i ≠ 4 ∧ i ≠ 5 ∧ i ≠ 9 ∧ i ≠ 10 ∧ i ≠ 11 ∧ i ≠ 12) (hd : d ∈ rdS) (hd' : d ≠ 6 ∧ d ≠ 10 ∧ d ≠ 14 ∧ d ≠ 15 ∧ d ≠ 3)
    (hT : ∀ e ∈ rdT pg, (e.2.1 = d → e.2.2 = v) ∧ (e.1 = i → e.2.1 = d)) : RJ N pg w0 a0 (listed.setIfInBounds i true) (a.put (some d) v) w := by
  obtain ⟨f1, f2, f3⟩ := frames h hd v
  obtain ⟨i0, i4, i5, i9, i10, i11, i12⟩ := hi
  obtain ⟨d6, d10, d14, d15, d3⟩ := hd'
  have hl := leftOf_set hun
  have hlt : d < a.tmps.size := by rw [h.sz]; exact rdS_lt d hd
  refine ⟨f1, f2, f3, h.bel, h.hN, h.sl.some hun hlt hT, by have := h.lf; omega, fun hu => ?_, fun hu => ?_, fun hu => ?_, fun hu => ?_, fun hu => ?_, fun hu => ?_, fun hu => ?_⟩
  · obtain ⟨g, h1, h2⟩ := h.rb (old_up hun (fun e => i4 e.symm) hu)
    exact ⟨g, (eval_other v d10).trans h1, h2⟩
  · obtain ⟨g, h1, h2⟩ := h.wb (old_up hun (fun e => i9 e.symm) hu)
    exact ⟨g, (eval_other v d14).trans h1, h2⟩
  · obtain ⟨h1, h2⟩ := h.l5 (old_up hun (fun e => i5 e.symm) hu)
    exact ⟨new_up hun h1, new_up hun h2⟩
  · obtain ⟨h1, h2⟩ := h.l10 (old_up hun (fun e => i10 e.symm) hu)
    exact ⟨new_up hun h1, new_up hun h2⟩
  · obtain ⟨m, n, h1, h2, h3, h4⟩ := h.mp (old_up hun (fun e => i0 e.symm) hu)
    refine ⟨m, n, (eval_other v d6).trans h1, h2, by omega, mapIs_congr h4 (fun k => ?_)⟩
    unfold rdG
    rw [old_get (fun e => i5 e.symm), old_get (fun e => i10 e.symm), eval_other v d10, eval_other v d14]
  · obtain ⟨h1, h2⟩ := h.out (old_up hun (fun e => i11 e.symm) hu)
    exact ⟨new_up hun h1, by rw [eval_other v d15, eval_other v d6]; exact h2⟩
  · obtain ⟨h1, h2⟩ := h.out2 (old_up hun (fun e => i12 e.symm) hu)
    exact ⟨new_up hun h1, by rw [eval_other v d3, eval_other v d6]; exact h2⟩
theorem RJ.made (h : RJ N pg w0 a0 listed a w) (hun : listed.getD 0 true = false) : RJ N pg w0 a0 (listed.setIfInBounds 0 true) (a.put (some 6) (.map (some w.heap.size))) (w.alloc (.map #[] 0)) := by
  obtain ⟨f1, f2, f3⟩ := frames h (d := 6) (by decide) (.map (some w.heap.size))
  have hl := leftOf_set hun
  have hlt : 6 < a.tmps.size := by rw [h.sz]; decide
  have hb : Below w.heap.size w (w.alloc (.map #[] 0)) := (Below.refl _ w).alloc (Nat.le_refl _) _
  have n5 : listed.getD 5 false = false := by
    cases q : listed.getD 5 false
    · rfl
    · exact absurd (h.l5 q).1 (not_up hun)
  have n10 : listed.getD 10 false = false := by
    cases q : listed.getD 10 false
    · rfl
    · exact absurd (h.l10 q).1 (not_up hun)
  refine ⟨f1, f2, f3, h.bel.alloc h.hN _, Nat.le_trans h.hN hb.size, h.sl.some hun hlt (by simp [rdT]), by have := h.lf; omega, fun hu => ?_, fun hu => ?_, fun hu => ?_, fun hu => ?_, fun hu => ?_, fun hu => ?_, fun hu => ?_⟩
  · obtain ⟨g, h1, h2, h3⟩ := h.rb (old_up hun (by decide) hu)
    exact ⟨g, (eval_other _ (by decide)).trans h1, h2, (hb.block g (lt_of_block h3)).trans h3⟩
  · obtain ⟨g, h1, h2, h3⟩ := h.wb (old_up hun (by decide) hu)
    exact ⟨g, (eval_other _ (by decide)).trans h1, h2, (hb.block g (lt_of_block h3)).trans h3⟩
  · exact absurd (h.l5 (old_up hun (by decide) hu)).1 (not_up hun)
  · exact absurd (h.l10 (old_up hun (by decide) hu)).1 (not_up hun)
  · refine ⟨w.heap.size, 0, eval_same _ hlt, h.hN, by have := h.lf; omega, ?_⟩
    refine mapIs_congr (F := fun _ => none) ⟨.map [], World.ownsMap_made w _ _ _, mapF_none⟩ (fun k => ?_)
    unfold rdG
    rw [old_get (by decide), old_get (by decide), n5, n10]
    simp
  · exact absurd (h.out (old_up hun (by decide) hu)).1 (not_up hun)
  · exact absurd (h.out2 (old_up hun (by decide) hu)).1 (not_up hun)
theorem RJ.call4 (h : RJ N pg w0 a0 listed a w) (hun : listed.getD 4 true = false) : RJ N pg w0 a0 (listed.setIfInBounds 4 true) (a.put (some 10) (pathV w.heap.size)) (w.alloc (.cells #[.pointer (some ⟨pg, 0, none⟩)] 94)) := by
  obtain ⟨f1, f2, f3⟩ := frames h (d := 10) (by decide) (pathV w.heap.size)
  have hl := leftOf_set hun
  have hlt : 10 < a.tmps.size := by rw [h.sz]; decide
  have hb : Below w.heap.size w (w.alloc (.cells #[.pointer (some ⟨pg, 0, none⟩)] 94)) := (Below.refl _ w).alloc (Nat.le_refl _) _
  have nn : listed.getD 5 false = false := by
    cases q : listed.getD 5 false
    · rfl
    · exact absurd (h.l5 q).2 (not_up hun)
  refine ⟨f1, f2, f3, h.bel.alloc h.hN _, Nat.le_trans h.hN hb.size, h.sl.some hun hlt (by simp [rdT]), by have := h.lf; omega, fun hu => ?_, fun hu => ?_, fun hu => ?_, fun hu => ?_, fun hu => ?_, fun hu => ?_, fun hu => ?_⟩
  · refine ⟨w.heap.size, eval_same _ hlt, h.hN, heap_alloc_new w _⟩
  · obtain ⟨g, h1, h2, h3⟩ := h.wb (old_up hun (by decide) hu)
    exact ⟨g, (eval_other _ (by decide)).trans h1, h2, (hb.block g (lt_of_block h3)).trans h3⟩
  · obtain ⟨h1, h2⟩ := h.l5 (old_up hun (by decide) hu)
    exact ⟨new_up hun h1, new_up hun h2⟩
  · obtain ⟨h1, h2⟩ := h.l10 (old_up hun (by decide) hu)
    exact ⟨new_up hun h1, new_up hun h2⟩
  · obtain ⟨m, n, h1, h2, h3, h4⟩ := h.mp (old_up hun (by decide) hu)
    refine ⟨m, n, (eval_other _ (by decide)).trans h1, h2, by omega, mapIs_congr (h4.under (hb.block m h4.lt)) (fun k => ?_)⟩
    unfold rdG
    rw [old_get (show (5 : Nat) ≠ 4 by decide), old_get (show (10 : Nat) ≠ 4 by decide)]
    rw [nn, eval_other _ (show (10 : Nat) ≠ 14 by decide)]
    simp
  · obtain ⟨h1, h2⟩ := h.out (old_up hun (by decide) hu)
    exact ⟨new_up hun h1, by rw [eval_other _ (by decide), eval_other _ (by decide)]; exact h2⟩
  · obtain ⟨h1, h2⟩ := h.out2 (old_up hun (by decide) hu)
    exact ⟨new_up hun h1, by rw [eval_other _ (by decide), eval_other _ (by decide)]; exact h2⟩
theorem RJ.call9 (h : RJ N pg w0 a0 listed a w) (hun : listed.getD 9 true = false) : RJ N pg w0 a0 (listed.setIfInBounds 9 true) (a.put (some 14) (pathV w.heap.size)) (w.alloc (.cells #[.pointer (some ⟨pg, 1, none⟩)] 94)) := by
  obtain ⟨f1, f2, f3⟩ := frames h (d := 14) (by decide) (pathV w.heap.size)
  have hl := leftOf_set hun
  have hlt : 14 < a.tmps.size := by rw [h.sz]; decide
  have hb : Below w.heap.size w (w.alloc (.cells #[.pointer (some ⟨pg, 1, none⟩)] 94)) := (Below.refl _ w).alloc (Nat.le_refl _) _
  have nn : listed.getD 10 false = false := by
    cases q : listed.getD 10 false
    · rfl
    · exact absurd (h.l10 q).2 (not_up hun)
  refine ⟨f1, f2, f3, h.bel.alloc h.hN _, Nat.le_trans h.hN hb.size, h.sl.some hun hlt (by simp [rdT]), by have := h.lf; omega, fun hu => ?_, fun hu => ?_, fun hu => ?_, fun hu => ?_, fun hu => ?_, fun hu => ?_, fun hu => ?_⟩
  · obtain ⟨g, h1, h2, h3⟩ := h.rb (old_up hun (by decide) hu)
    exact ⟨g, (eval_other _ (by decide)).trans h1, h2, (hb.block g (lt_of_block h3)).trans h3⟩
  · refine ⟨w.heap.size, eval_same _ hlt, h.hN, heap_alloc_new w _⟩
  · obtain ⟨h1, h2⟩ := h.l5 (old_up hun (by decide) hu)
    exact ⟨new_up hun h1, new_up hun h2⟩
  · obtain ⟨h1, h2⟩ := h.l10 (old_up hun (by decide) hu)
    exact ⟨new_up hun h1, new_up hun h2⟩
  · obtain ⟨m, n, h1, h2, h3, h4⟩ := h.mp (old_up hun (by decide) hu)
    refine ⟨m, n, (eval_other _ (by decide)).trans h1, h2, by omega, mapIs_congr (h4.under (hb.block m h4.lt)) (fun k => ?_)⟩
    unfold rdG
    rw [old_get (show (5 : Nat) ≠ 9 by decide), old_get (show (10 : Nat) ≠ 9 by decide)]
    rw [nn, eval_other _ (show (14 : Nat) ≠ 10 by decide)]
    simp
  · obtain ⟨h1, h2⟩ := h.out (old_up hun (by decide) hu)
    exact ⟨new_up hun h1, by rw [eval_other _ (by decide), eval_other _ (by decide)]; exact h2⟩
  · obtain ⟨h1, h2⟩ := h.out2 (old_up hun (by decide) hu)
    exact ⟨new_up hun h1, by rw [eval_other _ (by decide), eval_other _ (by decide)]; exact h2⟩
theorem RJ.ins5 (h : RJ N pg w0 a0 listed a w) (hun : listed.getD 5 true = false) (L0 : up listed 0) (L4 : up listed 4) {m n : Nat} {w' : World} (h1 : a.eval (.tmp 6) = .map (some m)) (h2 : N ≤ m) (h3 : n + leftOf listed ≤ 13) (h4 : MapIs w m n (rdG listed a)) (h5 : MapIs w' m (n + 1) (fun k => if k = readL then some (a.eval (.tmp 10)) else rdG listed a k)) (ht : w.mapTurned w' m) (v : Value) :
    RJ N pg w0 a0 (listed.setIfInBounds 5 true) (a.put none v) w' := by
  have hl := leftOf_set hun
  have hbl : ∀ g, g < w.heap.size → g ≠ m → w'.heap[g]? = w.heap[g]? := fun g hg hne => ht.grown.block g hg (fun e => hne (Option.some.inj e))
  obtain ⟨D4, h4a, _⟩ := h4
  obtain ⟨es, ck, hm, _⟩ := h4a
  have hnb : ∀ g o, w.heap[g]? = some (boxO pg o) → g ≠ m := fun g o hg e => by
    subst e
    rw [hg] at hm
    cases hm
  have hbel : Below N w0 w' := h.bel.grown ht.grown h.hN (fun g hg => by cases hg; exact h2)
  refine ⟨h.fr, h.sz, h.e0, hbel, Nat.le_trans h.hN ht.grown.size, h.sl.none hun (by simp [rdT]), by have := h.lf; omega, fun hu => ?_, fun hu => ?_, fun hu => ?_, fun hu => ?_, fun hu => ?_, fun hu => ?_, fun hu => ?_⟩
  · obtain ⟨g, k1, k2, k3⟩ := h.rb (old_up hun (by decide) hu)
    exact ⟨g, k1, k2, (hbl g (lt_of_block k3) (hnb g 0 k3)).trans k3⟩
  · obtain ⟨g, k1, k2, k3⟩ := h.wb (old_up hun (by decide) hu)
    exact ⟨g, k1, k2, (hbl g (lt_of_block k3) (hnb g 1 k3)).trans k3⟩
  · exact ⟨new_up hun L0, new_up hun L4⟩
  · obtain ⟨k1, k2⟩ := h.l10 (old_up hun (by decide) hu)
    exact ⟨new_up hun k1, new_up hun k2⟩
  · refine ⟨m, n + 1, h1, h2, by omega, mapIs_congr h5 (fun k => ?_)⟩
    have g1 : (listed.setIfInBounds 5 true).getD 5 false = true := (up_step hun).2 (.inl rfl)
    unfold rdG
    rw [g1, old_get (show (10 : Nat) ≠ 5 by decide)]
    show (if k = readL then some (a.eval (.tmp 10)) else _) = (if k = readL then _ else _)
    unfold readL writeL
    split <;> rename_i e1
    · subst e1
      simp [Act.put, Act.eval]
    · simp [Act.put, Act.eval]
  · obtain ⟨k1, k2⟩ := h.out (old_up hun (by decide) hu)
    exact ⟨new_up hun k1, k2⟩
  · obtain ⟨k1, k2⟩ := h.out2 (old_up hun (by decide) hu)
    exact ⟨new_up hun k1, k2⟩
theorem RJ.ins10 (h : RJ N pg w0 a0 listed a w) (hun : listed.getD 10 true = false) (L0 : up listed 0) (L4 : up listed 9) {m n : Nat} {w' : World} (h1 : a.eval (.tmp 6) = .map (some m)) (h2 : N ≤ m) (h3 : n + leftOf listed ≤ 13) (h4 : MapIs w m n (rdG listed a)) (h5 : MapIs w' m (n + 1) (fun k => if k = writeL then some (a.eval (.tmp 14)) else rdG listed a k)) (ht : w.mapTurned w' m) (v : Value) :
    RJ N pg w0 a0 (listed.setIfInBounds 10 true) (a.put none v) w' := by
  have hl := leftOf_set hun
  have hbl : ∀ g, g < w.heap.size → g ≠ m → w'.heap[g]? = w.heap[g]? := fun g hg hne => ht.grown.block g hg (fun e => hne (Option.some.inj e))
  obtain ⟨D4, h4a, _⟩ := h4
  obtain ⟨es, ck, hm, _⟩ := h4a
  have hnb : ∀ g o, w.heap[g]? = some (boxO pg o) → g ≠ m := fun g o hg e => by
    subst e
    rw [hg] at hm
    cases hm
  have hbel : Below N w0 w' := h.bel.grown ht.grown h.hN (fun g hg => by cases hg; exact h2)
  refine ⟨h.fr, h.sz, h.e0, hbel, Nat.le_trans h.hN ht.grown.size, h.sl.none hun (by simp [rdT]), by have := h.lf; omega, fun hu => ?_, fun hu => ?_, fun hu => ?_, fun hu => ?_, fun hu => ?_, fun hu => ?_, fun hu => ?_⟩
  · obtain ⟨g, k1, k2, k3⟩ := h.rb (old_up hun (by decide) hu)
    exact ⟨g, k1, k2, (hbl g (lt_of_block k3) (hnb g 0 k3)).trans k3⟩
  · obtain ⟨g, k1, k2, k3⟩ := h.wb (old_up hun (by decide) hu)
    exact ⟨g, k1, k2, (hbl g (lt_of_block k3) (hnb g 1 k3)).trans k3⟩
  · obtain ⟨k1, k2⟩ := h.l5 (old_up hun (by decide) hu)
    exact ⟨new_up hun k1, new_up hun k2⟩
  · exact ⟨new_up hun L0, new_up hun L4⟩
  · refine ⟨m, n + 1, h1, h2, by omega, mapIs_congr h5 (fun k => ?_)⟩
    have g1 : (listed.setIfInBounds 10 true).getD 10 false = true := (up_step hun).2 (.inl rfl)
    unfold rdG
    rw [g1, old_get (show (5 : Nat) ≠ 10 by decide)]
    show (if k = writeL then some (a.eval (.tmp 14)) else _) = (if k = readL then _ else _)
    unfold readL writeL
    split <;> rename_i e1
    · subst e1
      simp [Act.put, Act.eval]
    · simp [Act.put, Act.eval]
  · obtain ⟨k1, k2⟩ := h.out (old_up hun (by decide) hu)
    exact ⟨new_up hun k1, k2⟩
  · obtain ⟨k1, k2⟩ := h.out2 (old_up hun (by decide) hu)
    exact ⟨new_up hun k1, k2⟩
theorem RJ.mv11 (h : RJ N pg w0 a0 listed a w) (hun : listed.getD 11 true = false) (L0 : up listed 0) {v : Value} (hv : v = a.eval (.tmp 6)) : RJ N pg w0 a0 (listed.setIfInBounds 11 true) (a.put (some 15) v) w := by
  obtain ⟨f1, f2, f3⟩ := frames h (d := 15) (by decide) v
  have hl := leftOf_set hun
  have hlt : 15 < a.tmps.size := by rw [h.sz]; decide
  refine ⟨f1, f2, f3, h.bel, h.hN, h.sl.some hun hlt (by simp [rdT]), by have := h.lf; omega, fun hu => ?_, fun hu => ?_, fun hu => ?_, fun hu => ?_, fun hu => ?_, fun hu => ?_, fun hu => ?_⟩
  · obtain ⟨g, h1, h2⟩ := h.rb (old_up hun (by decide) hu)
    exact ⟨g, (eval_other v (by decide)).trans h1, h2⟩
  · obtain ⟨g, h1, h2⟩ := h.wb (old_up hun (by decide) hu)
    exact ⟨g, (eval_other v (by decide)).trans h1, h2⟩
  · obtain ⟨h1, h2⟩ := h.l5 (old_up hun (by decide) hu)
    exact ⟨new_up hun h1, new_up hun h2⟩
  · obtain ⟨h1, h2⟩ := h.l10 (old_up hun (by decide) hu)
    exact ⟨new_up hun h1, new_up hun h2⟩
  · obtain ⟨m, n, h1, h2, h3, h4⟩ := h.mp (old_up hun (by decide) hu)
    refine ⟨m, n, (eval_other v (by decide)).trans h1, h2, by omega, mapIs_congr h4 (fun k => ?_)⟩
    unfold rdG
    rw [old_get (by decide), old_get (by decide), eval_other v (by decide), eval_other v (by decide)]
  · exact ⟨new_up hun L0, by rw [eval_same v hlt, eval_other v (by decide)]; exact hv⟩
  · obtain ⟨h1, h2⟩ := h.out2 (old_up hun (by decide) hu)
    exact ⟨new_up hun h1, by rw [eval_other v (by decide), eval_other v (by decide)]; exact h2⟩
theorem RJ.mv12 (h : RJ N pg w0 a0 listed a w) (hun : listed.getD 12 true = false) (L0 : up listed 0) {v : Value} (hv : v = a.eval (.tmp 6)) : RJ N pg w0 a0 (listed.setIfInBounds 12 true) (a.put (some 3) v) w := by
  obtain ⟨f1, f2, f3⟩ := frames h (d := 3) (by decide) v
  have hl := leftOf_set hun
  have hlt : 3 < a.tmps.size := by rw [h.sz]; decide
  refine ⟨f1, f2, f3, h.bel, h.hN, h.sl.some hun hlt (by simp [rdT]), by have := h.lf; omega, fun hu => ?_, fun hu => ?_, fun hu => ?_, fun hu => ?_, fun hu => ?_, fun hu => ?_, fun hu => ?_⟩
  · obtain ⟨g, h1, h2⟩ := h.rb (old_up hun (by decide) hu)
    exact ⟨g, (eval_other v (by decide)).trans h1, h2⟩
  · obtain ⟨g, h1, h2⟩ := h.wb (old_up hun (by decide) hu)
    exact ⟨g, (eval_other v (by decide)).trans h1, h2⟩
  · obtain ⟨h1, h2⟩ := h.l5 (old_up hun (by decide) hu)
    exact ⟨new_up hun h1, new_up hun h2⟩
  · obtain ⟨h1, h2⟩ := h.l10 (old_up hun (by decide) hu)
    exact ⟨new_up hun h1, new_up hun h2⟩
  · obtain ⟨m, n, h1, h2, h3, h4⟩ := h.mp (old_up hun (by decide) hu)
    refine ⟨m, n, (eval_other v (by decide)).trans h1, h2, by omega, mapIs_congr h4 (fun k => ?_)⟩
    unfold rdG
    rw [old_get (by decide), old_get (by decide), eval_other v (by decide), eval_other v (by decide)]
  · obtain ⟨h1, h2⟩ := h.out (old_up hun (by decide) hu)
    exact ⟨new_up hun h1, by rw [eval_other v (by decide), eval_other v (by decide)]; exact h2⟩
  · exact ⟨new_up hun L0, by rw [eval_same v hlt, eval_other v (by decide)]; exact hv⟩
end
end Go.Proofs.YtcloljkaojnipaaGreatDoor
namespace Go.Proofs.YtcloljkaojnipaaGreatDoor
open Go.RowKit

abbrev numV (q t : Nat) : Value := .func (.func 93) #[] #[.pointer (some ⟨q, 0, none⟩), .pointer (some ⟨t, 0, none⟩)]
/-- The readers by their words: those of the paths, and of the first so many numbers. -/
def rdK (bR bW : Nat) (qb tb : Nat → Nat) : Nat → List UInt8 → Option Value
  | 0, k => if k = readL then some (pathV bR) else if k = writeL then some (pathV bW) else none
  | i + 1, k => if k = Pl.wordL i then some (numV (qb i) (tb i)) else rdK bR bW qb tb i k
theorem rdK_congr {bR bW : Nat} {qb tb qb' tb' : Nat → Nat} : ∀ (n : Nat), (∀ i, i < n → qb i = qb' i ∧ tb i = tb' i) → ∀ k, rdK bR bW qb tb n k = rdK bR bW qb' tb' n k
  | 0, _, k => rfl
  | n + 1, h, k => by
    rw [rdK, rdK, (h n (by omega)).1, (h n (by omega)).2, rdK_congr n (fun i hi => h i (by omega)) k]
def quoO (pg i : Nat) : Obj := .cells #[.string ⟨(Pl.wordL i).toArray⟩, .pointer (some ⟨pg, 2 + i, none⟩), .int .i64 (Pl.mostN i : Nat)] 52 (0, 0)
structure RL (N pg m bR bW k n : Nat) (qb tb : Nat → Nat) (w0 w : World) : Prop where
  mp : MapIs w m n (rdK bR bW qb tb k)
  mN : N ≤ m
  nb : n ≤ 13 + k
  r : w.heap[bR]? = some (boxO pg 0)
  s : w.heap[bW]? = some (boxO pg 1)
  rN : N ≤ bR
  sN : N ≤ bW
  q : ∀ i, i < k → w.heap[qb i]? = some (quoO pg i)
  t : ∀ i, i < k → w.heap[tb i]? = some (.cells #[.bool false] 4 (0, 0))
  qN : ∀ i, i < k → N ≤ qb i
  tN : ∀ i, i < k → N ≤ tb i
  tt : ∀ i j, i < k → j < k → i ≠ j → tb i ≠ tb j
  bel : Below N w0 w
  hN : N ≤ w.heap.size
theorem map_ne {w : World} {m n g : Nat} {F : List UInt8 → Option Value} {cs : Array Value} {t : TypeId} {fr : Nat × Nat} (h : MapIs w m n F) (hg : w.heap[g]? = some (.cells cs t fr)) : g ≠ m := fun e => by
  subst e
  obtain ⟨D, ho, _⟩ := h
  obtain ⟨es, ck, hm, _⟩ := ho
  rw [hg] at hm
  cases hm
theorem RL.next {N pg m bR bW k n : Nat} {qb tb : Nat → Nat} {w0 w W w5 : World} (h : RL N pg m bR bW k n qb tb w0 w) (hW : Below w.heap.size w W) (g : Nat) (hg : W.heap.size = g) (hk : k < 4)
    (h5 : w5 = (W.alloc (.cells #[.string ⟨(Pl.wordL k).toArray⟩, .pointer (some ⟨pg, 2 + k, none⟩), .int .i64 (Pl.mostN k : Nat)] 52)).alloc (.cells #[.bool false] 4)) :
    ∃ w3 qb' tb', (Instr.mapUpdate 61 (.map (some m)) (.string ⟨(Pl.wordL k).toArray⟩) (numV g (g + 1))).run Tryz.prog w5 = .ok () w3 ∧ RL N pg m bR bW (k + 1) (n + 1) qb' tb' w0 w3 := by
  have hb5 : Below w.heap.size w w5 := by rw [h5]; exact (hW.alloc hW.size _).alloc (Nat.le_trans hW.size (by simp)) _
  have q5 : w5.heap[g]? = some (quoO pg k) := by
    rw [h5, heap_alloc_old _ _ (by simp [hg]), ← hg]; exact heap_alloc_new W _
  have t5 : w5.heap[g + 1]? = some (.cells #[.bool false] 4 (0, 0)) := by
    rw [h5, show g + 1 = (W.alloc (.cells #[.string ⟨(Pl.wordL k).toArray⟩, .pointer (some ⟨pg, 2 + k, none⟩), .int .i64 (Pl.mostN k : Nat)] 52)).heap.size from by simp [hg]]; exact heap_alloc_new _ _
  have hgw : w.heap.size ≤ g := by rw [← hg]; exact hW.size
  have m5 : MapIs w5 m n (rdK bR bW qb tb k) := h.mp.under (hb5.block m h.mp.lt)
  obtain ⟨w3, hrun, hm3, ht3⟩ := m5.store ⟨(Pl.wordL k).toArray⟩ (numV g (g + 1)) (by unfold maxLen; have := h.nb; omega) (by
    have : ∀ j, j < 4 → (Pl.wordL j).length ≤ 10 := by decide
    have := this k hk
    have e : (ByteArray.mk (Pl.wordL k).toArray).size = (Pl.wordL k).length := by rw [← Ln.szL]
    unfold maxLen
    omega)
  have hbl : ∀ (b : Nat) (cs : Array Value) (t : TypeId) (fr : Nat × Nat), w5.heap[b]? = some (Obj.cells cs t fr) → w3.heap[b]? = some (Obj.cells cs t fr) := fun b cs t fr hb => by
    rw [ht3.grown.block b (lt_of_block hb) (fun e => map_ne m5 hb (Option.some.inj e))]; exact hb
  have hold : ∀ (b : Nat) (cs : Array Value) (t : TypeId) (fr : Nat × Nat), w.heap[b]? = some (Obj.cells cs t fr) → w3.heap[b]? = some (Obj.cells cs t fr) := fun b cs t fr hb => hbl b cs t fr (by rw [hb5.block b (lt_of_block hb)]; exact hb)
  have hlt : ∀ i, i < k → tb i < g := fun i hi => by have := lt_of_block (h.t i hi); omega
  refine ⟨w3, Pl.upd qb k g, Pl.upd tb k (g + 1), hrun, ⟨mapIs_congr hm3 (fun key => ?_), h.mN, by have := h.nb; omega, hold _ _ _ _ h.r, hold _ _ _ _ h.s, h.rN, h.sN, fun i hi => ?_, fun i hi => ?_, fun i hi => ?_, fun i hi => ?_, fun i j hi hj hne => ?_, ?_, ?_⟩⟩
  · show (if key = Pl.wordL k then some (numV g (g + 1)) else rdK bR bW qb tb k key) = rdK bR bW (Pl.upd qb k g) (Pl.upd tb k (g + 1)) (k + 1) key
    rw [rdK, show Pl.upd qb k g k = g from by simp [Pl.upd], show Pl.upd tb k (g + 1) k = g + 1 from by simp [Pl.upd], rdK_congr k (fun i hi => ⟨show qb i = Pl.upd qb k g i by simp [Pl.upd]; intro e; omega, show tb i = Pl.upd tb k (g + 1) i by simp [Pl.upd]; intro e; omega⟩) key]
  · by_cases e : i = k
    · subst e; rw [show Pl.upd qb i g i = g from by simp [Pl.upd]]; exact hbl _ _ _ _ q5
    · rw [show Pl.upd qb k g i = qb i from by simp [Pl.upd, e]]; exact hold _ _ _ _ (h.q i (by omega))
  · by_cases e : i = k
    · subst e; rw [show Pl.upd tb i (g + 1) i = g + 1 from by simp [Pl.upd]]; exact hbl _ _ _ _ t5
    · rw [show Pl.upd tb k (g + 1) i = tb i from by simp [Pl.upd, e]]; exact hold _ _ _ _ (h.t i (by omega))
  · have := h.hN
    by_cases e : i = k
    · subst e; rw [show Pl.upd qb i g i = g from by simp [Pl.upd]]; omega
    · rw [show Pl.upd qb k g i = qb i from by simp [Pl.upd, e]]; exact h.qN i (by omega)
  · have := h.hN
    by_cases e : i = k
    · subst e; rw [show Pl.upd tb i (g + 1) i = g + 1 from by simp [Pl.upd]]; omega
    · rw [show Pl.upd tb k (g + 1) i = tb i from by simp [Pl.upd, e]]; exact h.tN i (by omega)
  · by_cases e : i = k
    · subst e
      have hj' : j ≠ i := fun q => hne q.symm
      have := hlt j (by omega)
      rw [show Pl.upd tb i (g + 1) i = g + 1 from by simp [Pl.upd], show Pl.upd tb i (g + 1) j = tb j from by simp [Pl.upd, hj']]; omega
    · by_cases e2 : j = k
      · subst e2
        have := hlt i (by omega)
        rw [show Pl.upd tb j (g + 1) j = g + 1 from by simp [Pl.upd], show Pl.upd tb j (g + 1) i = tb i from by simp [Pl.upd, e]]; omega
      · rw [show Pl.upd tb k (g + 1) i = tb i from by simp [Pl.upd, e], show Pl.upd tb k (g + 1) j = tb j from by simp [Pl.upd, e2]]
        exact h.tt i j (by omega) (by omega) hne
  · have hN := h.hN
    exact (h.bel.trans (hb5.mono hN)).grown ht3.grown (Nat.le_trans hN hb5.size) (fun b hb => by cases hb; exact h.mN)
  · exact Nat.le_trans h.hN (Nat.le_trans hb5.size ht3.grown.size)
end Go.Proofs.YtcloljkaojnipaaGreatDoor
