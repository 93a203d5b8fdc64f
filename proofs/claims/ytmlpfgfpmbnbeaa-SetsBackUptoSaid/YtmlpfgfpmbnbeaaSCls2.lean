/- What sets.classes answers, whatever order its region draws. -/
import Derived.Test.YtmlpfgfpmbnbeaaSCls
namespace Go.Proofs.Ytmlpfgfpmbnbeaa
open Go.RowKit

theorem run_insert {ev : Operand → Value} {w : World} {d : Option Tmp} {x k y : Operand} {t : TypeId} {pos : String} {af : Array Edge} {m n : Nat} {D : DataW Value} {s : ByteArray} {v : Value}
    (hx : ev x = .map (some m)) (hk : ev k = .string s) (hy : ev y = v) (hown : w.ownsMap Try.prog 9 hR m n D) (hn : n < maxLen) (hs : s.size ≤ maxLen) :
    ∃ w', (execOp ev ⟨d, .insert 47 x k y, t, pos, af, none⟩).run Try.prog w = .ok .skip w' ∧ w'.ownsMap Try.prog 9 hR m (n + 1) (D.put (.string s.data.toList) (.held v)) ∧ w.mapTurned w' m := by
  obtain ⟨w', hrun, ho, ht⟩ := hown.store Try.keyStr Try.underlying47 hn (key := .string s) (val := v) (Go.WideMaps.keyOf_string_mk Try.underlying9 hs) (rfl : hR v = some (.held v, []))
  refine ⟨w', ?_, ho, ht⟩
  simp [execOp, hx, hk, hy, hrun, Result.andThen]
theorem run_makeMap' {ev : Operand → Value} {w : World} {d : Option Tmp} {t : TypeId} {pos : String} {af : Array Edge} :
    (execOp ev ⟨d, .makeMap 47 none, t, pos, af, none⟩).run Try.prog w = .ok (.value (.map (some w.heap.size))) (w.alloc (.map #[] 0)) := by
  simp [execOp, run_makeMap, Result.andThen]
theorem run_pair {a : Act} {w : World} {d : Option Tmp} {t : TypeId} {pos : String} {af : Array Edge} :
    (execOp a.eval ⟨d, .buildSlice 22 2 #[(0, .const (.int .u8 32)), (1, .const (.int .u8 9))], t, pos, af, none⟩).run Try.prog w = .ok (.value (.slice (some ⟨w.heap.size, 0, none⟩) 2 2)) (w.alloc (.cells #[.int .u8 32, .int .u8 9] 5)) := by
  go_simp
theorem run_mark {ev : Operand → Value} {w : World} {d : Option Tmp} {x : Operand} {t : TypeId} {pos : String} {af : Array Edge} {g n c : Nat} {C : Array Value} {fr : Nat × Nat}
    (hx : ev x = .slice (some ⟨g, 0, none⟩) n c) (hg : w.heap[g]? = some (.cells C 5 fr)) :
    (execOp ev ⟨d, .convert 22 22 x, t, pos, af, none⟩).run Try.prog w = .ok (.value (.slice (some ⟨g, 0, none⟩) n c)) (w.freeze ⟨g, C.size, none⟩ 1) := by
  have hsh : w.shape? g = some (5, C.size) := by unfold World.shape?; rw [hg]
  simp [execOp, hx, convert, run_underlying Try.underlying22, run_underlying Try.underlying5, markStringish, hsh, Result.andThen]
theorem freeze_size (w : World) (a : Addr) (n : Nat) : (w.freeze a n).heap.size = w.heap.size := by
  unfold World.freeze
  split
  · rfl
  · simp
theorem freeze_other (w : World) (a : Addr) (n g : Nat) (h : a.block ≠ g) : (w.freeze a n).heap[g]? = w.heap[g]? := by
  unfold World.freeze
  split
  · rfl
  · simp only []
    rw [Array.getElem?_modify]
    simp [h]
theorem freeze_same (w : World) (g k : Nat) (C : Array Value) (e : TypeId) (fr : Nat × Nat) (h : w.heap[g]? = some (.cells C e fr)) : ∃ fr', (w.freeze ⟨g, k, none⟩ 1).heap[g]? = some (.cells C e fr') := by
  unfold World.freeze
  rw [if_neg (by decide)]
  simp only []
  rw [Array.getElem?_modify, if_pos rfl, h]
  obtain ⟨lo, hi⟩ := fr
  exact ⟨_, rfl⟩
theorem Below.freeze {N : Nat} {a w : World} (h : Below N a w) {g k n : Nat} (hg : N ≤ g) : Below N a (w.freeze ⟨g, k, none⟩ n) := by
  refine ⟨Eq.trans ?_ h.os, Eq.trans ?_ h.tape, Eq.trans ?_ h.output, by rw [freeze_size]; exact h.size, fun j hj => ?_⟩
  · unfold World.freeze; split <;> rfl
  · unfold World.freeze; split <;> rfl
  · unfold World.freeze; split <;> rfl
  · rw [freeze_other _ _ _ _ (by show g ≠ j; omega)]; exact h.block j hj
theorem Below.turned {N : Nat} {a w w' : World} (h : Below N a w) {m : Nat} (ht : w.mapTurned w' m) (hm : N ≤ m) (hN : N ≤ w.heap.size) : Below N a w' := h.grown ht.grown hN (fun g hg => by cases hg; exact hm)
theorem own_under {w w' : World} {m n : Nat} {D : DataW Value} (h : w.ownsMap Try.prog 9 hR m n D) (hb : Below w.heap.size w w') : w'.ownsMap Try.prog 9 hR m n D := by
  have hlt := h.lt
  obtain ⟨es, clock, hb0, r⟩ := h
  exact ⟨es, clock, (hb.block m hlt).trans hb0, r⟩
theorem clsD_congr {L L' : Nat → Bool} {D : DataW Value} (h : clsD L D) (ho : ∀ x ∈ St.clsE, L' x.1 = L x.1) : clsD L' D := by
  intro n z
  rw [h n z, St.look_other (L := L) (L' := L') (fun x hx _ => ho x hx)]

def clsT : List (Nat × Nat × Value) := [(1, 18, St.setV St.cUp), (3, 19, St.setV St.cLow), (5, 20, St.setV St.cAlpha), (7, 21, St.setV St.cDig), (9, 22, St.setV St.cAlnum), (11, 23, St.setV St.cDig), (12, 24, St.setV St.cXA), (13, 25, St.setV St.cXB), (14, 26, St.setV St.cXC), (15, 27, St.setV St.cX), (19, 30, St.setV St.cBlank), (21, 31, St.setV St.cSA), (22, 32, St.setV St.cSpace), (24, 33, St.setV St.cCA), (25, 34, St.setV St.cCntrl), (27, 35, St.setV St.cGraph), (28, 36, St.setV St.cPrint), (30, 37, St.setV St.cGraph), (32, 38, St.setV St.cGraph), (33, 39, St.setV St.cAlnum), (34, 40, St.setV St.cNA), (35, 41, St.setV St.cPunct)]
def clsS : List Nat := [0, 17, 18, 19, 20, 21, 22, 23, 24, 25, 26, 27, 28, 29, 30, 31, 32, 33, 34, 35, 36, 37, 38, 39, 40, 41, 42]
/-- What holds behind whichever operations of the region of sets.classes have come up. -/
structure CJ (N : Nat) (w0 : World) (g1 g2 g3 g4 g5 g6 : Nat) (a0 : Act) (listed : Array Bool) (a : Act) (w : World) : Prop where
  fr : Fr clsS a0 a
  sz : a.tmps.size = 43
  e1 : a.eval (.tmp 1) = pt g1
  e2 : a.eval (.tmp 2) = pt g2
  e3 : a.eval (.tmp 3) = pt g3
  e4 : a.eval (.tmp 4) = pt g4
  e5 : a.eval (.tmp 5) = pt g5
  e6 : a.eval (.tmp 6) = pt g6
  bel : Below N w0 w
  hN : N ≤ w.heap.size
  sl : Slots clsT listed a
  late : ∀ e ∈ St.clsE, up listed e.1 → up listed 0
  mp : up listed 0 → ∃ m n D, a.eval (.tmp 17) = .map (some m) ∧ N ≤ m ∧ w.ownsMap Try.prog 9 hR m n D ∧ n + leftOf listed ≤ 39 ∧ clsD (fun j => listed.getD j false) D
  late2 : up listed 18 → up listed 17
  row : up listed 17 → ∃ g fr, a.eval (.tmp 28) = .slice (some ⟨g, 0, none⟩) 2 2 ∧ N ≤ g ∧ w.heap[g]? = some (.cells #[.int .u8 32, .int .u8 9] 5 fr) ∧ (up listed 18 → a.eval (.tmp 29) = .slice (some ⟨g, 0, none⟩) 2 2)
  out : up listed 37 → up listed 0 ∧ a.eval (.tmp 42) = a.eval (.tmp 17)
  out2 : up listed 38 → up listed 0 ∧ a.eval (.tmp 0) = a.eval (.tmp 17)

section
variable {N : Nat} {w0 : World} {g1 g2 g3 g4 g5 g6 : Nat} {a0 : Act} {listed : Array Bool} {a : Act} {w : World}
theorem CJ.frames (h : CJ N w0 g1 g2 g3 g4 g5 g6 a0 listed a w) {d : Nat} (hd : d ∈ clsS) (v : Value) :
    Fr clsS a0 (a.put (some d) v) ∧ (a.put (some d) v).tmps.size = 43 ∧ (a.put (some d) v).eval (.tmp 1) = pt g1 ∧ (a.put (some d) v).eval (.tmp 2) = pt g2 ∧ (a.put (some d) v).eval (.tmp 3) = pt g3 ∧ (a.put (some d) v).eval (.tmp 4) = pt g4 ∧ (a.put (some d) v).eval (.tmp 5) = pt g5 ∧ (a.put (some d) v).eval (.tmp 6) = pt g6 := by
  have ne : ∀ k, k ∉ clsS → d ≠ k := fun k hk e => hk (e ▸ hd)
  exact ⟨h.fr.put hd v, by simp [Act.put, h.sz], (eval_other v (ne 1 (by decide))).trans h.e1, (eval_other v (ne 2 (by decide))).trans h.e2, (eval_other v (ne 3 (by decide))).trans h.e3, (eval_other v (ne 4 (by decide))).trans h.e4, (eval_other v (ne 5 (by decide))).trans h.e5, (eval_other v (ne 6 (by decide))).trans h.e6⟩
theorem clsS_lt : ∀ d ∈ clsS, d < 43 := by decide
theorem old_up {i : Nat} (hun : listed.getD i true = false) {j : Nat} (hj : j ≠ i) (hu : up (listed.setIfInBounds i true) j) : up listed j := ((up_step hun).1 hu).resolve_left hj
theorem old_get {i : Nat} {j : Nat} (hj : j ≠ i) : (listed.setIfInBounds i true).getD j false = listed.getD j false := getD_set_ne false (fun e => hj e.symm)

/-- An operation that yields a value, and grows the world at most. -/
theorem CJ.step (h : CJ N w0 g1 g2 g3 g4 g5 g6 a0 listed a w) {i d : Nat} {v : Value} {w' : World} (hun : listed.getD i true = false) (hi : i ≠ 0 ∧ i ≠ 17 ∧ i ≠ 18 ∧ i ≠ 37 ∧ i ≠ 38 ∧ ∀ e ∈ St.clsE.map (fun e => e.1), e ≠ i) (hd : d ∈ clsS) (hd' : d ≠ 17 ∧ d ≠ 28 ∧ d ≠ 29 ∧ d ≠ 42 ∧ d ≠ 0)
    (hT : ∀ e ∈ clsT, (e.2.1 = d → e.2.2 = v) ∧ (e.1 = i → e.2.1 = d)) (hb : Below w.heap.size w w') : CJ N w0 g1 g2 g3 g4 g5 g6 a0 (listed.setIfInBounds i true) (a.put (some d) v) w' := by
  obtain ⟨f1, f2, f3, f4, f5, f6, f7, f8⟩ := h.frames hd v
  have hlt : d < a.tmps.size := by rw [h.sz]; exact clsS_lt d hd
  have hE : ∀ e ∈ St.clsE, e.1 ≠ i := fun e he => hi.2.2.2.2.2 e.1 (List.mem_map.2 ⟨e, he, rfl⟩)
  have hl := leftOf_set hun
  refine ⟨f1, f2, f3, f4, f5, f6, f7, f8, Below.more h.bel hb h.hN, Nat.le_trans h.hN hb.size, h.sl.some hun hlt hT, fun e he hu => (up_step hun).2 (.inr (h.late e he (old_up hun (hE e he) hu))), fun hu => ?_, fun hu => (up_step hun).2 (.inr (h.late2 (old_up hun (fun e => hi.2.2.1 e.symm) hu))), fun hu => ?_, fun hu => ?_, fun hu => ?_⟩
  · obtain ⟨m, n, D, h1, h2, h3, h4, h5⟩ := h.mp (old_up hun (fun e => hi.1 e.symm) hu)
    exact ⟨m, n, D, (eval_other v hd'.1).trans h1, h2, own_under h3 hb, by omega, clsD_congr h5 (fun x hx => old_get (hE x hx))⟩
  · obtain ⟨g, fr, h1, h2, h3, h4⟩ := h.row (old_up hun (fun e => hi.2.1 e.symm) hu)
    exact ⟨g, fr, (eval_other v hd'.2.1).trans h1, h2, (hb.block g (lt_of_block h3)).trans h3, fun x => (eval_other v hd'.2.2.1).trans (h4 (old_up hun (fun e => hi.2.2.1 e.symm) x))⟩
  · obtain ⟨h1, h2⟩ := h.out (old_up hun (fun e => hi.2.2.2.1 e.symm) hu)
    exact ⟨(up_step hun).2 (.inr h1), by rw [eval_other v hd'.2.2.2.1, eval_other v hd'.1]; exact h2⟩
  · obtain ⟨h1, h2⟩ := h.out2 (old_up hun (fun e => hi.2.2.2.2.1 e.symm) hu)
    exact ⟨(up_step hun).2 (.inr h1), by rw [eval_other v hd'.2.2.2.2, eval_other v hd'.1]; exact h2⟩
theorem CJ.made (h : CJ N w0 g1 g2 g3 g4 g5 g6 a0 listed a w) (hun : listed.getD 0 true = false) (hsz : leftOf listed ≤ 39) : CJ N w0 g1 g2 g3 g4 g5 g6 a0 (listed.setIfInBounds 0 true) (a.put (some 17) (.map (some w.heap.size))) (w.alloc (.map #[] 0)) := by
  obtain ⟨f1, f2, f3, f4, f5, f6, f7, f8⟩ := h.frames (d := 17) (by decide) (.map (some w.heap.size))
  have hlt : 17 < a.tmps.size := by rw [h.sz]; decide
  have hl := leftOf_set hun
  have n0 := not_up hun
  have hE : ∀ e ∈ St.clsE, e.1 ≠ 0 := by decide
  have hb : Below w.heap.size w (w.alloc (.map #[] 0)) := (Below.refl _ _).alloc (Nat.le_refl _) _
  refine ⟨f1, f2, f3, f4, f5, f6, f7, f8, Below.more h.bel hb h.hN, Nat.le_trans h.hN hb.size, h.sl.some hun hlt (by simp [clsT]), fun _ _ _ => (up_step hun).2 (.inl rfl), fun _ => ?_, fun hu => (up_step hun).2 (.inr (h.late2 (old_up hun (by decide) hu))), fun hu => ?_, fun hu => ?_, fun hu => ?_⟩
  · refine ⟨w.heap.size, 0, .map [], eval_same _ hlt, h.hN, World.ownsMap_made w _ _ _, by omega, clsD_none _ (fun e he => ?_)⟩
    show (listed.setIfInBounds 0 true).getD e.1 false = false
    rw [old_get (hE e he)]
    cases hq : listed.getD e.1 false
    · rfl
    · exact absurd (h.late e he hq) n0
  · obtain ⟨g, fr, h1, h2, h3, h4⟩ := h.row (old_up hun (by decide) hu)
    exact ⟨g, fr, (eval_other _ (by decide)).trans h1, h2, (hb.block g (lt_of_block h3)).trans h3, fun x => (eval_other _ (by decide)).trans (h4 (old_up hun (by decide) x))⟩
  · exact absurd (h.out (old_up hun (by decide) hu)).1 n0
  · exact absurd (h.out2 (old_up hun (by decide) hu)).1 n0
theorem CJ.laid (h : CJ N w0 g1 g2 g3 g4 g5 g6 a0 listed a w) {e : Nat × List UInt8 × (Nat → Bool)} (he : e ∈ St.clsE) (hun : listed.getD e.1 true = false) {m n : Nat} {D : DataW Value} {w' : World} (h1 : up listed 0) (h2 : a.eval (.tmp 17) = .map (some m)) (hNm : N ≤ m)
    (h3 : w.ownsMap Try.prog 9 hR m n D) (h4 : n + leftOf listed ≤ 39) (h5 : clsD (fun j => listed.getD j false) D) (h6 : w'.ownsMap Try.prog 9 hR m (n + 1) (D.put (.string e.2.1) (.held (St.setV e.2.2)))) (h7 : w.mapTurned w' m) (v : Value) (hT : ∀ x ∈ clsT, x.1 ≠ e.1) (hi : e.1 ≠ 0 ∧ e.1 ≠ 17 ∧ e.1 ≠ 18 ∧ e.1 ≠ 37 ∧ e.1 ≠ 38) :
    CJ N w0 g1 g2 g3 g4 g5 g6 a0 (listed.setIfInBounds e.1 true) (a.put none v) w' := by
  have hl := leftOf_set hun
  have hm3 : ∃ es clock, w.heap[m]? = some (.map es clock) := by obtain ⟨es, clock, hb, _⟩ := h3; exact ⟨es, clock, hb⟩
  refine ⟨h.fr, h.sz, h.e1, h.e2, h.e3, h.e4, h.e5, h.e6, Below.turned h.bel h7 hNm h.hN, Nat.le_trans h.hN h7.grown.size, h.sl.none hun hT, fun x hx hu => (up_step hun).2 (.inr h1), fun _ => ⟨m, n + 1, _, h2, hNm, h6, by omega, clsD_put h5 h3.isMap he ?_ (fun x _ hx => old_get hx)⟩, fun hu => (up_step hun).2 (.inr (h.late2 (old_up hun (fun e => hi.2.2.1 e.symm) hu))), fun hu => ?_, fun hu => ?_, fun hu => ?_⟩
  · show (listed.setIfInBounds e.1 true).getD e.1 false = true
    rw [up_set hun]; simp
  · obtain ⟨g, fr, r1, r2, r3, r4⟩ := h.row (old_up hun (fun e => hi.2.1 e.symm) hu)
    have hne : g ≠ m := by
      intro x
      subst x
      obtain ⟨es, clock, hb⟩ := hm3
      rw [r3] at hb
      cases hb
    exact ⟨g, fr, r1, r2, (h7.grown.block g (lt_of_block r3) (fun x => hne (by injection x))).trans r3, fun x => r4 (old_up hun (fun e => hi.2.2.1 e.symm) x)⟩
  · obtain ⟨_, h9⟩ := h.out (old_up hun (fun e => hi.2.2.2.1 e.symm) hu)
    exact ⟨(up_step hun).2 (.inr h1), h9⟩
  · obtain ⟨_, h9⟩ := h.out2 (old_up hun (fun e => hi.2.2.2.2 e.symm) hu)
    exact ⟨(up_step hun).2 (.inr h1), h9⟩
theorem CJ.built (h : CJ N w0 g1 g2 g3 g4 g5 g6 a0 listed a w) (hun : listed.getD 17 true = false) : CJ N w0 g1 g2 g3 g4 g5 g6 a0 (listed.setIfInBounds 17 true) (a.put (some 28) (.slice (some ⟨w.heap.size, 0, none⟩) 2 2)) (w.alloc (.cells #[.int .u8 32, .int .u8 9] 5)) := by
  obtain ⟨f1, f2, f3, f4, f5, f6, f7, f8⟩ := h.frames (d := 28) (by decide) (.slice (some ⟨w.heap.size, 0, none⟩) 2 2)
  have hlt : 28 < a.tmps.size := by rw [h.sz]; decide
  have hl := leftOf_set hun
  have n0 := not_up hun
  have hE : ∀ e ∈ St.clsE, e.1 ≠ 17 := by decide
  have hb : Below w.heap.size w (w.alloc (.cells #[.int .u8 32, .int .u8 9] 5)) := (Below.refl _ _).alloc (Nat.le_refl _) _
  refine ⟨f1, f2, f3, f4, f5, f6, f7, f8, Below.more h.bel hb h.hN, Nat.le_trans h.hN hb.size, h.sl.some hun hlt (by simp [clsT]), fun e he hu => (up_step hun).2 (.inr (h.late e he (old_up hun (hE e he) hu))), fun hu => ?_, fun _ => (up_step hun).2 (.inl rfl), fun _ => ?_, fun hu => ?_, fun hu => ?_⟩
  · obtain ⟨m, n, D, h1, h2, h3, h4, h5⟩ := h.mp (old_up hun (by decide) hu)
    exact ⟨m, n, D, (eval_other _ (by decide)).trans h1, h2, own_under h3 hb, by omega, clsD_congr h5 (fun x hx => old_get (hE x hx))⟩
  · exact ⟨w.heap.size, (0, 0), eval_same _ hlt, h.hN, heap_alloc_new w _, fun x => absurd (h.late2 (old_up hun (by decide) x)) n0⟩
  · obtain ⟨h1, h2⟩ := h.out (old_up hun (by decide) hu)
    exact ⟨(up_step hun).2 (.inr h1), by rw [eval_other _ (by decide), eval_other _ (by decide)]; exact h2⟩
  · obtain ⟨h1, h2⟩ := h.out2 (old_up hun (by decide) hu)
    exact ⟨(up_step hun).2 (.inr h1), by rw [eval_other _ (by decide), eval_other _ (by decide)]; exact h2⟩
theorem CJ.marked (h : CJ N w0 g1 g2 g3 g4 g5 g6 a0 listed a w) (hun : listed.getD 18 true = false) (h0 : up listed 17) {g : Nat} {fr : Nat × Nat} (r1 : a.eval (.tmp 28) = .slice (some ⟨g, 0, none⟩) 2 2) (r2 : N ≤ g) (r3 : w.heap[g]? = some (.cells #[.int .u8 32, .int .u8 9] 5 fr)) :
    CJ N w0 g1 g2 g3 g4 g5 g6 a0 (listed.setIfInBounds 18 true) (a.put (some 29) (.slice (some ⟨g, 0, none⟩) 2 2)) (w.freeze ⟨g, 2, none⟩ 1) := by
  obtain ⟨f1, f2, f3, f4, f5, f6, f7, f8⟩ := h.frames (d := 29) (by decide) (.slice (some ⟨g, 0, none⟩) 2 2)
  have hlt : 29 < a.tmps.size := by rw [h.sz]; decide
  have hl := leftOf_set hun
  have hE : ∀ e ∈ St.clsE, e.1 ≠ 18 := by decide
  refine ⟨f1, f2, f3, f4, f5, f6, f7, f8, Below.freeze h.bel r2, by rw [freeze_size]; exact h.hN, h.sl.some hun hlt (by simp [clsT]), fun e he hu => (up_step hun).2 (.inr (h.late e he (old_up hun (hE e he) hu))), fun hu => ?_, fun _ => (up_step hun).2 (.inr h0), fun _ => ?_, fun hu => ?_, fun hu => ?_⟩
  · obtain ⟨m, n, D, h1, h2, h3, h4, h5⟩ := h.mp (old_up hun (by decide) hu)
    have hne : g ≠ m := by
      intro x
      subst x
      obtain ⟨es, clock, hb, _⟩ := h3
      rw [r3] at hb
      cases hb
    obtain ⟨es, clock, hb0, r⟩ := h3
    exact ⟨m, n, D, (eval_other _ (by decide)).trans h1, h2, ⟨es, clock, (freeze_other _ _ _ _ hne).trans hb0, r⟩, by omega, clsD_congr h5 (fun x hx => old_get (hE x hx))⟩
  · obtain ⟨fr', hf⟩ := freeze_same w g 2 _ _ fr r3
    exact ⟨g, fr', (eval_other _ (by decide)).trans r1, r2, hf, fun _ => eval_same _ hlt⟩
  · obtain ⟨h1, h2⟩ := h.out (old_up hun (by decide) hu)
    exact ⟨(up_step hun).2 (.inr h1), by rw [eval_other _ (by decide), eval_other _ (by decide)]; exact h2⟩
  · obtain ⟨h1, h2⟩ := h.out2 (old_up hun (by decide) hu)
    exact ⟨(up_step hun).2 (.inr h1), by rw [eval_other _ (by decide), eval_other _ (by decide)]; exact h2⟩
theorem CJ.moved (h : CJ N w0 g1 g2 g3 g4 g5 g6 a0 listed a w) (hun : listed.getD 37 true = false) (h0 : up listed 0) : CJ N w0 g1 g2 g3 g4 g5 g6 a0 (listed.setIfInBounds 37 true) (a.put (some 42) (a.eval (.tmp 17))) w := by
  obtain ⟨f1, f2, f3, f4, f5, f6, f7, f8⟩ := h.frames (d := 42) (by decide) (a.eval (.tmp 17))
  have hlt : 42 < a.tmps.size := by rw [h.sz]; decide
  have hl := leftOf_set hun
  have hE : ∀ e ∈ St.clsE, e.1 ≠ 37 := by decide
  refine ⟨f1, f2, f3, f4, f5, f6, f7, f8, h.bel, h.hN, h.sl.some hun hlt (by simp [clsT]), fun e he hu => (up_step hun).2 (.inr (h.late e he (old_up hun (hE e he) hu))), fun hu => ?_, fun hu => (up_step hun).2 (.inr (h.late2 (old_up hun (by decide) hu))), fun hu => ?_, fun _ => ?_, fun hu => ?_⟩
  · obtain ⟨m, n, D, h1, h2, h3, h4, h5⟩ := h.mp h0
    exact ⟨m, n, D, (eval_other _ (by decide)).trans h1, h2, h3, by omega, clsD_congr h5 (fun x hx => old_get (hE x hx))⟩
  · obtain ⟨g, fr, h1, h2, h3, h4⟩ := h.row (old_up hun (by decide) hu)
    exact ⟨g, fr, (eval_other _ (by decide)).trans h1, h2, h3, fun x => (eval_other _ (by decide)).trans (h4 (old_up hun (by decide) x))⟩
  · exact ⟨(up_step hun).2 (.inr h0), by rw [eval_same _ hlt, eval_other _ (by decide)]⟩
  · obtain ⟨h1, h2⟩ := h.out2 (old_up hun (by decide) hu)
    exact ⟨(up_step hun).2 (.inr h1), by rw [eval_other _ (by decide), eval_other _ (by decide)]; exact h2⟩
theorem CJ.ended (h : CJ N w0 g1 g2 g3 g4 g5 g6 a0 listed a w) (hun : listed.getD 38 true = false) (h0 : up listed 37) : CJ N w0 g1 g2 g3 g4 g5 g6 a0 (listed.setIfInBounds 38 true) (a.put (some 0) (a.eval (.tmp 42))) w := by
  obtain ⟨f1, f2, f3, f4, f5, f6, f7, f8⟩ := h.frames (d := 0) (by decide) (a.eval (.tmp 42))
  have hlt : 0 < a.tmps.size := by rw [h.sz]; decide
  have hl := leftOf_set hun
  have hE : ∀ e ∈ St.clsE, e.1 ≠ 38 := by decide
  obtain ⟨u0, u1⟩ := h.out h0
  refine ⟨f1, f2, f3, f4, f5, f6, f7, f8, h.bel, h.hN, h.sl.some hun hlt (by simp [clsT]), fun e he hu => (up_step hun).2 (.inr (h.late e he (old_up hun (hE e he) hu))), fun hu => ?_, fun hu => (up_step hun).2 (.inr (h.late2 (old_up hun (by decide) hu))), fun hu => ?_, fun _ => ?_, fun _ => ?_⟩
  · obtain ⟨m, n, D, h1, h2, h3, h4, h5⟩ := h.mp u0
    exact ⟨m, n, D, (eval_other _ (by decide)).trans h1, h2, h3, by omega, clsD_congr h5 (fun x hx => old_get (hE x hx))⟩
  · obtain ⟨g, fr, h1, h2, h3, h4⟩ := h.row (old_up hun (by decide) hu)
    exact ⟨g, fr, (eval_other _ (by decide)).trans h1, h2, h3, fun x => (eval_other _ (by decide)).trans (h4 (old_up hun (by decide) x))⟩
  · exact ⟨(up_step hun).2 (.inr u0), by rw [eval_other _ (by decide), eval_other _ (by decide)]; exact u1⟩
  · exact ⟨(up_step hun).2 (.inr u0), by rw [eval_same _ hlt, eval_other _ (by decide)]; exact u1⟩
end
end Go.Proofs.Ytmlpfgfpmbnbeaa
