/- A region that draws its order, by what holds behind whichever operations have come up: an invariant over the operations that are listed serves every order. Regions that draw their order: frames by their slots, what has come up, the region by an invariant. -/
import Derived.Orders
import Derived.Deep.Draws
import Derived.Test.YtcloljkaojnipaaGreatDoorPgA
namespace Go.Proofs.YtcloljkaojnipaaGreatDoor

section
variable {P : Program} {ops : Array Oper} {Q : Exit → Act → World → Prop} {md : Region.Mode}

/-- How many operations have not come up. -/
def leftOf (listed : Array Bool) : Nat := listed.toList.countP (fun b => !b)

theorem leftOf_set {listed : Array Bool} {i : Nat} (h : listed.getD i true = false) : leftOf (listed.setIfInBounds i true) + 1 = leftOf listed := by
  have hlt : i < listed.size := by
    by_cases hlt : i < listed.size
    · exact hlt
    · simp [hlt] at h
  have hv : listed[i] = false := by simpa [hlt] using h
  unfold leftOf
  rw [Array.toList_setIfInBounds]
  have hl : i < listed.toList.length := by simpa using hlt
  have hv' : listed.toList[i] = false := by simpa using hv
  generalize listed.toList = l at *
  clear hv h hlt
  induction l generalizing i with
  | nil => simp at hl
  | cons b l ih =>
    cases i with
    | zero =>
      simp at hv'
      subst hv'
      simp
    | succ i =>
      have := ih (i := i) (by simpa using hl) (by simpa using hv')
      simp only [List.set_cons_succ, List.countP_cons]
      omega

theorem ready_none {listed : Array Bool} (h : leftOf listed = 0) : Region.ready md ops listed = [] := by
  rw [List.eq_nil_iff_forall_not_mem]
  intro j hj
  have h1 := leftOf_set (mem_ready.1 hj).1
  omega

/-- WHATEVER ORDER IS DRAWN: if what 'I' says of the operations that have come up is kept by each that may come up. -/
theorem wpAny_inv {I : Array Bool → Act → World → Prop}
    (hs : ∀ listed a w i, I listed a w → i ∈ Region.ready md ops listed → wpOp P ops Q i (fun a' w' => I (listed.setIfInBounds i true) a' w') a w)
    (hd : ∀ listed a w, I listed a w → Region.ready md ops listed = [] → Q .normal a w) :
    ∀ fuel listed a w, leftOf listed ≤ fuel → I listed a w → wpAny P md ops Q fuel listed a w
  | 0, listed, a, w, hf, h => ⟨ready_none (by omega), hd _ _ _ h (ready_none (by omega))⟩
  | fuel + 1, listed, a, w, hf, h => ⟨fun h0 => hd _ _ _ h h0, fun i hi => wpOp_mono (fun a' w' h' => by
      have := leftOf_set (mem_ready.1 hi).1
      exact wpAny_inv hs hd fuel _ a' w' (by omega) h') (hs _ _ _ _ h hi)⟩

theorem leftOf_new (n : Nat) : leftOf (Array.replicate n false) = n := by
  unfold leftOf
  rw [Array.toList_replicate, List.countP_replicate]
  simp

/-- The region itself. -/
theorem wp_region_inv {id : Nat} {a : Act} {w : World} {l : List Oper} {I : Array Bool → Act → World → Prop} (hm : P.follows .mixedOrders = true)
    (h0 : I (Array.replicate l.length false) a w.drew)
    (hs : ∀ listed a w i, I listed a w → i ∈ Region.ready .any l.toArray listed → wpOp P l.toArray Q i (fun a' w' => I (listed.setIfInBounds i true) a' w') a w)
    (hd : ∀ listed a w, I listed a w → Region.ready .any l.toArray listed = [] → Q .normal a w) : (Code.region id l.toArray true).wp P Q a w := by
  refine wp_region_any hm (wpAny_inv hs hd _ _ _ _ ?_ ?_)
  · rw [leftOf_new]; exact Nat.le_refl _
  · simpa using h0

/-- One operation that yields a value in the world that it leaves. -/
theorem wpOp_value {i : Nat} {o : Oper} {a : Act} {w w' : World} {v : Value} {K : Act → World → Prop} (ho : ops[i]? = some o) (hg : o.guard = none)
    {d : Option Tmp} (hd : o.dst = d)
    (hr : (execOp a.eval o).run P w = .ok (.value v) w') (hK : K (a.put d v) w') : wpOp P ops Q i K a w := by
  subst hd
  unfold wpOp
  simp only [ho]
  rw [if_pos (by unfold Region.wanted; rw [hg])]
  exact .inl (by unfold Oper.wp; rw [hr]; exact hK)
theorem wpOp_skip {i : Nat} {o : Oper} {a : Act} {w w' : World} {K : Act → World → Prop} (ho : ops[i]? = some o) (hg : o.guard = none)
    {d : Option Tmp} (hd : o.dst = d)
    (hr : (execOp a.eval o).run P w = .ok .skip w') (hK : K (a.put d undef) w') : wpOp P ops Q i K a w := by
  subst hd
  unfold wpOp
  simp only [ho]
  rw [if_pos (by unfold Region.wanted; rw [hg])]
  exact .inl (by unfold Oper.wp; rw [hr]; exact hK)
/-- One call. -/
theorem wpOp_call {i f : Nat} {args : Array Value} {o : Oper} {a : Act} {w : World} {K : Act → World → Prop} (ho : ops[i]? = some o) (hg : o.guard = none)
    {d : Option Tmp} (hd : o.dst = d)
    (hr : (execOp a.eval o).run P w = .ok (.enter f args) w) (hc : Calls P f args w fun e w' => ∃ v, e = .returned v ∧ K (a.put d v) w') : wpOp P ops Q i K a w := by
  subst hd
  unfold wpOp
  simp only [ho]
  rw [if_pos (by unfold Region.wanted; rw [hg])]
  refine .inl ?_
  unfold Oper.wp
  rw [hr]
  exact hc.mono fun e w' ⟨v, he, hK⟩ => by subst he; exact hK
end
end Go.Proofs.YtcloljkaojnipaaGreatDoor
namespace Go.Proofs.YtcloljkaojnipaaGreatDoor
open Go.RowKit

/-! The frame: what is not in the list D is as it was. -/
structure Fr (D : List Nat) (a0 a : Act) : Prop where
  size : a.tmps.size = a0.tmps.size
  out : ∀ k, k ∉ D → a.tmps[k]? = a0.tmps[k]?
  defers : a.defers = a0.defers
theorem Fr.refl (D : List Nat) (a : Act) : Fr D a a := ⟨rfl, fun _ _ => rfl, rfl⟩
theorem Fr.put {D : List Nat} {a0 a : Act} (h : Fr D a0 a) {d : Nat} (hd : d ∈ D) (v : Value) : Fr D a0 (a.put (some d) v) :=
  ⟨by simp [Act.put, h.size], fun k hk => by
    have hne : d ≠ k := fun e => hk (e ▸ hd)
    simp only [Act.put]
    rw [Array.getElem?_setIfInBounds_ne hne]; exact h.out k hk, h.defers⟩
theorem Fr.none {D : List Nat} {a0 a : Act} (h : Fr D a0 a) (v : Value) : Fr D a0 (a.put none v) := h
theorem Fr.eval {D : List Nat} {a0 a : Act} (h : Fr D a0 a) {k : Nat} (hk : k ∉ D) : a.eval (.tmp k) = a0.eval (.tmp k) := by
  simp only [Act.eval, Array.getD_eq_getD_getElem?, h.out k hk]
theorem eval_same {a : Act} {d : Nat} (v : Value) (hd : d < a.tmps.size) : (a.put (some d) v).eval (.tmp d) = v := by
  simp [Act.put, Act.eval, hd]
theorem eval_other {a : Act} {d k : Nat} (v : Value) (h : d ≠ k) : (a.put (some d) v).eval (.tmp k) = a.eval (.tmp k) := by
  simp only [Act.put, Act.eval, Array.getD_eq_getD_getElem?]
  rw [Array.getElem?_setIfInBounds_ne h]
/-- A frame by all its slots. -/
theorem Fr.eq {D : List Nat} {a0 a : Act} (h : Fr D a0 a) (hD : ∀ d ∈ D, d < a0.tmps.size) : a = D.foldl (fun b d => b.put (some d) (a.eval (.tmp d))) a0 := by
  have key : ∀ (L : List Nat) (b : Act), b.tmps.size = a0.tmps.size → b.defers = a.defers → (∀ d ∈ L, d < a0.tmps.size) → (∀ k, k ∉ L → b.tmps[k]? = a.tmps[k]?) → a = L.foldl (fun b d => b.put (some d) (a.eval (.tmp d))) b := by
    intro L
    induction L with
    | nil =>
      intro b hs hf _ ho
      cases a; cases b
      simp only at hf ho
      subst hf
      simp only [List.foldl_nil]
      congr 1
      exact (Array.ext_getElem? (fun k => ho k (by simp))).symm
    | cons d L ih =>
      intro b hs hf hl ho
      refine ih (b.put (some d) (a.eval (.tmp d))) (by simp [Act.put, hs]) hf (fun x hx => hl x (by simp [hx])) (fun k hk => ?_)
      by_cases e : d = k
      · subst e
        have hb : d < b.tmps.size := by rw [hs]; exact hl d (by simp)
        have ha : d < a.tmps.size := by rw [h.size]; exact hl d (by simp)
        simp [Act.put, Act.eval, hb, ha]
      · simp only [Act.put]
        rw [Array.getElem?_setIfInBounds_ne e]
        exact ho k (by simp [hk]; exact fun e' => e e'.symm)
  exact key D a0 rfl h.defers.symm hD (fun k hk => (h.out k hk).symm)

/-! What has come up. -/
theorem up_set {listed : Array Bool} {i j : Nat} (h : listed.getD i true = false) : (listed.setIfInBounds i true).getD j false = (decide (j = i) || listed.getD j false) := by
  have hlt : i < listed.size := by
    by_cases hlt : i < listed.size
    · exact hlt
    · simp [hlt] at h
  by_cases e : j = i
  · subst e
    simp [hlt]
  · have e' : i ≠ j := fun x => e x.symm
    rw [getD_set_ne false e']
    simp [e]

def up (listed : Array Bool) (j : Nat) : Prop := listed.getD j false = true
theorem up_step {listed : Array Bool} {i j : Nat} (h : listed.getD i true = false) : up (listed.setIfInBounds i true) j ↔ j = i ∨ up listed j := by
  unfold up
  rw [up_set h]
  simp
theorem not_up {listed : Array Bool} {i : Nat} (h : listed.getD i true = false) : ¬ up listed i := by
  unfold up
  by_cases hlt : i < listed.size
  · simp [hlt] at h ⊢; exact h
  · simp [hlt] at h
theorem ready_up {l : List Oper} {listed : Array Bool} {i : Nat} {o : Oper} (hi : i ∈ Region.ready .any l.toArray listed) (ho : l.toArray[i]? = some o) :
    listed.getD i true = false ∧ ∀ e ∈ o.after, Region.binds .any e = true → up listed e.on := by
  obtain ⟨h1, o', ho', h2⟩ := mem_ready.1 hi
  rw [ho] at ho'
  cases ho'
  exact ⟨h1, h2⟩
theorem up_new (n j : Nat) : ¬ up (Array.replicate n false) j := by
  unfold up
  by_cases h : j < n <;> simp [h]

abbrev pt (g : Nat) : Value := .pointer (some ⟨g, 0, none⟩)

/-- (j, d, v): once operation j has come up, slot d holds v. -/
def Slots (T : List (Nat × Nat × Value)) (listed : Array Bool) (a : Act) : Prop := ∀ e ∈ T, up listed e.1 → a.eval (.tmp e.2.1) = e.2.2
theorem Slots.new (T : List (Nat × Nat × Value)) (n : Nat) (a : Act) : Slots T (Array.replicate n false) a := fun _ _ h => absurd h (up_new n _)
theorem Slots.some {T : List (Nat × Nat × Value)} {listed : Array Bool} {a : Act} (h : Slots T listed a) {i d : Nat} {v : Value} (hun : listed.getD i true = false) (hd : d < a.tmps.size)
    (hT : ∀ e ∈ T, (e.2.1 = d → e.2.2 = v) ∧ (e.1 = i → e.2.1 = d)) : Slots T (listed.setIfInBounds i true) (a.put (some d) v) := by
  intro e he hu
  by_cases hde : e.2.1 = d
  · rw [(hT e he).1 hde, hde]; exact eval_same v hd
  · rw [eval_other v (fun x => hde x.symm)]
    rcases (up_step hun).1 hu with hj | hj
    · exact absurd ((hT e he).2 hj) hde
    · exact h e he hj
theorem Slots.none {T : List (Nat × Nat × Value)} {listed : Array Bool} {a : Act} (h : Slots T listed a) {i : Nat} {v : Value} (hun : listed.getD i true = false)
    (hT : ∀ e ∈ T, e.1 ≠ i) : Slots T (listed.setIfInBounds i true) (a.put none v) := by
  intro e he hu
  rcases (up_step hun).1 hu with hj | hj
  · exact absurd hj (hT e he)
  · exact h e he hj

/-- Each operation waits for earlier ones alone. -/
def ordB : Nat → List Oper → Bool
  | _, [] => true
  | k, o :: r => o.after.all (fun e => decide (e.on < k)) && ordB (k + 1) r
theorem ordB_spec : ∀ (l : List Oper) (k : Nat), ordB k l = true → ∀ (i : Nat) (o : Oper), l[i]? = some o → ∀ e ∈ o.after, e.on < k + i
  | [], _, _, i, o, h => by simp at h
  | x :: r, k, hb, i, o, h => by
    rw [ordB, Bool.and_eq_true] at hb
    cases i with
    | zero =>
      simp at h
      subst h
      intro e he
      have := Array.all_eq_true_iff_forall_mem.1 hb.1 e he
      simpa using this
    | succ i =>
      intro e he
      have := ordB_spec r (k + 1) hb.2 i o (by simpa using h) e he
      omega
theorem all_up {l : List Oper} {listed : Array Bool} (hsz : listed.size = l.length) (hB : ordB 0 l = true) (h : Region.ready .any l.toArray listed = []) : ∀ i, i < l.length → up listed i := by
  intro i
  induction i using Nat.strongRecOn with
  | _ i ih =>
    intro hi
    by_cases hu : up listed i
    · exact hu
    · exfalso
      have ho : l.toArray[i]? = some l[i] := by simp [hi]
      have hm : i ∈ Region.ready .any l.toArray listed := by
        refine mem_ready.2 ⟨?_, l[i], ho, fun e he _ => ?_⟩
        · unfold up at hu
          simp [hsz, hi] at hu ⊢
          exact hu
        · have hlt := ordB_spec l 0 hB i l[i] (by simp [hi]) e he
          exact ih e.on (by omega) (by omega)
      rw [h] at hm
      cases hm
/-- THE REGION ITSELF, by what 'J' says of whichever operations have come up. -/
theorem wp_region_inv' {P : Program} {Q : Exit → Act → World → Prop} {id : Nat} {a : Act} {w : World} {l : List Oper} (J : Act → Array Bool → Act → World → Prop) (hm : P.follows .mixedOrders = true) (hB : ordB 0 l = true)
    (h0 : J a (Array.replicate l.length false) a w.drew)
    (hs : ∀ listed a' w' i, J a listed a' w' → i ∈ Region.ready .any l.toArray listed → wpOp P l.toArray Q i (fun a'' w'' => J a (listed.setIfInBounds i true) a'' w'') a' w')
    (hd : ∀ listed a' w', J a listed a' w' → (∀ j, j < l.length → up listed j) → Q .normal a' w') : (Code.region id l.toArray true).wp P Q a w := by
  refine wp_region_inv (I := fun listed a' w' => J a listed a' w' ∧ listed.size = l.length) hm ⟨h0, by simp⟩ (fun listed a' w' i h hi => ?_) (fun listed a' w' h hr => hd _ _ _ h.1 (all_up h.2 hB hr))
  exact wpOp_mono (fun a'' w'' hh => ⟨hh, by simp [h.2]⟩) (hs listed a' w' i h.1 hi)

/-! Runs. -/
theorem run_call1 {ev : Operand → Value} {w : World} {d : Option Tmp} {t : TypeId} {pos : String} {af : Array Edge} {f : Nat} {x : Operand} {T : Array TypeId} (hf : ev (.func f) = .func (.func f) #[] #[]) (hc : ∀ args wx, (callFunc f args).run Tryz.prog wx = .ok (.enter f args) wx) :
    (execOp ev ⟨d, .call ⟨.value (.func f), #[x], T⟩, t, pos, af, none⟩).run Tryz.prog w = .ok (.enter f #[ev x]) w := by
  go_simp
theorem run_move' {ev : Operand → Value} {w : World} {d : Option Tmp} {t : TypeId} {pos : String} {af : Array Edge} (x : Operand) : (execOp ev ⟨d, .move x, t, pos, af, none⟩).run Tryz.prog w = .ok (.value (ev x)) w := by go_simp
theorem run_assign' {ev : Operand → Value} {w : World} {d : Option Tmp} {t : TypeId} {pos : String} {af : Array Edge} (x : Operand) : (execOp ev ⟨d, .assign x, t, pos, af, none⟩).run Tryz.prog w = .ok (.value (ev x)) w := by go_simp
end Go.Proofs.YtcloljkaojnipaaGreatDoor
