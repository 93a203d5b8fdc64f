/- A region that draws its order, by what holds behind whichever operations have come up: an invariant over the operations that are listed serves every order. -/
import Derived.Orders
import Derived.Deep.Draws
namespace Go.Proofs.Ytmlpfgfpmbnbeaa

section
variable {P : Program} {ops : Array Oper} {Q : Exit → Act → World → Prop} {md : Region.Mode}

/-- How many operations have not come up. -/
def leftOf (listed : Array Bool) : Nat := listed.toList.countP (fun b => !b)

theorem leftOf_set {listed : Array Bool} {i : Nat} (h : listed.getD i true = false) : leftOf (listed.setIfInBounds i true) + 1 = leftOf listed := by
  have hlt : i < listed.size := by
    by_cases hlt : i < listed.size
    · exact hlt
    · simp [hlt] at h
  have hv : listed[i] = false := by simpa [hlt] using h
  unfold leftOf
  rw [Array.toList_setIfInBounds]
  have hl : i < listed.toList.length := by simpa using hlt
  have hv' : listed.toList[i] = false := by simpa using hv
  generalize listed.toList = l at *
  clear hv h hlt
  induction l generalizing i with
  | nil => simp at hl
  | cons b l ih =>
    cases i with
    | zero =>
      simp at hv'
      subst hv'
      simp
    | succ i =>
      have := ih (i := i) (by simpa using hl) (by simpa using hv')
      simp only [List.set_cons_succ, List.countP_cons]
      omega

theorem ready_none {listed : Array Bool} (h : leftOf listed = 0) : Region.ready md ops listed = [] := by
  rw [List.eq_nil_iff_forall_not_mem]
  intro j hj
  have h1 := leftOf_set (mem_ready.1 hj).1
  omega

/-- WHATEVER ORDER IS DRAWN: if what 'I' says of the operations that have come up is kept by each that may come up. -/
theorem wpAny_inv {I : Array Bool → Act → World → Prop}
    (hs : ∀ listed a w i, I listed a w → i ∈ Region.ready md ops listed → wpOp P ops Q i (fun a' w' => I (listed.setIfInBounds i true) a' w') a w)
    (hd : ∀ listed a w, I listed a w → Region.ready md ops listed = [] → Q .normal a w) :
    ∀ fuel listed a w, leftOf listed ≤ fuel → I listed a w → wpAny P md ops Q fuel listed a w
  | 0, listed, a, w, hf, h => ⟨ready_none (by omega), hd _ _ _ h (ready_none (by omega))⟩
  | fuel + 1, listed, a, w, hf, h => ⟨fun h0 => hd _ _ _ h h0, fun i hi => wpOp_mono (fun a' w' h' => by
      have := leftOf_set (mem_ready.1 hi).1
      exact wpAny_inv hs hd fuel _ a' w' (by omega) h') (hs _ _ _ _ h hi)⟩

theorem leftOf_new (n : Nat) : leftOf (Array.replicate n false) = n := by
  unfold leftOf
  rw [Array.toList_replicate, List.countP_replicate]
  simp

/-- The region itself. -/
theorem wp_region_inv {id : Nat} {a : Act} {w : World} {l : List Oper} {I : Array Bool → Act → World → Prop} (hm : P.follows .mixedOrders = true)
    (h0 : I (Array.replicate l.length false) a w.drew)
    (hs : ∀ listed a w i, I listed a w → i ∈ Region.ready .any l.toArray listed → wpOp P l.toArray Q i (fun a' w' => I (listed.setIfInBounds i true) a' w') a w)
    (hd : ∀ listed a w, I listed a w → Region.ready .any l.toArray listed = [] → Q .normal a w) : (Code.region id l.toArray true).wp P Q a w := by
  refine wp_region_any hm (wpAny_inv hs hd _ _ _ _ ?_ ?_)
  · rw [leftOf_new]; exact Nat.le_refl _
  · simpa using h0

/-- One operation that yields a value in the world that it leaves. -/
theorem wpOp_value {i : Nat} {o : Oper} {a : Act} {w w' : World} {v : Value} {K : Act → World → Prop} (ho : ops[i]? = some o) (hg : o.guard = none)
    {d : Option Tmp} (hd : o.dst = d)
    (hr : (execOp a.eval o).run P w = .ok (.value v) w') (hK : K (a.put d v) w') : wpOp P ops Q i K a w := by
  subst hd
  unfold wpOp
  simp only [ho]
  rw [if_pos (by unfold Region.wanted; rw [hg])]
  exact .inl (by unfold Oper.wp; rw [hr]; exact hK)
theorem wpOp_skip {i : Nat} {o : Oper} {a : Act} {w w' : World} {K : Act → World → Prop} (ho : ops[i]? = some o) (hg : o.guard = none)
    {d : Option Tmp} (hd : o.dst = d)
    (hr : (execOp a.eval o).run P w = .ok .skip w') (hK : K (a.put d undef) w') : wpOp P ops Q i K a w := by
  subst hd
  unfold wpOp
  simp only [ho]
  rw [if_pos (by unfold Region.wanted; rw [hg])]
  exact .inl (by unfold Oper.wp; rw [hr]; exact hK)
/-- One call. -/
theorem wpOp_call {i f : Nat} {args : Array Value} {o : Oper} {a : Act} {w : World} {K : Act → World → Prop} (ho : ops[i]? = some o) (hg : o.guard = none)
    {d : Option Tmp} (hd : o.dst = d)
    (hr : (execOp a.eval o).run P w = .ok (.enter f args) w) (hc : Calls P f args w fun e w' => ∃ v, e = .returned v ∧ K (a.put d v) w') : wpOp P ops Q i K a w := by
  subst hd
  unfold wpOp
  simp only [ho]
  rw [if_pos (by unfold Region.wanted; rw [hg])]
  refine .inl ?_
  unfold Oper.wp
  rw [hr]
  exact hc.mono fun e w' ⟨v, he, hK⟩ => by subst he; exact hK
end
end Go.Proofs.Ytmlpfgfpmbnbeaa
