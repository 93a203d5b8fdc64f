/- What holds behind whichever operations of a region have come up: slots that hold a given value; variables of their own that hold a set. -/
import Derived.Test.YtmlpfgfpmbnbeaaSReg
namespace Go.Proofs.Ytmlpfgfpmbnbeaa
open Go.RowKit

def up (listed : Array Bool) (j : Nat) : Prop := listed.getD j false = true
theorem up_step {listed : Array Bool} {i j : Nat} (h : listed.getD i true = false) : up (listed.setIfInBounds i true) j ↔ j = i ∨ up listed j := by
  unfold up
  rw [up_set h]
  simp
theorem not_up {listed : Array Bool} {i : Nat} (h : listed.getD i true = false) : ¬ up listed i := by
  unfold up
  by_cases hlt : i < listed.size
  · simp [hlt] at h ⊢; exact h
  · simp [hlt] at h
theorem ready_up {l : List Oper} {listed : Array Bool} {i : Nat} {o : Oper} (hi : i ∈ Region.ready .any l.toArray listed) (ho : l.toArray[i]? = some o) :
    listed.getD i true = false ∧ ∀ e ∈ o.after, Region.binds .any e = true → up listed e.on := by
  obtain ⟨h1, o', ho', h2⟩ := mem_ready.1 hi
  rw [ho] at ho'
  cases ho'
  exact ⟨h1, h2⟩
theorem up_new (n j : Nat) : ¬ up (Array.replicate n false) j := by
  unfold up
  by_cases h : j < n <;> simp [h]

abbrev pt (g : Nat) : Value := .pointer (some ⟨g, 0, none⟩)

/-- (j, d, v): once operation j has come up, slot d holds v. -/
def Slots (T : List (Nat × Nat × Value)) (listed : Array Bool) (a : Act) : Prop := ∀ e ∈ T, up listed e.1 → a.eval (.tmp e.2.1) = e.2.2
theorem Slots.new (T : List (Nat × Nat × Value)) (n : Nat) (a : Act) : Slots T (Array.replicate n false) a := fun _ _ h => absurd h (up_new n _)
theorem Slots.some {T : List (Nat × Nat × Value)} {listed : Array Bool} {a : Act} (h : Slots T listed a) {i d : Nat} {v : Value} (hun : listed.getD i true = false) (hd : d < a.tmps.size)
    (hT : ∀ e ∈ T, (e.2.1 = d → e.2.2 = v) ∧ (e.1 = i → e.2.1 = d)) : Slots T (listed.setIfInBounds i true) (a.put (some d) v) := by
  intro e he hu
  by_cases hde : e.2.1 = d
  · rw [(hT e he).1 hde, hde]; exact eval_same v hd
  · rw [eval_other v (fun x => hde x.symm)]
    rcases (up_step hun).1 hu with hj | hj
    · exact absurd ((hT e he).2 hj) hde
    · exact h e he hj
theorem Slots.none {T : List (Nat × Nat × Value)} {listed : Array Bool} {a : Act} (h : Slots T listed a) {i : Nat} {v : Value} (hun : listed.getD i true = false)
    (hT : ∀ e ∈ T, e.1 ≠ i) : Slots T (listed.setIfInBounds i true) (a.put none v) := by
  intro e he hu
  rcases (up_step hun).1 hu with hj | hj
  · exact absurd hj (hT e he)
  · exact h e he hj

/-- A variable that operation j makes (its address in slot d) and that operation s writes. -/
structure AE where
  j : Nat
  d : Nat
  s : Nat
  f : Nat → Bool

structure Al (N : Nat) (A : List AE) (listed : Array Bool) (a : Act) (w : World) : Prop where
  lies : ∀ e ∈ A, up listed e.j → ∃ g, a.eval (.tmp e.d) = pt g ∧ N ≤ g ∧ (up listed e.s → SetAt w g e.f) ∧ ∃ p, SetAt w g p
  apart : ∀ e ∈ A, ∀ e' ∈ A, e.d ≠ e'.d → up listed e.j → up listed e'.j → a.eval (.tmp e.d) ≠ a.eval (.tmp e'.d)
  late : ∀ e ∈ A, up listed e.s → up listed e.j
theorem Al.new (N : Nat) (A : List AE) (n : Nat) (a : Act) (w : World) : Al N A (Array.replicate n false) a w := ⟨fun _ _ h => absurd h (up_new n _), fun _ _ _ _ _ h => absurd h (up_new n _), fun _ _ h => absurd h (up_new n _)⟩
theorem Al.keep {N : Nat} {A : List AE} {listed : Array Bool} {a a' : Act} {w w' : World} (h : Al N A listed a w) {i : Nat} (hun : listed.getD i true = false)
    (hA : ∀ e ∈ A, e.j ≠ i ∧ e.s ≠ i ∧ a'.eval (.tmp e.d) = a.eval (.tmp e.d)) (hw : ∀ g p, SetAt w g p → SetAt w' g p) : Al N A (listed.setIfInBounds i true) a' w' := by
  have hj : ∀ e ∈ A, up (listed.setIfInBounds i true) e.j → up listed e.j := fun e he hu => ((up_step hun).1 hu).resolve_left (hA e he).1
  have hs : ∀ e ∈ A, up (listed.setIfInBounds i true) e.s → up listed e.s := fun e he hu => ((up_step hun).1 hu).resolve_left (hA e he).2.1
  refine ⟨fun e he hu => ?_, fun e he e' he' hne hu hu' => ?_, fun e he hu => (up_step hun).2 (.inr (h.late e he (hs e he hu)))⟩
  · obtain ⟨g, h1, h2, h3, p, h4⟩ := h.lies e he (hj e he hu)
    exact ⟨g, by rw [(hA e he).2.2, h1], h2, fun x => hw _ _ (h3 (hs e he x)), p, hw _ _ h4⟩
  · rw [(hA e he).2.2, (hA e' he').2.2]
    exact h.apart e he e' he' hne (hj e he hu) (hj e' he' hu')
theorem Al.made {N : Nat} {A : List AE} {listed : Array Bool} {a : Act} {w : World} (h : Al N A listed a w) {e0 : AE} (hun : listed.getD e0.j true = false) (hd : e0.d < a.tmps.size) (hN : N ≤ w.heap.size)
    (hA : ∀ e ∈ A, e.s ≠ e0.j ∧ (e.j = e0.j → e.d = e0.d) ∧ (e.d = e0.d → e.j = e0.j)) : Al N A (listed.setIfInBounds e0.j true) (a.put (some e0.d) (pt w.heap.size)) (w.alloc (.cells #[.int .u64 0, .int .u64 0, .int .u64 0, .int .u64 0] 25)) := by
  have hs : ∀ e ∈ A, up (listed.setIfInBounds e0.j true) e.s → up listed e.s := fun e he hu => ((up_step hun).1 hu).resolve_left (hA e he).1
  refine ⟨fun e he hu => ?_, fun e he e' he' hne hu hu' => ?_, fun e he hu => (up_step hun).2 (.inr (h.late e he (hs e he hu)))⟩
  · by_cases hde : e.d = e0.d
    · refine ⟨w.heap.size, by rw [hde]; exact eval_same _ hd, hN, fun x => ?_, _, at_zero' rfl⟩
      have h1 := h.late e he (hs e he x)
      rw [(hA e he).2.2 hde] at h1
      exact absurd h1 (not_up hun)
    · have hj : up listed e.j := ((up_step hun).1 hu).resolve_left (fun x => hde ((hA e he).2.1 x))
      obtain ⟨g, h1, h2, h3, p, h4⟩ := h.lies e he hj
      exact ⟨g, by rw [eval_other _ (fun x => hde x.symm), h1], h2, fun x => (h3 (hs e he x)).alloc _, p, h4.alloc _⟩
  · have old : ∀ e ∈ A, e.d ≠ e0.d → up (listed.setIfInBounds e0.j true) e.j → ∃ g, (a.put (some e0.d) (pt w.heap.size)).eval (.tmp e.d) = pt g ∧ g < w.heap.size := fun e he hde hu => by
      obtain ⟨g, h1, _, _, p, h4⟩ := h.lies e he (((up_step hun).1 hu).resolve_left (fun x => hde ((hA e he).2.1 x)))
      exact ⟨g, by rw [eval_other _ (fun x => hde x.symm), h1], h4.lt⟩
    by_cases h1 : e.d = e0.d
    · obtain ⟨g, hg, hlt⟩ := old e' he' (fun x => hne (h1.trans x.symm)) hu'
      rw [hg, h1, eval_same _ hd]
      intro x
      simp only [pt, Value.pointer.injEq, Option.some.injEq, Addr.mk.injEq] at x
      omega
    · by_cases h2 : e'.d = e0.d
      · obtain ⟨g, hg, hlt⟩ := old e he h1 hu
        rw [hg, h2, eval_same _ hd]
        intro x
        simp only [pt, Value.pointer.injEq, Option.some.injEq, Addr.mk.injEq] at x
        omega
      · rw [eval_other _ (fun x => h1 x.symm), eval_other _ (fun x => h2 x.symm)]
        exact h.apart e he e' he' hne (((up_step hun).1 hu).resolve_left (fun x => h1 ((hA e he).2.1 x))) (((up_step hun).1 hu').resolve_left (fun x => h2 ((hA e' he').2.1 x)))
theorem Al.stored {N : Nat} {A : List AE} {listed : Array Bool} {a : Act} {w : World} (h : Al N A listed a w) {e0 : AE} (he0 : e0 ∈ A) (hun : listed.getD e0.s true = false) (hup : up listed e0.j) {g : Nat} (hg : a.eval (.tmp e0.d) = pt g) (v : Value)
    (hA : ∀ e ∈ A, e.j ≠ e0.s ∧ (e.s = e0.s → e.d = e0.d) ∧ (e.d = e0.d → e = e0)) : Al N A (listed.setIfInBounds e0.s true) (a.put none v) (put4 w g e0.f) := by
  have hj : ∀ e ∈ A, up (listed.setIfInBounds e0.s true) e.j → up listed e.j := fun e he hu => ((up_step hun).1 hu).resolve_left (hA e he).1
  refine ⟨fun e he hu => ?_, fun e he e' he' hne hu hu' => h.apart e he e' he' hne (hj e he hu) (hj e' he' hu'), fun e he hu => ?_⟩
  · obtain ⟨g', h1, h2, h3, p, h4⟩ := h.lies e he (hj e he hu)
    by_cases hde : e.d = e0.d
    · have e1 := (hA e he).2.2 hde
      subst e1
      rw [hg] at h1
      simp only [pt, Value.pointer.injEq, Option.some.injEq, Addr.mk.injEq] at h1
      obtain ⟨rfl, _⟩ := h1
      exact ⟨g, hg, h2, fun _ => h4.put, _, h4.put⟩
    · have hne : g' ≠ g := by
        intro x
        subst x
        exact h.apart e he e0 he0 hde (hj e he hu) hup (h1.trans hg.symm)
      exact ⟨g', h1, h2, fun x => (h3 (((up_step hun).1 x).resolve_left (fun y => hde ((hA e he).2.1 y)))).other hne, p, h4.other hne⟩
  · rcases (up_step hun).1 hu with x | x
    · have e1 := (hA e he).2.2 ((hA e he).2.1 x)
      subst e1
      exact (up_step hun).2 (.inr hup)
    · exact (up_step hun).2 (.inr (h.late e he x))
/-- Each operation waits for earlier ones alone. -/
def ordB : Nat → List Oper → Bool
  | _, [] => true
  | k, o :: r => o.after.all (fun e => decide (e.on < k)) && ordB (k + 1) r
theorem ordB_spec : ∀ (l : List Oper) (k : Nat), ordB k l = true → ∀ (i : Nat) (o : Oper), l[i]? = some o → ∀ e ∈ o.after, e.on < k + i
  | [], _, _, i, o, h => by simp at h
  | x :: r, k, hb, i, o, h => by
    rw [ordB, Bool.and_eq_true] at hb
    cases i with
    | zero =>
      simp at h
      subst h
      intro e he
      have := Array.all_eq_true_iff_forall_mem.1 hb.1 e he
      simpa using this
    | succ i =>
      intro e he
      have := ordB_spec r (k + 1) hb.2 i o (by simpa using h) e he
      omega
theorem all_up {l : List Oper} {listed : Array Bool} (hsz : listed.size = l.length) (hB : ordB 0 l = true) (h : Region.ready .any l.toArray listed = []) : ∀ i, i < l.length → up listed i := by
  intro i
  induction i using Nat.strongRecOn with
  | _ i ih =>
    intro hi
    by_cases hu : up listed i
    · exact hu
    · exfalso
      have ho : l.toArray[i]? = some l[i] := by simp [hi]
      have hm : i ∈ Region.ready .any l.toArray listed := by
        refine mem_ready.2 ⟨?_, l[i], ho, fun e he _ => ?_⟩
        · unfold up at hu
          simp [hsz, hi] at hu ⊢
          exact hu
        · have hlt := ordB_spec l 0 hB i l[i] (by simp [hi]) e he
          exact ih e.on (by omega) (by omega)
      rw [h] at hm
      cases hm
/-- THE REGION ITSELF, by what 'J' says of whichever operations have come up. -/
theorem wp_region_inv' {P : Program} {Q : Exit → Act → World → Prop} {id : Nat} {a : Act} {w : World} {l : List Oper} (J : Act → Array Bool → Act → World → Prop) (hm : P.follows .mixedOrders = true) (hB : ordB 0 l = true)
    (h0 : J a (Array.replicate l.length false) a w.drew)
    (hs : ∀ listed a' w' i, J a listed a' w' → i ∈ Region.ready .any l.toArray listed → wpOp P l.toArray Q i (fun a'' w'' => J a (listed.setIfInBounds i true) a'' w'') a' w')
    (hd : ∀ listed a' w', J a listed a' w' → (∀ j, j < l.length → up listed j) → Q .normal a' w') : (Code.region id l.toArray true).wp P Q a w := by
  refine wp_region_inv (I := fun listed a' w' => J a listed a' w' ∧ listed.size = l.length) hm ⟨h0, by simp⟩ (fun listed a' w' i h hi => ?_) (fun listed a' w' h hr => hd _ _ _ h.1 (all_up h.2 hB hr))
  exact wpOp_mono (fun a'' w'' hh => ⟨hh, by simp [h.2]⟩) (hs listed a' w' i h.1 hi)
end Go.Proofs.Ytmlpfgfpmbnbeaa
