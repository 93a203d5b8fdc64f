/- Operations of a region over sets, each by its run; frames by their slots. -/
import Derived.Test.YtmlpfgfpmbnbeaaOrdInv
import Derived.Test.YtmlpfgfpmbnbeaaSRead
namespace Go.Proofs.Ytmlpfgfpmbnbeaa
open Go.RowKit

/-! The frame: what is not in the list D is as it was. -/
structure Fr (D : List Nat) (a0 a : Act) : Prop where
  size : a.tmps.size = a0.tmps.size
  out : ∀ k, k ∉ D → a.tmps[k]? = a0.tmps[k]?
  defers : a.defers = a0.defers
theorem Fr.refl (D : List Nat) (a : Act) : Fr D a a := ⟨rfl, fun _ _ => rfl, rfl⟩
theorem Fr.put {D : List Nat} {a0 a : Act} (h : Fr D a0 a) {d : Nat} (hd : d ∈ D) (v : Value) : Fr D a0 (a.put (some d) v) :=
  ⟨by simp [Act.put, h.size], fun k hk => by
    have hne : d ≠ k := fun e => hk (e ▸ hd)
    simp only [Act.put]
    rw [Array.getElem?_setIfInBounds_ne hne]; exact h.out k hk, h.defers⟩
theorem Fr.none {D : List Nat} {a0 a : Act} (h : Fr D a0 a) (v : Value) : Fr D a0 (a.put none v) := h
theorem Fr.eval {D : List Nat} {a0 a : Act} (h : Fr D a0 a) {k : Nat} (hk : k ∉ D) : a.eval (.tmp k) = a0.eval (.tmp k) := by
  simp only [Act.eval, Array.getD_eq_getD_getElem?, h.out k hk]
theorem eval_same {a : Act} {d : Nat} (v : Value) (hd : d < a.tmps.size) : (a.put (some d) v).eval (.tmp d) = v := by
  simp [Act.put, Act.eval, hd]
theorem eval_other {a : Act} {d k : Nat} (v : Value) (h : d ≠ k) : (a.put (some d) v).eval (.tmp k) = a.eval (.tmp k) := by
  simp only [Act.put, Act.eval, Array.getD_eq_getD_getElem?]
  rw [Array.getElem?_setIfInBounds_ne h]
/-- A frame by all its slots. -/
theorem Fr.eq {D : List Nat} {a0 a : Act} (h : Fr D a0 a) (hD : ∀ d ∈ D, d < a0.tmps.size) : a = D.foldl (fun b d => b.put (some d) (a.eval (.tmp d))) a0 := by
  have key : ∀ (L : List Nat) (b : Act), b.tmps.size = a0.tmps.size → b.defers = a.defers → (∀ d ∈ L, d < a0.tmps.size) → (∀ k, k ∉ L → b.tmps[k]? = a.tmps[k]?) → a = L.foldl (fun b d => b.put (some d) (a.eval (.tmp d))) b := by
    intro L
    induction L with
    | nil =>
      intro b hs hf _ ho
      cases a; cases b
      simp only at hf ho
      subst hf
      simp only [List.foldl_nil]
      congr 1
      exact (Array.ext_getElem? (fun k => ho k (by simp))).symm
    | cons d L ih =>
      intro b hs hf hl ho
      refine ih (b.put (some d) (a.eval (.tmp d))) (by simp [Act.put, hs]) hf (fun x hx => hl x (by simp [hx])) (fun k hk => ?_)
      by_cases e : d = k
      · subst e
        have hb : d < b.tmps.size := by rw [hs]; exact hl d (by simp)
        have ha : d < a.tmps.size := by rw [h.size]; exact hl d (by simp)
        simp [Act.put, Act.eval, hb, ha]
      · simp only [Act.put]
        rw [Array.getElem?_setIfInBounds_ne e]
        exact ho k (by simp [hk]; exact fun e' => e e'.symm)
  exact key D a0 rfl h.defers.symm hD (fun k hk => (h.out k hk).symm)

/-! What has come up. -/
theorem up_set {listed : Array Bool} {i j : Nat} (h : listed.getD i true = false) : (listed.setIfInBounds i true).getD j false = (decide (j = i) || listed.getD j false) := by
  have hlt : i < listed.size := by
    by_cases hlt : i < listed.size
    · exact hlt
    · simp [hlt] at h
  by_cases e : j = i
  · subst e
    simp [hlt]
  · have e' : i ≠ j := fun x => e x.symm
    rw [getD_set_ne false e']
    simp [e]

/-! Runs. -/
theorem run_load {ev : Operand → Value} {w : World} {d : Option Tmp} {x : Operand} {t : TypeId} {pos : String} {af : Array Edge} {g : Nat} {p : Nat → Bool} (hx : ev x = .pointer (some ⟨g, 0, none⟩)) (h : SetAt w g p) :
    (execOp ev ⟨d, .load 25 x, t, pos, af, none⟩).run Try.prog w = .ok (.value (St.setV p)) w := by
  obtain ⟨q0, q1, q2, q3⟩ := h.cells
  simp only [St.setV]
  go_simp
theorem run_store {ev : Operand → Value} {w : World} {d : Option Tmp} {x y : Operand} {t : TypeId} {pos : String} {af : Array Edge} {g : Nat} {p q : Nat → Bool} (hx : ev x = .pointer (some ⟨g, 0, none⟩)) (hy : ev y = St.setV q) (h : SetAt w g p) :
    (execOp ev ⟨d, .store 25 x y, t, pos, af, none⟩).run Try.prog w = .ok .skip (put4 w g q) := by
  obtain ⟨q0, q1, q2, q3⟩ := h.cells
  have f0 := h.frozen 0
  have f1 := h.frozen 1
  have f2 := h.frozen 2
  have f3 := h.frozen 3
  simp only [St.setV] at hy
  go_simp
theorem run_alloc {ev : Operand → Value} {w : World} {d : Option Tmp} {t : TypeId} {pos : String} {af : Array Edge} :
    (execOp ev ⟨d, .alloc 25, t, pos, af, none⟩).run Try.prog w = .ok (.value (.pointer (some ⟨w.heap.size, 0, none⟩))) (w.alloc (.cells #[.int .u64 0, .int .u64 0, .int .u64 0, .int .u64 0] 25)) := by
  go_simp
theorem run_call1 {ev : Operand → Value} {w : World} {d : Option Tmp} {t : TypeId} {pos : String} {af : Array Edge} {f : Nat} {x : Operand} {T : Array TypeId} (hf : ev (.func f) = .func (.func f) #[] #[]) (hc : ∀ args wx, (callFunc f args).run Try.prog wx = .ok (.enter f args) wx) :
    (execOp ev ⟨d, .call ⟨.value (.func f), #[x], T⟩, t, pos, af, none⟩).run Try.prog w = .ok (.enter f #[ev x]) w := by
  go_simp
theorem run_call2 {ev : Operand → Value} {w : World} {d : Option Tmp} {t : TypeId} {pos : String} {af : Array Edge} {f : Nat} {x y : Operand} {T : Array TypeId} (hf : ev (.func f) = .func (.func f) #[] #[]) (hc : ∀ args wx, (callFunc f args).run Try.prog wx = .ok (.enter f args) wx) :
    (execOp ev ⟨d, .call ⟨.value (.func f), #[x, y], T⟩, t, pos, af, none⟩).run Try.prog w = .ok (.enter f #[ev x, ev y]) w := by
  go_simp
theorem calls_and (args : Array Value) (wx : World) : (callFunc 22 args).run Try.prog wx = .ok (.enter 22 args) wx := by go_simp
theorem calls_or (args : Array Value) (wx : World) : (callFunc 24 args).run Try.prog wx = .ok (.enter 24 args) wx := by go_simp
theorem calls_not (args : Array Value) (wx : World) : (callFunc 26 args).run Try.prog wx = .ok (.enter 26 args) wx := by go_simp
end Go.Proofs.Ytmlpfgfpmbnbeaa
