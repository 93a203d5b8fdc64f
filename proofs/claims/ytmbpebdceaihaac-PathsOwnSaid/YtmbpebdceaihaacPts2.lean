/- Rows of paths of the call's own, in all their depth: each path of such a row is a row of its own, apart from the others. -/
import Derived.Test.YtmbpebdceaihaacCover
namespace Go.Proofs.Ytmbpebdceaihaac
open Go.RowKit

def apartV (u v : Value) : Prop := u.ownBlock = none ∨ u.ownBlock ≠ v.ownBlock
/-- The values xs are rows of the call's own that read as the paths l, apart from one another and from a row v. -/
structure Deep2 (w : World) (base : Nat) (v : Value) (xs : List Value) (l : List (List ByteArray)) : Prop where
  own : ∀ i (h : i < l.length), ∃ u, xs[i]? = some u ∧ w.ownsRow base 9 1 u (l[i]'h).length ((l[i]'h).map Value.string) ∧ apartV u v ∧ (l[i]'h).length ≤ 8796093022208 ∧ ∀ s ∈ (l[i]'h), s.size ≤ 140737488355328
  apart : ∀ i j, i < j → j < l.length → ∀ u u', xs[i]? = some u → xs[j]? = some u' → apartV u u'
def PRow2 (w : World) (base : Nat) (v : Value) (l : List (List ByteArray)) : Prop := ∃ xs, w.ownsRow base 23 1 v l.length xs ∧ Deep2 w base v xs l
theorem PRow2.empty (w : World) (base : Nat) : PRow2 w base (.slice none 0 0) [] := ⟨[], World.ownsRow_nil _ _ _ _, fun i h => absurd h (by simp), fun i j _ h => absurd h (by simp)⟩
theorem Deep2.below {w w' : World} {base : Nat} {v : Value} {xs : List Value} {l : List (List ByteArray)} (h : Deep2 w base v xs l) (hb : Below w.heap.size w w') : Deep2 w' base v xs l :=
  ⟨fun i hi => by
    obtain ⟨u, k1, k2, k3, k4⟩ := h.own i hi
    exact ⟨u, k1, own_below k2 hb, k3, k4⟩, h.apart⟩
theorem PRow2.below {w w' : World} {base : Nat} {v : Value} {l : List (List ByteArray)} (h : PRow2 w base v l) (hb : Below w.heap.size w w') : PRow2 w' base v l := by
  obtain ⟨xs, h1, h2⟩ := h
  exact ⟨xs, own_below h1 hb, h2.below hb⟩
theorem own_str_slice {w : World} {base : Nat} {e : TypeId} {u : Value} {l : List ByteArray} (h : w.ownsRow base e 1 u l.length (l.map Value.string)) (h1 : l.length ≤ 8796093022208) (h2 : ∀ s ∈ l, s.size ≤ 140737488355328) : ∃ x c, u = .slice x l.length c ∧ Strs w x c l := own_strs h h1 h2
theorem PRow2.prow {w : World} {base : Nat} {v : Value} {l : List (List ByteArray)} (h : PRow2 w base v l) : PRow w base v l := by
  obtain ⟨xs, h1, h2⟩ := h
  refine ⟨xs, h1, fun i hi => ?_⟩
  obtain ⟨u, k1, k2, k3, k4, k5⟩ := h2.own i hi
  obtain ⟨x, c, rfl, hs⟩ := own_str_slice k2 k4 k5
  refine ⟨x, c, k1, hs, fun hne ad e q => ?_⟩
  subst e
  rcases k3 with k3 | k3
  · cases k3
  · exact k3 (by rw [← q]; rfl)
/-- A path of its own put behind. -/
theorem prow2_snoc {w w' : World} {base m : Nat} {v v' u : Value} {l : List (List ByteArray)} {xs : List Value} {p : List ByteArray} {o : Obj} (ox : w.ownsRow base 23 1 v l.length xs) (hd : Deep2 w base v xs l)
    (hu : w.ownsRow base 9 1 u p.length (p.map Value.string)) (huv : apartV u v) (hux : ∀ y ∈ xs, apartV y u) (hp1 : p.length ≤ 8796093022208) (hp2 : ∀ s ∈ p, s.size ≤ 140737488355328)
    (own' : w'.ownsRow base 23 1 v' (l.length + 1) (xs ++ [u])) (hgr : (w.alloc o).grownBy w' v.ownBlock) (hat : v'.ownBlock = v.ownBlock ∨ v'.ownBlock = some m) (hm : w.heap.size ≤ m) : PRow2 w' base v' (l ++ [p]) := by
  have hxl : xs.length = l.length := by simpa using ox.1
  have hap : ∀ y : Value, (∀ g, y.ownBlock = some g → g < w.heap.size) → apartV y v → apartV y v' := fun y hy hyv => by
    cases hyb : y.ownBlock with
    | none => exact .inl hyb
    | some g =>
      right
      rw [hyb]
      rcases hat with e | e
      · rw [e]
        rcases hyv with q | q
        · rw [hyb] at q; cases q
        · rw [hyb] at q; exact q
      · rw [e]
        have := hy g hyb
        intro q
        have := Option.some.inj q
        omega
  have hkeep : ∀ (y : Value) (q : List ByteArray), w.ownsRow base 9 1 y q.length (q.map Value.string) → apartV y v → w'.ownsRow base 9 1 y q.length (q.map Value.string) := fun y q hy hyv => (hy.alloc o).kept hgr hyv
  refine ⟨xs ++ [u], by rw [List.length_append]; exact own', ⟨fun i hi => ?_, fun i j hij hj y y' hy hy' => ?_⟩⟩
  · by_cases h : i < l.length
    · obtain ⟨y, k1, k2, k3, k4⟩ := hd.own i h
      refine ⟨y, by rw [List.getElem?_append_left (by omega)]; exact k1, ?_⟩
      rw [List.getElem_append_left h]
      exact ⟨hkeep y _ k2 k3, hap y (fun g hg => (k2.lt g hg).2) k3, k4⟩
    · have hi2 : i = l.length := by simp at hi; omega
      subst hi2
      refine ⟨u, by rw [List.getElem?_append_right (by omega), hxl]; simp, ?_⟩
      simp only [List.getElem_concat_length]
      exact ⟨hkeep u p hu huv, hap u (fun g hg => (hu.lt g hg).2) huv, hp1, hp2⟩
  · have hj2 : j < l.length + 1 := by simpa using hj
    by_cases h : j < l.length
    · rw [List.getElem?_append_left (by omega)] at hy hy'
      exact hd.apart i j hij h y y' hy hy'
    · have hje : j = l.length := by omega
      subst hje
      rw [List.getElem?_append_left (by omega)] at hy
      rw [List.getElem?_append_right (by omega), hxl] at hy'
      simp at hy'
      subst hy'
      exact hux y (List.mem_of_getElem? hy)
end Go.Proofs.Ytmbpebdceaihaac
