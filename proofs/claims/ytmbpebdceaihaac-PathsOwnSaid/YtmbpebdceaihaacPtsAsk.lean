/- Plain facts of what Inside answers (for a seat that has no reference's Within). -/
import Derived.Test.YtmbpebdceaihaacPts
import Derived.Test.YtmbpebdceaihaacOrder
namespace Go.Proofs.Ytmbpebdceaihaac
open Go.RowKit

namespace Pl
theorem com_drop : ∀ a b : List ByteArray, cmpP a b = cmpP (a.drop (com a b)) (b.drop (com a b))
  | [], b => by simp [com_nil_left]
  | _ :: _, [] => by simp [com_nil_right]
  | x :: r, y :: t => by
    have ih := com_drop r t
    by_cases h : (x.toList == y.toList) = true
    · have e : com (x :: r) (y :: t) = com r t + 1 := by simp only [com, h, if_true]; omega
      rw [e, List.drop_succ_cons, List.drop_succ_cons, ← ih]
      simp only [cmpP, lex, cmpS_eq h, if_true]
    · have e : com (x :: r) (y :: t) = 0 := by simp only [com]; rw [if_neg h]
      rw [e]; rfl
theorem com_part : ∀ (a b : List ByteArray) (h1 : com a b < a.length) (h2 : com a b < b.length), ((a[com a b]'h1).toList == (b[com a b]'h2).toList) = false
  | [], _, h1, _ => absurd h1 (by simp)
  | _ :: _, [], _, h2 => absurd h2 (by simp)
  | x :: r, y :: t, h1, h2 => by
    by_cases h : (x.toList == y.toList) = true
    · have e : com (x :: r) (y :: t) = com r t + 1 := by simp only [com, h, if_true]; omega
      have ih := com_part r t (by rw [e] at h1; simpa using h1) (by rw [e] at h2; simpa using h2)
      simp only [e, List.getElem_cons_succ]
      exact ih
    · have e : com (x :: r) (y :: t) = 0 := by simp only [com]; rw [if_neg h]
      simp only [e, List.getElem_cons_zero]
      simpa using h
def insideB (l : List (List ByteArray)) (p : List ByteArray) : Bool := l.any fun q => withinP p q
theorem inside_step {l : List (List ByteArray)} {p : List ByteArray} {k : Nat} (hk : k < l.length) (h : withinP p (l[k]'hk) = false) : insideB (l.drop k) p = insideB (l.drop (k + 1)) p := by
  rw [List.drop_eq_getElem_cons hk, insideB, List.any_cons, h]; rfl
theorem inside_hit {l : List (List ByteArray)} {p : List ByteArray} {k : Nat} (hk : k < l.length) (h : withinP p (l[k]'hk) = true) : insideB (l.drop k) p = true := by
  rw [List.drop_eq_getElem_cons hk, insideB, List.any_cons, h]; rfl
end Pl
end Go.Proofs.Ytmbpebdceaihaac
