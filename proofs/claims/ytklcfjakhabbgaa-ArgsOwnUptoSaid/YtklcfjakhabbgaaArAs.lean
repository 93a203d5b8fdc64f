/- append of texts, be there any or none; a row that is laid whole. -/
import Derived.Test.YtklcfjakhabbgaaArAd
import Derived.Maps.AppendAt
namespace Go.Proofs.Ytklcfjakhabbgaa
open Go.RowKit

/-- append of texts, be there any or none. -/
theorem wpList_append_strs (w : World) {ops : Array Oper} {rest : List Oper} {o : Oper} {a : Act} {Q : Exit → Act → World → Prop} (hgd : o.guard = none) (s x : Operand)
    (ho : o.op = .call { callee := .builtin .append, args := #[s, x], argTypes := #[22, 22] }) (base : Nat) (v : Value) (X : List ByteArray) (hs : a.eval s = v) (hown : w.ownsRow base 9 1 v X.length (X.map Value.string))
    (na : Option Addr) (nc : Nat) (L : List ByteArray) (hx : a.eval x = .slice na L.length nc) (hL : Strs w na nc L) (hn : X.length + L.length ≤ 2097152) (hbase : base ≤ w.heap.size)
    (h : ∀ v' w', w'.ownsRow base 9 1 v' (X ++ L).length ((X ++ L).map Value.string) → w.grownBy w' v.ownBlock → wpList Try.prog ops Q rest (a.put o.dst v') w') :
    wpList Try.prog ops Q (o :: rest) a w := by
  obtain ⟨i0, hi, hz0, hz1, hz2⟩ := info_parts Try.infoStr
  cases na with
  | none =>
    obtain ⟨rfl, rfl⟩ := hL.none
    refine wpList_append_none2 w hgd s x 22 22 ho 9 9 Try.underlying22 Try.underlying22 i0 hi base v _ _ 1 hs hown hx ?_
    exact h v w (by rw [List.append_nil]; exact hown) ⟨rfl, rfl, rfl, Nat.le_refl _, fun _ _ _ => rfl⟩
  | some ad =>
    refine wpList_append_own_at w hgd s x 22 ho base 9 i0 (.string ⟨#[]⟩) 1 16 Try.underlying22 hi hz0 hz1 hz2 rfl (by decide) v X.length (X.map Value.string) hs hown ad L.length nc (L.map Value.string) hx (by simp) hL.news (strings_oneCell L) (by unfold maxLen; omega) (by omega) hbase ?_
    intro v' w' h1 h2 _ _
    exact h v' w' (by rw [List.length_append, List.map_append]; exact h1) h2
theorem row_lit (w : World) (l : List ByteArray) (hl : l.length ≤ 65536) : (w.alloc (.cells (l.map Value.string).toArray 9)).ownsRow w.heap.size 9 1 (.slice (some ⟨w.heap.size, 0, none⟩) l.length l.length) l.length (l.map Value.string) :=
  ⟨by simp, Or.inr ⟨w.heap.size, l.length, (l.map Value.string).toArray, rfl, Nat.le_refl _, heap_alloc_new _ _, Nat.le_refl _, by unfold maxLen; omega, by simp, by rw [Nat.mul_one, ← List.length_map (f := Value.string)]; exact List.take_length⟩⟩
end Go.Proofs.Ytklcfjakhabbgaa
