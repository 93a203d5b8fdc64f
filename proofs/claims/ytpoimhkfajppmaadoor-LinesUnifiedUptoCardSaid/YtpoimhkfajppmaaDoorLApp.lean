/- One more line, one more change, put behind a row of the call's own. -/
import Derived.Test.YtpoimhkfajppmaaDoorLChs
namespace Go.Proofs.YtpoimhkfajppmaaDoor
open Go.RowKit

theorem add_at (g j : Nat) : (⟨g, 0, none⟩ : Addr).add j = ⟨g, j, none⟩ := by unfold Addr.add; split <;> simp_all
theorem cell_at_new (w : World) (n j : Nat) (cur : Array Value) (t : TypeId) (u : Value) (hn : w.heap.size = n) (hu : cur[j]? = some u) : (w.alloc (.cells cur t)).cell? ⟨n, j, none⟩ = some u := by
  subst hn
  rw [cell_of_row _ _ j cur t (0, 0) (heap_alloc_new w _)]
  exact hu
theorem own_drewN {w : World} {base : Nat} {e : TypeId} {size : Nat} {v : Value} {n : Nat} {xs : List Value} (h : w.ownsRow base e size v n xs) (m : Nat) : (w.drewN m).ownsRow base e size v n xs := own_below h (below_drewN (Below.refl _ _) m)
theorem app_line (w : World) {ops : Array Oper} {rest : List Oper} {o : Oper} {a : Act} {Q : Exit → Act → World → Prop} (hgd : o.guard = none) (s x : Operand)
    (ho : o.op = .call { callee := .builtin .append, args := #[s, x], argTypes := #[35, 35] })
    (base : Nat) (v : Value) (J : List (ByteArray × Bool)) (hs : a.eval s = v) (hown : w.ownsRow base 38 2 v J.length (lcells J))
    (g c : Nat) (x1 : ByteArray) (x2 : Bool) (hx : a.eval x = .slice (some ⟨g, 0, none⟩) 1 c) (hc1 : w.cell? ⟨g, 0, none⟩ = some (.string x1)) (hc2 : w.cell? ⟨g, 1, none⟩ = some (.bool x2))
    (hJ : J.length ≤ 67108864) (hbase : base ≤ w.heap.size)
    (h : ∀ v' w', w'.ownsRow base 38 2 v' (J ++ [(x1, x2)]).length (lcells (J ++ [(x1, x2)])) → w.grownBy w' v.ownBlock → wpList Tryd.prog ops Q rest (a.put o.dst v') w') : wpList Tryd.prog ops Q (o :: rest) a w := by
  obtain ⟨i0, hi, hz0, hz1, hz2⟩ := info_parts Tryd.infoLine
  refine wpList_append_own w hgd s x 35 ho base 38 i0 (.agg #[.string ⟨#[]⟩, .bool false]) 2 24 Tryd.underlying35 hi hz0 hz1 hz2 rfl (by decide) v J.length (lcells J) hs hown ⟨g, 0, none⟩ 1 c [.string x1, .bool x2] hx rfl ?_ ?_ (by unfold maxLen; omega) (by omega) hbase ?_
  · intro j u hu
    rw [add_at]
    match j, hu with
    | 0, hu => simpa [hc1] using hu
    | 1, hu => simpa [hc2] using hu
    | j + 2, hu => simp at hu
  · intro u hu; simp at hu; rcases hu with rfl | rfl <;> rfl
  · intro v' w' h1 h2 _
    exact h v' w' (by rw [lcells_append, List.length_append]; exact h1) h2
theorem app_ch (w : World) {ops : Array Oper} {rest : List Oper} {o : Oper} {a : Act} {Q : Exit → Act → World → Prop} (hgd : o.guard = none) (s x : Operand)
    (ho : o.op = .call { callee := .builtin .append, args := #[s, x], argTypes := #[22, 22] })
    (base : Nat) (v : Value) (J : List (Nat × (ByteArray × Bool))) (hs : a.eval s = v) (hown : w.ownsRow base 40 3 v J.length (ccells J))
    (g c kd : Nat) (x1 : ByteArray) (x2 : Bool) (hx : a.eval x = .slice (some ⟨g, 0, none⟩) 1 c) (hc0 : w.cell? ⟨g, 0, none⟩ = some (.int .u8 (kd : Int))) (hc1 : w.cell? ⟨g, 1, none⟩ = some (.string x1)) (hc2 : w.cell? ⟨g, 2, none⟩ = some (.bool x2))
    (hJ : J.length ≤ 67108864) (hbase : base ≤ w.heap.size)
    (h : ∀ v' w', w'.ownsRow base 40 3 v' (J ++ [(kd, (x1, x2))]).length (ccells (J ++ [(kd, (x1, x2))])) → w.grownBy w' v.ownBlock → wpList Tryd.prog ops Q rest (a.put o.dst v') w') : wpList Tryd.prog ops Q (o :: rest) a w := by
  obtain ⟨i0, hi, hz0, hz1, hz2⟩ := info_parts Tryd.infoChange
  refine wpList_append_own w hgd s x 22 ho base 40 i0 (.agg #[.int .u8 0, .string ⟨#[]⟩, .bool false]) 3 32 Tryd.underlying22 hi hz0 hz1 hz2 rfl (by decide) v J.length (ccells J) hs hown ⟨g, 0, none⟩ 1 c [.int .u8 (kd : Int), .string x1, .bool x2] hx rfl ?_ ?_ (by unfold maxLen; omega) (by omega) hbase ?_
  · intro j u hu
    rw [add_at]
    match j, hu with
    | 0, hu => simpa [hc0] using hu
    | 1, hu => simpa [hc1] using hu
    | 2, hu => simpa [hc2] using hu
    | j + 3, hu => simp at hu
  · intro u hu; simp at hu; rcases hu with rfl | rfl | rfl <;> rfl
  · intro v' w' h1 h2 _
    exact h v' w' (by rw [ccells_append, List.length_append]; exact h1) h2
end Go.Proofs.YtpoimhkfajppmaaDoor
