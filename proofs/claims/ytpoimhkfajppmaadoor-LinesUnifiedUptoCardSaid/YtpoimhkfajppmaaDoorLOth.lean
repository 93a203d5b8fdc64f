/- A row of bytes of the call's own that grows while all that is no row of bytes stays. -/
import Derived.Test.YtpoimhkfajppmaaDoorLApp
namespace Go.Proofs.YtpoimhkfajppmaaDoor
open Go.RowKit

/-- Of the blocks of w none but rows of bytes has turned. -/
structure Oth (w w' : World) : Prop where
  size : w.heap.size ≤ w'.heap.size
  block : ∀ k, k < w.heap.size → (∀ cur fr, w.heap[k]? ≠ some (.cells cur 5 fr)) → w'.heap[k]? = w.heap[k]?
theorem Oth.trans {a b c : World} (h : Oth a b) (k : Oth b c) : Oth a c :=
  ⟨Nat.le_trans h.size k.size, fun i hi hn => (k.block i (Nat.lt_of_lt_of_le hi h.size) (fun cur fr e => hn cur fr (by rw [← h.block i hi hn]; exact e))).trans (h.block i hi hn)⟩
theorem Oth.of {w w' : World} (h : Below w.heap.size w w') : Oth w w' := ⟨h.size, fun k hk _ => h.block k hk⟩
theorem Oth.grown {w w' : World} {base : Nat} {v : Value} {n : Nat} {xs : List Value} (ho : w.ownsRow base 5 1 v n xs) (hg : w.grownBy w' v.ownBlock) : Oth w w' := by
  refine ⟨hg.size, fun k hk hn => hg.block k hk (fun e => ?_)⟩
  rcases ho.2 with ⟨rfl, _⟩ | ⟨g, cap, cur, rfl, _, hh, _⟩
  · simp [Value.ownBlock] at e
  · simp [Value.ownBlock] at e
    subst e
    exact hn cur (0, 0) hh
theorem own_oth {w w' : World} {base : Nat} {e : TypeId} {size : Nat} {v : Value} {n : Nat} {xs : List Value} (h : w.ownsRow base e size v n xs) (he : e ≠ 5) (ho : Oth w w') : w'.ownsRow base e size v n xs := by
  refine ⟨h.1, ?_⟩
  rcases h.2 with q | ⟨g, cap, cur, q1, q2, q3, q⟩
  · exact .inl q
  · refine .inr ⟨g, cap, cur, q1, q2, ?_, q⟩
    rw [ho.block g (lt_of_block q3) (fun c f e' => by rw [q3] at e'; cases e'; exact he rfl)]
    exact q3
theorem cell_oth {w w' : World} {k j : Nat} {cur : Array Value} {e : TypeId} {u : Value} (h : w.heap[k]? = some (.cells cur e)) (he : e ≠ 5) (ho : Oth w w') (hu : cur[j]? = some u) : w'.heap[k]? = some (.cells cur e) ∧ w'.cell? ⟨k, j, none⟩ = some u := by
  have q : w'.heap[k]? = some (.cells cur e) := by
    rw [ho.block k (lt_of_block h) (fun c f e' => by rw [h] at e'; cases e'; exact he rfl)]
    exact h
  exact ⟨q, by rw [cell_of_row _ _ j cur e (0, 0) q]; exact hu⟩

theorem app_byte (w : World) {ops : Array Oper} {rest : List Oper} {o : Oper} {a : Act} {Q : Exit → Act → World → Prop} (hgd : o.guard = none) (s x : Operand)
    (ho : o.op = .call { callee := .builtin .append, args := #[s, x], argTypes := #[53, 53] })
    (base : Nat) (v : Value) (O : List UInt8) (hs : a.eval s = v) (hown : w.ownsRow base 5 1 v O.length (bcells O))
    (g c : Nat) (b : UInt8) (hx : a.eval x = .slice (some ⟨g, 0, none⟩) 1 c) (hc : w.cell? ⟨g, 0, none⟩ = some (.int .u8 (b.toNat : Int)))
    (hO : O.length ≤ 1099511627776) (hbase : base ≤ w.heap.size)
    (h : ∀ v' w', w'.ownsRow base 5 1 v' (O ++ [b]).length (bcells (O ++ [b])) → Below base w w' → Oth w w' → wpList Tryd.prog ops Q rest (a.put o.dst v') w') : wpList Tryd.prog ops Q (o :: rest) a w := by
  obtain ⟨i0, hi, hz0, hz1, hz2⟩ := info_parts Tryd.infoByte
  refine wpList_append_own w hgd s x 53 ho base 5 i0 (.int .u8 0) 1 1 Tryd.underlying53 hi hz0 hz1 hz2 rfl (by decide) v O.length (bcells O) hs hown ⟨g, 0, none⟩ 1 c [.int .u8 (b.toNat : Int)] hx rfl ?_ ?_ (by unfold maxLen; omega) (by omega) hbase ?_
  · intro j u hu
    rw [add_at]
    match j, hu with
    | 0, hu => simpa [hc] using hu
    | j + 1, hu => simp at hu
  · intro u hu; simp at hu; subst hu; rfl
  · intro v' w' h1 h2 _
    exact h v' w' (by rw [bcells_append, List.length_append]; exact h1) ((Below.refl _ _).grown h2 hbase (fun k hk => (hown.lt k hk).1)) (Oth.grown hown h2)
theorem app_str (w : World) {ops : Array Oper} {rest : List Oper} {o : Oper} {a : Act} {Q : Exit → Act → World → Prop} (hgd : o.guard = none) (s x : Operand)
    (ho : o.op = .call { callee := .builtin .append, args := #[s, x], argTypes := #[53, 9] })
    (base : Nat) (v : Value) (O : List UInt8) (hs : a.eval s = v) (hown : w.ownsRow base 5 1 v O.length (bcells O))
    (t : ByteArray) (hx : a.eval x = .string t)
    (hO : O.length + t.size ≤ 1099511627776) (hbase : base ≤ w.heap.size)
    (h : ∀ v' w', w'.ownsRow base 5 1 v' (O ++ t.data.toList).length (bcells (O ++ t.data.toList)) → Below base w w' → Oth w w' → wpList Tryd.prog ops Q rest (a.put o.dst v') w') : wpList Tryd.prog ops Q (o :: rest) a w := by
  obtain ⟨i0, hi, hz0, hz1, hz2⟩ := info_parts Tryd.infoByte
  refine Lib.wpList_append_own_string w hgd s x 53 9 ho base 5 i0 Tryd.underlying53 Tryd.underlying9 hi hz0 hz1 hz2 v O.length (bcells O) hs hown t hx (by unfold maxLen; omega) (by omega) hbase ?_
  intro v' w' h1 h2 _
  exact h v' w' (by rw [bcells_append, List.length_append, Ln.szL]; exact h1) ((Below.refl _ _).grown h2 hbase (fun k hk => (hown.lt k hk).1)) (Oth.grown hown h2)
end Go.Proofs.YtpoimhkfajppmaaDoor
