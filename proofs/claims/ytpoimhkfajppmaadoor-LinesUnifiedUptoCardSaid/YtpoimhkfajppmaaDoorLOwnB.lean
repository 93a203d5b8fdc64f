/- A row of bytes of the call's own that may bear the mark of a text's bytes: one more byte, one more text put behind it. -/
import Derived.Test.YtpoimhkfajppmaaDoorLOth
import Derived.Deep.AppendSrc
namespace Go.Proofs.YtpoimhkfajppmaaDoor
open Go.RowKit

def OwnB (w : World) (base : Nat) (v : Value) (O : List UInt8) : Prop :=
  ∃ g cap cur fr, v = .slice (some ⟨g, 0, none⟩) O.length cap ∧ base ≤ g ∧ w.heap[g]? = some (.cells cur 5 fr) ∧ O.length ≤ cap ∧ cap ≤ maxLen ∧ cur.size = cap ∧ (fr = (0, 0) ∨ cap ≤ fr.1) ∧ cur.toList.take O.length = bcells O
theorem OwnB.cell {w : World} {g : Nat} {cur : Array Value} {fr : Nat × Nat} {O : List UInt8} (hg : w.heap[g]? = some (.cells cur 5 fr)) (ht : cur.toList.take O.length = bcells O) (j : Nat) (hj : j < O.length) : w.cell? ⟨g, j, none⟩ = some (.int .u8 ((O[j]'hj).toNat : Int)) := by
  rw [cell_of_row w g j cur 5 fr hg]
  have := congrArg (·[j]?) ht
  simp only [List.getElem?_take, if_pos hj] at this
  rw [show cur[j]? = cur.toList[j]? by simp, this]
  simp [bcells, List.getElem?_eq_getElem hj]
theorem OwnB.below {w w' : World} {base : Nat} {v : Value} {O : List UInt8} (h : OwnB w base v O) (hb : Below w.heap.size w w') : OwnB w' base v O := by
  obtain ⟨g, cap, cur, fr, h1, h2, h3, r⟩ := h
  exact ⟨g, cap, cur, fr, h1, h2, by rw [hb.block g (lt_of_block h3)]; exact h3, r⟩
theorem OwnB.alloc {w : World} {base : Nat} {v : Value} {O : List UInt8} (h : OwnB w base v O) (o : Obj) : OwnB (w.alloc o) base v O := h.below (alloc_below w o)
theorem OwnB.slice {w : World} {base : Nat} {v : Value} {O : List UInt8} (h : OwnB w base v O) : ∃ g cap, v = .slice (some ⟨g, 0, none⟩) O.length cap ∧ O.length ≤ cap ∧ cap ≤ maxLen ∧ g < w.heap.size := by
  obtain ⟨g, cap, cur, fr, h1, h2, h3, h4, h5, r⟩ := h
  exact ⟨g, cap, h1, h4, h5, lt_of_block h3⟩
theorem frozen_row {w : World} {g j : Nat} {cur : Array Value} {e : TypeId} {fr : Nat × Nat} {cap : Nat} (hg : w.heap[g]? = some (.cells cur e fr)) (hf : fr = (0, 0) ∨ cap ≤ fr.1) (hj : j < cap) : w.frozen? ⟨g, j, none⟩ = false := by
  obtain ⟨a, b⟩ := fr
  unfold World.frozen?
  simp only [hg]
  rcases hf with e | e
  · cases e; simp
  · simp at e ⊢; omega
theorem setCells_blocks (b : Nat) : ∀ (vs : List Value) (o : Nat) (w : World) (cur : Array Value) (e : TypeId) (fr : Nat × Nat), w.heap[b]? = some (.cells cur e fr) → (∃ cur', (w.setCells b o vs).heap[b]? = some (.cells cur' e fr) ∧ cur'.size = cur.size) ∧ w.grownBy (w.setCells b o vs) (some b)
  | [], o, w, cur, e, fr, h => ⟨⟨cur, h, rfl⟩, World.grownBy.refl _ _⟩
  | v :: r, o, w, cur, e, fr, h => by
    have hlt := lt_of_block h
    have h1 : (w.setCell ⟨b, o, none⟩ v).heap[b]? = some (.cells (cur.setIfInBounds o v) e fr) := by
      simp only [World.setCell, Array.getElem?_modify, if_true, h, Option.map_some]
      rfl
    have g1 : w.grownBy (w.setCell ⟨b, o, none⟩ v) (some b) := by
      refine ⟨rfl, rfl, rfl, by simp [World.setCell], fun k hk hne => ?_⟩
      have : b ≠ k := fun q => hne (by rw [q])
      simp [World.setCell, Array.getElem?_modify, this]
    obtain ⟨⟨cur', q1, q2⟩, q3⟩ := setCells_blocks b r (o + 1) (w.setCell ⟨b, o, none⟩ v) _ e fr h1
    exact ⟨⟨cur', q1, by simpa using q2⟩, g1.andThen q3 (fun j e => .inr e)⟩
theorem oth_ownB {w w' : World} {g : Nat} {cur : Array Value} {fr : Nat × Nat} (hg : w.heap[g]? = some (.cells cur 5 fr)) (h : w.grownBy w' (some g)) : Oth w w' :=
  ⟨h.size, fun k hk hn => h.block k hk (fun e => by cases e; exact hn _ _ hg)⟩
theorem run_append_ownB (w : World) (tx ty : TypeId) (base : Nat) (v : Value) (O N : List UInt8) (x : Value) (h : OwnB w base v O) (hs : Src Tryd.prog 1 tx x N.length (bcells N) w) (hO : O.length + N.length ≤ 1099511627776) (hb : base ≤ w.heap.size) :
    ∃ v' w', (Builtin.append_ #[53, tx] ty #[v, x]).run Tryd.prog w = .ok v' w' ∧ OwnB w' base v' (O ++ N) ∧ Below base w w' ∧ Oth w w' := by
  obtain ⟨i0, hi, hz0, hz1, hz2⟩ := info_parts Tryd.infoByte
  obtain ⟨g, cap, cur, fr, rfl, h2, h3, h4, h5, h6, h7, h8⟩ := h
  have hs' : Src Tryd.prog i0.size tx x N.length (bcells N) w := by rw [hz1]; exact hs
  have hl : (bcells N).length = N.length := bcells_length N
  have hlO : (bcells O).length = O.length := bcells_length O
  by_cases hroom : O.length + N.length ≤ cap
  · have hcell : ∀ j, j < cap → (w.cell? ⟨g, j, none⟩).isSome = true := fun j hj => by
      rw [cell_of_row w g j cur 5 fr h3]
      simp; omega
    have hr := run_append_room_src (P := Tryd.prog) w 53 tx ty 5 i0 Tryd.underlying53 hi g 0 O.length cap x N.length (bcells N) hs' hroom (fun j hj => by rw [hz1]; exact hcell _ (by omega)) (fun j hj => by rw [hz1]; exact frozen_row h3 h7 (by omega))
    rw [hz1, Nat.zero_add, Nat.mul_one] at hr
    obtain ⟨⟨cur', q1, q2⟩, q3⟩ := setCells_blocks g (bcells N) O.length w cur 5 fr h3
    refine ⟨_, _, hr, ⟨g, cap, cur', fr, by rw [List.length_append], h2, q1, by rw [List.length_append]; exact hroom, h5, by rw [q2, h6], h7, ?_⟩, (Below.refl _ _).grown q3 hb (fun k e => by cases e; exact h2), oth_ownB h3 q3⟩
    apply List.ext_getElem?
    intro j
    by_cases hj : j < O.length + N.length
    · rw [List.getElem?_take, if_pos (by rw [List.length_append]; exact hj), show cur'.toList[j]? = cur'[j]? by simp, ← cell_of_row _ g j cur' 5 fr q1, bcells_append]
      by_cases hj2 : j < O.length
      · rw [World.cell?_setCells_out g _ _ _ _ (fun _ _ => .inl hj2), OwnB.cell (O := O) h3 h8 j hj2, List.getElem?_append_left (by omega)]
        simp [bcells, List.getElem?_eq_getElem hj2]
      · have hin := World.cell?_setCells_in g (bcells N) O.length w (fun k hk => hcell _ (by omega)) (j - O.length) (by omega)
        rw [show O.length + (j - O.length) = j by omega] at hin
        rw [hin, List.getElem?_append_right (by omega), hlO, List.getElem?_eq_getElem (by omega)]
    · rw [List.getElem?_take, if_neg (by rw [List.length_append]; exact hj), List.getElem?_eq_none (by rw [bcells_length, List.length_append]; omega)]
  · have hfit : Builtin.nextslicecap (O.length + N.length) cap * i0.bytes ≤ 281474976710656 := growslice_fits (by omega) (by rw [hz2]; omega)
    have hold : (Builtin.firstCells i0.size O.length (.slice (some ⟨g, 0, none⟩) O.length cap)).run Tryd.prog w.drew = .ok (bcells O).toArray w.drew := by
      refine run_firstCells_some w.drew i0.size O.length ⟨g, 0, none⟩ O.length cap (bcells O) (by rw [hz1, hlO, Nat.mul_one]) (fun j u hu => ?_)
      have hj : j < O.length := by
        have := (List.getElem?_eq_some_iff.1 hu).1
        omega
      rw [add_at]
      show w.cell? _ = _
      rw [OwnB.cell (O := O) h3 h8 j hj, ← hu]
      simp [bcells, List.getElem?_eq_getElem hj]
    have hr := run_append_grow_src (P := Tryd.prog) w 53 tx ty 5 i0 (.int .u8 0) Tryd.underlying53 hi hz0 (some ⟨g, 0, none⟩) O.length cap (bcells O) hold x N.length (bcells N) hs' (by omega) (by omega) hfit
    have hge := grownCap_ge w (O.length + N.length) cap 5
    have hle := grownCap_le_maxLen w (O.length + N.length) cap 5 (by unfold maxLen; omega)
    generalize grownCap w (O.length + N.length) cap 5 = gc at *
    refine ⟨_, _, hr, ⟨w.heap.size, gc, _, (0, 0), by rw [List.length_append], hb, heap_alloc_new w.drew _, by rw [List.length_append]; exact hge, hle, ?_, .inl rfl, ?_⟩, (Below.refl _ _).drew.alloc hb _, Oth.of ((Below.refl _ _).drew.alloc (Nat.le_refl _) _)⟩
    · simp only [Array.size_append, size_zeroCells]
      simp [hl, hlO, Value.cells]
      omega
    · rw [List.length_append, bcells_append]
      simp only [Array.toList_append]
      rw [List.take_append_of_le_length (by simp [hl, hlO]), List.take_of_length_le (by simp [hl, hlO])]
theorem appB_byte (w : World) {ops : Array Oper} {rest : List Oper} {o : Oper} {a : Act} {Q : Exit → Act → World → Prop} (hgd : o.guard = none) (s x : Operand)
    (ho : o.op = .call { callee := .builtin .append, args := #[s, x], argTypes := #[53, 53] })
    (base : Nat) (v : Value) (O : List UInt8) (hs : a.eval s = v) (hown : OwnB w base v O)
    (g c : Nat) (b : UInt8) (hx : a.eval x = .slice (some ⟨g, 0, none⟩) 1 c) (hc : w.cell? ⟨g, 0, none⟩ = some (.int .u8 (b.toNat : Int)))
    (hO : O.length ≤ 1000000000000) (hbase : base ≤ w.heap.size)
    (h : ∀ v' w', OwnB w' base v' (O ++ [b]) → Below base w w' → Oth w w' → wpList Tryd.prog ops Q rest (a.put o.dst v') w') : wpList Tryd.prog ops Q (o :: rest) a w := by
  refine wpList_plain hgd fun K hK => ?_
  have src : Src Tryd.prog 1 53 (.slice (some ⟨g, 0, none⟩) 1 c) [b].length (bcells [b]) w := Src.ofSlice w Tryd.underlying53 ⟨g, 0, none⟩ 1 c (bcells [b]) rfl (fun j u hu => by
    rw [add_at]
    match j, hu with
    | 0, hu => simpa [hc, bcells] using hu
    | j + 1, hu => simp [bcells] at hu) (fun u hu => by simp [bcells] at hu; subst hu; rfl)
  obtain ⟨v', w', hr, h2, h3, h4⟩ := run_append_ownB w 53 o.type base v O [b] _ hown src (by simp; omega) hbase
  unfold Oper.wp execOp
  simp only [ho, resolve, invoke, builtin, Sem.run_bind, Sem.run_pure, Result.andThen_ok, List.map_toArray, List.map_cons, List.map_nil, hs, hx, hr]
  exact hK _ _ (h v' w' h2 h3 h4)
theorem appB_str (w : World) {ops : Array Oper} {rest : List Oper} {o : Oper} {a : Act} {Q : Exit → Act → World → Prop} (hgd : o.guard = none) (s x : Operand)
    (ho : o.op = .call { callee := .builtin .append, args := #[s, x], argTypes := #[53, 9] })
    (base : Nat) (v : Value) (O : List UInt8) (hs : a.eval s = v) (hown : OwnB w base v O)
    (t : ByteArray) (hx : a.eval x = .string t)
    (hO : O.length + t.size ≤ 1000000000000) (hbase : base ≤ w.heap.size)
    (h : ∀ v' w', OwnB w' base v' (O ++ t.data.toList) → Below base w w' → Oth w w' → wpList Tryd.prog ops Q rest (a.put o.dst v') w') : wpList Tryd.prog ops Q (o :: rest) a w := by
  refine wpList_plain hgd fun K hK => ?_
  have src : Src Tryd.prog 1 9 (.string t) t.data.toList.length (bcells t.data.toList) w := by
    rw [Ln.szL]
    exact Src.ofString w Tryd.underlying9 t
  obtain ⟨v', w', hr, h2, h3, h4⟩ := run_append_ownB w 9 o.type base v O t.data.toList _ hown src (by rw [Ln.szL]; omega) hbase
  unfold Oper.wp execOp
  simp only [ho, resolve, invoke, builtin, Sem.run_bind, Sem.run_pure, Result.andThen_ok, List.map_toArray, List.map_cons, List.map_nil, hs, hx, hr]
  exact hK _ _ (h v' w' h2 h3 h4)
/-- The bytes of a text, as a row of its own. -/
theorem conv_ownB (w : World) (s : ByteArray) (base : Nat) (hb : base ≤ w.heap.size) (hs : s.size ≤ 1000000000000) : ∃ v w', (convert 9 53 (.string s)).run Tryd.prog w = .ok v w' ∧ OwnB w' base v s.data.toList ∧ Below w.heap.size w w' := by
  have hr := run_bytes_of_string (P := Tryd.prog) w 9 53 5 s Tryd.underlying9 Tryd.underlying53 Tryd.underlying5
  have hge := grownCap_ge w s.size 0 5
  have hle := grownCap_le_maxLen w s.size 0 5 (by unfold maxLen; omega)
  generalize grownCap w s.size 0 5 = gc at *
  have hsz : (bytesRow s gc).size = gc := by
    unfold bytesRow
    simp
    have : s.data.size = s.size := rfl
    omega
  refine ⟨_, _, hr, ⟨w.heap.size, gc, _, _, by rw [Ln.szL], hb, heap_alloc_new w.drew _, by rw [Ln.szL]; exact hge, hle, hsz, .inr (by simp [hsz]), ?_⟩, (Below.refl _ _).drew.alloc (Nat.le_refl _) _⟩
  unfold bytesRow bcells
  rw [Array.toList_append, List.take_append_of_le_length (by simp), List.take_of_length_le (by simp)]
  simp
theorem ownB_string {w : World} {base g cap : Nat} {l : List UInt8} (h : OwnB w base (.slice (some ⟨g, 0, none⟩) l.length cap) l) :
    (convert 53 9 (.slice (some ⟨g, 0, none⟩) l.length cap)).run Tryd.prog w = .ok (.string ⟨l.toArray⟩) w := by
  obtain ⟨g', cap', cur, fr, e, _, h3, _, _, _, _, h8⟩ := h
  cases e
  refine run_convert_bytes_back w 53 9 5 ⟨g, 0, none⟩ cap l Tryd.underlying53 Tryd.underlying5 Tryd.underlying9 (fun j hj => ?_)
  rw [add_at]
  exact OwnB.cell h3 h8 j hj
end Go.Proofs.YtpoimhkfajppmaaDoor
