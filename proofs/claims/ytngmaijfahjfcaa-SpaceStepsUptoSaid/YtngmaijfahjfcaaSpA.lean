/- Bytes in memory of the call's own, at whatever place of their block: what keeps them, what is put behind them, the text of them. -/
import Derived.Test.YtngmaijfahjfcaaSpPl
import Derived.Test.YtngmaijfahjfcaaBytes
import Derived.Deep.AppendSrc
import Derived.Lib.AppendZerosOnto
import Derived.Laws.Rows
namespace Go.Proofs.Ytngmaijfahjfcaa
open Go.RowKit

theorem ret_bool {a b : Bool} (h : a = b) : Ending.returned (.bool a) = .returned (.bool b) := by rw [h]
theorem ret_int {k : IntKind} {a b : Int} (h : a = b) : Ending.returned (.int k a) = .returned (.int k b) := by rw [h]
theorem ret_str {a b : ByteArray} (h : a = b) : Ending.returned (.string a) = .returned (.string b) := by rw [h]
theorem add_at (g o j : Nat) : (⟨g, o, none⟩ : Addr).add j = ⟨g, o + j, none⟩ := by unfold Addr.add; split <;> simp_all

/-- Of the blocks of A none but those of O has turned. -/
structure Tu (O : Nat → Prop) (A B : World) : Prop where
  os : B.os = A.os
  tape : B.tape = A.tape
  output : B.output = A.output
  size : A.heap.size ≤ B.heap.size
  block : ∀ k, k < A.heap.size → ¬ O k → B.heap[k]? = A.heap[k]?
theorem Tu.refl (O : Nat → Prop) (A : World) : Tu O A A := ⟨rfl, rfl, rfl, Nat.le_refl _, fun _ _ _ => rfl⟩
theorem Tu.mono {O O' : Nat → Prop} {A B : World} (h : Tu O A B) (hO : ∀ k, k < A.heap.size → O k → O' k) : Tu O' A B :=
  ⟨h.os, h.tape, h.output, h.size, fun k hk hn => h.block k hk (fun e => hn (hO k hk e))⟩
theorem Tu.trans {O O' : Nat → Prop} {A B C : World} (h : Tu O A B) (h' : Tu O' B C) (hO : ∀ k, k < A.heap.size → O' k → O k) : Tu O A C :=
  ⟨h'.os.trans h.os, h'.tape.trans h.tape, h'.output.trans h.output, Nat.le_trans h.size h'.size, fun k hk hn => (h'.block k (by have := h.size; omega) (fun e => hn (hO k hk e))).trans (h.block k hk hn)⟩
theorem Tu.of_below {O : Nat → Prop} {A B : World} (h : Below A.heap.size A B) : Tu O A B :=
  ⟨h.os, h.tape, h.output, h.size, fun k hk _ => h.block k hk⟩
theorem Tu.alloc {O : Nat → Prop} {A B : World} (h : Tu O A B) (o : Obj) : Tu O A (B.alloc o) :=
  h.trans (O' := fun _ => False) (Tu.of_below ((Below.refl B.heap.size B).alloc (Nat.le_refl _) o)) (fun _ _ e => e.elim)
theorem Tu.below {O : Nat → Prop} {A B : World} {n : Nat} (h : Tu O A B) (hn : n ≤ A.heap.size) (hO : ∀ k, O k → n ≤ k) : Below n A B :=
  ⟨h.os, h.tape, h.output, h.size, fun k hk => h.block k (by omega) (fun e => by have := hO k e; omega)⟩
theorem Tu.drew {O : Nat → Prop} {A B : World} (h : Tu O A B) : Tu O A B.drew := ⟨h.os, h.tape, h.output, h.size, h.block⟩
theorem Tu.setCell {O : Nat → Prop} {A B : World} (h : Tu O A B) {p : Addr} (hp : p.block < A.heap.size → O p.block) (v : Value) : Tu O A (B.setCell p v) := by
  have y := (Below.refl 0 B).setCell (p := p) (Nat.zero_le _) v
  exact h.trans (O' := fun k => k = p.block) ⟨y.os, y.tape, y.output, y.size, fun k _ hn => heap_setCell_other B p k v hn⟩ (fun k hk e => by subst e; exact hp hk)
theorem Tu.of_grown {O : Nat → Prop} {A B : World} {r : Option Nat} (h : A.grownBy B r) (hr : ∀ k, r = some k → O k) : Tu O A B :=
  ⟨h.os, h.tape, h.output, h.size, fun k hk hn => h.block k hk (fun e => hn (hr k e.symm))⟩

/-- The block in which a slice lies. -/
abbrev blk (v : Value) : Option Nat := v.ownBlock
/-- v reads as the bytes l; what lies behind them within its capacity may be written. -/
def Byt (w : World) (v : Value) (l : List UInt8) : Prop :=
  (v = .slice none 0 0 ∧ l = []) ∨ ∃ g o cap cur fr, v = .slice (some ⟨g, o, none⟩) l.length cap ∧ w.heap[g]? = some (.cells cur 5 fr) ∧ l.length ≤ cap ∧ cap ≤ maxLen ∧ o + cap ≤ cur.size ∧ (fr = (0, 0) ∨ o + cap ≤ fr.1) ∧ ∀ j (h : j < l.length), cur[o + j]? = some (.int .u8 ((l[j]'h).toNat : Int))
theorem Byt.keep {w w' : World} {v : Value} {l : List UInt8} (h : Byt w v l) (hk : ∀ b, blk v = some b → w'.heap[b]? = w.heap[b]?) : Byt w' v l := by
  rcases h with h | ⟨g, o, cap, cur, fr, rfl, h2, r⟩
  · exact .inl h
  · exact .inr ⟨g, o, cap, cur, fr, rfl, by rw [hk g rfl]; exact h2, r⟩
theorem Byt.lt {w : World} {v : Value} {l : List UInt8} (h : Byt w v l) {b : Nat} (hb : blk v = some b) : b < w.heap.size := by
  rcases h with ⟨rfl, _⟩ | ⟨g, o, cap, cur, fr, rfl, h2, r⟩
  · cases hb
  · cases hb; exact lt_of_block h2
theorem Byt.tu {O : Nat → Prop} {w w' : World} {v : Value} {l : List UInt8} (h : Byt w v l) (ht : Tu O w w') (hk : ∀ b, blk v = some b → ¬ O b) : Byt w' v l :=
  h.keep (fun b hb => ht.block b (h.lt hb) (hk b hb))
theorem Byt.slice {w : World} {v : Value} {l : List UInt8} (h : Byt w v l) : ∃ a c, v = .slice a l.length c := by
  rcases h with ⟨rfl, rfl⟩ | ⟨g, o, cap, cur, fr, rfl, _⟩
  · exact ⟨none, 0, rfl⟩
  · exact ⟨_, _, rfl⟩
theorem frozen_row {w : World} {g j : Nat} {cur : Array Value} {e : TypeId} {fr : Nat × Nat} {cap : Nat} (hg : w.heap[g]? = some (.cells cur e fr)) (hf : fr = (0, 0) ∨ cap ≤ fr.1) (hj : j < cap) : w.frozen? ⟨g, j, none⟩ = false := by
  obtain ⟨a, b⟩ := fr
  unfold World.frozen?
  simp only [hg]
  rcases hf with e | e
  · cases e; simp
  · simp at e ⊢; omega
/-- The text of bytes in memory. -/
theorem byt_string {w : World} {v : Value} {l : List UInt8} (h : Byt w v l) : (convert 60 9 v).run Try.prog w = .ok (.string (Sc.bs l)) w := by
  rcases h with ⟨rfl, rfl⟩ | ⟨g, o, cap, cur, fr, rfl, h2, h3, h4, h5, h6, h7⟩
  · exact run_convert_bytes_nil w 60 5 Try.underlying60 Try.underlying5 0 0 9 Try.underlying9
  · refine run_convert_bytes_back w 60 9 5 ⟨g, o, none⟩ cap l Try.underlying60 Try.underlying5 Try.underlying9 (fun j hj => ?_)
    rw [add_at, cell_of_row w g (o + j) cur 5 fr h2]
    exact h7 j hj
/-- What is appended of bytes in memory. -/
theorem byt_src {w : World} {v : Value} {l : List UInt8} (h : Byt w v l) : Src Try.prog 1 60 v l.length (bcells l) w := by
  rcases h with ⟨rfl, rfl⟩ | ⟨g, o, cap, cur, fr, rfl, h2, h3, h4, h5, h6, h7⟩
  · exact Src.ofNil w Try.underlying60 0
  · refine Src.ofSlice w Try.underlying60 ⟨g, o, none⟩ l.length cap (bcells l) (by rw [bcells_length, Nat.mul_one]) (fun j u hu => ?_) (fun u hu => ?_)
    · have hj : j < l.length := by
        have := (List.getElem?_eq_some_iff.1 hu).1
        rwa [bcells_length] at this
      rw [add_at, cell_of_row w g (o + j) cur 5 fr h2, h7 j hj, ← hu]
      simp [bcells, List.getElem?_eq_getElem hj]
    · unfold bcells at hu
      obtain ⟨b, _, rfl⟩ := List.mem_map.1 hu
      rfl
theorem setCells_blocks (b : Nat) : ∀ (vs : List Value) (o : Nat) (w : World) (cur : Array Value) (e : TypeId) (fr : Nat × Nat), w.heap[b]? = some (.cells cur e fr) → (∃ cur', (w.setCells b o vs).heap[b]? = some (.cells cur' e fr) ∧ cur'.size = cur.size) ∧ w.grownBy (w.setCells b o vs) (some b)
  | [], o, w, cur, e, fr, h => ⟨⟨cur, h, rfl⟩, World.grownBy.refl _ _⟩
  | v :: r, o, w, cur, e, fr, h => by
    have h1 : (w.setCell ⟨b, o, none⟩ v).heap[b]? = some (.cells (cur.setIfInBounds o v) e fr) := by
      simp only [World.setCell, Array.getElem?_modify, if_true, h, Option.map_some]
      rfl
    have g1 : w.grownBy (w.setCell ⟨b, o, none⟩ v) (some b) := by
      refine ⟨rfl, rfl, rfl, by simp [World.setCell], fun k hk hne => ?_⟩
      have : b ≠ k := fun q => hne (by rw [q])
      simp [World.setCell, Array.getElem?_modify, this]
    obtain ⟨⟨cur', q1, q2⟩, q3⟩ := setCells_blocks b r (o + 1) (w.setCell ⟨b, o, none⟩ v) _ e fr h1
    exact ⟨⟨cur', q1, by simpa using q2⟩, g1.andThen q3 (fun j e => .inr e)⟩
/-- Bytes put behind bytes that are not nil. -/
theorem run_app (w : World) (tx ty : TypeId) (g o cap : Nat) (O N : List UInt8) (x : Value) (h : Byt w (.slice (some ⟨g, o, none⟩) O.length cap) O) (hs : Src Try.prog 1 tx x N.length (bcells N) w) (hO : O.length + N.length ≤ 1099511627776) :
    ∃ v' w', (Builtin.append_ #[60, tx] ty #[.slice (some ⟨g, o, none⟩) O.length cap, x]).run Try.prog w = .ok v' w' ∧ Byt w' v' (O ++ N) ∧ Tu (fun k => k = g) w w' ∧ (blk v' = some g ∨ blk v' = some w.heap.size) ∧ ∃ g' o' cap', v' = .slice (some ⟨g', o', none⟩) (O ++ N).length cap' := by
  obtain ⟨i0, hi, hz0, hz1, hz2⟩ := info_parts Try.infoByte
  rcases h with ⟨e, _⟩ | ⟨g1, o1, cap1, cur, fr, e, h3, h4, h5, h6, h7, h8⟩
  · cases e
  cases e
  have hs' : Src Try.prog i0.size tx x N.length (bcells N) w := by rw [hz1]; exact hs
  have hl : (bcells N).length = N.length := bcells_length N
  have hlO : (bcells O).length = O.length := bcells_length O
  have hcO : ∀ j (hj : j < O.length), w.cell? ⟨g, o + j, none⟩ = some (.int .u8 ((O[j]'hj).toNat : Int)) := fun j hj => by
    rw [cell_of_row w g _ cur 5 fr h3]
    exact h8 j hj
  by_cases hroom : O.length + N.length ≤ cap
  · have hcell : ∀ j, j < o + cap → (w.cell? ⟨g, j, none⟩).isSome = true := fun j hj => by
      rw [cell_of_row w g j cur 5 fr h3]
      simp; omega
    have hr := run_append_room_src (P := Try.prog) w 60 tx ty 5 i0 Try.underlying60 hi g o O.length cap x N.length (bcells N) hs' hroom (fun j hj => by rw [hz1]; exact hcell _ (by omega)) (fun j hj => by rw [hz1]; exact frozen_row h3 h7 (by omega))
    rw [hz1, Nat.mul_one] at hr
    obtain ⟨⟨cur', q1, q2⟩, q3⟩ := setCells_blocks g (bcells N) (o + O.length) w cur 5 fr h3
    refine ⟨_, _, hr, .inr ⟨g, o, cap, cur', fr, by rw [List.length_append], q1, by rw [List.length_append]; exact hroom, h5, by rw [q2]; exact h6, h7, fun j hj => ?_⟩, Tu.of_grown q3 (fun k e => by cases e; rfl), .inl rfl, g, o, cap, by rw [List.length_append]⟩
    rw [← cell_of_row _ g (o + j) cur' 5 fr q1]
    rw [List.length_append] at hj
    by_cases hj2 : j < O.length
    · rw [World.cell?_setCells_out g _ _ _ _ (fun _ _ => .inl (show o + j < o + O.length by omega)), hcO j hj2, List.getElem_append_left hj2]
    · have hin := World.cell?_setCells_in g (bcells N) (o + O.length) w (fun k hk => hcell _ (by omega)) (j - O.length) (by omega)
      rw [show o + O.length + (j - O.length) = o + j by omega] at hin
      rw [hin, List.getElem_append_right (by omega)]
      simp [bcells]
  · have hfit : Builtin.nextslicecap (O.length + N.length) cap * i0.bytes ≤ 281474976710656 := growslice_fits (by omega) (by rw [hz2]; omega)
    have hold : (Builtin.firstCells i0.size O.length (.slice (some ⟨g, o, none⟩) O.length cap)).run Try.prog w.drew = .ok (bcells O).toArray w.drew := by
      refine run_firstCells_some w.drew i0.size O.length ⟨g, o, none⟩ O.length cap (bcells O) (by rw [hz1, hlO, Nat.mul_one]) (fun j u hu => ?_)
      have hj : j < O.length := by
        have := (List.getElem?_eq_some_iff.1 hu).1
        omega
      rw [add_at]
      show w.cell? _ = _
      rw [hcO j hj, ← hu]
      simp [bcells, List.getElem?_eq_getElem hj]
    have hr := run_append_grow_src (P := Try.prog) w 60 tx ty 5 i0 (.int .u8 0) Try.underlying60 hi hz0 (some ⟨g, o, none⟩) O.length cap (bcells O) hold x N.length (bcells N) hs' (by omega) (by omega) hfit
    have hge := grownCap_ge w (O.length + N.length) cap 5
    have hle := grownCap_le_maxLen w (O.length + N.length) cap 5 (by unfold maxLen; omega)
    generalize grownCap w (O.length + N.length) cap 5 = gc at *
    refine ⟨_, _, hr, .inr ⟨w.heap.size, 0, gc, _, (0, 0), by rw [List.length_append], heap_alloc_new w.drew _, by rw [List.length_append]; exact hge, hle, ?_, .inl rfl, fun j hj => ?_⟩, (Tu.refl _ _).drew.alloc _, .inr rfl, w.heap.size, 0, gc, by rw [List.length_append]⟩
    · simp only [Array.size_append, size_zeroCells]
      simp [hl, hlO, Value.cells]
      omega
    · rw [Nat.zero_add, Array.getElem?_append_left (by simp [bcells_length]; rw [List.length_append] at hj; omega)]
      rw [← bcells_append]
      simp only [bcells, List.getElem?_toArray, List.getElem?_map, List.getElem?_eq_getElem hj, Option.map_some]
/-- The bytes of a text, in memory of their own. -/
theorem conv_byt (w : World) (s : ByteArray) (hs : s.size ≤ 1099511627776) : ∃ g cap w', (convert 9 60 (.string s)).run Try.prog w = .ok (.slice (some ⟨g, 0, none⟩) s.size cap) w' ∧ Byt w' (.slice (some ⟨g, 0, none⟩) s.size cap) s.data.toList ∧ Below w.heap.size w w' ∧ g = w.heap.size := by
  have hr := run_bytes_of_string (P := Try.prog) w 9 60 5 s Try.underlying9 Try.underlying60 Try.underlying5
  have hge := grownCap_ge w s.size 0 5
  have hle := grownCap_le_maxLen w s.size 0 5 (by unfold maxLen; omega)
  generalize grownCap w s.size 0 5 = gc at *
  have hsz : (bytesRow s gc).size = gc := by
    unfold bytesRow
    simp
    have : s.data.size = s.size := rfl
    omega
  refine ⟨_, _, _, hr, .inr ⟨w.heap.size, 0, gc, _, _, by rw [Sc.szL], heap_alloc_new w.drew _, by rw [Sc.szL]; exact hge, hle, by rw [hsz]; omega, .inr (by simp [hsz]), fun j hj => ?_⟩, (Below.refl _ _).drew.alloc (Nat.le_refl _) _, rfl⟩
  have hj' : j < s.data.size := by simpa using hj
  unfold bytesRow
  rw [Nat.zero_add, Array.getElem?_append_left (by simpa using hj')]
  simp only [Array.getElem?_map, Array.getElem?_eq_getElem hj', Option.map_some]
  rfl
end Go.Proofs.Ytngmaijfahjfcaa
