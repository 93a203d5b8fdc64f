/- What (*written).add does: arguments are put behind those that are there, if they are told. -/
import Derived.Test.YtklcfjakhabbgaaArCp
import Derived.Laws.AppendOwnNone
namespace Go.Proofs.Ytklcfjakhabbgaa
open Go.RowKit

theorem append_type {P : Program} {t tx e e' ty : TypeId} {i : TypeInfo} (h1 : P.underlying t = some (.slice e)) (h2 : P.underlying tx = some (.slice e')) (hi : P.info? e = some i) (b : Option Addr) (n c : Nat) (x : Value) (w : World) : (Builtin.append_ #[t, tx] ty #[.slice b n c, x]).run P w = (Builtin.append_ #[t, t] ty #[.slice b n c, x]).run P w := by
  simp [Builtin.append_, run_underlying h1, run_underlying h2, sizeOf, typeInfo, hi]
/-- append of a slice of another named type. -/
theorem wpList_append_at2 {P : Program} (w : World) {ops : Array Oper} {rest : List Oper} {o : Oper} {a : Act} {Q : Exit → Act → World → Prop} (hgd : o.guard = none) (s x : Operand) (t tx : TypeId)
    (ho : o.op = .call { callee := .builtin .append, args := #[s, x], argTypes := #[t, tx] }) (e' : TypeId) (htx : P.underlying tx = some (.slice e'))
    (base : Nat) (e : TypeId) (i : TypeInfo) (z : Value) (size bytes : Nat) (ht : P.underlying t = some (.slice e)) (hi : P.info? e = some i) (hz : i.zero = some z)
    (hsize : i.size = size) (hby : i.bytes = bytes) (hzs : z.cells.size = size) (hsz : 0 < size)
    (v : Value) (n : Nat) (xs : List Value) (hs : a.eval s = v) (hown : w.ownsRow base e size v n xs)
    (ad : Addr) (m c : Nat) (news : List Value) (hx : a.eval x = .slice (some ad) m c) (hl : news.length = m * size) (hnews : ∀ j u, news[j]? = some u → w.cell? (ad.add j) = some u) (h1 : ∀ u ∈ news, u.oneCell' = true)
    (h63 : n + m ≤ maxLen) (hbytes : (n + m) * bytes ≤ 140737488355328) (hbase : base ≤ w.heap.size)
    (h : ∀ v' w', w'.ownsRow base e size v' (n + m) (xs ++ news) → w.grownBy w' v.ownBlock → (v'.ownBlock = v.ownBlock ∨ v'.ownBlock = some w.heap.size) → wpList P ops Q rest (a.put o.dst v') w') :
    wpList P ops Q (o :: rest) a w := by
  refine wpList_plain hgd fun K hK => ?_
  obtain ⟨v', w', hr, h2, h3, _, h5⟩ := run_append_own_at (P := P) w base t o.type e i z size bytes ht hi hz hsize hby hzs hsz v n xs hown ad m c news hl hnews h1 h63 hbytes hbase
  obtain ⟨vb, vc, rfl⟩ := own_slice hown
  rw [← append_type ht htx hi] at hr
  unfold Oper.wp execOp
  simp only [ho, resolve, invoke, builtin, Sem.run_bind, Sem.run_pure, Result.andThen_ok, List.map_toArray, List.map_cons, List.map_nil, hs, hx, hr]
  exact hK _ _ (h v' w' h2 h3 h5)
theorem wpList_append_none2 {P : Program} (w : World) {ops : Array Oper} {rest : List Oper} {o : Oper} {a : Act} {Q : Exit → Act → World → Prop} (hgd : o.guard = none) (s x : Operand) (t tx : TypeId)
    (ho : o.op = .call { callee := .builtin .append, args := #[s, x], argTypes := #[t, tx] }) (e e' : TypeId) (ht : P.underlying t = some (.slice e)) (htx : P.underlying tx = some (.slice e')) (i : TypeInfo) (hi : P.info? e = some i)
    (base : Nat) (v : Value) (n : Nat) (xs : List Value) (size : Nat) (hs : a.eval s = v) (hown : w.ownsRow base e size v n xs) (hx : a.eval x = .slice none 0 0)
    (h : wpList P ops Q rest (a.put o.dst v) w) : wpList P ops Q (o :: rest) a w := by
  refine wpList_plain hgd fun K hK => ?_
  have hr : (Builtin.append_ #[t, tx] o.type #[v, .slice none 0 0]).run P w = .ok v w := by
    obtain ⟨g, c, rfl⟩ := own_slice hown
    rw [append_type ht htx hi]
    exact run_append_owned_none (P := P) (w := w) base t o.type e i size ht hi _ n xs hown
  unfold Oper.wp execOp
  simp only [ho, resolve, invoke, builtin, Sem.run_bind, Sem.run_pure, Result.andThen_ok, List.map_toArray, List.map_cons, List.map_nil, hs, hx, hr]
  exact hK _ _ h

theorem strs_one (w : World) (x : ByteArray) (t : TypeId) (hx : x.size ≤ 1099511627776) : Strs (w.alloc (.cells #[.string x] t)) (some ⟨w.heap.size, 0, none⟩) 1 [x] :=
  ⟨by simp, fun e => by (cases e), Nat.le_refl _, by decide, fun i hi => by
    have : i = 0 := by simp at hi; omega
    subst this; exact hx, fun i hi => by
    have : i = 0 := by simp at hi; omega
    subst this
    exact ⟨w.heap.size, 0, rfl, by simp, cell_of_row _ _ _ _ _ _ (heap_alloc_new _ _)⟩⟩
theorem strs_two (w : World) (x y : ByteArray) (t : TypeId) (hx : x.size ≤ 1099511627776) (hy : y.size ≤ 1099511627776) : Strs (w.alloc (.cells #[.string x, .string y] t)) (some ⟨w.heap.size, 0, none⟩) 2 [x, y] :=
  ⟨by simp, fun e => by (cases e), Nat.le_refl _, by decide, fun i hi => by
    have : i = 0 ∨ i = 1 := by simp at hi; omega
    rcases this with rfl | rfl
    · exact hx
    · exact hy, fun i hi => by
    have : i = 0 ∨ i = 1 := by simp at hi; omega
    rcases this with rfl | rfl
    · exact ⟨w.heap.size, 0, rfl, by simp, cell_of_row _ _ _ _ _ _ (heap_alloc_new _ _)⟩
    · exact ⟨w.heap.size, 0, rfl, by simp, cell_of_row _ _ _ _ _ _ (heap_alloc_new _ _)⟩⟩
namespace Ar
/-- What add makes of what is there. -/
def addL (told : Bool) (L l : List ByteArray) : List ByteArray := L ++ (if told then l else [])
end Ar
/-- Arguments that are put together: the box in block g, the row behind B; what lies below B and is not g is as it was in w0. -/
structure Wn (w0 : World) (g B : Nat) (L : List ByteArray) (v : Value) (w : World) : Prop where
  tu : Tu (fun q => q = g ∨ B ≤ q) w0 w
  box : w.heap[g]? = some (.cells #[v] 58)
  row : w.ownsRow B 9 1 v L.length (L.map Value.string)
  lo : g < B
  hi : B ≤ w.heap.size
theorem Wn.below {w0 w w' : World} {g B : Nat} {L : List ByteArray} {v : Value} (h : Wn w0 g B L v w) (hb : Below w.heap.size w w') : Wn w0 g B L v w' :=
  ⟨h.tu.still hb, by rw [hb.block _ (lt_of_block h.box)]; exact h.box, own_below h.row hb, h.lo, Nat.le_trans h.hi hb.size⟩
theorem Wn.alloc {w0 w : World} {g B : Nat} {L : List ByteArray} {v : Value} (h : Wn w0 g B L v w) (o : Obj) : Wn w0 g B L v (w.alloc o) := h.below (alloc_below w o)

set_option maxRecDepth 100000 in
set_option maxHeartbeats 2000000 in
theorem add_any (w0 : World) (g B : Nat) (L : List ByteArray) (v : Value) (told : Bool) (a : Option Addr) (c : Nat) (l : List ByteArray) (w : World) (h : Wn w0 g B L v w) (hl : Strs w a c l) (hL : L.length ≤ 4398046511104) :
    Calls Try.prog 29 #[.pointer (some ⟨g, 0, none⟩), .bool told, .slice a l.length c] w fun e w' => e = .returned (.tuple #[]) ∧ ∃ v', Wn w0 g B (Ar.addL told L l) v' w' ∧ Tu (fun q => q = g ∨ blk v = some q) w w' := by
  obtain ⟨i0, hi, hz0, hz1, hz2⟩ := info_parts Try.infoStr
  have n1 := hl.len
  cases told
  · have HF : Hid (Wn w0 g B (Ar.addL false L l) v w) := by show Wn w0 g B (L ++ []) v w; rw [List.append_nil]; exact h
    clear h
    go_enter Try.func29, Try.ntmps29
    go_wp2_with fail
    go_end0
    exact ⟨rfl, _, HF.out, Tu.refl _ _⟩
  · have c0 : w.cell? ⟨g, 0, none⟩ = some v := cell_of_row _ _ _ _ _ _ h.box
    have f0 : w.frozen? ⟨g, 0, none⟩ = false := free_row h.box 0
    have HH : Hid _ := h
    clear h
    cases a with
    | none =>
      obtain ⟨rfl, rfl⟩ := hl.none
      obtain ⟨va, vc, rfl⟩ := own_slice HH.out.row
      have HS : Hid (Wn w0 g B (Ar.addL true L []) (.slice va L.length vc) (w.setCell ⟨g, 0, none⟩ (.slice va L.length vc))) := by
        have hne : blk (.slice va L.length vc) ≠ some g := fun e => by have := (HH.out.row.lt _ e).1; have := HH.out.lo; omega
        show Wn w0 g B (L ++ []) _ _
        rw [List.append_nil]
        exact ⟨HH.out.tu.setCell (fun _ => Or.inl rfl) _, row_set HH.out.box 0 _, own_set HH.out.row _ _ _ hne, HH.out.lo, by have := HH.out.hi; simpa using this⟩
      go_enter Try.func29, Try.ntmps29
      go_wp2_with (at_builtin; refine wpList_append_none2 _ rfl _ _ 58 22 rfl 9 9 Try.underlying58 Try.underlying22 i0 hi B _ L.length (L.map Value.string) 1 rfl HH.out.row rfl ?_)
      go_wp2_with fail
      go_end0
      exact ⟨rfl, _, HS.out, (Tu.refl _ _).setCell (fun _ => Or.inl rfl) _⟩
    | some ad =>
      go_enter Try.func29, Try.ntmps29
      go_wp2_with (at_builtin; refine wpList_append_at2 _ rfl _ _ 58 22 rfl 9 Try.underlying22 B 9 i0 (.string ⟨#[]⟩) 1 16 Try.underlying58 hi hz0 hz1 hz2 rfl (by decide) v L.length (L.map Value.string) rfl HH.out.row ad l.length c (l.map Value.string) rfl (by simp) hl.news (strings_oneCell l) ?c3 ?c4 HH.out.hi ?_)
      case c3 => unfold maxLen; omega
      case c4 => omega
      intro v' w1 hown' hgrow hat
      have h3 : w1.heap[g]? = some (.cells #[v] 58) := (hgrow.block _ (lt_of_block HH.out.box) (fun e => by have := (HH.out.row.lt _ e.symm).1; have := HH.out.lo; omega)).trans HH.out.box
      have c1 : w1.cell? ⟨g, 0, none⟩ = some v := cell_of_row _ _ _ _ _ _ h3
      have f1 : w1.frozen? ⟨g, 0, none⟩ = false := free_row h3 0
      obtain ⟨va, vc, rfl⟩ := own_slice hown'
      have hne : blk (.slice va (L.length + l.length) vc) ≠ some g := fun e => by have := (hown'.lt _ e).1; have := HH.out.lo; omega
      have HF : Hid (Wn w0 g B (Ar.addL true L l) (.slice va (L.length + l.length) vc) (w1.setCell ⟨g, 0, none⟩ (.slice va (L.length + l.length) vc))) := by
        refine ⟨?_, row_set h3 0 _, ?_, HH.out.lo, ?_⟩
        · refine Tu.setCell ((HH.out.tu.trans (Tu.of_grown (O := fun k => v.ownBlock = some k) hgrow (fun k e => e)) (fun k _ e => Or.inr (HH.out.row.lt k e).1))) (fun _ => Or.inl rfl) _
        · have : (Ar.addL true L l).length = L.length + l.length := by show (L ++ l).length = _; simp
          rw [this, show (Ar.addL true L l).map Value.string = L.map Value.string ++ l.map Value.string by show (L ++ l).map _ = _; simp]
          exact own_set hown' _ _ _ hne
        · have := hgrow.size; have := HH.out.hi; simp; omega
      have HT : Hid (Tu (fun q => q = g ∨ blk v = some q) w (w1.setCell ⟨g, 0, none⟩ (.slice va (L.length + l.length) vc))) := by
        have h9 : Tu (fun q => q = g ∨ blk v = some q) w w1 := Tu.of_grown hgrow (fun k e => Or.inr e)
        exact h9.setCell (p := ⟨g, 0, none⟩) (fun _ => Or.inl rfl) _
      clear hgrow hown' h3
      go_wp2_with fail
      go_end0
      exact ⟨rfl, _, HF.out, HT.out⟩
end Go.Proofs.Ytklcfjakhabbgaa
