/- What has turned of a world's blocks; slices that read as texts, and as pieces of a script. -/
import Derived.Test.YtklcfjakhabbgaaChecked
import Derived.Test.YtklcfjakhabbgaaArP
import Derived.WalkKit
import Derived.WalkSmall
import Derived.WalkSpells
import Derived.WalkLawsBesides
import Derived.Laws.IdiomStrings
import Derived.Maps.AppendAt
import Derived.Laws.Rows
import Derived.Deep.AppendLies
import Derived.BigQuiet
namespace Go.Proofs.Ytklcfjakhabbgaa
open Go.RowKit

theorem ret_bool {a b : Bool} (h : a = b) : Ending.returned (.bool a) = .returned (.bool b) := by rw [h]
theorem ret_int {k : IntKind} {a b : Int} (h : a = b) : Ending.returned (.int k a) = .returned (.int k b) := by rw [h]
theorem ret_str {a b : ByteArray} (h : a = b) : Ending.returned (.string a) = .returned (.string b) := by rw [h]
theorem add_at (g o j : Nat) : (⟨g, o, none⟩ : Addr).add j = ⟨g, o + j, none⟩ := by unfold Addr.add; split <;> simp_all
theorem alloc_below (w : World) (o : Obj) : Below w.heap.size w (w.alloc o) := (Below.refl _ _).alloc (Nat.le_refl _) o
theorem below_up {n : Nat} {A B C : World} (h : Below n A B) (h' : Below B.heap.size B C) (hn : n ≤ A.heap.size) : Below n A C :=
  ⟨h'.os.trans h.os, h'.tape.trans h.tape, h'.output.trans h.output, Nat.le_trans h.size h'.size, fun k hk => (h'.block k (by have := h.size; omega)).trans (h.block k hk)⟩
theorem below_tr {n : Nat} {A B C : World} (h : Below n A B) (h' : Below n B C) : Below n A C :=
  ⟨h'.os.trans h.os, h'.tape.trans h.tape, h'.output.trans h.output, Nat.le_trans h.size h'.size, fun k hk => (h'.block k hk).trans (h.block k hk)⟩
/-- Of the blocks of A none but those of O has turned. -/
structure Tu (O : Nat → Prop) (A B : World) : Prop where
  os : B.os = A.os
  tape : B.tape = A.tape
  output : B.output = A.output
  size : A.heap.size ≤ B.heap.size
  block : ∀ k, k < A.heap.size → ¬ O k → B.heap[k]? = A.heap[k]?
theorem Tu.refl (O : Nat → Prop) (A : World) : Tu O A A := ⟨rfl, rfl, rfl, Nat.le_refl _, fun _ _ _ => rfl⟩
theorem Tu.mono {O O' : Nat → Prop} {A B : World} (h : Tu O A B) (hO : ∀ k, k < A.heap.size → O k → O' k) : Tu O' A B :=
  ⟨h.os, h.tape, h.output, h.size, fun k hk hn => h.block k hk (fun e => hn (hO k hk e))⟩
theorem Tu.trans {O O' : Nat → Prop} {A B C : World} (h : Tu O A B) (h' : Tu O' B C) (hO : ∀ k, k < A.heap.size → O' k → O k) : Tu O A C :=
  ⟨h'.os.trans h.os, h'.tape.trans h.tape, h'.output.trans h.output, Nat.le_trans h.size h'.size, fun k hk hn => (h'.block k (by have := h.size; omega) (fun e => hn (hO k hk e))).trans (h.block k hk hn)⟩
theorem Tu.of_below {O : Nat → Prop} {A B : World} (h : Below A.heap.size A B) : Tu O A B :=
  ⟨h.os, h.tape, h.output, h.size, fun k hk _ => h.block k hk⟩
theorem Tu.still {O : Nat → Prop} {A B C : World} (h : Tu O A B) (h' : Below B.heap.size B C) : Tu O A C :=
  h.trans (O' := fun _ => False) (Tu.of_below h') (fun _ _ e => e.elim)
theorem Tu.alloc {O : Nat → Prop} {A B : World} (h : Tu O A B) (o : Obj) : Tu O A (B.alloc o) := h.still (alloc_below B o)
theorem Tu.below {O : Nat → Prop} {A B : World} {n : Nat} (h : Tu O A B) (hn : n ≤ A.heap.size) (hO : ∀ k, O k → n ≤ k) : Below n A B :=
  ⟨h.os, h.tape, h.output, h.size, fun k hk => h.block k (by omega) (fun e => by have := hO k e; omega)⟩
theorem Tu.drewN {O : Nat → Prop} {A B : World} (h : Tu O A B) (n : Nat) : Tu O A (B.drewN n) := h.still (below_drewN (Below.refl _ _) n)
theorem Tu.setCell {O : Nat → Prop} {A B : World} (h : Tu O A B) {p : Addr} (hp : p.block < A.heap.size → O p.block) (v : Value) : Tu O A (B.setCell p v) := by
  have y := (Below.refl 0 B).setCell (p := p) (Nat.zero_le _) v
  exact h.trans (O' := fun k => k = p.block) ⟨y.os, y.tape, y.output, y.size, fun k _ hn => heap_setCell_other B p k v hn⟩ (fun k hk e => by subst e; exact hp hk)
theorem Tu.of_grown {O : Nat → Prop} {A B : World} {r : Option Nat} (h : A.grownBy B r) (hr : ∀ k, r = some k → O k) : Tu O A B :=
  ⟨h.os, h.tape, h.output, h.size, fun k hk hn => h.block k hk (fun e => hn (hr k e.symm))⟩
theorem Tu.cell {O : Nat → Prop} {A B : World} (h : Tu O A B) {b o : Nat} (hb : b < A.heap.size) (hn : ¬ O b) : B.cell? ⟨b, o, none⟩ = A.cell? ⟨b, o, none⟩ := by
  rw [World.cell?, World.cell?]
  simp only [h.block b hb hn]
/-- The block in which a slice lies. -/
abbrev blk (v : Value) : Option Nat := v.ownBlock
theorem own_keep {w w' : World} {base : Nat} {e : TypeId} {size : Nat} {v : Value} {n : Nat} {xs : List Value} (h : w.ownsRow base e size v n xs) (hk : ∀ b, blk v = some b → w'.heap[b]? = w.heap[b]?) : w'.ownsRow base e size v n xs := by
  refine ⟨h.1, ?_⟩
  rcases h.2 with q | ⟨g, cap, cur, q1, q2, q3, q⟩
  · exact .inl q
  · exact .inr ⟨g, cap, cur, q1, q2, by rw [hk g (by rw [q1]; rfl)]; exact q3, q⟩
theorem own_below {w w' : World} {base : Nat} {e : TypeId} {size : Nat} {v : Value} {n : Nat} {xs : List Value} (h : w.ownsRow base e size v n xs) (hb : Below w.heap.size w w') : w'.ownsRow base e size v n xs :=
  own_keep h (fun b e => hb.block b (h.lt b e).2)
theorem own_slice {w : World} {base : Nat} {e : TypeId} {size : Nat} {v : Value} {n : Nat} {xs : List Value} (h : w.ownsRow base e size v n xs) : ∃ a c, v = .slice a n c := by
  rcases h.2 with ⟨q, rfl⟩ | ⟨g, cap, cur, q1, _⟩
  · exact ⟨none, 0, q⟩
  · exact ⟨_, _, q1⟩
theorem row_set {w : World} {g : Nat} {cs : Array Value} {t : TypeId} {fr : Nat × Nat} (h : w.heap[g]? = some (.cells cs t fr)) (j : Nat) (v : Value) : (w.setCell ⟨g, j, none⟩ v).heap[g]? = some (.cells (cs.setIfInBounds j v) t fr) := by
  simp only [World.setCell, Array.getElem?_modify, if_true, h, Option.map_some]
  rfl
theorem free_row {w : World} {g : Nat} {cs : Array Value} {t : TypeId} (h : w.heap[g]? = some (.cells cs t)) (j : Nat) : w.frozen? ⟨g, j, none⟩ = false := by
  unfold World.frozen?
  simp [h]
theorem drewN_below (w : World) (n : Nat) : Below w.heap.size w (w.drewN n) := below_drewN (Below.refl _ _) n

/-- The slice at address a, of capacity cap, reads in w as the strings l. -/
structure Strs (w : World) (a : Option Addr) (cap : Nat) (l : List ByteArray) : Prop where
  len : l.length ≤ 1099511627776
  nil : a = none → cap = 0
  room : l.length ≤ cap
  most : cap ≤ maxLen
  size : ∀ i (h : i < l.length), (l[i]'h).size ≤ 1099511627776
  cells : ∀ i (h : i < l.length), ∃ b off, a = some ⟨b, off, none⟩ ∧ b < w.heap.size ∧ w.cell? ⟨b, off + i, none⟩ = some (.string (l[i]'h))
theorem Strs.none {w : World} {cap : Nat} {l : List ByteArray} (h : Strs w none cap l) : l = [] ∧ cap = 0 := by
  refine ⟨?_, h.nil rfl⟩
  cases l with
  | nil => rfl
  | cons x r => obtain ⟨b, off, e, _⟩ := h.cells 0 (by simp); cases e
theorem Strs.keep {w w' : World} {a : Option Addr} {cap : Nat} {l : List ByteArray} (h : Strs w a cap l) (hs : w.heap.size ≤ w'.heap.size) (hb : ∀ ad : Addr, a = some ad → ad.block < w.heap.size → w'.heap[ad.block]? = w.heap[ad.block]?) : Strs w' a cap l := by
  refine ⟨h.len, h.nil, h.room, h.most, h.size, fun i hi => ?_⟩
  obtain ⟨b, off, e, hlt, hc⟩ := h.cells i hi
  have := hb _ e hlt
  exact ⟨b, off, e, Nat.lt_of_lt_of_le hlt hs, by rw [← hc, World.cell?, World.cell?]; simp only [this]⟩
theorem Strs.below {w w' : World} {a : Option Addr} {cap : Nat} {l : List ByteArray} (h : Strs w a cap l) (hb : Below w.heap.size w w') : Strs w' a cap l := h.keep hb.size (fun _ad _ hl => hb.block _ hl)
theorem Strs.tu {O : Nat → Prop} {w w' : World} {a : Option Addr} {cap : Nat} {l : List ByteArray} (h : Strs w a cap l) (ht : Tu O w w') (hO : ∀ ad : Addr, a = some ad → ¬ O ad.block) : Strs w' a cap l := h.keep ht.size (fun ad e hl => ht.block _ hl (hO ad e))
theorem Strs.alloc {w : World} {a : Option Addr} {cap : Nat} {l : List ByteArray} (h : Strs w a cap l) (o : Obj) : Strs (w.alloc o) a cap l := h.below (alloc_below w o)
theorem Strs.empty (w : World) : Strs w Option.none 0 [] := ⟨by simp, fun _ => rfl, Nat.le_refl _, Nat.zero_le _, fun i h => absurd h (by simp), fun i h => absurd h (by simp)⟩
theorem Strs.news {w : World} {ad : Addr} {cap : Nat} {l : List ByteArray} (h : Strs w (some ad) cap l) : ∀ j u, (l.map Value.string)[j]? = some u → w.cell? (ad.add j) = some u := by
  intro j u hu
  rw [List.getElem?_map] at hu
  cases hj : l[j]? with
  | none => simp [hj] at hu
  | some s =>
    rw [hj] at hu
    simp at hu
    subst hu
    obtain ⟨hlt, rfl⟩ := List.getElem?_eq_some_iff.1 hj
    obtain ⟨b, off, e, _, hc⟩ := h.cells j hlt
    cases e
    rw [add_at]; exact hc
theorem strings_oneCell (l : List ByteArray) : ∀ u ∈ l.map Value.string, u.oneCell' = true := by
  intro u hu
  obtain ⟨s, _, rfl⟩ := List.mem_map.1 hu
  rfl
/-- A row of the call's own reads as strings. -/
theorem own_strs {w : World} {base : Nat} {e : TypeId} {v : Value} {l : List ByteArray} (h : w.ownsRow base e 1 v l.length (l.map Value.string)) (hlen : l.length ≤ 1099511627776) (hsz : ∀ s ∈ l, s.size ≤ 1099511627776) :
    ∃ a cap, v = .slice a l.length cap ∧ Strs w a cap l ∧ ∀ ad : Addr, a = some ad → blk v = some ad.block := by
  have hs : ∀ i (h : i < l.length), (l[i]'h).size ≤ 1099511627776 := fun i hi => hsz _ (List.getElem_mem hi)
  rcases h.2 with ⟨hv, hn⟩ | ⟨g, cap, cur, hv, hb, hg, hcap, hmax, hsize, htake⟩
  · exact ⟨none, 0, by rw [hv, hn], ⟨hlen, fun _ => rfl, by omega, Nat.zero_le _, hs, fun i hi => absurd hi (by omega)⟩, fun ad e => by cases e⟩
  · refine ⟨some ⟨g, 0, none⟩, cap, hv, ⟨hlen, fun h => (by cases h), hcap, hmax, hs, fun i hi => ⟨g, 0, rfl, lt_of_block hg, ?_⟩⟩, fun ad e => by cases e; rw [hv]; rfl⟩
    subst hv
    have := h.cellAt i (by omega)
    rw [Nat.zero_add, this, List.getElem?_map, List.getElem?_eq_getElem hi]; rfl

/-- The cells of pieces of a script. -/
def pcells (l : List Ar.Pc) : List Value := l.flatMap fun x => [.bool x.1, .string x.2]
theorem pcells_length (l : List Ar.Pc) : (pcells l).length = l.length * 2 := by
  induction l with
  | nil => rfl
  | cons x r ih => simp only [pcells, List.flatMap_cons, List.length_append, List.length_cons, List.length_nil] at ih ⊢; omega
theorem pcells_append (a b : List Ar.Pc) : pcells (a ++ b) = pcells a ++ pcells b := by simp [pcells]
theorem pcells_get : ∀ (l : List Ar.Pc) (i : Nat) (h : i < l.length), (pcells l)[i * 2]? = some (.bool (l[i]'h).1) ∧ (pcells l)[i * 2 + 1]? = some (.string (l[i]'h).2)
  | [], i, h => absurd h (by simp)
  | x :: r, 0, h => by simp [pcells]
  | x :: r, i + 1, h => by
    have ih := pcells_get r i (by simpa using h)
    have e1 : (i + 1) * 2 = i * 2 + 1 + 1 := by omega
    have e2 : (i + 1) * 2 + 1 = i * 2 + 1 + 1 + 1 := by omega
    have e3 : pcells (x :: r) = .bool x.1 :: .string x.2 :: pcells r := rfl
    rw [e2, e1, e3]
    simpa using ih
/-- The slice at address a, of capacity cap, reads in w as the pieces l. -/
structure Pcs (w : World) (a : Option Addr) (cap : Nat) (l : List Ar.Pc) : Prop where
  len : l.length ≤ 1099511627776
  nil : a = none → cap = 0
  room : l.length ≤ cap
  most : cap ≤ maxLen
  size : ∀ x ∈ l, x.2.size ≤ 1099511627776
  cells : ∀ i (h : i < l.length), ∃ b off, a = some ⟨b, off, none⟩ ∧ b < w.heap.size ∧ w.cell? ⟨b, off + i * 2, none⟩ = some (.bool (l[i]'h).1) ∧ w.cell? ⟨b, off + i * 2 + 1, none⟩ = some (.string (l[i]'h).2)
theorem Pcs.keep {w w' : World} {a : Option Addr} {cap : Nat} {l : List Ar.Pc} (h : Pcs w a cap l) (hs : w.heap.size ≤ w'.heap.size) (hb : ∀ ad : Addr, a = some ad → ad.block < w.heap.size → w'.heap[ad.block]? = w.heap[ad.block]?) : Pcs w' a cap l := by
  refine ⟨h.len, h.nil, h.room, h.most, h.size, fun i hi => ?_⟩
  obtain ⟨b, off, e, hlt, h1, h2⟩ := h.cells i hi
  have := hb _ e hlt
  exact ⟨b, off, e, Nat.lt_of_lt_of_le hlt hs, by rw [← h1, World.cell?, World.cell?]; simp only [this], by rw [← h2, World.cell?, World.cell?]; simp only [this]⟩
theorem Pcs.below {w w' : World} {a : Option Addr} {cap : Nat} {l : List Ar.Pc} (h : Pcs w a cap l) (hb : Below w.heap.size w w') : Pcs w' a cap l := h.keep hb.size (fun _ad _ hl => hb.block _ hl)
theorem Pcs.tu {O : Nat → Prop} {w w' : World} {a : Option Addr} {cap : Nat} {l : List Ar.Pc} (h : Pcs w a cap l) (ht : Tu O w w') (hO : ∀ ad : Addr, a = some ad → ¬ O ad.block) : Pcs w' a cap l := h.keep ht.size (fun ad e hl => ht.block _ hl (hO ad e))
theorem Pcs.alloc {w : World} {a : Option Addr} {cap : Nat} {l : List Ar.Pc} (h : Pcs w a cap l) (o : Obj) : Pcs (w.alloc o) a cap l := h.below (alloc_below w o)
theorem own_pcs {w : World} {base : Nat} {e : TypeId} {v : Value} {l : List Ar.Pc} (h : w.ownsRow base e 2 v l.length (pcells l)) (hlen : l.length ≤ 1099511627776) (hsz : ∀ x ∈ l, x.2.size ≤ 1099511627776) :
    ∃ a cap, v = .slice a l.length cap ∧ Pcs w a cap l ∧ ∀ ad : Addr, a = some ad → blk v = some ad.block := by
  rcases h.2 with ⟨hv, hn⟩ | ⟨g, cap, cur, hv, hb, hg, hcap, hmax, hsize, htake⟩
  · exact ⟨none, 0, by rw [hv, hn], ⟨hlen, fun _ => rfl, by omega, Nat.zero_le _, hsz, fun i hi => absurd hi (by omega)⟩, fun ad e => by cases e⟩
  · refine ⟨some ⟨g, 0, none⟩, cap, hv, ⟨hlen, fun h => (by cases h), hcap, hmax, hsz, fun i hi => ⟨g, 0, rfl, lt_of_block hg, ?_, ?_⟩⟩, fun ad e => by cases e; rw [hv]; rfl⟩
    · subst hv
      rw [Nat.zero_add, h.cellAt (i * 2) (by omega)]; exact (pcells_get l i hi).1
    · subst hv
      rw [Nat.zero_add, h.cellAt (i * 2 + 1) (by omega)]; exact (pcells_get l i hi).2
theorem Try.infoStr : (Try.prog.info? 9).map (fun i => (i.zero, i.size, i.bytes)) = some (some (.string ⟨#[]⟩), 1, 16) := by kernel_rfl
theorem Try.infoPc : (Try.prog.info? 45).map (fun i => (i.zero, i.size, i.bytes)) = some (some (.agg #[.bool false, .string ⟨#[]⟩]), 2, 24) := by kernel_rfl
/-- A command line as a value: where its lists lie. -/
def avA (x : Ar.Av) (a : Option Addr) (c : Nat) (b : Option Addr) (d : Nat) : Array Value := #[.bool x.q, .bool x.e, .bool x.s, .bool x.i, .string x.sf, .slice a x.sc.length c, .slice b x.nm.length d]
/-- Its lists read in w. -/
structure AvR (w : World) (x : Ar.Av) (a : Option Addr) (c : Nat) (b : Option Addr) (d : Nat) : Prop where
  sc : Pcs w a c x.sc
  nm : Strs w b d x.nm
  sf : x.sf.size ≤ 1099511627776
theorem AvR.below {w w' : World} {x : Ar.Av} {a b : Option Addr} {c d : Nat} (h : AvR w x a c b d) (hb : Below w.heap.size w w') : AvR w' x a c b d := ⟨h.sc.below hb, h.nm.below hb, h.sf⟩
theorem AvR.tu {O : Nat → Prop} {w w' : World} {x : Ar.Av} {a b : Option Addr} {c d : Nat} (h : AvR w x a c b d) (ht : Tu O w w') (h1 : ∀ ad : Addr, a = some ad → ¬ O ad.block) (h2 : ∀ ad : Addr, b = some ad → ¬ O ad.block) : AvR w' x a c b d := ⟨h.sc.tu ht h1, h.nm.tu ht h2, h.sf⟩
theorem AvR.alloc {w : World} {x : Ar.Av} {a b : Option Addr} {c d : Nat} (h : AvR w x a c b d) (o : Obj) : AvR (w.alloc o) x a c b d := h.below (alloc_below w o)
end Go.Proofs.Ytklcfjakhabbgaa
