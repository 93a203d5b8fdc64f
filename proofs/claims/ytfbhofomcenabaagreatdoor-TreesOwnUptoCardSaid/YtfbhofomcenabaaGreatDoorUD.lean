/- The reference's with, plain: as one file put or taken out below a path. The reference's with: what holds in its memory. -/
import Derived.Test.YtfbhofomcenabaaGreatDoorTX
import Derived.Test.YtfbhofomcenabaaGreatDoorTG
namespace Go.Proofs.YtfbhofomcenabaaGreatDoor
open Go Go.RowKit

namespace Ft
/-- The files of a folder with a file put in (or, if none is given, without the one of the name); b: it is put already. -/
def refN (o : Option FT) (x : ByteArray) : Bool → List FT → List FT
  | b, [] => if b = true then [] else o.toList
  | b, y :: r => (if (!b && !ltN y x) = true then o.toList else []) ++ ((if (y.nm.toList == x.toList) = true then [] else [y]) ++ refN o x (b || !ltN y x) r)
def withG : FT → List ByteArray → Option FT → FT
  | T, [], _ => T
  | T, [x], o => .mk T.nm T.k T.d (refN o x false T.kids)
  | T, x :: y :: r, o => .mk T.nm T.k T.d (T.kids.map fun V => if (V.nm.toList == x.toList) = true then withG V (y :: r) o else V)
theorem ref_none (x : ByteArray) : ∀ (l : List FT) (b b' : Bool), refN none x b l = refN none x b' l
  | [], b, b' => by rw [refN, refN]; cases b <;> cases b' <;> rfl
  | y :: r, b, b' => by
    rw [refN, refN, ref_none x r (b || !ltN y x) (b' || !ltN y x)]
    cases b <;> cases b' <;> cases ltN y x <;> rfl
theorem ref_put (o : Option FT) (x : ByteArray) : ∀ l : List FT, (∀ y ∈ l, (y.nm.toList == x.toList) = false) → refN o x true l = l
  | [], _ => rfl
  | y :: r, h => by
    rw [refN, h y (by simp), Bool.true_or, ref_put o x r (fun z hz => h z (by simp [hz]))]
    rfl
theorem ris_tail {y : FT} {r : List FT} (h : RisN (y :: r)) : RisN r ∧ ∀ z ∈ r, ltN y z.nm = true := by
  refine ⟨fun i j hi hj hij => h (i + 1) (j + 1) (by simpa using hi) (by simpa using hj) (by omega), fun z hz => ?_⟩
  obtain ⟨i, hi, rfl⟩ := List.mem_iff_getElem.1 hz
  exact h 0 (i + 1) (by simp) (by simpa using hi) (by omega)
theorem ris_behind {y : FT} {r : List FT} {x : ByteArray} (h : RisN (y :: r)) (hx : ltN y x = false) : ∀ z ∈ r, (z.nm.toList == x.toList) = false := fun z hz => by
  have h1 := (ris_tail h).2 z hz
  rw [beq_eq_false_iff_ne]
  intro e
  unfold ltN at h1 hx
  rw [e, hx] at h1
  cases h1
theorem ref_ins (o : Option FT) (x : ByteArray) : ∀ l : List FT, RisN l → refN o x false l = insN l x o.toList
  | [], _ => rfl
  | y :: r, h => by
    rw [refN, insN]
    cases hx : ltN y x with
    | true =>
      have hne := ne_less hx
      rw [hne, ← ref_ins o x r (ris_tail h).1]
      rfl
    | false =>
      rw [show (false || !false) = true from rfl, ref_put o x r (ris_behind h hx)]
      cases (y.nm.toList == x.toList) <;> rfl
theorem map_set : ∀ (l : List FT) (x : ByteArray) (V : FT) (f : FT → FT), RisN l → kidN l x = some V → (l.map fun z => if (z.nm.toList == x.toList) = true then f z else z) = setN l x (f V)
  | [], x, V, f, _, h => by rw [kidN] at h; cases h
  | y :: r, x, V, f, hr, h => by
    rw [kidN] at h
    rw [setN, List.map_cons]
    split at h
    · rename_i e
      cases h
      rw [if_pos e, if_pos e]
      have hx : ltN y x = false := lt_self (by simpa using e)
      have hb := ris_behind hr hx
      congr 1
      conv => rhs; rw [← List.map_id r]
      exact List.map_congr_left fun z hz => by rw [if_neg (by rw [hb z hz]; simp)]; rfl
    · rename_i e
      rw [if_neg e, if_neg e, map_set r x V f (ris_tail hr).1 h]
theorem bel_of_kid {T V : FT} {x : ByteArray} {q : List ByteArray} (h : belT T q = none) (hV : kidN T.kids x = some V) : ∃ q', belT V q' = none := by
  obtain ⟨i, hi, e⟩ := kid_mem hV
  exact ⟨_, e ▸ (bel_kid h hi).2⟩
/-- In a right tree the two are one. -/
theorem withG_is : ∀ (p : List ByteArray) (T D : FT) (x : ByteArray) (o : Option FT) (q : List ByteArray), belT T q = none → lookR T p = .inr D → withG T (p ++ [x]) o = withR T p (insN D.kids x o.toList)
  | [], T, D, x, o, q, hb, h => by
    rw [lookR] at h
    cases h
    show FT.mk _ _ _ _ = _
    rw [ref_ins o x T.kids (bel_ris hb)]
    rfl
  | w :: r, T, D, x, o, q, hb, h => by
    obtain ⟨_, V, hV, hD⟩ := look_kid h
    obtain ⟨q', hb'⟩ := bel_of_kid hb hV
    have ih := withG_is r V D x o q' hb' hD
    obtain ⟨y, s, e⟩ : ∃ y s, r ++ [x] = y :: s := by cases r with
      | nil => exact ⟨x, [], rfl⟩
      | cons y s => exact ⟨y, s ++ [x], rfl⟩
    rw [with_kid hV, List.cons_append, e, withG, ← ih, e]
    congr 1
    exact map_set T.kids w V (fun z => withG z (y :: s) o) (bel_ris hb) hV
end Ft
end Go.Proofs.YtfbhofomcenabaaGreatDoor
namespace Go.Proofs.YtfbhofomcenabaaGreatDoor
open Go Go.RowKit

namespace Ft
/-- What a file's answer has, one put in or taken out of a list. -/
def restG (p : List ByteArray) (o : Option FT) (b : Bool) (l : List FT) : List FT := match p with
  | [] => l
  | [x] => refN o x b l
  | x :: y :: r => l.map fun V => if (V.nm.toList == x.toList) = true then withG V (y :: r) o else V
theorem withG_rest {T : FT} {p : List ByteArray} (o : Option FT) (hp : p ≠ []) : withG T p o = .mk T.nm T.k T.d (restG p o false T.kids) := by
  match p, hp with
  | [x], _ => rfl
  | x :: y :: r, _ => rfl
theorem rest_nil {x : ByteArray} {r : List ByteArray} (o : Option FT) (b : Bool) : restG (x :: r) o b [] = if r = [] ∧ b = false then o.toList else [] := by
  match r with
  | [] => cases b <;> rfl
  | y :: s => simp [restG]
theorem rest_cons {x : ByteArray} {r : List ByteArray} (o : Option FT) (b : Bool) (V : FT) (l : List FT) : restG (x :: r) o b (V :: l) =
    (if r = [] ∧ b = false ∧ ltN V x = false then o.toList else []) ++ ((if (V.nm.toList == x.toList) = true then (if r = [] then [] else [withG V r o]) else [V]) ++ restG (x :: r) o (if r = [] then b || !ltN V x else b) l) := by
  match r with
  | [] =>
    show refN o x b (V :: l) = _
    rw [refN]
    cases b <;> cases ltN V x <;> cases (V.nm.toList == x.toList) <;> rfl
  | y :: s =>
    have e : ∀ b', restG (x :: y :: s) o b' l = l.map fun V => if (V.nm.toList == x.toList) = true then withG V (y :: s) o else V := fun _ => rfl
    rw [e]
    show (if (V.nm.toList == x.toList) = true then withG V (y :: s) o else V) :: (l.map fun V => if (V.nm.toList == x.toList) = true then withG V (y :: s) o else V) = _
    rw [if_neg (show ¬ (y :: s = [] ∧ b = false ∧ ltN V x = false) from fun h => by cases h.1), List.nil_append, if_neg (show ¬ (y :: s = []) from fun h => by cases h)]
    cases (V.nm.toList == x.toList) <;> rfl
theorem rest_gone {x : ByteArray} {r : List ByteArray} (b b' : Bool) (l : List FT) : restG (x :: r) none b l = restG (x :: r) none b' l := by
  match r with
  | [] => exact ref_none x l b b'
  | y :: s => rfl
/-- A round that puts nothing. -/
theorem rest_no {x : ByteArray} {r : List ByteArray} {O : Option FT} {f : FT} {b gone : Bool} {V : FT} {l : List FT} (hO : O = if gone = true then none else some f) (h : (r.isEmpty && !b && !gone && !ltN V x) = false) : restG (x :: r) O b (V :: l) =
    (if (V.nm.toList == x.toList) = true then (if r = [] then [] else [withG V r O]) else [V]) ++ restG (x :: r) O b l := by
  rw [rest_cons]
  match r, h with
  | y :: s, _ => rw [if_neg (show ¬ (y :: s = [] ∧ b = false ∧ ltN V x = false) from fun h => by cases h.1), List.nil_append]; rfl
  | [], h =>
    cases gone
    · cases b
      · have hl : ltN V x = true := by cases hq : ltN V x
                                       · rw [hq] at h; cases h
                                       · rfl
        rw [hl]; rfl
      · rfl
    · subst hO
      simp only [eq_self, if_true]
      have e : restG (x :: []) (none : Option FT) (b || !ltN V x) l = restG (x :: []) none b l := rest_gone _ _ _
      rw [e]
      cases b <;> cases ltN V x <;> rfl
/-- A round that puts the file. -/
theorem rest_yes {x : ByteArray} {r : List ByteArray} {O : Option FT} {f : FT} {b gone : Bool} {V : FT} {l : List FT} (hO : O = if gone = true then none else some f) (h : (r.isEmpty && !b && !gone && !ltN V x) = true) : restG (x :: r) O b (V :: l) =
    [f] ++ ((if (V.nm.toList == x.toList) = true then (if r = [] then [] else [withG V r O]) else [V]) ++ restG (x :: r) O true l) := by
  rw [rest_cons]
  simp only [Bool.and_eq_true, Bool.not_eq_true', List.isEmpty_iff] at h
  obtain ⟨⟨⟨rfl, rfl⟩, rfl⟩, hl⟩ := h
  subst hO
  rw [hl]; rfl
/-- Behind the last one. -/
theorem rest_end {x : ByteArray} {r : List ByteArray} {O : Option FT} {f : FT} {b gone : Bool} (hO : O = if gone = true then none else some f) : restG (x :: r) O b [] = if (r.isEmpty && !b && !gone) = true then [f] else [] := by
  rw [rest_nil]
  subst hO
  match r with
  | [] => cases b <;> cases gone <;> rfl
  | y :: s => rw [if_neg (show ¬ (y :: s = [] ∧ b = false) from fun h => by cases h.1)]; rfl
theorem refN_len (o : Option FT) (x : ByteArray) : ∀ (l : List FT) (b : Bool), (refN o x b l).length ≤ l.length + (if b = true then 0 else 1)
  | [], b => by cases b <;> cases o <;> simp [refN]
  | y :: r, b => by
    have h0 := refN_len o x r false
    have h1 := refN_len o x r true
    have h0 : (refN o x false r).length ≤ r.length + 1 := h0
    have h1 : (refN o x true r).length ≤ r.length := h1
    rw [refN]
    simp only [List.length_append, List.length_cons]
    have ho : o.toList.length ≤ 1 := by cases o <;> simp
    have hy : (if (y.nm.toList == x.toList) = true then ([] : List FT) else [y]).length ≤ 1 := by split <;> simp
    cases b
    · cases ltN y x
      · show o.toList.length + (_ + (refN o x true r).length) ≤ r.length + 1 + 1
        omega
      · show 0 + (_ + (refN o x false r).length) ≤ r.length + 1 + 1
        omega
    · show 0 + (_ + (refN o x true r).length) ≤ r.length + 1 + 0
      omega
theorem rest_len (p : List ByteArray) (o : Option FT) (b : Bool) (l : List FT) : (restG p o b l).length ≤ l.length + 1 := by
  match p with
  | [] => simp [restG]
  | [x] => have := refN_len o x l b; show (refN o x b l).length ≤ _; split at this <;> omega
  | x :: y :: r => show (List.map _ _).length ≤ _; rw [List.length_map]; omega
theorem FileAt.cellsG {w : World} {g : Nat} {T : FT} {a : Option Addr} {c : Nat} (h : FileAt w g T a c) : w.cell? ⟨g, 0, none⟩ = some (.string T.nm) ∧ w.cell? ⟨g, 1, none⟩ = some (.int .u8 (T.k : Int)) ∧ w.cell? ⟨g, 2, none⟩ = some (.string T.d) ∧ w.cell? ⟨g, 3, none⟩ = some (.slice a T.kids.length c) := by
  obtain ⟨h0, h1, h2, h3⟩ := h.four
  rw [Nat.zero_add] at h1 h2 h3
  exact ⟨h0, h1, h2, h3⟩
/-- A row of files of the call's own; the files' own files lie in Pf or in the call's memory, but not in the row. -/
def FRowP (Pf : Nat → Prop) (V : World) (base : Nat) (v : Value) (K : List (FT × Option Addr × Nat)) : Prop :=
  V.ownsRow base 25 4 v K.length (fcells K) ∧ ∀ x ∈ K, Fd V (fun b => (Pf b ∨ (base ≤ b ∧ b < V.heap.size)) ∧ some b ≠ v.ownBlock) x.1 x.2.1 x.2.2
theorem FRowP.empty (Pf : Nat → Prop) (V : World) (base : Nat) : FRowP Pf V base (.slice none 0 0) [] := ⟨World.ownsRow_nil _ _ _ _, fun x h => (by cases h)⟩
theorem FRowP.below {Pf : Nat → Prop} {V V' : World} {base : Nat} {v : Value} {K : List (FT × Option Addr × Nat)} (h : FRowP Pf V base v K) (hP : ∀ b, Pf b → b < V.heap.size) (hb : Below V.heap.size V V') : FRowP Pf V' base v K :=
  ⟨own_below h.1 hb, fun x hx => (h.2 x hx).same (fun b hp => hb.block b (by rcases hp.1 with q | q; exact hP b q; exact q.2)) (fun b hp => ⟨hp.1.imp id (fun q => ⟨q.1, Nat.lt_of_lt_of_le q.2 hb.size⟩), hp.2⟩)⟩
/-- The blocks of with, and the files that it has so far. -/
structure GW (Pf : Nat → Prop) (w : World) (T : FT) (a : Option Addr) (cap : Nat) (f : FT) (fa : Option Addr) (fc : Nat) (K : List (FT × Option Addr × Nat)) (v : Value) (V : World) : Prop where
  t : FileAt V w.heap.size T a cap
  g : FileAt V (w.heap.size + 1) f fa fc
  z : FileAt V (w.heap.size + 2) zF none 0
  o : V.heap[w.heap.size + 3]? = some (.cells #[.string T.nm, .int .u8 (T.k : Int), .string T.d, v] 25)
  ft : Fd V (· < w.heap.size) T a cap
  ff : Fd V Pf f fa fc
  row : FRowP Pf V (w.heap.size + 4) v K
  bel : Below w.heap.size w V
  hs : w.heap.size + 4 ≤ V.heap.size
theorem GW.under {Pf : Nat → Prop} {w V V' : World} {T f : FT} {a fa : Option Addr} {cap fc : Nat} {K : List (FT × Option Addr × Nat)} {v : Value} (h : GW Pf w T a cap f fa fc K v V) (hP : ∀ b, Pf b → b < w.heap.size) (hb : Below V.heap.size V V') : GW Pf w T a cap f fa fc K v V' :=
  ⟨h.t.under hb, h.g.under hb, h.z.under hb, (hb.block _ (by have := h.hs; omega)).trans h.o, h.ft.under (hb.mono h.bel.size), h.ff.underP (fun b q => Nat.lt_of_lt_of_le (hP b q) h.bel.size) hb, h.row.below (fun b q => Nat.lt_of_lt_of_le (hP b q) h.bel.size) hb, h.bel.trans (hb.mono h.bel.size), Nat.le_trans h.hs hb.size⟩
/-- One more file. -/
theorem GW.push {Pf : Nat → Prop} {w w2 w3 : World} {T f U : FT} {a fa a2 : Option Addr} {cap fc c2 g c : Nat} {K : List (FT × Option Addr × Nat)} {v : Value} (h : GW Pf w T a cap f fa fc K v w2) (hP : ∀ b, Pf b → b < w.heap.size)
    (hU : Fd w2 (fun b => (Pf b ∨ (w.heap.size + 4 ≤ b ∧ b < w2.heap.size)) ∧ some b ≠ v.ownBlock) U a2 c2) {o : Obj} {m : Nat}
    (own : w3.ownsRow (w.heap.size + 4) 25 4 (.slice (some ⟨g, 0, none⟩) (K.length + 1) c) (K.length + 1) (fcells K ++ fourL (U, a2, c2))) (hg : (w2.alloc o).grownBy w3 v.ownBlock) (hat : v.ownBlock = some g ∨ g = m) (hm : w2.heap.size < m) :
    w3.heap[w.heap.size + 3]? = some (.cells #[.string T.nm, .int .u8 (T.k : Int), .string T.d, v] 25) ∧ Below w.heap.size w w3 ∧
      GW Pf w T a cap f fa fc (K ++ [(U, a2, c2)]) (.slice (some ⟨g, 0, none⟩) (K.length + 1) c) (w3.setCell ⟨w.heap.size + 3, 3, none⟩ (.slice (some ⟨g, 0, none⟩) (K.length + 1) c)) := by
  have hs2 := h.hs
  have hs3 : w2.heap.size + 1 ≤ w3.heap.size := by have := hg.size; simpa using this
  have hvn : ∀ k, v.ownBlock = some k → w.heap.size + 4 ≤ k ∧ k < w2.heap.size := fun k hk => h.row.1.lt k hk
  have hoth : ∀ k, k < w2.heap.size → some k ≠ v.ownBlock → w3.heap[k]? = w2.heap[k]? := fun k hk hne => by rw [hg.block k (by simp; omega) hne, heap_alloc_old w2 o hk]
  have hlow : ∀ k, k < w.heap.size + 4 → w3.heap[k]? = w2.heap[k]? := fun k hk => hoth k (by omega) (fun e => by have := hvn k e.symm; omega)
  have hB3 : Below (w.heap.size + 4) w2 w3 := ((Below.refl _ _).alloc (by omega) o).grown hg (by simp; omega) (fun k hk => (hvn k hk).1)
  obtain ⟨v', hv'⟩ : ∃ v', v' = Value.slice (some ⟨g, 0, none⟩) (K.length + 1) c := ⟨_, rfl⟩
  obtain ⟨W, hW⟩ : ∃ W, W = w3.setCell ⟨w.heap.size + 3, 3, none⟩ v' := ⟨_, rfl⟩
  have hBy : Below (w.heap.size + 3) w3 W := by rw [hW]; exact (Below.refl _ _).setCell (p := ⟨w.heap.size + 3, 3, none⟩) (Nat.le_refl _) _
  have hsW : W.heap.size = w3.heap.size := by rw [hW]; simp
  have hset : ∀ k, k ≠ w.heap.size + 3 → W.heap[k]? = w3.heap[k]? := fun k hk => by rw [hW]; exact heap_setCell_other w3 ⟨w.heap.size + 3, 3, none⟩ k _ hk
  have hfin : ∀ k, k < w.heap.size + 3 → W.heap[k]? = w2.heap[k]? := fun k hk => (hset k (by omega)).trans (hlow k (by omega))
  have o3 : w3.heap[w.heap.size + 3]? = some (.cells #[.string T.nm, .int .u8 (T.k : Int), .string T.d, v] 25) := (hlow _ (by omega)).trans h.o
  have hBw : Below w.heap.size w w3 := h.bel.trans (hB3.mono (by omega))
  have hPw : ∀ b, Pf b → b < w2.heap.size := fun b q => by have := hP b q; omega
  refine ⟨o3, hBw, ?_⟩
  rw [← hv', ← hW]
  have key : ∀ b, ((Pf b ∨ (w.heap.size + 4 ≤ b ∧ b < w2.heap.size)) ∧ some b ≠ v.ownBlock) → W.heap[b]? = w2.heap[b]? := fun b hp => by
    have hb2 : b < w2.heap.size := by rcases hp.1 with q | q; exact hPw b q; exact q.2
    have hb3 : b ≠ w.heap.size + 3 := by rcases hp.1 with q | q; (have := hP b q; omega); omega
    exact (hset b hb3).trans (hoth b hb2 hp.2)
  have hvb : v'.ownBlock = some g := by rw [hv']; rfl
  have kq : ∀ b, ((Pf b ∨ (w.heap.size + 4 ≤ b ∧ b < w2.heap.size)) ∧ some b ≠ v.ownBlock) → ((Pf b ∨ (w.heap.size + 4 ≤ b ∧ b < W.heap.size)) ∧ some b ≠ v'.ownBlock) := fun b hp => by
    refine ⟨hp.1.imp id (fun q => ⟨q.1, by omega⟩), ?_⟩
    rw [hvb]
    rcases hat with e | e
    · rw [← e]; exact hp.2
    · intro q
      injection q with q
      rcases hp.1 with r | r
      · have := hPw b r; omega
      · omega
  refine ⟨(hfin _ (by omega)).trans h.t, (hfin _ (by omega)).trans h.g, (hfin _ (by omega)).trans h.z, ?_, h.ft.same (fun b (hb : b < _) => hfin b (by omega)) (fun _ q => q), h.ff.same (fun b hb => hfin b (by have := hP b hb; omega)) (fun _ q => q), ⟨?_, ?_⟩, hBw.trans (hBy.mono (by omega)), by omega⟩
  · rw [hW]; exact heap_setCell_same w3 _ 3 _ _ _ o3
  · rw [fcells_snoc, List.length_append]
    have h9 := ownsRow_setCell_below (a := ⟨w.heap.size + 3, 3, none⟩) own (show w.heap.size + 3 < w.heap.size + 4 by omega) v'
    rw [hW]
    rw [← hv'] at h9
    exact h9
  · intro x hx
    rcases List.mem_append.1 hx with q | q
    · exact (h.row.2 x q).same key kq
    · rw [List.mem_singleton.1 q]; exact hU.same key kq
theorem bel_dq (w : World) (n : Nat) : Below w.heap.size w (w.drewN n) := ⟨rfl, rfl, rfl, Nat.le_refl _, fun _ _ => rfl⟩
/-- A row that has something lies in a block. -/
theorem own_form {w' : World} {base n : Nat} {e : TypeId} {v' : Value} {xs : List Value} (h : w'.ownsRow base e 4 v' (n + 1) xs) : ∃ g c, v' = .slice (some ⟨g, 0, none⟩) (n + 1) c := by
  rcases h.2 with ⟨_, hz⟩ | ⟨g, cap, _, hv, _⟩
  · omega
  · exact ⟨g, cap, hv⟩
/-- One more file, out of what append tells. -/
theorem GW.push2 {Pf : Nat → Prop} {w w2 w3 : World} {T f U : FT} {a fa a2 : Option Addr} {cap fc c2 : Nat} {K : List (FT × Option Addr × Nat)} {v v' : Value} (h : GW Pf w T a cap f fa fc K v w2) (hP : ∀ b, Pf b → b < w.heap.size)
    (hU : Fd w2 (fun b => (Pf b ∨ (w.heap.size + 4 ≤ b ∧ b < w2.heap.size)) ∧ some b ≠ v.ownBlock) U a2 c2) {o : Obj} {m : Nat}
    (own : w3.ownsRow (w.heap.size + 4) 25 4 v' (K.length + 1) (fcells K ++ fourL (U, a2, c2))) (hg : (w2.alloc o).grownBy w3 v.ownBlock) (hat : v'.ownBlock = v.ownBlock ∨ v'.ownBlock = some m) (hm : w2.heap.size < m) :
    ∃ g c, v' = .slice (some ⟨g, 0, none⟩) (K.length + 1) c ∧ w3.cell? ⟨w.heap.size + 3, 3, none⟩ = some v ∧ w3.frozen? ⟨w.heap.size + 3, 3, none⟩ = false ∧
      Hid (GW Pf w T a cap f fa fc (K ++ [(U, a2, c2)]) (.slice (some ⟨g, 0, none⟩) (K.length + 1) c) (w3.setCell ⟨w.heap.size + 3, 3, none⟩ (.slice (some ⟨g, 0, none⟩) (K.length + 1) c))) := by
  obtain ⟨g, c, rfl⟩ := own_form own
  have hp := h.push hP hU own hg (by
    rcases hat with e | e
    · exact .inl e.symm
    · have e : some g = some m := e
      injection e with e
      exact .inr e) hm
  exact ⟨g, c, rfl, by rw [cell_of_row w3 _ _ _ _ _ hp.1]; rfl, frozen_of_row w3 _ 3 _ _ hp.1, hp.2.2⟩
/-- The end: the row as a file's own files. -/
theorem GW.done {Pf : Nat → Prop} {w V : World} {T f : FT} {a fa : Option Addr} {cap fc : Nat} {K : List (FT × Option Addr × Nat)} {v : Value} {l : List FT} (h : GW Pf w T a cap f fa fc K v V) (hK : K.map (·.1) = l) (hl : l.length ≤ 1048576) : ∃ a' c', v = .slice a' l.length c' ∧ Fd V (fun b => Pf b ∨ (w.heap.size + 4 ≤ b ∧ b < V.heap.size)) (.mk T.nm T.k T.d l) a' c' := by
  have h2 := h.row.1
  have hn : K.length = l.length := by rw [← hK]; simp
  rcases h2.2 with ⟨hv, hz⟩ | ⟨gb, cb, cur, hv, hb, hg, hcap, hmax, hsize, htake⟩
  · refine ⟨none, 0, by rw [hv, ← hn, hz], .mk (fun _ => (none, 0)) hl (fun _ => rfl) (by show l.length ≤ 0; omega) (Nat.zero_le _) (fun i (hi : i < l.length) => absurd hi (by omega)) (fun i (hi : i < l.length) => absurd hi (by omega))⟩
  · have hk : ∀ i (hi : i < l.length), ∃ h' : i < K.length, l[i] = (K[i]).1 := fun i hi => ⟨by omega, by simp only [← hK, List.getElem_map]⟩
    refine ⟨some ⟨gb, 0, none⟩, cb, by rw [hv, hn], .mk (fun i => ((K[i]?).map (·.2)).getD (none, 0)) hl (fun h => by cases h) (by show l.length ≤ cb; omega) hmax (fun i (hi : i < l.length) => ⟨gb, 0, rfl, .inr ⟨hb, lt_of_block hg⟩, ?_⟩) (fun i (hi : i < l.length) => ?_)⟩
    · obtain ⟨hi', e⟩ := hk i hi
      have key : ∀ j, j < 4 → V.cell? ⟨gb, 0 + i * 4 + j, none⟩ = (fourL (K[i]))[j]? := fun j hj => by
        subst hv
        rw [Nat.zero_add, h2.cellAt (i * 4 + j) (by omega)]; exact fcells_at K i hi' j hj
      have e' : (FT.mk T.nm T.k T.d l).kids[i]'hi = (K[i]).1 := e
      rw [e']
      simp only [List.getElem?_eq_getElem hi', Option.map_some, Option.getD_some]
      exact ⟨key 0 (by omega), key 1 (by omega), key 2 (by omega), key 3 (by omega)⟩
    · obtain ⟨hi', e⟩ := hk i hi
      have e' : (FT.mk T.nm T.k T.d l).kids[i]'hi = (K[i]).1 := e
      rw [e']
      simp only [List.getElem?_eq_getElem hi', Option.map_some, Option.getD_some]
      exact (h.row.2 _ (List.getElem_mem hi')).mono (fun b hp => hp.1)
end Ft
end Go.Proofs.YtfbhofomcenabaaGreatDoor
