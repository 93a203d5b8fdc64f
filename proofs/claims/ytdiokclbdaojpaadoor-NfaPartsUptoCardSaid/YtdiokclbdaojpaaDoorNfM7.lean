/- What the iterator of (*run).states yields. A range over a function whose iterator has memory of its own, and writes it between two rounds: the law. A run under way: what is its own, and how it turns. -/
import Derived.Test.YtdiokclbdaojpaaDoorNfEn
import Derived.RangeFuncNested
import Derived.RangeFuncBound
import Derived.RangeFuncCalls
import Derived.RangeFuncLeaves
import Derived.Shelf.Abstract
import Derived.OwnWalkIn
import Derived.TacticsInMore
import Derived.LoopNIn
import Derived.LoopIn
import Derived.Lib.SmallJoins
import Derived.RangeFuncFrom
import Derived.Test.YtdiokclbdaojpaaDoorChecked
namespace Go.Proofs.YtdiokclbdaojpaaDoor
open Go Go.RowKit Go.Shelf

attribute [local go_sem] Oper.semAt_some

namespace Nt
theorem own_pre {w : World} {base e size g n cap : Nat} {xs : List Value} (h : w.ownsRow base e size (.slice (some ⟨g, 0, none⟩) n cap) n xs) (k : Nat) (hk : k ≤ n) : w.ownsRow base e size (.slice (some ⟨g, 0, none⟩) k cap) k (xs.take (k * size)) := by
  obtain ⟨hl, h | ⟨g', cap', cur, hv, h1, h2, h3, h4, h5, h6⟩⟩ := h
  · cases h.1
  · injection hv with e1 _ e3
    injection e1 with e1
    injection e1 with e1
    subst e1 e3
    have hle : k * size ≤ n * size := Nat.mul_le_mul_right _ hk
    exact ⟨by simp; omega, .inr ⟨g, cap, cur, rfl, h1, h2, by omega, h4, h5, by rw [← h6, List.take_take, Nat.min_eq_left hle]⟩⟩
/-- A run under way at a place: its block, its marks, what is left, and the boxes of its iterator. -/
structure Sx (W : World) (rb g B0 B1 B2 : Nat) (ca : Option Addr) (cc : Nat) (L : List Ins) (s : ByteArray) (i0 at' : Nat) (lv : Value) (l m : List Nat) : Prop where
  rn : Rn W rb (.slice ca L.length cc) s (.slice (some ⟨g, 0, none⟩) L.length L.length) lv
  mt : Mt W g m
  lf : Lf W rb lv l
  cd : Cds W g ca cc L
  b0 : W.cell? ⟨B0, 0, none⟩ = some (.pointer (some ⟨rb, 0, none⟩))
  b1 : W.cell? ⟨B1, 0, none⟩ = some (.int .i64 (i0 : Int))
  b2 : W.cell? ⟨B2, 0, none⟩ = some (.int .i64 (at' : Int))
  far : g < rb ∧ rb < B0 ∧ rb < B1 ∧ rb < B2
  lie : B0 < W.heap.size ∧ B1 < W.heap.size ∧ B2 < W.heap.size
  off : lv.ownBlock ≠ some B0 ∧ lv.ownBlock ≠ some B1 ∧ lv.ownBlock ≠ some B2
/-- What is left, put anew behind a cut row: as left_put, the run's block still holding the longer row. -/
theorem left_put2 {w w3 : World} {rb g c : Nat} {cv : Value} {s : ByteArray} {mv lv0 lv : Value} {l0 l news : List Nat} (hR : Rn w rb cv s mv lv0) (hl0 : Lf w rb lv0 l0) (hlv : lv.ownBlock = lv0.ownBlock) {W0 : World} (hW : Below w.heap.size w W0) (hg : W0.grownBy w3 lv.ownBlock)
    (hown : w3.ownsRow (rb + 1) 3 1 (.slice (some ⟨g, 0, none⟩) (l.length + news.length) c) (l.length + news.length) (icellsN l ++ icellsN news)) (hat : lv.ownBlock = some g ∨ W0.heap.size ≤ g) :
    Rn (w3.setCell ⟨rb, 3, none⟩ (.slice (some ⟨g, 0, none⟩) (l.length + news.length) c)) rb cv s mv (.slice (some ⟨g, 0, none⟩) (l.length + news.length) c) ∧ Lf (w3.setCell ⟨rb, 3, none⟩ (.slice (some ⟨g, 0, none⟩) (l.length + news.length) c)) rb (.slice (some ⟨g, 0, none⟩) (l.length + news.length) c) (l ++ news) ∧ Rz rb lv0 (.slice (some ⟨g, 0, none⟩) (l.length + news.length) c) w (w3.setCell ⟨rb, 3, none⟩ (.slice (some ⟨g, 0, none⟩) (l.length + news.length) c)) := by
  rw [hlv] at hg hat
  have h3 := left_blk hR hl0 hW hg
  have h0 := hW.size
  have hs := hg.size
  have y := (Below.refl 0 w3).setCell (p := ⟨rb, 3, none⟩) (Nat.zero_le _) (.slice (some ⟨g, 0, none⟩) (l.length + news.length) c)
  refine ⟨heap_setCell_same w3 rb 3 _ _ _ h3, ?_, ⟨y.os.trans (hg.os.trans hW.os), y.tape.trans (hg.tape.trans hW.tape), y.output.trans (hg.output.trans hW.output), Nat.le_trans (by omega) y.size, fun k hk h1 h2 => ?_, fun g' hg' => ?_⟩⟩
  · unfold Lf
    have e : icellsN (l ++ news) = icellsN l ++ icellsN news := by simp [icellsN]
    rw [List.length_append, e]
    exact ownsRow_setCell_below hown (Nat.lt_succ_self rb) _
  · rw [heap_setCell_other w3 ⟨rb, 3, none⟩ k _ h1, hg.block k (by omega) h2]
    exact hW.block k hk
  · obtain rfl : g = g' := by injection hg'
    rcases hat with h | h
    · exact .inl h
    · exact .inr (by omega)
/-- A run under way stays one where only its block and what is left have turned. -/
theorem Sx.turn {W W' : World} {rb g B0 B1 B2 : Nat} {ca : Option Addr} {cc : Nat} {L : List Ins} {s : ByteArray} {i0 at' : Nat} {lv lv' : Value} {l l' m : List Nat} (h : Sx W rb g B0 B1 B2 ca cc L s i0 at' lv l m)
    (hR : Rn W' rb (.slice ca L.length cc) s (.slice (some ⟨g, 0, none⟩) L.length L.length) lv') (hl : Lf W' rb lv' l') (hz : Rz rb lv lv' W W') : Sx W' rb g B0 B1 B2 ca cc L s i0 at' lv' l' m := by
  obtain ⟨f1, f2, f3, f4⟩ := h.far
  obtain ⟨g1, g2, g3⟩ := h.lie
  obtain ⟨o1, o2, o3⟩ := h.off
  have hlt := h.rn.lt
  have low : ∀ k, k < rb → W'.heap[k]? = W.heap[k]? := fun k hk => hz.block k (by omega) (by omega) (fun e => by have := (World.ownsRow.lt h.lf k e.symm).1; omega)
  have bx : ∀ k, k < W.heap.size → rb < k → lv.ownBlock ≠ some k → W'.heap[k]? = W.heap[k]? := fun k hk h1 h2 => hz.block k hk (by omega) (fun e => h2 e.symm)
  have hs := hz.size
  have nb : ∀ k, k < W.heap.size → lv.ownBlock ≠ some k → lv'.ownBlock ≠ some k := fun k hk h1 e => by
    rcases hz.row k e with h2 | h2
    · exact h1 h2
    · omega
  refine ⟨hR, ?_, hl, ⟨h.cd.len, h.cd.room, h.cd.most, h.cd.nil, fun i hi => ?_⟩, ?_, ?_, ?_, h.far, ⟨by omega, by omega, by omega⟩, ⟨nb B0 g1 o1, nb B1 g2 o2, nb B2 g3 o3⟩⟩
  · have := h.mt
    unfold Mt at this ⊢
    rw [low g f1]; exact this
  · obtain ⟨b, off, e, h1, h2⟩ := h.cd.lies i hi
    exact ⟨b, off, e, h1, fun j hj => (World.cell?_of_block (a := ⟨b, off + i * 9 + j, none⟩) (low b (by omega))).trans (h2 j hj)⟩
  · exact (World.cell?_of_block (a := ⟨B0, 0, none⟩) (bx B0 g1 f2 o1)).trans h.b0
  · exact (World.cell?_of_block (a := ⟨B1, 0, none⟩) (bx B1 g2 f3 o2)).trans h.b1
  · exact (World.cell?_of_block (a := ⟨B2, 0, none⟩) (bx B2 g3 f4 o3)).trans h.b2
end Nt
end Go.Proofs.YtdiokclbdaojpaaDoor
namespace Go.Proofs.YtdiokclbdaojpaaDoor
open Go Go.RowKit

/-- No block of the first world has turned but those of O. -/
structure Tu (O : Nat → Prop) (A B : World) : Prop where
  os : B.os = A.os
  tape : B.tape = A.tape
  output : B.output = A.output
  size : A.heap.size ≤ B.heap.size
  block : ∀ k, k < A.heap.size → ¬ O k → B.heap[k]? = A.heap[k]?
theorem Tu.refl (O : Nat → Prop) (A : World) : Tu O A A := ⟨rfl, rfl, rfl, Nat.le_refl _, fun _ _ _ => rfl⟩
theorem Tu.mono {O O' : Nat → Prop} {A B : World} (h : Tu O A B) (hO : ∀ k, k < A.heap.size → O k → O' k) : Tu O' A B :=
  ⟨h.os, h.tape, h.output, h.size, fun k hk hn => h.block k hk (fun e => hn (hO k hk e))⟩
theorem Tu.trans {O O' : Nat → Prop} {A B C : World} (h : Tu O A B) (h' : Tu O' B C) (hO : ∀ k, k < A.heap.size → O' k → O k) : Tu O A C :=
  ⟨h'.os.trans h.os, h'.tape.trans h.tape, h'.output.trans h.output, Nat.le_trans h.size h'.size, fun k hk hn => (h'.block k (by have := h.size; omega) (fun e => hn (hO k hk e))).trans (h.block k hk hn)⟩
theorem Tu.alloc {O : Nat → Prop} {A B : World} (h : Tu O A B) (o : Obj) : Tu O A (B.alloc o) := by
  have y := (Below.refl B.heap.size B).alloc (Nat.le_refl _) o
  exact h.trans (O' := fun _ => False) ⟨y.os, y.tape, y.output, y.size, fun k hk _ => y.block k hk⟩ (fun _ _ e => e.elim)
theorem Tu.put {O : Nat → Prop} {A B : World} (h : Tu O A B) {l : Nat} (hl : l < A.heap.size → O l) (o : Obj) : Tu O A (B.putObj l o) := by
  have y := grownBy_putObj' B l o
  exact h.trans (O' := fun k => k = l) ⟨y.os, y.tape, y.output, y.size, fun k hk hn => y.block k hk (fun e => hn (by cases e; rfl))⟩ (fun k hk e => by subst e; exact hl hk)
theorem Tu.of_below {O : Nat → Prop} {A B : World} {n : Nat} (h : Below n A B) (hO : ∀ k, n ≤ k → k < A.heap.size → O k) : Tu O A B :=
  ⟨h.os, h.tape, h.output, h.size, fun k hk hn => h.block k (Nat.lt_of_not_le (fun e => hn (hO k e hk)))⟩
theorem Tu.below {O : Nat → Prop} {A B : World} {n : Nat} (h : Tu O A B) (hn : n ≤ A.heap.size) (hO : ∀ k, O k → n ≤ k) : Below n A B :=
  ⟨h.os, h.tape, h.output, h.size, fun k hk => h.block k (by omega) (fun e => by have := hO k e; omega)⟩
theorem Tu.drew {O : Nat → Prop} {A B : World} (h : Tu O A B) : Tu O A B.drew := ⟨h.os, h.tape, h.output, h.size, h.block⟩
theorem Tu.setCell {O : Nat → Prop} {A B : World} (h : Tu O A B) {p : Addr} (hp : p.block < A.heap.size → O p.block) (v : Value) : Tu O A (B.setCell p v) := by
  have y := (Below.refl 0 B).setCell (p := p) (Nat.zero_le _) v
  exact h.trans (O' := fun k => k = p.block) ⟨y.os, y.tape, y.output, y.size, fun k _ hn => heap_setCell_other B p k v hn⟩ (fun k hk e => by subst e; exact hp hk)
/-- The blocks of O lie as they lay. -/
structure Ke (O : Nat → Prop) (A B : World) : Prop where
  size : A.heap.size ≤ B.heap.size
  block : ∀ k, O k → B.heap[k]? = A.heap[k]?
theorem Ke.refl (O : Nat → Prop) (A : World) : Ke O A A := ⟨Nat.le_refl _, fun _ _ => rfl⟩
theorem Ke.mono {O O' : Nat → Prop} {A B : World} (h : Ke O A B) (hO : ∀ k, O' k → O k) : Ke O' A B := ⟨h.size, fun k hk => h.block k (hO k hk)⟩
theorem Ke.trans {O : Nat → Prop} {A B C : World} (h : Ke O A B) (h' : Ke O B C) : Ke O A C := ⟨Nat.le_trans h.size h'.size, fun k hk => (h'.block k hk).trans (h.block k hk)⟩
theorem Ke.of_tu {O O' : Nat → Prop} {A B : World} (h : Tu O' A B) (hO : ∀ k, O k → k < A.heap.size ∧ ¬ O' k) : Ke O A B := ⟨h.size, fun k hk => h.block k (hO k hk).1 (hO k hk).2⟩
/-- What a caller says of the world abides whatever its iterator does to the memory that is its own. -/
def Abi {α : Type} (J : (Nat → Prop) → List α → World → Prop) : Prop :=
  ∀ O O' pre A B, J O pre A → Tu O A B → (∀ k, O' k → (O k ∨ A.heap.size ≤ k) ∧ k < B.heap.size) → J O' pre B
def AbiX (J : (Nat → Prop) → World → Prop) : Prop :=
  ∀ O O' A B, J O A → Tu O A B → (∀ k, O' k → (O k ∨ A.heap.size ≤ k) ∧ k < B.heap.size) → J O' B
/-- What an iterator does that has the memory O0 of its own, and may read Z beside it. -/
def SeqO {α : Type} (F : Fence) (n : Nat) (P : Program) (g : Nat) (lb : Array Value) (encs : α → Array Value) (V : α → Prop) (U : (Nat → Prop) → World → Prop) (Z O0 : Nat → Prop) (N : Nat) (Pf : List α → Prop) (S : List α → (Nat → Prop) → World → Prop) (w : World) : Prop :=
  ∀ (l : Nat) (J : (Nat → Prop) → List α → World → Prop) (Jx : (Nat → Prop) → World → Prop) (W : World), Tu (fun _ => False) w W → Abi J → AbiX Jx →
    (∀ O pre x W1, J O pre W1 → U O W1 → V x → pre.length < N → Pf (pre ++ [x]) → YieldAt F (n - 1) P l (encs x) W1 fun e W' =>
      (e = .returned (.bool true) ∧ J O (pre ++ [x]) W' ∧ Ke (fun k => O k ∨ Z k) W1 W') ∨ (e = .returned (.bool false) ∧ Jx O W' ∧ Ke (fun k => O k ∨ Z k) W1 W')) →
    J O0 [] W →
    CallsIn F n P g (#[.func (.yield l) #[] #[]] ++ lb) W fun e W' => (∃ v, e = .returned v) ∧ ((∃ xs O, S xs O W' ∧ J O xs W') ∨ ∃ O, Jx O W')
/-- How the body of a round may be left. -/
def postO {α : Type} (Z : Nat → Prop) (I : (Nat → Prop) → List α → World → Prop) (Ix : Code → (Nat → Prop) → World → Prop) (O : Nat → Prop) (xs : List α) (W : World) : Exit → Act → World → Prop
  | .normal, _, W' => Ke (fun k => O k ∨ Z k) W W' ∧ I O xs W'
  | .ret, _, W' => Ke (fun k => O k ∨ Z k) W W' ∧ Ix .ret O W'
  | .exit id, _, W' => Ke (fun k => O k ∨ Z k) W W' ∧ Ix (.exit id) O W'
  | .goto t, _, W' => Ke (fun k => O k ∨ Z k) W W' ∧ Ix (.goto t) O W'
  | .panic _, _, _ => False
  | .outgrown, _, _ => False

variable {F : Fence} {n : Nat} {P : Program}

set_option maxHeartbeats 1000000 in
theorem wpIn_rangeO {α : Type} {g : Operand} {ps : Array Tmp} {assign body : Code} {Q : Exit → Act → World → Prop} {a : Act} {w : World}
    (hro : F.round = none) (h1 : 1 ≤ n) {gf : Nat} {lb : Array Value} (hg : a.eval g = .func (.func gf) #[] lb) (hFg : F.fn gf) (eg : ∀ args w, (callFunc gf args).run P w = .ok (.enter gf args) w)
    {encs : α → Array Value} {V : α → Prop} {U : (Nat → Prop) → World → Prop} {Z O0 : Nat → Prop} {N : Nat} {Pf : List α → Prop} {S : List α → (Nat → Prop) → World → Prop} (hseq : SeqO F (n - 1) P gf lb encs V U Z O0 N Pf S w)
    (hO0 : ∀ k, O0 k → k < w.heap.size) (hZ : ∀ k, Z k → k < w.heap.size) (hS : ∀ xs O A B, S xs O A → Ke (fun k => O k ∨ Z k) A B → S xs O B) (hU : ∀ O A B, U O A → Ke (fun k => O k ∨ Z k) A B → U O B) (hps : ∀ x, (encs x).size = ps.size)
    (I : (Nat → Prop) → List α → World → Prop) (Ix : Code → (Nat → Prop) → World → Prop) (hI : Abi I) (hIx : ∀ c, AbiX (Ix c)) (h0 : ∀ O W, Tu (fun _ => False) w W → (∀ k, O k → (O0 k ∨ w.heap.size ≤ k) ∧ k < W.heap.size) → I O [] W) (a₁ : α → Act)
    (hassign : ∀ (l : Nat) (x : α) (W : World) (K : Act → World → Prop), K (a₁ x) W →
      assign.wpIn (F.inRound l) (n - 1 - 1) P (Exit.then K (fun _ _ _ => False)) { tmps := (ps.zip (encs x)).foldl (fun t (p, v) => t.setIfInBounds p v) a.tmps, defers := [] } W)
    (hbody : ∀ (l : Nat) (O : Nat → Prop) (pre : List α) (x : α) (W : World), I O pre W → (∃ O1, U O1 W ∧ ∀ k, O1 k → O k) → V x → pre.length < N → Pf (pre ++ [x]) → body.wpIn (F.inRound l) (n - 1 - 1) P (postO Z I Ix O (pre ++ [x]) W) (a₁ x) W)
    (hdone : ∀ (D : Nat) (O O' : Nat → Prop) (xs : List α) (W : World), w.heap.size ≤ D → S xs O W → O' D → ¬ O D → (∀ k, O k → O' k) → I O' xs W → W.heap[D]? = some (.deferred (some [])) → Q .normal { a with defers := { target := .collected D, args := #[] } :: a.defers } W)
    (hstop : ∀ (D : Nat) (O' : Nat → Prop) (c : Code) (W : World), w.heap.size ≤ D → O' D → Ix c O' W → W.heap[D]? = some (.deferred (some [])) → c.wpIn F n P Q { a with defers := { target := .collected D, args := #[] } :: a.defers } W) :
    (Code.rangeFunc g ps assign body).wpIn F n P Q a w := by
  refine wpIn_rangeFunc ?_
  intro fn hfn
  rw [hro]
  obtain ⟨rec, hrec⟩ : ∃ rec : LoopState → Option Code → Loop, rec = fun st pe => { state := st, pending := pe, fn, tmps := a.tmps, params := ps, assign, body, defers := w.heap.size } := ⟨_, rfl⟩
  obtain ⟨W1, hW1⟩ : ∃ W1, (w.alloc (.deferred (some []))).alloc (.loop (rec .ready none)) = W1 := ⟨_, rfl⟩
  have hL1 : W1.heap[w.heap.size + 1]? = some (.loop (rec .ready none)) := by
    rw [← hW1]; have := World.alloc_heap_new (w.alloc (.deferred (some []))) (.loop (rec .ready none)); rwa [World.size_alloc] at this
  have hK1 : W1.heap[w.heap.size]? = some (.deferred (some [])) := by
    rw [← hW1]; exact (Below.heap_alloc _ _ _ (by simp)).trans (World.alloc_heap_new w _)
  have hT1 : Tu (fun _ => False) w W1 := by rw [← hW1]; exact ((Tu.refl _ w).alloc _).alloc _
  have hs1 : W1.heap.size = w.heap.size + 2 := by rw [← hW1]; simp
  refine ⟨w.heap.size + 1, [{ target := .collected w.heap.size, args := #[] }], W1, { target := .fn (.func gf) lb, args := #[.func (.yield (w.heap.size + 1)) #[] #[]] }, W1, gf,
    #[.func (.yield (w.heap.size + 1)) #[] #[]] ++ lb, W1, ?_, ?_, ?_, ?_, fun _ => h1, ?_⟩
  · rw [← hW1, hrec]; exact run_enterLoop_outer _ _ _ _ _
  · simp only [resolve, hg]
    simp [go_sem]
  · intro f' hf'; simp [Target.leads] at hf'; subst hf'; exact hFg
  · simp [invoke, go_sem, eg]
  · obtain ⟨OL, hOL⟩ : ∃ OL : (Nat → Prop) → Nat → Prop, OL = fun O k => O k ∨ k = w.heap.size ∨ k = w.heap.size + 1 := ⟨_, rfl⟩
    have oD : ∀ O, OL O w.heap.size := fun O => by rw [hOL]; exact .inr (.inl rfl)
    have oL : ∀ O, OL O (w.heap.size + 1) := fun O => by rw [hOL]; exact .inr (.inr rfl)
    have oO : ∀ O k, O k → OL O k := fun O k h => by rw [hOL]; exact .inl h
    have hlt : ∀ {W : World} {o : Obj} {k : Nat}, W.heap[k]? = some o → k < W.heap.size := fun h => (Array.getElem?_eq_some_iff.1 h).1
    have stay : ∀ {O O' : Nat → Prop} {A B : World}, A.heap[w.heap.size + 1]? ≠ none → ¬ O w.heap.size → ¬ O (w.heap.size + 1) → (∀ k, O' k → (O k ∨ A.heap.size ≤ k) ∧ k < B.heap.size) → ¬ O' w.heap.size ∧ ¬ O' (w.heap.size + 1) := by
      intro O O' A B hn n1 n2 h
      have hl : w.heap.size + 1 < A.heap.size := by
        rcases Nat.lt_or_ge (w.heap.size + 1) A.heap.size with h | h
        · exact h
        · exact (hn (Array.getElem?_eq_none h)).elim
      exact ⟨fun e => (h _ e).1.elim n1 (fun _ => by omega), fun e => (h _ e).1.elim n2 (fun _ => by omega)⟩
    have grow : ∀ {O O' : Nat → Prop} {A B : World}, Tu O A B → w.heap.size + 1 < A.heap.size → (∀ k, O' k → (O k ∨ A.heap.size ≤ k) ∧ k < B.heap.size) → (∀ k, OL O' k → (OL O k ∨ A.heap.size ≤ k) ∧ k < B.heap.size) := by
      intro O O' A B hT hl h k hk
      have := hT.size
      rw [hOL] at hk
      rcases hk with hk | hk | hk
      · exact ⟨(h k hk).1.imp (oO O k) id, (h k hk).2⟩
      · subst hk; exact ⟨.inl (oD O), by omega⟩
      · subst hk; exact ⟨.inl (oL O), by omega⟩
    refine (hseq (w.heap.size + 1)
      (fun O pre W => I (OL O) pre W ∧ (W.heap[w.heap.size + 1]? = some (.loop (rec .ready none)) ∧ W.heap[w.heap.size]? = some (.deferred (some []))) ∧ (¬ O w.heap.size ∧ ¬ O (w.heap.size + 1)) ∧ ∀ k, O k → k < W.heap.size)
      (fun O W => ∃ c, Ix c (OL O) W ∧ (W.heap[w.heap.size + 1]? = some (.loop (rec .done (some c))) ∧ W.heap[w.heap.size]? = some (.deferred (some []))) ∧ (¬ O w.heap.size ∧ ¬ O (w.heap.size + 1)) ∧ ∀ k, O k → k < W.heap.size)
      W1 hT1 ?_ ?_ ?_ ?_).mono ?_
    · rintro O O' pre A B ⟨hi, ⟨hl, hk⟩, ⟨n1, n2⟩, hb⟩ hT hO
      refine ⟨hI _ _ pre A B hi (hT.mono (fun k _ => oO O k)) (grow hT (hlt hl) hO), ⟨(hT.block _ (hlt hl) n2).trans hl, (hT.block _ (hlt hk) n1).trans hk⟩, stay (by rw [hl]; simp) n1 n2 hO, fun k e => (hO k e).2⟩
    · rintro O O' A B ⟨c, hi, ⟨hl, hk⟩, ⟨n1, n2⟩, hb⟩ hT hO
      refine ⟨c, hIx c _ _ A B hi (hT.mono (fun k _ => oO O k)) (grow hT (hlt hl) hO), ⟨(hT.block _ (hlt hl) n2).trans hl, (hT.block _ (hlt hk) n1).trans hk⟩, stay (by rw [hl]; simp) n1 n2 hO, fun k e => (hO k e).2⟩
    · -- one round
      rintro O pre x W ⟨hi, ⟨hl, hk⟩, ⟨n1, n2⟩, hb⟩ hUW hV hlen hPf
      have hll := hlt hl
      have hy := run_yield (P := P) (args := encs x) hl (by rw [hrec]; exact hps x)
      rw [hrec] at hy
      refine ⟨fn, _, assign, body, hy, roundIn_of_wpIn hfn (hassign _ x W _ ⟨_, run_beginRound hl (by rw [hrec]), ?_⟩)⟩
      have hOb : ∀ (A : World), W.heap.size ≤ A.heap.size → ∀ k, OL O k → k < A.heap.size := by
        intro A hA k e
        rw [hOL] at e
        rcases e with e | e | e
        · have := hb k e; omega
        · omega
        · omega
      have hbk : ∀ (A : World) (o : Obj), W.heap.size ≤ A.heap.size → ∀ k, OL O k → (OL O k ∨ A.heap.size ≤ k) ∧ k < (A.putObj (w.heap.size + 1) o).heap.size :=
        fun A o hA k e => ⟨.inl e, Nat.lt_of_lt_of_le (hOb A hA k e) (grownBy_putObj' A (w.heap.size + 1) o).size⟩
      obtain ⟨W2, hW2⟩ : ∃ W2, W2 = W.putObj (w.heap.size + 1) (.loop { rec .ready none with state := .busy }) := ⟨_, rfl⟩
      have hl2 : W2.heap[w.heap.size + 1]? = some (.loop { rec .ready none with state := .busy }) := by rw [hW2]; exact World.putObj_heap_same hll
      have hk2 : W2.heap[w.heap.size]? = some (.deferred (some [])) := by rw [hW2]; exact (World.putObj_heap_other (by omega)).trans hk
      have hs2 : W.heap.size ≤ W2.heap.size := by rw [hW2]; exact (grownBy_putObj' W _ _).size
      have hi2 : I (OL O) pre W2 := by rw [hW2]; exact hI _ _ pre W _ hi ((Tu.refl _ W).put (fun _ => oL O) _) (hbk W _ (Nat.le_refl _))
      have hKe2 : Ke (fun k => O k ∨ Z k) W W2 := ⟨hs2, fun k e => by rw [hW2]; exact World.putObj_heap_other (fun e2 => e.elim (fun e => n2 (e2 ▸ e)) (fun e => by have := hZ k e; omega))⟩
      rw [← hW2]
      refine wpIn_mono (hbody _ (OL O) pre x W2 hi2 ⟨O, hU O W W2 hUW hKe2, oO O⟩ hV hlen hPf) ?_
      have fin : ∀ (jump : Option Code) (W3 : World), Ke (fun k => OL O k ∨ Z k) W2 W3 →
          (Instr.endRound (w.heap.size + 1) jump).run P W3 = .ok (.bool jump.isNone) (W3.putObj (w.heap.size + 1) (.loop (rec (if jump.isNone then .ready else .done) jump))) ∧
          (W3.putObj (w.heap.size + 1) (.loop (rec (if jump.isNone then .ready else .done) jump))).heap[w.heap.size + 1]? = some (.loop (rec (if jump.isNone then .ready else .done) jump)) ∧
          (W3.putObj (w.heap.size + 1) (.loop (rec (if jump.isNone then .ready else .done) jump))).heap[w.heap.size]? = some (.deferred (some [])) ∧
          Ke (fun k => O k ∨ Z k) W (W3.putObj (w.heap.size + 1) (.loop (rec (if jump.isNone then .ready else .done) jump))) ∧ W.heap.size ≤ W3.heap.size := fun jump W3 hk3 => by
        have hl3 := (hk3.block _ (.inl (oL O))).trans hl2
        have := run_endRound (P := P) jump hl3
        refine ⟨by rw [hrec] at this ⊢; exact this, World.putObj_heap_same (hlt hl3), (World.putObj_heap_other (by omega)).trans ((hk3.block _ (.inl (oD O))).trans hk2), ?_, Nat.le_trans hs2 hk3.size⟩
        refine (hKe2.trans (hk3.mono (fun k e => e.imp (oO O k) id))).trans ⟨(grownBy_putObj' W3 _ _).size, fun k e => World.putObj_heap_other (fun e2 => e.elim (fun e => n2 (e2 ▸ e)) (fun e => by have := hZ k e; omega))⟩
      rintro e a3 W3 hp
      have hb3 : ∀ (o : Obj), W.heap.size ≤ W3.heap.size → ∀ k, O k → k < (W3.putObj (w.heap.size + 1) o).heap.size := fun o hs k e => Nat.lt_of_lt_of_le (hb k e) (Nat.le_trans hs (grownBy_putObj' W3 _ _).size)
      cases e with
      | normal =>
        obtain ⟨hk3, hi3⟩ := hp
        obtain ⟨hr, hl4, hk4, hke, hs3⟩ := fin none W3 hk3
        exact ⟨_, _, hr, .inl ⟨rfl, ⟨hI _ _ _ W3 _ hi3 ((Tu.refl _ W3).put (fun _ => oL O) _) (hbk W3 _ hs3), ⟨hl4, hk4⟩, ⟨n1, n2⟩, hb3 _ hs3⟩, hke⟩⟩
      | ret =>
        obtain ⟨hk3, hi3⟩ := hp
        obtain ⟨hr, hl4, hk4, hke, hs3⟩ := fin (some .ret) W3 hk3
        exact ⟨_, _, hr, .inr ⟨rfl, ⟨.ret, hIx _ _ _ W3 _ hi3 ((Tu.refl _ W3).put (fun _ => oL O) _) (hbk W3 _ hs3), ⟨hl4, hk4⟩, ⟨n1, n2⟩, hb3 _ hs3⟩, hke⟩⟩
      | exit id =>
        obtain ⟨hk3, hi3⟩ := hp
        obtain ⟨hr, hl4, hk4, hke, hs3⟩ := fin (some (.exit id)) W3 hk3
        exact ⟨_, _, hr, .inr ⟨rfl, ⟨.exit id, hIx _ _ _ W3 _ hi3 ((Tu.refl _ W3).put (fun _ => oL O) _) (hbk W3 _ hs3), ⟨hl4, hk4⟩, ⟨n1, n2⟩, hb3 _ hs3⟩, hke⟩⟩
      | goto t =>
        obtain ⟨hk3, hi3⟩ := hp
        obtain ⟨hr, hl4, hk4, hke, hs3⟩ := fin (some (.goto t)) W3 hk3
        exact ⟨_, _, hr, .inr ⟨rfl, ⟨.goto t, hIx _ _ _ W3 _ hi3 ((Tu.refl _ W3).put (fun _ => oL O) _) (hbk W3 _ hs3), ⟨hl4, hk4⟩, ⟨n1, n2⟩, hb3 _ hs3⟩, hke⟩⟩
      | panic ch => exact hp.elim
      | outgrown => exact hp.elim
    · have hO1 : ∀ k, O0 k → k < W1.heap.size := fun k e => by have := hO0 k e; omega
      refine ⟨h0 _ W1 hT1 (fun k e => ?_), ⟨hL1, hK1⟩, ⟨fun e => by have := hO0 _ e; omega, fun e => by have := hO0 _ e; omega⟩, hO1⟩
      rw [hOL] at e
      rcases e with e | e | e
      · exact ⟨.inl e, hO1 k e⟩
      · exact ⟨.inr (by omega), by omega⟩
      · exact ⟨.inr (by omega), by omega⟩
    · -- behind the iterator
      have back : ∀ {O : Nat → Prop} {A : World} (o : Obj), w.heap.size + 1 < A.heap.size → (∀ k, O k → k < A.heap.size) → ∀ k, OL O k → (OL O k ∨ A.heap.size ≤ k) ∧ k < (A.putObj (w.heap.size + 1) o).heap.size := by
        intro O A o hl hb k e
        refine ⟨.inl e, Nat.lt_of_lt_of_le ?_ (grownBy_putObj' A _ _).size⟩
        rw [hOL] at e
        rcases e with e | e | e
        · exact hb k e
        · omega
        · omega
      rintro e W2 ⟨⟨v, rfl⟩, (⟨xs, O, hSx, hi, ⟨hl, hk⟩, ⟨n1, n2⟩, hb⟩ | ⟨O, c, hi, ⟨hl, hk⟩, ⟨n1, n2⟩, hb⟩)⟩
      · refine ⟨none, _, by have := run_endLoop (P := P) hl (by rw [hrec]; simp); rw [hrec] at this; exact this, hdone _ O (OL O) xs _ (Nat.le_refl _) (hS xs O W2 _ hSx ⟨(grownBy_putObj' W2 _ _).size, fun k e => World.putObj_heap_other (fun (e2 : k = w.heap.size + 1) => e.elim (fun e => n2 (e2 ▸ e)) (fun e => by have := hZ k e; omega))⟩) (oD O) n1 (oO O) (hI _ _ _ W2 _ hi ((Tu.refl _ W2).put (fun _ => oL O) _) (back _ (hlt hl) hb)) ((World.putObj_heap_other (by omega)).trans hk)⟩
      · exact ⟨some c, _, by have := run_endLoop (P := P) hl (by rw [hrec]; simp); rw [hrec] at this; exact this, hstop _ (OL O) c _ (Nat.le_refl _) (oD O) (hIx c _ _ W2 _ hi ((Tu.refl _ W2).put (fun _ => oL O) _) (back _ (hlt hl) hb)) ((World.putObj_heap_other (by omega)).trans hk)⟩
end Go.Proofs.YtdiokclbdaojpaaDoor
namespace Go.Proofs.YtdiokclbdaojpaaDoor
open Go Go.RowKit Go.Shelf

namespace Nt
theorem own_blk {w w' : World} {base e size n : Nat} {v : Value} {xs : List Value} (h : w.ownsRow base e size v n xs) (hb : ∀ k, v.ownBlock = some k → w'.heap[k]? = w.heap[k]?) : w'.ownsRow base e size v n xs := by
  obtain ⟨hl, h | ⟨g, cap, cur, rfl, h1, h2, h3⟩⟩ := h
  · exact ⟨hl, .inl h⟩
  · exact ⟨hl, .inr ⟨g, cap, cur, rfl, h1, (hb g rfl).trans h2, h3⟩⟩
/-- The block in which a code lies. -/
def Zc (ca : Option Addr) (k : Nat) : Prop := ∃ off, ca = some ⟨k, off, none⟩
theorem zc_eq {b off k : Nat} (h : Zc (some ⟨b, off, none⟩) k) : k = b := by
  obtain ⟨_, e⟩ := h
  cases e
  rfl
theorem Cds.code {w : World} {B : Nat} {a : Option Addr} {cap : Nat} {L : List Ins} (h : Cds w B a cap L) (hL : 0 < L.length) : ∀ k, Zc a k → k < B := by
  intro k hk
  obtain ⟨b, off, rfl, h1, _⟩ := h.lies 0 hL
  rw [zc_eq hk]
  exact h1
/-- The blocks that are a run's own, and its iterator's. -/
def Ox (rb g B0 B1 B2 : Nat) (lv : Value) (k : Nat) : Prop := k = rb ∨ k = g ∨ k = B0 ∨ k = B1 ∨ k = B2 ∨ lv.ownBlock = some k
section
variable {W W' : World} {rb g B0 B1 B2 : Nat} {ca : Option Addr} {cc : Nat} {L : List Ins} {s : ByteArray} {i0 at' : Nat} {lv lv' : Value} {l l' m : List Nat}
theorem Sx.under (h : Sx W rb g B0 B1 B2 ca cc L s i0 at' lv l m) : ∀ k, Ox rb g B0 B1 B2 lv k → k < W.heap.size := by
  obtain ⟨f1, f2, f3, f4⟩ := h.far
  obtain ⟨g1, g2, g3⟩ := h.lie
  have := h.rn.lt
  rintro k (rfl | rfl | rfl | rfl | rfl | hk)
  · omega
  · omega
  · omega
  · omega
  · omega
  · exact (World.ownsRow.lt h.lf k hk).2
theorem Sx.kept (h : Sx W rb g B0 B1 B2 ca cc L s i0 at' lv l m) (hk : Ke (fun k => Ox rb g B0 B1 B2 lv k ∨ Zc ca k) W W') : Sx W' rb g B0 B1 B2 ca cc L s i0 at' lv l m := by
  obtain ⟨g1, g2, g3⟩ := h.lie
  have hs := hk.size
  have e0 := hk.block rb (.inl (.inl rfl))
  have e1 := hk.block g (.inl (.inr (.inl rfl)))
  have e2 := hk.block B0 (.inl (.inr (.inr (.inl rfl))))
  have e3 := hk.block B1 (.inl (.inr (.inr (.inr (.inl rfl)))))
  have e4 := hk.block B2 (.inl (.inr (.inr (.inr (.inr (.inl rfl))))))
  refine ⟨e0.trans h.rn, e1.trans h.mt, own_blk h.lf (fun k e => hk.block k (.inl (.inr (.inr (.inr (.inr (.inr e))))))), ⟨h.cd.len, h.cd.room, h.cd.most, h.cd.nil, fun i hi => ?_⟩, ?_, ?_, ?_, h.far, ⟨by omega, by omega, by omega⟩, h.off⟩
  · obtain ⟨b, off, e, h1, h2⟩ := h.cd.lies i hi
    exact ⟨b, off, e, h1, fun j hj => (World.cell?_of_block (a := ⟨b, off + i * 9 + j, none⟩) (hk.block b (.inr ⟨off, e⟩))).trans (h2 j hj)⟩
  · exact (World.cell?_of_block (a := ⟨B0, 0, none⟩) e2).trans h.b0
  · exact (World.cell?_of_block (a := ⟨B1, 0, none⟩) e3).trans h.b1
  · exact (World.cell?_of_block (a := ⟨B2, 0, none⟩) e4).trans h.b2
theorem tu_rz (hz : Rz rb lv lv' W W') : Tu (Ox rb g B0 B1 B2 lv) W W' :=
  ⟨hz.os, hz.tape, hz.output, hz.size, fun k hk hn => hz.block k hk (fun e => hn (.inl e)) (fun e => hn (.inr (.inr (.inr (.inr (.inr e.symm))))))⟩
theorem Sx.grow (h' : Sx W' rb g B0 B1 B2 ca cc L s i0 at' lv' l' m) (hz : ∀ k, lv'.ownBlock = some k → lv.ownBlock = some k ∨ W.heap.size ≤ k) : ∀ k, Ox rb g B0 B1 B2 lv' k → (Ox rb g B0 B1 B2 lv k ∨ W.heap.size ≤ k) ∧ k < W'.heap.size := by
  intro k hk
  refine ⟨?_, h'.under k hk⟩
  rcases hk with hk | hk | hk | hk | hk | hk
  · exact .inl (.inl hk)
  · exact .inl (.inr (.inl hk))
  · exact .inl (.inr (.inr (.inl hk)))
  · exact .inl (.inr (.inr (.inr (.inl hk))))
  · exact .inl (.inr (.inr (.inr (.inr (.inl hk)))))
  · exact (hz k hk).imp (fun e => .inr (.inr (.inr (.inr (.inr e))))) id
/-- What is left, as a row that is not empty. -/
theorem Lf.form {i : Nat} (h : Lf W rb lv (l ++ [i])) : ∃ gl cl, lv = .slice (some ⟨gl, 0, none⟩) (l.length + 1) cl ∧ W.cell? ⟨gl, l.length, none⟩ = some (.int .i64 (i : Int)) ∧ l.length + 1 ≤ cl ∧ cl ≤ maxLen := by
  obtain ⟨hl, h | ⟨gl, cap, cur, hv, h1, h2, h3, h4, h5, h6⟩⟩ := h
  · simp at h
  · refine ⟨gl, cap, by simpa using hv, ?_, by simpa using h3, h4⟩
    rw [cell_of_row W gl l.length cur _ _ h2]
    have e : cur[l.length]? = (cur.toList.take ((l ++ [i]).length * 1))[l.length]? := by
      rw [List.getElem?_take_of_lt (by simp), Array.getElem?_toList]
    rw [e, h6]
    simp [icellsN]
/-- One is taken off what is left. -/
theorem Sx.pop {i gl cl : Nat} (h : Sx W rb g B0 B1 B2 ca cc L s i0 at' (.slice (some ⟨gl, 0, none⟩) (l.length + 1) cl) (l ++ [i]) m) :
    Sx (W.setCell ⟨rb, 3, none⟩ (.slice (some ⟨gl, 0, none⟩) l.length cl)) rb g B0 B1 B2 ca cc L s i0 at' (.slice (some ⟨gl, 0, none⟩) l.length cl) l m := by
  have y := (Below.refl 0 W).setCell (p := ⟨rb, 3, none⟩) (Nat.zero_le _) (.slice (some ⟨gl, 0, none⟩) l.length cl)
  have ho : W.ownsRow (rb + 1) 3 1 (.slice (some ⟨gl, 0, none⟩) l.length cl) l.length (icellsN l) := by
    have e1 : (l ++ [i]).length = l.length + 1 := by simp
    have h1 := h.lf
    unfold Lf at h1
    rw [e1] at h1
    have h2 := own_pre h1 l.length (by omega)
    have e2 : (icellsN (l ++ [i])).take (l.length * 1) = icellsN l := by simp [icellsN]
    rw [e2] at h2
    exact h2
  exact h.turn (heap_setCell_same W rb 3 _ _ _ h.rn) (ownsRow_setCell_below ho (Nat.lt_succ_self rb) _) ⟨y.os, y.tape, y.output, y.size, fun k _ h1 _ => heap_setCell_other W ⟨rb, 3, none⟩ k _ h1, fun g' hg' => .inl hg'⟩
/-- One is marked. -/
theorem Sx.mark {i t : Nat} (h : Sx W rb g B0 B1 B2 ca cc L s i0 at' lv l m) : Sx (W.setCell ⟨g, i, none⟩ (.int .i64 (t : Int))) rb g B0 B1 B2 ca cc L s i0 at' lv l (m.set i t) := by
  obtain ⟨f1, f2, f3, f4⟩ := h.far
  obtain ⟨g1, g2, g3⟩ := h.lie
  have y := (Below.refl 0 W).setCell (p := ⟨g, i, none⟩) (Nat.zero_le _) (.int .i64 (t : Int))
  have hs := y.size
  have oth : ∀ k, k ≠ g → (W.setCell ⟨g, i, none⟩ (.int .i64 (t : Int))).heap[k]? = W.heap[k]? := fun k hk => heap_setCell_other W ⟨g, i, none⟩ k _ hk
  have cel : ∀ b o, b ≠ g → (W.setCell ⟨g, i, none⟩ (.int .i64 (t : Int))).cell? ⟨b, o, none⟩ = W.cell? ⟨b, o, none⟩ := fun b o hb => World.cell?_of_block (a := ⟨b, o, none⟩) (oth b hb)
  refine ⟨(oth rb (by omega)).trans h.rn, ?_, own_blk h.lf (fun k e => oth k (by have := (World.ownsRow.lt h.lf k e).1; omega)), ⟨h.cd.len, h.cd.room, h.cd.most, h.cd.nil, fun j hj => ?_⟩, (cel B0 0 (by omega)).trans h.b0, (cel B1 0 (by omega)).trans h.b1, (cel B2 0 (by omega)).trans h.b2, h.far, ⟨by omega, by omega, by omega⟩, h.off⟩
  · have := heap_setCell_same W g i _ _ (.int .i64 (t : Int)) h.mt
    unfold Mt
    rw [this]
    have e : (icellsN m).toArray.setIfInBounds i (.int .i64 (t : Int)) = (icellsN (m.set i t)).toArray := by
      simp [icellsN, List.map_set]
    simp only [e]
  · obtain ⟨b, off, e, h1, h2⟩ := h.cd.lies j hj
    exact ⟨b, off, e, h1, fun q hq => (cel b _ (by omega)).trans (h2 q hq)⟩
theorem Sx.drew (h : Sx W rb g B0 B1 B2 ca cc L s i0 at' lv l m) : Sx W.drew rb g B0 B1 B2 ca cc L s i0 at' lv l m :=
  ⟨h.rn, h.mt, h.lf, ⟨h.cd.len, h.cd.room, h.cd.most, h.cd.nil, h.cd.lies⟩, h.b0, h.b1, h.b2, h.far, h.lie, h.off⟩
theorem Sx.marked (h : Sx W rb g B0 B1 B2 ca cc L s i0 at' lv l m) {i : Nat} (hi : i < m.length) : W.cell? ⟨g, i, none⟩ = some (.int .i64 ((m[i] : Nat) : Int)) := by
  rw [cell_of_row W g i _ _ _ h.mt]
  simp [icellsN, hi]
/-- What is left to be done, told by the world. -/
def muW (rb g t : Nat) (w : World) : Nat :=
  (match w.cell? ⟨rb, 3, none⟩ with | some (.slice _ n _) => n | _ => 0) + 2 * (match w.heap[g]? with | some (.cells c _ _) => (c.toList.filter (fun v => match v with | .int _ x => x != (t : Int) | _ => false)).length | _ => 0)
theorem Sx.mu (h : Sx W rb g B0 B1 B2 ca cc L s i0 at' lv l m) (t : Nat) : muW rb g t W = mu l m t := by
  unfold muW Nt.mu
  rw [h.rn.cells.2.2.2, show W.heap[g]? = _ from h.mt]
  have e1 : (match some lv with | some (.slice _ n _) => n | _ => 0) = l.length := by
    obtain ⟨_, ⟨rfl, h0⟩ | ⟨_, _, _, rfl, _⟩⟩ := h.lf
    · exact h0.symm
    · rfl
  rw [e1]
  have e2 : ((icellsN m).toArray.toList.filter (fun v => match v with | .int _ x => x != (t : Int) | _ => false)).length = opn m t := by
    simp only [icellsN, List.filter_map, List.length_map, opn]
    congr 1
    refine List.filter_congr fun x _ => ?_
    show ((x : Int) != (t : Int)) = (x != t)
    rw [Bool.eq_iff_iff]; simp; omega
  simp only [e2]
end
end Nt
end Go.Proofs.YtdiokclbdaojpaaDoor
