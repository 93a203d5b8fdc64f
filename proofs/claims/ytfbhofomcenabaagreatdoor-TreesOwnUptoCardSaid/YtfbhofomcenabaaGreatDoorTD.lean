/- What trees.walk yields: each file of a tree, in order; and the first that is not right. A range over a function whose iterator has memory of its own, and writes it between two rounds: the law. What is yielded may be told by the world (U). What trees.walk leans on: its items in memory, and an append that tells whether it stayed. -/
import Derived.Test.YtfbhofomcenabaaGreatDoorTC
import Derived.RangeFuncFrom
import Derived.RangeFuncBound
import Derived.RangeFuncLeaves
import Derived.Test.YtfbhofomcenabaaGreatDoorChecked
import Derived.Deep.DeepAppendWide
import Derived.Laws.OwnMore
import Derived.Tactics
namespace Go.Proofs.YtfbhofomcenabaaGreatDoor
open Go.RowKit

namespace Ft
/-- A file that is yielded: its path, the name ahead of it, and the file. -/
abbrev It := List ByteArray × Option ByteArray × FT
/-- What a walk yields, the file itself first. -/
def wkT (b : Option ByteArray) (p : List ByteArray) (T : FT) : List It := match T with
  | .mk nm k d l => (p, b, .mk nm k d l) :: wkL none p l
where
  wkL (b : Option ByteArray) (p : List ByteArray) : List FT → List It
  | [] => []
  | x :: r => wkT b (p ++ [x.nm]) x ++ wkL (some x.nm) p r
theorem wk_eq (b : Option ByteArray) (p : List ByteArray) (T : FT) : wkT b p T = (p, b, T) :: wkT.wkL none p T.kids := by cases T; rw [wkT]; rfl
theorem ahead_next {l : List FT} {i : Nat} (h : i < l.length) : ahead l (i + 1) = some (l[i]).nm := by simp [ahead, h]
/-- The rest of a folder, from its i-th file on. -/
theorem wk_drop {l : List FT} {i : Nat} (h : i < l.length) (p : List ByteArray) : wkT.wkL (ahead l i) p (l.drop i) = wkT (ahead l i) (p ++ [(l[i]).nm]) (l[i]) ++ wkT.wkL (ahead l (i + 1)) p (l.drop (i + 1)) := by
  rw [List.drop_eq_getElem_cons h, wkT.wkL, ahead_next h]
/-- Is a file that is yielded right where it stands? -/
def itB (x : It) : Bool := trB x.2.1 x.2.2 x.1.length
/-- The path of the first that is not. -/
def fstW (l : List It) : Option (List ByteArray) := match l with
  | [] => none
  | x :: r => if itB x then fstW r else some x.1
theorem fst_app (l r : List It) : fstW (l ++ r) = match fstW l with | some q => some q | none => fstW r := by
  induction l with
  | nil => rfl
  | cons x l ih =>
    simp only [List.cons_append, fstW]
    cases itB x
    · rfl
    · exact ih
theorem fst_none {l : List It} (h : ∀ x ∈ l, itB x = true) : fstW l = none := by
  induction l with
  | nil => rfl
  | cons x l ih =>
    rw [fstW, h x (List.mem_cons_self ..)]
    exact ih fun y hy => h y (List.mem_cons_of_mem _ hy)
/-- What follows the ones that are right, up to one that is not. -/
theorem fst_at {l : List It} {x : It} (h : ∀ y ∈ l, itB y = true) (hx : itB x = false) (r : List It) : fstW (l ++ x :: r) = some x.1 := by
  rw [fst_app, fst_none h]
  show fstW (x :: r) = _
  rw [fstW, hx]; rfl
theorem it_kid (b : Option ByteArray) (p : List ByteArray) (x : FT) : itB (p ++ [x.nm], b, x) = !badB b x p.length := by
  unfold itB trB
  simp
theorem fst_bel (T : FT) : ∀ p : List ByteArray, fstW (wkT.wkL none p T.kids) = belT T p := by
  induction T using FT.ind with
  | h T ih =>
  intro p
  rw [belT_eq]
  have key : ∀ (l : List FT), (∀ i (hi : i < l.length) p, fstW (wkT.wkL none p (l[i]).kids) = belT (l[i]) p) → ∀ b, fstW (wkT.wkL b p l) = belT.belL b l p := by
    intro l
    induction l with
    | nil => intro _ b; rw [wkT.wkL, belT.belL]; rfl
    | cons x r ihr =>
      intro h b
      have h0 := h 0 (by simp) (p ++ [x.nm])
      simp only [List.getElem_cons_zero] at h0
      rw [wkT.wkL, belT.belL, fst_app, wk_eq, fstW, it_kid, h0, ihr (fun i hi => h (i + 1) (by simpa using hi))]
      cases badB b x p.length
      · rfl
      · rfl
  exact key T.kids (fun i hi p => ih i hi p) none
/-- The first file of a whole tree that is not right. -/
theorem fst_tree (T : FT) : fstW (wkT none [] T) = if rightT T then none else some (wrongAt T) := by
  rw [wk_eq, fstW, fst_bel]
  have e : itB ([], none, T) = rootB T := rfl
  rw [e]
  unfold rightT wrongAt
  cases rootB T
  · rfl
  · cases belT T [] <;> rfl
end Ft
end Go.Proofs.YtfbhofomcenabaaGreatDoor
namespace Go.Proofs.YtfbhofomcenabaaGreatDoor
open Go Go.RowKit

/-- No block of the first world has turned but those of O. -/
structure Tu (O : Nat → Prop) (A B : World) : Prop where
  os : B.os = A.os
  tape : B.tape = A.tape
  output : B.output = A.output
  size : A.heap.size ≤ B.heap.size
  block : ∀ k, k < A.heap.size → ¬ O k → B.heap[k]? = A.heap[k]?
theorem Tu.refl (O : Nat → Prop) (A : World) : Tu O A A := ⟨rfl, rfl, rfl, Nat.le_refl _, fun _ _ _ => rfl⟩
theorem Tu.mono {O O' : Nat → Prop} {A B : World} (h : Tu O A B) (hO : ∀ k, k < A.heap.size → O k → O' k) : Tu O' A B :=
  ⟨h.os, h.tape, h.output, h.size, fun k hk hn => h.block k hk (fun e => hn (hO k hk e))⟩
theorem Tu.trans {O O' : Nat → Prop} {A B C : World} (h : Tu O A B) (h' : Tu O' B C) (hO : ∀ k, k < A.heap.size → O' k → O k) : Tu O A C :=
  ⟨h'.os.trans h.os, h'.tape.trans h.tape, h'.output.trans h.output, Nat.le_trans h.size h'.size, fun k hk hn => (h'.block k (by have := h.size; omega) (fun e => hn (hO k hk e))).trans (h.block k hk hn)⟩
theorem Tu.alloc {O : Nat → Prop} {A B : World} (h : Tu O A B) (o : Obj) : Tu O A (B.alloc o) := by
  have y := (Below.refl B.heap.size B).alloc (Nat.le_refl _) o
  exact h.trans (O' := fun _ => False) ⟨y.os, y.tape, y.output, y.size, fun k hk _ => y.block k hk⟩ (fun _ _ e => e.elim)
theorem Tu.put {O : Nat → Prop} {A B : World} (h : Tu O A B) {l : Nat} (hl : l < A.heap.size → O l) (o : Obj) : Tu O A (B.putObj l o) := by
  have y := grownBy_putObj' B l o
  exact h.trans (O' := fun k => k = l) ⟨y.os, y.tape, y.output, y.size, fun k hk hn => y.block k hk (fun e => hn (by cases e; rfl))⟩ (fun k hk e => by subst e; exact hl hk)
theorem Tu.of_below {O : Nat → Prop} {A B : World} {n : Nat} (h : Below n A B) (hO : ∀ k, n ≤ k → k < A.heap.size → O k) : Tu O A B :=
  ⟨h.os, h.tape, h.output, h.size, fun k hk hn => h.block k (Nat.lt_of_not_le (fun e => hn (hO k e hk)))⟩
theorem Tu.below {O : Nat → Prop} {A B : World} {n : Nat} (h : Tu O A B) (hn : n ≤ A.heap.size) (hO : ∀ k, O k → n ≤ k) : Below n A B :=
  ⟨h.os, h.tape, h.output, h.size, fun k hk => h.block k (by omega) (fun e => by have := hO k e; omega)⟩
theorem Tu.drew {O : Nat → Prop} {A B : World} (h : Tu O A B) : Tu O A B.drew := ⟨h.os, h.tape, h.output, h.size, h.block⟩
theorem Tu.setCell {O : Nat → Prop} {A B : World} (h : Tu O A B) {p : Addr} (hp : p.block < A.heap.size → O p.block) (v : Value) : Tu O A (B.setCell p v) := by
  have y := (Below.refl 0 B).setCell (p := p) (Nat.zero_le _) v
  exact h.trans (O' := fun k => k = p.block) ⟨y.os, y.tape, y.output, y.size, fun k _ hn => heap_setCell_other B p k v hn⟩ (fun k hk e => by subst e; exact hp hk)
/-- The blocks of O lie as they lay. -/
structure Ke (O : Nat → Prop) (A B : World) : Prop where
  size : A.heap.size ≤ B.heap.size
  block : ∀ k, O k → B.heap[k]? = A.heap[k]?
theorem Ke.refl (O : Nat → Prop) (A : World) : Ke O A A := ⟨Nat.le_refl _, fun _ _ => rfl⟩
theorem Ke.mono {O O' : Nat → Prop} {A B : World} (h : Ke O A B) (hO : ∀ k, O' k → O k) : Ke O' A B := ⟨h.size, fun k hk => h.block k (hO k hk)⟩
theorem Ke.trans {O : Nat → Prop} {A B C : World} (h : Ke O A B) (h' : Ke O B C) : Ke O A C := ⟨Nat.le_trans h.size h'.size, fun k hk => (h'.block k hk).trans (h.block k hk)⟩
theorem Ke.of_tu {O O' : Nat → Prop} {A B : World} (h : Tu O' A B) (hO : ∀ k, O k → k < A.heap.size ∧ ¬ O' k) : Ke O A B := ⟨h.size, fun k hk => h.block k (hO k hk).1 (hO k hk).2⟩
/-- What a caller says of the world abides whatever its iterator does to the memory that is its own. -/
def Abi {α : Type} (J : (Nat → Prop) → List α → World → Prop) : Prop :=
  ∀ O O' pre A B, J O pre A → Tu O A B → (∀ k, O' k → (O k ∨ A.heap.size ≤ k) ∧ k < B.heap.size) → J O' pre B
def AbiX (J : (Nat → Prop) → World → Prop) : Prop :=
  ∀ O O' A B, J O A → Tu O A B → (∀ k, O' k → (O k ∨ A.heap.size ≤ k) ∧ k < B.heap.size) → J O' B
/-- What an iterator does that has the memory O0 of its own, and may read Z beside it. -/
def SeqW {α : Type} (F : Fence) (n : Nat) (P : Program) (g : Nat) (lb : Array Value) (encs : α → Array Value) (V : α → Prop) (U : α → (Nat → Prop) → World → Prop) (Z O0 : Nat → Prop) (N : Nat) (Pf : List α → Prop) (G : α → Prop) (S : List α → (Nat → Prop) → World → Prop) (w : World) : Prop :=
  ∀ (l : Nat) (J : (Nat → Prop) → List α → World → Prop) (Jx : (Nat → Prop) → World → Prop) (W : World), Tu (fun _ => False) w W → Abi J → AbiX Jx →
    (∀ O pre x W1, J O pre W1 → U x O W1 → V x → pre.length < N → Pf (pre ++ [x]) → YieldAt F (n - 1) P l (encs x) W1 fun e W' =>
      (e = .returned (.bool true) ∧ J O (pre ++ [x]) W' ∧ Ke (fun k => O k ∨ Z k) W1 W' ∧ G x) ∨ (e = .returned (.bool false) ∧ Jx O W' ∧ Ke (fun k => O k ∨ Z k) W1 W')) →
    J O0 [] W →
    CallsIn F n P g (#[.func (.yield l) #[] #[]] ++ lb) W fun e W' => (∃ v, e = .returned v) ∧ ((∃ xs O, S xs O W' ∧ J O xs W') ∨ ∃ O, Jx O W')
/-- How the body of a round may be left. -/
def postW {α : Type} (Z : Nat → Prop) (g : Prop) (I : (Nat → Prop) → List α → World → Prop) (Ix : Code → (Nat → Prop) → World → Prop) (O : Nat → Prop) (xs : List α) (W : World) : Exit → Act → World → Prop
  | .normal, _, W' => Ke (fun k => O k ∨ Z k) W W' ∧ I O xs W' ∧ g
  | .ret, _, W' => Ke (fun k => O k ∨ Z k) W W' ∧ Ix .ret O W'
  | .exit id, _, W' => Ke (fun k => O k ∨ Z k) W W' ∧ Ix (.exit id) O W'
  | .goto t, _, W' => Ke (fun k => O k ∨ Z k) W W' ∧ Ix (.goto t) O W'
  | .panic _, _, _ => False
  | .outgrown, _, _ => False

variable {F : Fence} {n : Nat} {P : Program}

set_option maxHeartbeats 1000000 in
theorem wpIn_rangeW {α : Type} {g : Operand} {ps : Array Tmp} {assign body : Code} {Q : Exit → Act → World → Prop} {a : Act} {w : World}
    (hro : F.round = none) (h1 : 1 ≤ n) {gf : Nat} {lb : Array Value} (hg : a.eval g = .func (.func gf) #[] lb) (hFg : F.fn gf) (eg : ∀ args w, (callFunc gf args).run P w = .ok (.enter gf args) w)
    {encs : α → Array Value} {V : α → Prop} {U : α → (Nat → Prop) → World → Prop} {Z O0 : Nat → Prop} {N : Nat} {Pf : List α → Prop} {G : α → Prop} {S : List α → (Nat → Prop) → World → Prop} (hseq : SeqW F (n - 1) P gf lb encs V U Z O0 N Pf G S w)
    (hO0 : ∀ k, O0 k → k < w.heap.size) (hZ : ∀ k, Z k → k < w.heap.size) (hS : ∀ xs O A B, S xs O A → Ke (fun k => O k ∨ Z k) A B → S xs O B) (hU : ∀ x O A B, U x O A → Ke (fun k => O k ∨ Z k) A B → U x O B) (hps : ∀ x, (encs x).size = ps.size)
    (I : (Nat → Prop) → List α → World → Prop) (Ix : Code → (Nat → Prop) → World → Prop) (hI : Abi I) (hIx : ∀ c, AbiX (Ix c)) (h0 : ∀ O W, Tu (fun _ => False) w W → (∀ k, O k → (O0 k ∨ w.heap.size ≤ k) ∧ k < W.heap.size) → I O [] W) (M : Nat → α → World → Prop) (hM : ∀ g x A B, M g x A → B.heap[g]? = A.heap[g]? → M g x B) (a₁ : α → Nat → Act)
    (hassign : ∀ (l : Nat) (x : α) (W : World) (K : Act → World → Prop), (∀ Wa, Tu (fun _ => False) W Wa → M W.heap.size x Wa → K (a₁ x W.heap.size) Wa) →
      assign.wpIn (F.inRound l) (n - 1 - 1) P (Exit.then K (fun _ _ _ => False)) { tmps := (ps.zip (encs x)).foldl (fun t (p, v) => t.setIfInBounds p v) a.tmps, defers := [] } W)
    (hbody : ∀ (l : Nat) (O : Nat → Prop) (pre : List α) (x : α) (g : Nat) (W : World), M g x W → I O pre W → (∃ O1, U x O1 W ∧ ∀ k, O1 k → O k) → V x → pre.length < N → Pf (pre ++ [x]) → body.wpIn (F.inRound l) (n - 1 - 1) P (postW Z (G x) I Ix O (pre ++ [x]) W) (a₁ x g) W)
    (hdone : ∀ (D : Nat) (O O' : Nat → Prop) (xs : List α) (W : World), w.heap.size ≤ D → S xs O W → O' D → ¬ O D → (∀ k, O k → O' k) → I O' xs W → W.heap[D]? = some (.deferred (some [])) → Q .normal { a with defers := { target := .collected D, args := #[] } :: a.defers } W)
    (hstop : ∀ (D : Nat) (O' : Nat → Prop) (c : Code) (W : World), w.heap.size ≤ D → O' D → Ix c O' W → W.heap[D]? = some (.deferred (some [])) → c.wpIn F n P Q { a with defers := { target := .collected D, args := #[] } :: a.defers } W) :
    (Code.rangeFunc g ps assign body).wpIn F n P Q a w := by
  refine wpIn_rangeFunc ?_
  intro fn hfn
  rw [hro]
  obtain ⟨rec, hrec⟩ : ∃ rec : LoopState → Option Code → Loop, rec = fun st pe => { state := st, pending := pe, fn, tmps := a.tmps, params := ps, assign, body, defers := w.heap.size } := ⟨_, rfl⟩
  obtain ⟨W1, hW1⟩ : ∃ W1, (w.alloc (.deferred (some []))).alloc (.loop (rec .ready none)) = W1 := ⟨_, rfl⟩
  have hL1 : W1.heap[w.heap.size + 1]? = some (.loop (rec .ready none)) := by
    rw [← hW1]; have := World.alloc_heap_new (w.alloc (.deferred (some []))) (.loop (rec .ready none)); rwa [World.size_alloc] at this
  have hK1 : W1.heap[w.heap.size]? = some (.deferred (some [])) := by
    rw [← hW1]; exact (Below.heap_alloc _ _ _ (by simp)).trans (World.alloc_heap_new w _)
  have hT1 : Tu (fun _ => False) w W1 := by rw [← hW1]; exact ((Tu.refl _ w).alloc _).alloc _
  have hs1 : W1.heap.size = w.heap.size + 2 := by rw [← hW1]; simp
  refine ⟨w.heap.size + 1, [{ target := .collected w.heap.size, args := #[] }], W1, { target := .fn (.func gf) lb, args := #[.func (.yield (w.heap.size + 1)) #[] #[]] }, W1, gf,
    #[.func (.yield (w.heap.size + 1)) #[] #[]] ++ lb, W1, ?_, ?_, ?_, ?_, fun _ => h1, ?_⟩
  · rw [← hW1, hrec]; exact run_enterLoop_outer _ _ _ _ _
  · simp only [resolve, hg]
    simp [go_sem]
  · intro f' hf'; simp [Target.leads] at hf'; subst hf'; exact hFg
  · simp [invoke, go_sem, eg]
  · obtain ⟨OL, hOL⟩ : ∃ OL : (Nat → Prop) → Nat → Prop, OL = fun O k => O k ∨ k = w.heap.size ∨ k = w.heap.size + 1 := ⟨_, rfl⟩
    have oD : ∀ O, OL O w.heap.size := fun O => by rw [hOL]; exact .inr (.inl rfl)
    have oL : ∀ O, OL O (w.heap.size + 1) := fun O => by rw [hOL]; exact .inr (.inr rfl)
    have oO : ∀ O k, O k → OL O k := fun O k h => by rw [hOL]; exact .inl h
    have hlt : ∀ {W : World} {o : Obj} {k : Nat}, W.heap[k]? = some o → k < W.heap.size := fun h => (Array.getElem?_eq_some_iff.1 h).1
    have stay : ∀ {O O' : Nat → Prop} {A B : World}, A.heap[w.heap.size + 1]? ≠ none → ¬ O w.heap.size → ¬ O (w.heap.size + 1) → (∀ k, O' k → (O k ∨ A.heap.size ≤ k) ∧ k < B.heap.size) → ¬ O' w.heap.size ∧ ¬ O' (w.heap.size + 1) := by
      intro O O' A B hn n1 n2 h
      have hl : w.heap.size + 1 < A.heap.size := by
        rcases Nat.lt_or_ge (w.heap.size + 1) A.heap.size with h | h
        · exact h
        · exact (hn (Array.getElem?_eq_none h)).elim
      exact ⟨fun e => (h _ e).1.elim n1 (fun _ => by omega), fun e => (h _ e).1.elim n2 (fun _ => by omega)⟩
    have grow : ∀ {O O' : Nat → Prop} {A B : World}, Tu O A B → w.heap.size + 1 < A.heap.size → (∀ k, O' k → (O k ∨ A.heap.size ≤ k) ∧ k < B.heap.size) → (∀ k, OL O' k → (OL O k ∨ A.heap.size ≤ k) ∧ k < B.heap.size) := by
      intro O O' A B hT hl h k hk
      have := hT.size
      rw [hOL] at hk
      rcases hk with hk | hk | hk
      · exact ⟨(h k hk).1.imp (oO O k) id, (h k hk).2⟩
      · subst hk; exact ⟨.inl (oD O), by omega⟩
      · subst hk; exact ⟨.inl (oL O), by omega⟩
    refine (hseq (w.heap.size + 1)
      (fun O pre W => I (OL O) pre W ∧ (W.heap[w.heap.size + 1]? = some (.loop (rec .ready none)) ∧ W.heap[w.heap.size]? = some (.deferred (some []))) ∧ (¬ O w.heap.size ∧ ¬ O (w.heap.size + 1)) ∧ ∀ k, O k → k < W.heap.size)
      (fun O W => ∃ c, Ix c (OL O) W ∧ (W.heap[w.heap.size + 1]? = some (.loop (rec .done (some c))) ∧ W.heap[w.heap.size]? = some (.deferred (some []))) ∧ (¬ O w.heap.size ∧ ¬ O (w.heap.size + 1)) ∧ ∀ k, O k → k < W.heap.size)
      W1 hT1 ?_ ?_ ?_ ?_).mono ?_
    · rintro O O' pre A B ⟨hi, ⟨hl, hk⟩, ⟨n1, n2⟩, hb⟩ hT hO
      refine ⟨hI _ _ pre A B hi (hT.mono (fun k _ => oO O k)) (grow hT (hlt hl) hO), ⟨(hT.block _ (hlt hl) n2).trans hl, (hT.block _ (hlt hk) n1).trans hk⟩, stay (by rw [hl]; simp) n1 n2 hO, fun k e => (hO k e).2⟩
    · rintro O O' A B ⟨c, hi, ⟨hl, hk⟩, ⟨n1, n2⟩, hb⟩ hT hO
      refine ⟨c, hIx c _ _ A B hi (hT.mono (fun k _ => oO O k)) (grow hT (hlt hl) hO), ⟨(hT.block _ (hlt hl) n2).trans hl, (hT.block _ (hlt hk) n1).trans hk⟩, stay (by rw [hl]; simp) n1 n2 hO, fun k e => (hO k e).2⟩
    · -- one round
      rintro O pre x W ⟨hi, ⟨hl, hk⟩, ⟨n1, n2⟩, hb⟩ hUW hV hlen hPf
      have hll := hlt hl
      have hy := run_yield (P := P) (args := encs x) hl (by rw [hrec]; exact hps x)
      rw [hrec] at hy
      refine ⟨fn, _, assign, body, hy, roundIn_of_wpIn hfn (hassign _ x W _ fun Wa hTa hMa => ⟨_, run_beginRound ((hTa.block _ hll id).trans hl) (by rw [hrec]), ?_⟩)⟩
      have hOb : ∀ (A : World), W.heap.size ≤ A.heap.size → ∀ k, OL O k → k < A.heap.size := by
        intro A hA k e
        rw [hOL] at e
        rcases e with e | e | e
        · have := hb k e; omega
        · omega
        · omega
      have hbk : ∀ (A : World) (o : Obj), W.heap.size ≤ A.heap.size → ∀ k, OL O k → (OL O k ∨ A.heap.size ≤ k) ∧ k < (A.putObj (w.heap.size + 1) o).heap.size :=
        fun A o hA k e => ⟨.inl e, Nat.lt_of_lt_of_le (hOb A hA k e) (grownBy_putObj' A (w.heap.size + 1) o).size⟩
      have hsa := hTa.size
      have hla : w.heap.size + 1 < Wa.heap.size := by omega
      have hia : I (OL O) pre Wa := hI _ _ pre W Wa hi (hTa.mono (fun k _ e => e.elim)) (fun k e => ⟨.inl e, by have := hOb W (Nat.le_refl _) k e; omega⟩)
      obtain ⟨W2, hW2⟩ : ∃ W2, W2 = Wa.putObj (w.heap.size + 1) (.loop { rec .ready none with state := .busy }) := ⟨_, rfl⟩
      have hl2 : W2.heap[w.heap.size + 1]? = some (.loop { rec .ready none with state := .busy }) := by rw [hW2]; exact World.putObj_heap_same hla
      have hk2 : W2.heap[w.heap.size]? = some (.deferred (some [])) := by rw [hW2]; exact (World.putObj_heap_other (by omega)).trans ((hTa.block _ (hlt hk) id).trans hk)
      have hs2 : W.heap.size ≤ W2.heap.size := by rw [hW2]; exact Nat.le_trans hsa (grownBy_putObj' Wa _ _).size
      have hi2 : I (OL O) pre W2 := by rw [hW2]; exact hI _ _ pre Wa _ hia ((Tu.refl _ Wa).put (fun _ => oL O) _) (hbk Wa _ hsa)
      have hKe2 : Ke (fun k => O k ∨ Z k) W W2 := ⟨hs2, fun k e => by rw [hW2]; exact (World.putObj_heap_other (fun (e2 : k = w.heap.size + 1) => e.elim (fun e => n2 (e2 ▸ e)) (fun e => by have := hZ k e; omega))).trans (hTa.block k (e.elim (fun e => hb k e) (fun e => by have := hZ k e; omega)) id)⟩
      rw [← hW2]
      refine wpIn_mono (hbody _ (OL O) pre x W.heap.size W2 (by rw [hW2]; exact hM _ x Wa _ hMa (World.putObj_heap_other (by omega))) hi2 ⟨O, hU x O W W2 hUW hKe2, oO O⟩ hV hlen hPf) ?_
      have fin : ∀ (jump : Option Code) (W3 : World), Ke (fun k => OL O k ∨ Z k) W2 W3 →
          (Instr.endRound (w.heap.size + 1) jump).run P W3 = .ok (.bool jump.isNone) (W3.putObj (w.heap.size + 1) (.loop (rec (if jump.isNone then .ready else .done) jump))) ∧
          (W3.putObj (w.heap.size + 1) (.loop (rec (if jump.isNone then .ready else .done) jump))).heap[w.heap.size + 1]? = some (.loop (rec (if jump.isNone then .ready else .done) jump)) ∧
          (W3.putObj (w.heap.size + 1) (.loop (rec (if jump.isNone then .ready else .done) jump))).heap[w.heap.size]? = some (.deferred (some [])) ∧
          Ke (fun k => O k ∨ Z k) W (W3.putObj (w.heap.size + 1) (.loop (rec (if jump.isNone then .ready else .done) jump))) ∧ W.heap.size ≤ W3.heap.size := fun jump W3 hk3 => by
        have hl3 := (hk3.block _ (.inl (oL O))).trans hl2
        have := run_endRound (P := P) jump hl3
        refine ⟨by rw [hrec] at this ⊢; exact this, World.putObj_heap_same (hlt hl3), (World.putObj_heap_other (by omega)).trans ((hk3.block _ (.inl (oD O))).trans hk2), ?_, Nat.le_trans hs2 hk3.size⟩
        refine (hKe2.trans (hk3.mono (fun k e => e.imp (oO O k) id))).trans ⟨(grownBy_putObj' W3 _ _).size, fun k e => World.putObj_heap_other (fun e2 => e.elim (fun e => n2 (e2 ▸ e)) (fun e => by have := hZ k e; omega))⟩
      rintro e a3 W3 hp
      have hb3 : ∀ (o : Obj), W.heap.size ≤ W3.heap.size → ∀ k, O k → k < (W3.putObj (w.heap.size + 1) o).heap.size := fun o hs k e => Nat.lt_of_lt_of_le (hb k e) (Nat.le_trans hs (grownBy_putObj' W3 _ _).size)
      cases e with
      | normal =>
        obtain ⟨hk3, hi3, hg3⟩ := hp
        obtain ⟨hr, hl4, hk4, hke, hs3⟩ := fin none W3 hk3
        exact ⟨_, _, hr, .inl ⟨rfl, ⟨hI _ _ _ W3 _ hi3 ((Tu.refl _ W3).put (fun _ => oL O) _) (hbk W3 _ hs3), ⟨hl4, hk4⟩, ⟨n1, n2⟩, hb3 _ hs3⟩, hke, hg3⟩⟩
      | ret =>
        obtain ⟨hk3, hi3⟩ := hp
        obtain ⟨hr, hl4, hk4, hke, hs3⟩ := fin (some .ret) W3 hk3
        exact ⟨_, _, hr, .inr ⟨rfl, ⟨.ret, hIx _ _ _ W3 _ hi3 ((Tu.refl _ W3).put (fun _ => oL O) _) (hbk W3 _ hs3), ⟨hl4, hk4⟩, ⟨n1, n2⟩, hb3 _ hs3⟩, hke⟩⟩
      | exit id =>
        obtain ⟨hk3, hi3⟩ := hp
        obtain ⟨hr, hl4, hk4, hke, hs3⟩ := fin (some (.exit id)) W3 hk3
        exact ⟨_, _, hr, .inr ⟨rfl, ⟨.exit id, hIx _ _ _ W3 _ hi3 ((Tu.refl _ W3).put (fun _ => oL O) _) (hbk W3 _ hs3), ⟨hl4, hk4⟩, ⟨n1, n2⟩, hb3 _ hs3⟩, hke⟩⟩
      | goto t =>
        obtain ⟨hk3, hi3⟩ := hp
        obtain ⟨hr, hl4, hk4, hke, hs3⟩ := fin (some (.goto t)) W3 hk3
        exact ⟨_, _, hr, .inr ⟨rfl, ⟨.goto t, hIx _ _ _ W3 _ hi3 ((Tu.refl _ W3).put (fun _ => oL O) _) (hbk W3 _ hs3), ⟨hl4, hk4⟩, ⟨n1, n2⟩, hb3 _ hs3⟩, hke⟩⟩
      | panic ch => exact hp.elim
      | outgrown => exact hp.elim
    · have hO1 : ∀ k, O0 k → k < W1.heap.size := fun k e => by have := hO0 k e; omega
      refine ⟨h0 _ W1 hT1 (fun k e => ?_), ⟨hL1, hK1⟩, ⟨fun e => by have := hO0 _ e; omega, fun e => by have := hO0 _ e; omega⟩, hO1⟩
      rw [hOL] at e
      rcases e with e | e | e
      · exact ⟨.inl e, hO1 k e⟩
      · exact ⟨.inr (by omega), by omega⟩
      · exact ⟨.inr (by omega), by omega⟩
    · -- behind the iterator
      have back : ∀ {O : Nat → Prop} {A : World} (o : Obj), w.heap.size + 1 < A.heap.size → (∀ k, O k → k < A.heap.size) → ∀ k, OL O k → (OL O k ∨ A.heap.size ≤ k) ∧ k < (A.putObj (w.heap.size + 1) o).heap.size := by
        intro O A o hl hb k e
        refine ⟨.inl e, Nat.lt_of_lt_of_le ?_ (grownBy_putObj' A _ _).size⟩
        rw [hOL] at e
        rcases e with e | e | e
        · exact hb k e
        · omega
        · omega
      rintro e W2 ⟨⟨v, rfl⟩, (⟨xs, O, hSx, hi, ⟨hl, hk⟩, ⟨n1, n2⟩, hb⟩ | ⟨O, c, hi, ⟨hl, hk⟩, ⟨n1, n2⟩, hb⟩)⟩
      · refine ⟨none, _, by have := run_endLoop (P := P) hl (by rw [hrec]; simp); rw [hrec] at this; exact this, hdone _ O (OL O) xs _ (Nat.le_refl _) (hS xs O W2 _ hSx ⟨(grownBy_putObj' W2 _ _).size, fun k e => World.putObj_heap_other (fun (e2 : k = w.heap.size + 1) => e.elim (fun e => n2 (e2 ▸ e)) (fun e => by have := hZ k e; omega))⟩) (oD O) n1 (oO O) (hI _ _ _ W2 _ hi ((Tu.refl _ W2).put (fun _ => oL O) _) (back _ (hlt hl) hb)) ((World.putObj_heap_other (by omega)).trans hk)⟩
      · exact ⟨some c, _, by have := run_endLoop (P := P) hl (by rw [hrec]; simp); rw [hrec] at this; exact this, hstop _ (OL O) c _ (Nat.le_refl _) (oD O) (hIx c _ _ W2 _ hi ((Tu.refl _ W2).put (fun _ => oL O) _) (back _ (hlt hl) hb)) ((World.putObj_heap_other (by omega)).trans hk)⟩
end Go.Proofs.YtfbhofomcenabaaGreatDoor
namespace Go.Proofs.YtfbhofomcenabaaGreatDoor
open Go Go.RowKit

theorem append_stays {P : Program} (w : World) (base : Nat) (t ty e : TypeId) (i : TypeInfo) (z : Value) (size bytes : Nat) (ht : P.underlying t = some (.slice e)) (hi : P.info? e = some i) (hz : i.zero = some z)
    (hsize : i.size = size) (hby : i.bytes = bytes) (v : Value) (n : Nat) (xs : List Value) (hown : w.ownsRow base e size v n xs)
    (a : Addr) (m c : Nat) (news : List Value) (hm : 0 < m) (hl : news.length = m * size) (hnews : ∀ j u, news[j]? = some u → w.cell? (a.add j) = some u) (h1 : ∀ u ∈ news, u.oneCell' = true)
    (h63 : n + m ≤ maxLen) (hbytes : ((n + m) + (n + m) / 4 + 192) * bytes ≤ 281474976710656) {v' : Value} {w' : World}
    (hr : (Builtin.append_ #[t, t] ty #[v, .slice (some a) m c]).run P w = .ok v' w') : (∃ g cap, v = .slice (some ⟨g, 0, none⟩) n cap ∧ v' = .slice (some ⟨g, 0, none⟩) (n + m) cap) ∨ (v'.ownBlock = some w.heap.size ∧ Below w.heap.size w w') := by
  subst hsize
  subst hby
  unfold maxLen at h63
  rcases hown.2 with ⟨rfl, rfl⟩ | ⟨g, cap, cur, rfl, hbg, hg, hnc, hcm, hcs, htake⟩
  · right
    have hb : m * i.bytes ≤ 281474976710656 := Nat.le_trans (Nat.mul_le_mul_right _ (by omega)) hbytes
    have h2 := run_append_nil (P := P) w t ty e i z ht hi hz a m c news hl hnews (by omega) (by omega) hb
    rw [hr] at h2
    cases h2
    exact ⟨rfl, ((Below.refl _ w).drew).alloc (Nat.le_refl _) _⟩
  · by_cases hroom : n + m ≤ cap
    · left
      obtain ⟨w2, h2, _⟩ := run_append_fits (P := P) w base t ty e i i.size ht hi rfl g n cap xs hown a m c news hl hnews h1 hroom
      rw [hr] at h2
      cases h2
      exact ⟨g, cap, rfl, rfl⟩
    · right
      have holds : ∀ j u, xs[j]? = some u → w.cell? ((⟨g, 0, none⟩ : Addr).add j) = some u := hown.cells (g := g) rfl
      have h2 := run_append_grow (P := P) w t ty e i z ht hi hz ⟨g, 0, none⟩ n cap xs hown.1 holds a m c news hl hnews (by omega) (by omega) (growslice_fits_wide (by omega) hbytes)
      rw [hr] at h2
      cases h2
      exact ⟨rfl, ((Below.refl _ w).drew).alloc (Nat.le_refl _) _⟩

/-- At a step of a region that draws its order: the append, and whether it stayed where it was. -/
theorem step_append_stays {P : Program} (w : World) {ops : Array Oper} {o : Oper} {a : Act} {K : Act → World → Prop} {Q : Exit → Act → World → Prop} {E : Prop} (hgd : o.guard = none) (s x : Operand) (t : TypeId)
    (ho : o.op = .call { callee := .builtin .append, args := #[s, x], argTypes := #[t, t] })
    (base : Nat) (e : TypeId) (i : TypeInfo) (z : Value) (size bytes : Nat) (ht : P.underlying t = some (.slice e)) (hi : P.info? e = some i) (hz : i.zero = some z)
    (hsize : i.size = size) (hby : i.bytes = bytes) (hzs : z.cells.size = size) (hsz : 0 < size)
    (v : Value) (n : Nat) (xs : List Value) (hs : a.eval s = v) (hown : w.ownsRow base e size v n xs)
    (ad : Addr) (m c : Nat) (news : List Value) (hx : a.eval x = .slice (some ad) m c) (hl : news.length = m * size) (hnews : ∀ j u, news[j]? = some u → w.cell? (ad.add j) = some u) (h1 : ∀ u ∈ news, u.oneCell' = true)
    (hm : 0 < m) (h63 : n + m ≤ maxLen) (hbytes : ((n + m) + (n + m) / 4 + 192) * bytes ≤ 281474976710656) (hbase : base ≤ w.heap.size) (H : Nat) (hH : w.heap.size = H)
    (h : ∀ g cap w', w'.ownsRow base e size (.slice (some ⟨g, 0, none⟩) (n + m) cap) (n + m) (xs ++ news) → w.grownBy w' v.ownBlock → (v = .slice (some ⟨g, 0, none⟩) n cap ∨ (g = H ∧ Below w.heap.size w w')) → g < w'.heap.size → K (a.put o.dst (.slice (some ⟨g, 0, none⟩) (n + m) cap)) w') :
    if Region.wanted o (yielded ops a.tmps) = true then Oper.wp P o a w K Q else E := by
  have hw : Region.wanted o (yielded ops a.tmps) = true := by simp [Region.wanted, hgd]
  rw [if_pos hw]
  obtain ⟨v', w', hr, h2, h3, _⟩ := run_append_own_wide (P := P) w base t o.type e i z size bytes ht hi hz hsize hby hzs hsz v n xs hown ad m c news hl hnews h1 h63 hbytes hbase
  have h5 := append_stays w base t o.type e i z size bytes ht hi hz hsize hby v n xs hown ad m c news hm hl hnews h1 h63 hbytes hr
  obtain ⟨g, cap, rfl, hg⟩ : ∃ g cap, v' = .slice (some ⟨g, 0, none⟩) (n + m) cap ∧ g < w'.heap.size := by
    rcases h2.2 with ⟨_, hn⟩ | ⟨g, cap, cur, hv, _, hg, _⟩
    · omega
    · exact ⟨g, cap, hv, lt_of_block hg⟩
  have h6 : v = .slice (some ⟨g, 0, none⟩) n cap ∨ (g = H ∧ Below w.heap.size w w') := by
    rcases h5 with ⟨g', cap', hv, hv'⟩ | ⟨h5, h7⟩
    · cases hv'; exact .inl hv
    · right
      rw [← hH]
      exact ⟨by simpa [Value.ownBlock] using h5, h7⟩
  unfold Oper.wp execOp
  simp only [ho, resolve, invoke, builtin, Sem.run_bind, Sem.run_pure, Result.andThen_ok, List.map_toArray, List.map_cons, List.map_nil, hs, hx, hr]
  exact h g cap w' h2 h3 h6 hg

theorem own_kept {A C : World} {B : Nat} {e : TypeId} {size : Nat} {v : Value} {n : Nat} {xs : List Value} (h : A.ownsRow B e size v n xs) (hk : ∀ k, v.ownBlock = some k → C.heap[k]? = A.heap[k]?) : C.ownsRow B e size v n xs := by
  refine ⟨h.1, ?_⟩
  rcases h.2 with h2 | ⟨g, cap, cur, rfl, hbg, hg, r⟩
  · exact .inl h2
  · exact .inr ⟨g, cap, cur, rfl, hbg, by rw [hk g rfl]; exact hg, r⟩
/-- A row of one more holds the row. -/
theorem own_less {C : World} {B : Nat} {e : TypeId} {g n cap : Nat} {xs : List Value} {u : Value} (h : C.ownsRow B e 1 (.slice (some ⟨g, 0, none⟩) (n + 1) cap) (n + 1) (xs ++ [u])) : C.ownsRow B e 1 (.slice (some ⟨g, 0, none⟩) n cap) n xs := by
  have hl : xs.length = n := by have := h.1; simp at this; omega
  refine ⟨by omega, ?_⟩
  rcases h.2 with ⟨h2, _⟩ | ⟨g', cap', cur, hv, hbg, hg, hnc, hcm, hcs, ht⟩
  · cases h2
  · cases hv
    refine .inr ⟨g, cap, cur, rfl, hbg, hg, by omega, hcm, hcs, ?_⟩
    have h3 := congrArg (List.take n) ht
    rw [List.take_take, List.take_left' hl] at h3
    rw [Nat.mul_one, ← h3]
    congr 1
    omega

theorem own_base {C : World} {B : Nat} {e : TypeId} {size : Nat} {v : Value} {n k : Nat} {xs : List Value} (h : C.ownsRow B e size v n xs) (hk : v.ownBlock = some k) : B ≤ k := by
  rcases h.2 with ⟨rfl, _⟩ | ⟨g, cap, cur, rfl, hbg, _⟩
  · cases hk
  · cases hk; exact hbg

namespace Ft
/-- The file ahead: none, or one in a block of Z. -/
def AhZ (Z : Nat → Prop) (w : World) (v : Value) (bn : Option ByteArray) : Prop := (v = .pointer none ∧ bn = none) ∨ ∃ g o x, v = .pointer (some ⟨g, o, none⟩) ∧ bn = some x ∧ Z g ∧ w.cell? ⟨g, o, none⟩ = some (.string x)
theorem AhZ.kept {Z : Nat → Prop} {A C : World} {v : Value} {bn : Option ByteArray} (h : AhZ Z A v bn) (hk : ∀ k, Z k → C.heap[k]? = A.heap[k]?) : AhZ Z C v bn := by
  rcases h with h | ⟨g, o, x, h1, h2, h3, h4⟩
  · exact .inl h
  · exact .inr ⟨g, o, x, h1, h2, h3, (World.cell?_of_block (hk g h3)).trans h4⟩
theorem AhZ.ahd {Z : Nat → Prop} {w : World} {v : Value} {bn : Option ByteArray} (h : AhZ Z w v bn) (hZ : ∀ k, Z k → k < w.heap.size) : Ahd w v bn := by
  rcases h with h | ⟨g, o, x, h1, h2, h3, h4⟩
  · exact .inl h
  · exact .inr ⟨g, o, x, h1, h2, hZ g h3, h4⟩
/-- A file that is yielded, with its values. -/
structure Wy where
  p : List ByteArray
  ap : Option Addr
  cp : Nat
  pv : Option Addr
  bn : Option ByteArray
  T : FT
  b : Nat
  o : Nat
  a : Option Addr
  cap : Nat
def Wy.it (x : Wy) : It := (x.p, x.bn, x.T)
def Wy.enc (x : Wy) : Array Value := #[.agg #[.slice x.ap x.p.length x.cp, .pointer x.pv], .pointer (some ⟨x.b, x.o, none⟩)]
/-- It lies so: its path in memory of O, the file and what is in it in memory of Z. -/
structure WyAt (B : Nat) (Z : Nat → Prop) (x : Wy) (O : Nat → Prop) (w : World) : Prop where
  row : w.ownsRow B 9 1 (.slice x.ap x.p.length x.cp) x.p.length (x.p.map Value.string)
  own : ∀ k, (Value.slice x.ap x.p.length x.cp).ownBlock = some k → O k
  ah : AhZ Z w (.pointer x.pv) x.bn
  lies : Z x.b
  four : Four w x.b x.o x.T x.a x.cap
  sub : Fd w Z x.T x.a x.cap
theorem WyAt.kept {B : Nat} {Z O : Nat → Prop} {x : Wy} {A C : World} (h : WyAt B Z x O A) (hk : Ke (fun k => O k ∨ Z k) A C) : WyAt B Z x O C :=
  ⟨own_kept h.row (fun k e => hk.block k (.inl (h.own k e))), h.own, h.ah.kept (fun k e => hk.block k (.inr e)), h.lies, h.four.same (hk.block _ (.inr h.lies)), h.sub.same (fun b e => hk.block b (.inr e)) (fun _ e => e)⟩
theorem WyAt.more {B : Nat} {Z O O' : Nat → Prop} {x : Wy} {A : World} (h : WyAt B Z x O A) (hO : ∀ k, O k → O' k) : WyAt B Z x O' A :=
  ⟨h.row, fun k e => hO k (h.own k e), h.ah, h.lies, h.four, h.sub⟩
end Ft
end Go.Proofs.YtfbhofomcenabaaGreatDoor
