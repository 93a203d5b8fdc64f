/- What nfa.slots answers. The reference's laying out, plain: places are left open and filled in behind. The reference's laying: how it lies in memory; what its put and here do. What the reference's put does with each kind of instruction, its cells told. -/
import Derived.Test.YtdiokclbdaojpaaDoorNfAgn
import Derived.Deep.AppendLies
namespace Go.Proofs.YtdiokclbdaojpaaDoor
open Go.RowKit

namespace Nt
/-- How many slots a code has. -/
def sloS (n : Int) (x : Ins) : Int := if x.k == 7 then (if n < x.sl + 1 then x.sl + 1 else n) else n
def slo (L : List Ins) : Int := L.foldl sloS 0
theorem slo_take {L : List Ins} {i : Nat} (h : i < L.length) : slo (L.take (i + 1)) = sloS (slo (L.take i)) (L[i]) := by
  rw [slo, List.take_succ_eq_append_getElem h, List.foldl_append]; rfl
theorem slo_bnd (L : List Ins) (h : ∀ x ∈ L, Ok 16385 16384 x) : ∀ i, 0 ≤ slo (L.take i) ∧ slo (L.take i) ≤ 16385 := by
  intro i
  induction i with
  | zero => rw [List.take_zero]; exact ⟨by decide, by decide⟩
  | succ i ih =>
    by_cases hi : i < L.length
    · rw [slo_take hi]
      have := h _ (List.getElem_mem hi)
      have h1 := this.s1
      have h2 := this.s2
      unfold sloS
      split
      · split <;> omega
      · exact ih
    · rw [List.take_of_length_le (by omega)]
      rw [List.take_of_length_le (by omega)] at ih
      exact ih
end Nt
set_option maxRecDepth 100000 in
set_option maxHeartbeats 4000000 in
theorem slots_any (rb cap : Nat) (L : List Nt.Ins) (w : World) (hrow : w.ownsRow 0 64 9 (.slice (some ⟨rb, 0, none⟩) L.length cap) L.length (Nt.insC L)) (hok : ∀ x ∈ L, Nt.Ok 16385 16384 x) (hlen : L.length ≤ 16385) :
    Calls Tryd.prog 37 #[.slice (some ⟨rb, 0, none⟩) L.length cap] w fun e w' => e = .returned (.int .i64 (Nt.slo L)) ∧ w' = w := by
  have HC : Hid (∀ i (h : i < L.length) j, j < 9 → w.cell? ⟨rb, i * 9 + j, none⟩ = (Nt.insL (L[i]))[j]?) := fun i h j hj => by
    rw [hrow.cellAt (i * 9 + j) (by omega)]
    exact Nt.insC_at L i h j hj
  have HO : Hid _ := hok
  clear hrow hok
  go_enter Tryd.func37, Tryd.ntmps37
  go_wp2_with fail
  go_loopw [3, 7] (fun nv iv wr => ∃ i : Nat, i ≤ L.length ∧ nv = .int .i64 (Nt.slo (L.take i)) ∧ iv = .int .i64 (i : Int) ∧ wr = w) (fun _ iv _ => L.length - (intOf iv).toNat)
  case atStart => exact ⟨0, by omega, rfl, rfl, rfl⟩
  case round =>
    obtain ⟨i, hi, rfl, rfl, rfl⟩ := hrel
    by_cases hlt : i < L.length
    · have hcell := HC.out i hlt
      obtain ⟨x, hx⟩ : ∃ x, L[i] = x := ⟨_, rfl⟩
      rw [hx] at hcell
      have c0 : wr.cell? ⟨rb, i * 9, none⟩ = some (.int .u8 (x.k : Int)) := hcell 0 (by omega)
      have c8 : wr.cell? ⟨rb, i * 9 + 8, none⟩ = some (.int .i64 x.sl) := hcell 8 (by omega)
      have hb := Nt.slo_bnd L HO.out i
      have hok := HO.out x (hx ▸ List.getElem_mem hlt)
      have h1 := hok.s1
      have h2 := hok.s2
      have HT : Hid (Nt.slo (L.take (i + 1)) = Nt.sloS (Nt.slo (L.take i)) x) := by show _ = _; rw [Nt.slo_take hlt, hx]
      generalize hn : Nt.slo (L.take i) = n at *
      obtain ⟨hb1, hb2⟩ := hb
      clear hn hcell hok hx
      cases hk : ((x.k : Int) == 7)
      · have HS : Hid (Nt.sloS n x = n) := by
          show _ = _
          have : (x.k == 7) = false := by have h7 : ¬ (x.k : Int) = 7 := by simpa using hk
                                          exact beq_eq_false_iff_ne.2 (by omega)
          rw [Nt.sloS, this]; rfl
        go_wp2_with fail
        go_roundw
        case rel => exact ⟨i + 1, by omega, by rw [HT.out, HS.out], by go_num, trivial⟩
        case measure => simp [intOf]; omega
      · have HS : Hid (Nt.sloS n x = if n < x.sl + 1 then x.sl + 1 else n) := by
          show _ = _
          have : (x.k == 7) = true := by have h7 : (x.k : Int) = 7 := by simpa using hk
                                         exact beq_iff_eq.2 (by omega)
          rw [Nt.sloS, this]; rfl
        go_wp2_with fail
        go_roundw
        case rel => exact ⟨i + 1, by omega, by rw [HT.out, HS.out], by go_num, trivial⟩
        case measure => simp [intOf]; omega
    · obtain rfl : i = L.length := by omega
      go_wp2_with fail
      go_ret
      exact ⟨by rw [List.take_length]; rfl, rfl⟩
end Go.Proofs.YtdiokclbdaojpaaDoor
namespace Go.Proofs.YtdiokclbdaojpaaDoor
namespace Nt
/-- An instruction with another place to go on to. -/
def toI (t : Nat) (x : Ins) : Ins := ⟨x.k, x.s, (t : Int), x.gr, x.la, x.sl⟩
/-- The instruction at q goes on to t. -/
def setTo : List Ins → Nat → Nat → List Ins
  | [], _, _ => []
  | x :: L, 0, t => toI t x :: L
  | x :: L, q + 1, t => x :: setTo L q t
theorem setTo_len : ∀ (L : List Ins) (q t : Nat), (setTo L q t).length = L.length
  | [], _, _ => rfl
  | _ :: _, 0, _ => rfl
  | x :: L, q + 1, t => by rw [setTo, List.length_cons, List.length_cons, setTo_len L q t]
theorem setTo_app (x : Ins) (B : List Ins) (t : Nat) : ∀ A : List Ins, setTo (A ++ x :: B) A.length t = A ++ toI t x :: B
  | [] => rfl
  | a :: A => by
    show a :: setTo (A ++ x :: B) A.length t = _
    rw [setTo_app x B t A]; rfl
theorem setTo_at {A B : List Ins} {x : Ins} {q : Nat} (t : Nat) (h : q = A.length) : setTo (A ++ x :: B) q t = A ++ toI t x :: B := by subst h; exact setTo_app x B t A
theorem insC_setTo : ∀ (L : List Ins) (q t : Nat), q < L.length → insC (setTo L q t) = (insC L).set (q * 9 + 5) (.int .i64 (t : Int))
  | x :: L, 0, t, _ => rfl
  | x :: L, q + 1, t, h => by
    have ih := insC_setTo L q t (by simpa using h)
    rw [setTo]
    show insL x ++ insC (setTo L q t) = (insL x ++ insC L).set _ _
    rw [ih, List.set_append_right _ _ (show (insL x).length ≤ (q + 1) * 9 + 5 by simp [insL]; omega)]
    congr 2
    simp [insL]; omega
/-- The instructions at all these places go on to t. -/
def fills (L : List Ins) (J : List Nat) (t : Nat) : List Ins := J.foldl (fun L q => setTo L q t) L
theorem fills_len (t : Nat) : ∀ (J : List Nat) (L : List Ins), (fills L J t).length = L.length
  | [], _ => rfl
  | q :: J, L => by rw [fills, List.foldl_cons]; exact (fills_len t J _).trans (setTo_len L q t)
theorem fills_take {J : List Nat} {i : Nat} (h : i < J.length) (L : List Ins) (t : Nat) : fills L (J.take (i + 1)) t = setTo (fills L (J.take i) t) (J[i]) t := by
  rw [fills, List.take_succ_eq_append_getElem h, List.foldl_append]; rfl
/-- The ways of an Alt but the last one. -/
def altPre : List NT → Nat → Nat → Nat → List Ins
  | [], _, _, _ => []
  | x :: l, p, fin, f => (iSplit (p + sz x + 2) :: code x (p + 1) f ++ [iJump fin]) ++ altPre l (p + sz x + 2) fin f
/-- Where their jumps stand. -/
def altJ : List NT → Nat → List Nat
  | [], _ => []
  | x :: l, p => (p + sz x + 1) :: altJ l (p + sz x + 2)
theorem altPre_len (fin f : Nat) : ∀ (l : List NT) (p : Nat), (altPre l p fin f).length = sz.szL l + 2 * l.length
  | [], _ => by rw [altPre, sz.szL]; rfl
  | x :: l, p => by
    rw [altPre, sz.szL, List.length_append, altPre_len fin f l]
    simp [code_len]; omega
theorem altPre_snoc (x : NT) (fin f : Nat) : ∀ (l : List NT) (p : Nat), altPre (l ++ [x]) p fin f = altPre l p fin f ++ (iSplit (p + (sz.szL l + 2 * l.length) + sz x + 2) :: code x (p + (sz.szL l + 2 * l.length) + 1) f ++ [iJump fin])
  | [], p => by rw [altPre, sz.szL]; simp [altPre]
  | y :: l, p => by
    rw [List.cons_append, altPre, altPre, sz.szL, altPre_snoc x fin f l]
    have e : p + sz y + 2 + (sz.szL l + 2 * l.length) = p + (sz y + sz.szL l + 2 * (y :: l).length) := by rw [List.length_cons]; omega
    rw [e]
    simp
theorem altJ_snoc (x : NT) : ∀ (l : List NT) (p : Nat), altJ (l ++ [x]) p = altJ l p ++ [p + (sz.szL l + 2 * l.length) + sz x + 1]
  | [], p => by rw [sz.szL]; simp [altJ]
  | y :: l, p => by
    rw [List.cons_append, altJ, altJ, sz.szL, altJ_snoc x l, List.cons_append]
    have e : p + sz y + 2 + (sz.szL l + 2 * l.length) = p + (sz y + sz.szL l + 2 * (y :: l).length) := by rw [List.length_cons]; omega
    rw [e]
theorem altJ_len : ∀ (l : List NT) (p : Nat), (altJ l p).length = l.length
  | [], _ => rfl
  | x :: l, p => by rw [altJ, List.length_cons, List.length_cons, altJ_len l]
theorem altJ_lt : ∀ (l : List NT) (p : Nat), ∀ q ∈ altJ l p, q < p + (sz.szL l + 2 * l.length)
  | [], _ => by intro q h; cases h
  | x :: l, p => by
    intro q h
    rw [sz.szL, List.length_cons]
    rw [altJ, List.mem_cons] at h
    rcases h with rfl | h
    · omega
    · have := altJ_lt l _ q h
      omega
theorem altL_pre (x : NT) (fin f : Nat) : ∀ (l : List NT) (p : Nat), altL (l ++ [x]) p fin f = altPre l p fin f ++ code x (p + (sz.szL l + 2 * l.length)) f
  | [], p => by
    rw [List.nil_append, altL, altPre, sz.szL]; simp
  | y :: l, p => by
    rw [List.cons_append, altL, altPre, sz.szL, altL_pre x fin f l]
    have e : p + sz y + 2 + (sz.szL l + 2 * l.length) = p + (sz y + sz.szL l + 2 * (y :: l).length) := by rw [List.length_cons]; omega
    rw [e]
    simp
theorem fill_alt (fin f : Nat) : ∀ (l : List NT) (A B : List Ins), fills (A ++ altPre l A.length 0 f ++ B) (altJ l A.length) fin = A ++ altPre l A.length fin f ++ B
  | [], A, B => rfl
  | x :: l, A, B => by
    rw [altJ, fills, List.foldl_cons]
    have h1 : A ++ altPre (x :: l) A.length 0 f ++ B = (A ++ iSplit (A.length + sz x + 2) :: code x (A.length + 1) f) ++ iJump 0 :: (altPre l (A.length + sz x + 2) 0 f ++ B) := by
      rw [altPre]; simp
    have h2 : A ++ altPre (x :: l) A.length fin f ++ B = (A ++ iSplit (A.length + sz x + 2) :: code x (A.length + 1) f ++ [iJump fin]) ++ altPre l (A.length + sz x + 2) fin f ++ B := by
      rw [altPre]; simp
    have hl : (A ++ iSplit (A.length + sz x + 2) :: code x (A.length + 1) f ++ [iJump fin]).length = A.length + sz x + 2 := by simp [code_len]; omega
    rw [h1, setTo_at fin (by simp [code_len]; omega)]
    have := fill_alt fin f l (A ++ iSplit (A.length + sz x + 2) :: code x (A.length + 1) f ++ [iJump fin]) B
    rw [hl] at this
    rw [h2, ← this]
    show fills _ _ _ = fills _ _ _
    congr 1
    simp; rfl
/-- Where the splits of the rounds that may be stand. -/
def mayJ (r : Nat) : Nat → Nat → List Nat
  | 0, _ => []
  | n + 1, p => p :: mayJ r n (p + (r + 3))
theorem mayJ_len (r : Nat) : ∀ n p, (mayJ r n p).length = n
  | 0, _ => rfl
  | n + 1, p => by rw [mayJ, List.length_cons, mayJ_len r n]
theorem mayJ_snoc (r : Nat) : ∀ n p, mayJ r (n + 1) p = mayJ r n p ++ [p + n * (r + 3)]
  | 0, p => by simp [mayJ]
  | n + 1, p => by
    rw [mayJ, mayJ_snoc r n, mayJ, List.cons_append]
    have e : p + (r + 3) + n * (r + 3) = p + (n + 1) * (r + 3) := by rw [Nat.succ_mul]; omega
    rw [e]
theorem mayJ_lt (r : Nat) : ∀ n p, ∀ q ∈ mayJ r n p, q < p + n * (r + 3)
  | 0, _ => by intro q h; cases h
  | n + 1, p => by
    intro q h
    rw [mayJ, List.mem_cons] at h
    rw [Nat.succ_mul]
    rcases h with rfl | h
    · omega
    · have := mayJ_lt r n _ q h
      omega
theorem fill_may (r fin f : Nat) (R : Nat → Nat → List Ins) (hR : ∀ p f, (R p f).length = r) : ∀ (n : Nat) (A B : List Ins), fills (A ++ mayC n r 0 R A.length f ++ B) (mayJ r n A.length) fin = A ++ mayC n r fin R A.length f ++ B
  | 0, A, B => rfl
  | n + 1, A, B => by
    rw [mayJ, fills, List.foldl_cons]
    have h1 : A ++ mayC (n + 1) r 0 R A.length f ++ B = A ++ iSplit 0 :: (iMark f :: R (A.length + 2) (f + 1) ++ [iMoved f] ++ mayC n r 0 R (A.length + (r + 3)) f ++ B) := by
      rw [mayC]; simp
    have h2 : A ++ mayC (n + 1) r fin R A.length f ++ B = (A ++ iSplit fin :: iMark f :: R (A.length + 2) (f + 1) ++ [iMoved f]) ++ mayC n r fin R (A.length + (r + 3)) f ++ B := by
      rw [mayC]; simp
    have hl : (A ++ iSplit fin :: iMark f :: R (A.length + 2) (f + 1) ++ [iMoved f]).length = A.length + (r + 3) := by simp [hR]
    rw [h1, setTo_at fin rfl]
    have := fill_may r fin f R hR n (A ++ iSplit fin :: iMark f :: R (A.length + 2) (f + 1) ++ [iMoved f]) B
    rw [hl] at this
    rw [h2, ← this]
    show fills _ _ _ = fills _ _ _
    congr 1
    simp; rfl
/-- The slots that a code needs, from so many on. -/
def sloF (s : Int) (L : List Ins) : Int := L.foldl sloS s
theorem sloF_app (s : Int) (A B : List Ins) : sloF s (A ++ B) = sloF (sloF s A) B := List.foldl_append
theorem sloF_cons (s : Int) (x : Ins) (B : List Ins) : sloF s (x :: B) = sloF (sloS s x) B := rfl
theorem sloF_split (s : Int) (t : Nat) (B : List Ins) : sloF s (iSplit t :: B) = sloF s B := rfl
theorem sloF_jump (s : Int) (t : Nat) : sloF s [iJump t] = s := rfl
theorem sloF_mark (s : Int) (n : Nat) (B : List Ins) : sloF s (iMark n :: B) = sloF (if s < (n : Int) + 1 then (n : Int) + 1 else s) B := rfl
theorem sloF_moved (s : Int) (n : Nat) : sloF s [iMoved n] = s := rfl
end Nt
end Go.Proofs.YtdiokclbdaojpaaDoor
namespace Go.Proofs.YtdiokclbdaojpaaDoor
open Go Go.RowKit

namespace Nt
/-- The block lb holds a laying with the code L, in a row of its own behind lb. -/
structure Rg (w : World) (lb : Nat) (L : List Ins) (gr sl : Int) (v : Value) : Prop where
  blk : w.heap[lb]? = some (.cells #[.int .i64 gr, .int .i64 sl, v] 84 (0, 0))
  row : w.ownsRow (lb + 1) 64 9 v L.length (insC L)
/-- No block but lb and the row's own has turned; the row lies where it lay, or is new. -/
structure Rz (lb : Nat) (v v' : Value) (w w' : World) : Prop where
  os : w'.os = w.os
  tape : w'.tape = w.tape
  output : w'.output = w.output
  size : w.heap.size ≤ w'.heap.size
  block : ∀ k, k < w.heap.size → k ≠ lb → some k ≠ v.ownBlock → w'.heap[k]? = w.heap[k]?
  row : ∀ g, v'.ownBlock = some g → v.ownBlock = some g ∨ w.heap.size ≤ g
theorem Rz.refl (lb : Nat) (v : Value) (w : World) : Rz lb v v w w := ⟨rfl, rfl, rfl, Nat.le_refl _, fun _ _ _ _ => rfl, fun _ h => .inl h⟩
theorem Rz.trans {lb : Nat} {v1 v2 v3 : Value} {a b c : World} (x : Rz lb v1 v2 a b) (y : Rz lb v2 v3 b c) : Rz lb v1 v3 a c :=
  ⟨y.os.trans x.os, y.tape.trans x.tape, y.output.trans x.output, Nat.le_trans x.size y.size,
   fun k hk h1 h2 => (y.block k (Nat.lt_of_lt_of_le hk x.size) h1 (fun e => (x.row k e.symm).elim (fun h => h2 h.symm) (fun h => absurd hk (by omega)))).trans (x.block k hk h1 h2),
   fun g hg => by
     rcases y.row g hg with h | h
     · exact x.row g h
     · exact .inr (Nat.le_trans x.size h)⟩
theorem Rz.of_below {lb : Nat} (v : Value) {a b : World} (x : Below a.heap.size a b) : Rz lb v v a b := ⟨x.os, x.tape, x.output, x.size, fun k hk _ _ => x.block k hk, fun _ h => .inl h⟩
theorem Rz.below {lb : Nat} {v v' : Value} {a b : World} (x : Rz lb v v' a b) (hv : ∀ g, v.ownBlock = some g → lb + 1 ≤ g) (hs : lb ≤ a.heap.size) : Below lb a b :=
  ⟨x.os, x.tape, x.output, x.size, fun k hk => x.block k (by omega) (by omega) (fun e => by have := hv k e.symm; omega)⟩
theorem Rg.lt {w : World} {lb : Nat} {L : List Ins} {gr sl : Int} {v : Value} (h : Rg w lb L gr sl v) : lb < w.heap.size := lt_of_block h.blk
theorem Rg.own {w : World} {lb : Nat} {L : List Ins} {gr sl : Int} {v : Value} (h : Rg w lb L gr sl v) : ∀ g, v.ownBlock = some g → lb + 1 ≤ g ∧ g < w.heap.size := h.row.lt
theorem Rg.form {w : World} {lb : Nat} {L : List Ins} {gr sl : Int} {v : Value} (h : Rg w lb L gr sl v) : ∃ a cap, v = .slice a L.length cap := by
  rcases h.row.2 with ⟨hv, hz⟩ | ⟨g, cap, _, hv, _⟩
  · exact ⟨none, 0, by rw [hv, hz]⟩
  · exact ⟨_, cap, hv⟩
theorem Rg.form' {w : World} {lb : Nat} {L : List Ins} {gr sl : Int} {v : Value} (h : Rg w lb L gr sl v) (hn : 0 < L.length) : ∃ g cap, v = .slice (some ⟨g, 0, none⟩) L.length cap := by
  obtain ⟨g, cap, hv, _⟩ := h.row.form hn
  exact ⟨g, cap, hv⟩
theorem Rg.under {w w' : World} {lb : Nat} {L : List Ins} {gr sl : Int} {v : Value} (h : Rg w lb L gr sl v) (hb : Below w.heap.size w w') : Rg w' lb L gr sl v :=
  ⟨by rw [hb.block lb h.lt]; exact h.blk, own_below h.row hb⟩
theorem Rg.cells {w : World} {lb : Nat} {L : List Ins} {gr sl : Int} {v : Value} (h : Rg w lb L gr sl v) : w.cell? ⟨lb, 0, none⟩ = some (.int .i64 gr) ∧ w.cell? ⟨lb, 1, none⟩ = some (.int .i64 sl) ∧ w.cell? ⟨lb, 2, none⟩ = some v :=
  ⟨cell_of_row _ _ _ _ _ _ h.blk, cell_of_row _ _ _ _ _ _ h.blk, cell_of_row _ _ _ _ _ _ h.blk⟩
theorem Rg.frozen {w : World} {lb : Nat} {L : List Ins} {gr sl : Int} {v : Value} (h : Rg w lb L gr sl v) (j : Nat) : w.frozen? ⟨lb, j, none⟩ = false := frozen_of_row w lb j _ _ h.blk
/-- A slot's number put. -/
theorem Rg.slot {w : World} {lb : Nat} {L : List Ins} {gr sl : Int} {v : Value} (h : Rg w lb L gr sl v) (x : Int) : Rg (w.setCell ⟨lb, 1, none⟩ (.int .i64 x)) lb L gr x v ∧ Rz lb v v w (w.setCell ⟨lb, 1, none⟩ (.int .i64 x)) := by
  have y := (Below.refl 0 w).setCell (p := ⟨lb, 1, none⟩) (Nat.zero_le _) (.int .i64 x)
  refine ⟨⟨heap_setCell_same w lb 1 _ _ (.int .i64 x) h.blk, ownsRow_setCell_below h.row (Nat.lt_succ_self lb) _⟩, ⟨y.os, y.tape, y.output, y.size, fun k _ h1 _ => heap_setCell_other w ⟨lb, 1, none⟩ k _ h1, fun _ h => .inl h⟩⟩
theorem Rg.groups {w : World} {lb : Nat} {L : List Ins} {gr sl : Int} {v : Value} (h : Rg w lb L gr sl v) (x : Int) : Rg (w.setCell ⟨lb, 0, none⟩ (.int .i64 x)) lb L x sl v ∧ Rz lb v v w (w.setCell ⟨lb, 0, none⟩ (.int .i64 x)) := by
  have y := (Below.refl 0 w).setCell (p := ⟨lb, 0, none⟩) (Nat.zero_le _) (.int .i64 x)
  refine ⟨⟨heap_setCell_same w lb 0 _ _ (.int .i64 x) h.blk, ownsRow_setCell_below h.row (Nat.lt_succ_self lb) _⟩, ⟨y.os, y.tape, y.output, y.size, fun k _ h1 _ => heap_setCell_other w ⟨lb, 0, none⟩ k _ h1, fun _ h => .inl h⟩⟩
/-- A place filled in. -/
theorem Rg.fill {w : World} {lb g cap : Nat} {L : List Ins} {gr sl : Int} (h : Rg w lb L gr sl (.slice (some ⟨g, 0, none⟩) L.length cap)) {q : Nat} (hq : q < L.length) (t : Nat) : Rg (w.setCell ⟨g, q * 9 + 5, none⟩ (.int .i64 (t : Int))) lb (setTo L q t) gr sl (.slice (some ⟨g, 0, none⟩) L.length cap) ∧ Rz lb (.slice (some ⟨g, 0, none⟩) L.length cap) (.slice (some ⟨g, 0, none⟩) L.length cap) w (w.setCell ⟨g, q * 9 + 5, none⟩ (.int .i64 (t : Int))) := by
  have hg := h.own g rfl
  obtain ⟨h1, h2⟩ := h.row.stored (q * 9 + 5) (.int .i64 (t : Int))
  refine ⟨⟨?_, ?_⟩, ⟨h2.os, h2.tape, h2.output, h2.size, fun k hk _ h3 => h2.block k hk (by simpa [Value.ownBlock] using h3), fun _ h => .inl h⟩⟩
  · rw [heap_setCell_other w ⟨g, q * 9 + 5, none⟩ lb _ (show lb ≠ g by omega)]; exact h.blk
  · rw [setTo_len, insC_setTo L q t hq]; exact h1
theorem Nd.rz {w w' : World} {lb : Nat} {v v' : Value} {T : NT} {a : Option Addr} {cap : Nat} (h : Nd w (· < lb) T a cap) (x : Rz lb v v' w w') (hv : ∀ g, v.ownBlock = some g → lb + 1 ≤ g ∧ g < w.heap.size) (hs : lb < w.heap.size) : Nd w' (· < lb) T a cap :=
  h.same (fun k (hk : k < lb) => x.block k (by omega) (by omega) (fun e => by have := (hv k e.symm).1; omega)) (fun _ h => h)
theorem NodeAt.rz {w w' : World} {lb g : Nat} {v v' : Value} {T : NT} {a : Option Addr} {cap : Nat} (h : NodeAt w g T a cap) (x : Rz lb v v' w w') (h1 : g < w.heap.size) (h2 : g ≠ lb) (h3 : some g ≠ v.ownBlock) : NodeAt w' g T a cap := by
  unfold NodeAt at h ⊢
  rw [x.block g h1 h2 h3]; exact h
end Nt

set_option maxRecDepth 100000 in
set_option maxHeartbeats 4000000 in
theorem rput_any (lb : Nat) (L : List Nt.Ins) (x : Nt.Ins) (gr sl : Int) (v : Value) (w : World) (h : Nt.Rg w lb L gr sl v) (hroom : L.length ≤ 16384) :
    Calls Tryd.prog 40 #[.pointer (some ⟨lb, 0, none⟩), Nt.insV x] w fun e w' => e = .returned (.int .i64 (L.length : Nat)) ∧ ∃ v', Nt.Rg w' lb (L ++ [x]) gr sl v' ∧ Nt.Rz lb v v' w w' := by
  obtain ⟨i0, hi0, hz0, hz1, hz2⟩ := info_parts Tryd.infoInst
  have hlt := h.lt
  have X0 : (w.alloc (.cells (Nt.insA x) 64)).heap[w.heap.size]? = some (.cells (Nt.insA x) 64 (0, 0)) := heap_alloc_new w _
  have hB0 : Below w.heap.size w (w.alloc (.cells (Nt.insA x) 64)) := (Below.refl w.heap.size w).alloc (Nat.le_refl _) _
  have h0 := h.under hB0
  have hs0 : (w.alloc (.cells (Nt.insA x) 64)).heap.size = w.heap.size + 1 := by simp
  simp only [Nt.insV, Nt.insA] at X0 hB0 h0 hs0 ⊢
  obtain ⟨W, hW⟩ : ∃ W, W = w.alloc (.cells #[.int .u8 (x.k : Int), .int .u64 (St.wd x.s 0 : Nat), .int .u64 (St.wd x.s 1 : Nat), .int .u64 (St.wd x.s 2 : Nat), .int .u64 (St.wd x.s 3 : Nat), .int .i64 x.to, .int .i64 x.gr, .int .i64 x.la, .int .i64 x.sl] 64) := ⟨_, rfl⟩
  rw [← hW] at X0 hB0 h0 hs0
  have x0 : W.cell? ⟨w.heap.size, 0, none⟩ = some (.int .u8 (x.k : Int)) := cell_of_row _ _ _ _ _ _ X0
  have x1 : W.cell? ⟨w.heap.size, 1, none⟩ = some (.int .u64 (St.wd x.s 0 : Nat)) := cell_of_row _ _ _ _ _ _ X0
  have x2 : W.cell? ⟨w.heap.size, 2, none⟩ = some (.int .u64 (St.wd x.s 1 : Nat)) := cell_of_row _ _ _ _ _ _ X0
  have x3 : W.cell? ⟨w.heap.size, 3, none⟩ = some (.int .u64 (St.wd x.s 2 : Nat)) := cell_of_row _ _ _ _ _ _ X0
  have x4 : W.cell? ⟨w.heap.size, 4, none⟩ = some (.int .u64 (St.wd x.s 3 : Nat)) := cell_of_row _ _ _ _ _ _ X0
  have x5 : W.cell? ⟨w.heap.size, 5, none⟩ = some (.int .i64 x.to) := cell_of_row _ _ _ _ _ _ X0
  have x6 : W.cell? ⟨w.heap.size, 6, none⟩ = some (.int .i64 x.gr) := cell_of_row _ _ _ _ _ _ X0
  have x7 : W.cell? ⟨w.heap.size, 7, none⟩ = some (.int .i64 x.la) := cell_of_row _ _ _ _ _ _ X0
  have x8 : W.cell? ⟨w.heap.size, 8, none⟩ = some (.int .i64 x.sl) := cell_of_row _ _ _ _ _ _ X0
  obtain ⟨l0, l1, l2⟩ := h0.cells
  have f2 := h0.frozen 2
  have H0 : Hid _ := h0
  have HB0 : Hid _ := hB0
  have hown := h.own
  have Hown : Hid _ := hown
  clear X0 h h0 hB0 hown
  go_enter Tryd.func40, Tryd.ntmps40
  go_wp2_with fail
  rw [← hW]
  clear hW
  have hblk : ∀ (o : Obj) (w3 : World), (W.drew.alloc o).grownBy w3 v.ownBlock → w3.heap[lb]? = some (.cells #[.int .i64 gr, .int .i64 sl, v] 84 (0, 0)) := fun o w3 hg => by
    rw [hg.block lb (by simp; omega) (fun e => by have := (Hown.out lb e.symm).1; omega), heap_alloc_old W.drew o (by exact H0.out.lt)]
    exact H0.out.blk
  have Hblk : Hid _ := hblk
  have Hrz : Hid (∀ (o : Obj) (g c : Nat) (w3 : World), (W.drew.alloc o).grownBy w3 v.ownBlock → (v.ownBlock = some g ∨ g = (W.drew.alloc o).heap.size) → Nt.Rz lb v (.slice (some ⟨g, 0, none⟩) (L.length + 1) c) w (w3.setCell ⟨lb, 2, none⟩ (.slice (some ⟨g, 0, none⟩) (L.length + 1) c))) := fun o g c w3 hg hat => by
    have hs3 := hg.size
    have hs4 : (W.drew.alloc o).heap.size = W.heap.size + 1 := by simp
    have y := (Below.refl 0 w3).setCell (p := ⟨lb, 2, none⟩) (Nat.zero_le _) (.slice (some ⟨g, 0, none⟩) (L.length + 1) c)
    refine ⟨y.os.trans (hg.os.trans HB0.out.os), y.tape.trans (hg.tape.trans HB0.out.tape), y.output.trans (hg.output.trans HB0.out.output), Nat.le_trans (by omega) y.size, fun k hk h1 h2 => ?_, fun g' hg' => ?_⟩
    · rw [heap_setCell_other w3 ⟨lb, 2, none⟩ k _ h1, hg.block k (by omega) h2, heap_alloc_old W.drew o (show k < W.heap.size by omega)]
      exact HB0.out.block k hk
    · obtain rfl : g = g' := by injection hg'
      rcases hat with h | h
      · exact .inl h
      · exact .inr (by omega)
  clear hblk
  go_region_law (refine step_append_lies _ rfl (.tmp 10) (.tmp 12) 33 rfl (lb + 1) 64 i0 _ 9 72 Tryd.underlying33 hi0 hz0 hz1 hz2 rfl (by decide) v L.length (Nt.insC L) (by simp [Act.eval]) (H0.out.row.drew.alloc _) ⟨W.drew.heap.size, 0, none⟩ 1 1 (Nt.insL x) (by simp [Act.eval]) rfl (Nt.ins_new _ x _) (Nt.ins_one x) (by decide) (by unfold maxLen; omega) (by omega) (by simp; omega) _ rfl ?_; intro g c w3 ho hg hat hlt3; have b3 := Hblk.out _ w3 hg; have z3 := Hrz.out _ g c w3 hg hat; have Hz3 : Hid _ := z3; have Ho3 : Hid _ := ho; have Hb3 : Hid _ := b3; have s2 : w3.cell? ⟨lb, 2, none⟩ = some v := cell_of_row _ _ _ _ _ _ b3; have g2 : w3.frozen? ⟨lb, 2, none⟩ = false := frozen_of_row w3 lb 2 _ _ b3; clear z3 ho b3 hg hat)
  go_wp2_with fail
  all_goals
    go_ret
    refine ⟨by simp, _, ⟨?_, ?_⟩, Hz3.out⟩
    · exact heap_setCell_same w3 lb 2 _ _ (.slice (some ⟨g, 0, none⟩) (L.length + 1) c) Hb3.out
    · rw [Nt.insC_snoc, List.length_append]
      exact ownsRow_setCell_below Ho3.out (Nat.lt_succ_self lb) _

set_option maxRecDepth 100000 in
set_option maxHeartbeats 1000000 in
theorem rhere_any (lb : Nat) (L : List Nt.Ins) (gr sl : Int) (v : Value) (w : World) (h : Nt.Rg w lb L gr sl v) :
    Calls Tryd.prog 63 #[.pointer (some ⟨lb, 0, none⟩)] w fun e w' => e = .returned (.int .i64 (L.length : Nat)) ∧ w' = w := by
  obtain ⟨a, cap, rfl⟩ := h.form
  obtain ⟨l0, l1, l2⟩ := h.cells
  clear h
  go_enter Tryd.func63, Tryd.ntmps63
  go_wp2_with fail
  go_ret
  exact ⟨rfl, rfl⟩
end Go.Proofs.YtdiokclbdaojpaaDoor
namespace Go.Proofs.YtdiokclbdaojpaaDoor
open Go.RowKit

theorem rput_set (lb : Nat) (L : List Nt.Ins) (s : Nat → Bool) (gr sl : Int) (v : Value) (w : World) (h : Nt.Rg w lb L gr sl v) (hroom : L.length ≤ 16384) :
    Calls Tryd.prog 40 #[.pointer (some ⟨lb, 0, none⟩), .agg #[.int .u8 1, .int .u64 (St.wd s 0 : Nat), .int .u64 (St.wd s 1 : Nat), .int .u64 (St.wd s 2 : Nat), .int .u64 (St.wd s 3 : Nat), .int .i64 0, .int .i64 0, .int .i64 0, .int .i64 0]] w fun e w' => e = .returned (.int .i64 (L.length : Nat)) ∧ ∃ v', Nt.Rg w' lb (L ++ [Nt.iSet s]) gr sl v' ∧ Nt.Rz lb v v' w w' := by
  have h := rput_any lb L (Nt.iSet s) gr sl v w h hroom
  simp only [Nt.insV, Nt.insA, Nt.iSet] at h
  exact h
theorem rput_split (lb : Nat) (L : List Nt.Ins) (t : Nat) (gr sl : Int) (v : Value) (w : World) (h : Nt.Rg w lb L gr sl v) (hroom : L.length ≤ 16384) :
    Calls Tryd.prog 40 #[.pointer (some ⟨lb, 0, none⟩), .agg #[.int .u8 2, .int .u64 0, .int .u64 0, .int .u64 0, .int .u64 0, .int .i64 (t : Int), .int .i64 0, .int .i64 0, .int .i64 0]] w fun e w' => e = .returned (.int .i64 (L.length : Nat)) ∧ ∃ v', Nt.Rg w' lb (L ++ [Nt.iSplit t]) gr sl v' ∧ Nt.Rz lb v v' w w' := by
  have h := rput_any lb L (Nt.iSplit t) gr sl v w h hroom
  simp only [Nt.insV, Nt.insA, Nt.iSplit, Nt.wd_no] at h
  exact h
theorem rput_split0 (lb : Nat) (L : List Nt.Ins)  (gr sl : Int) (v : Value) (w : World) (h : Nt.Rg w lb L gr sl v) (hroom : L.length ≤ 16384) :
    Calls Tryd.prog 40 #[.pointer (some ⟨lb, 0, none⟩), .agg #[.int .u8 2, .int .u64 0, .int .u64 0, .int .u64 0, .int .u64 0, .int .i64 0, .int .i64 0, .int .i64 0, .int .i64 0]] w fun e w' => e = .returned (.int .i64 (L.length : Nat)) ∧ ∃ v', Nt.Rg w' lb (L ++ [Nt.iSplit 0]) gr sl v' ∧ Nt.Rz lb v v' w w' := by
  have h := rput_any lb L (Nt.iSplit 0) gr sl v w h hroom
  simp only [Nt.insV, Nt.insA, Nt.iSplit, Nt.wd_no] at h
  exact h
theorem rput_jump (lb : Nat) (L : List Nt.Ins) (t : Nat) (gr sl : Int) (v : Value) (w : World) (h : Nt.Rg w lb L gr sl v) (hroom : L.length ≤ 16384) :
    Calls Tryd.prog 40 #[.pointer (some ⟨lb, 0, none⟩), .agg #[.int .u8 3, .int .u64 0, .int .u64 0, .int .u64 0, .int .u64 0, .int .i64 (t : Int), .int .i64 0, .int .i64 0, .int .i64 0]] w fun e w' => e = .returned (.int .i64 (L.length : Nat)) ∧ ∃ v', Nt.Rg w' lb (L ++ [Nt.iJump t]) gr sl v' ∧ Nt.Rz lb v v' w w' := by
  have h := rput_any lb L (Nt.iJump t) gr sl v w h hroom
  simp only [Nt.insV, Nt.insA, Nt.iJump, Nt.wd_no] at h
  exact h
theorem rput_jump0 (lb : Nat) (L : List Nt.Ins)  (gr sl : Int) (v : Value) (w : World) (h : Nt.Rg w lb L gr sl v) (hroom : L.length ≤ 16384) :
    Calls Tryd.prog 40 #[.pointer (some ⟨lb, 0, none⟩), .agg #[.int .u8 3, .int .u64 0, .int .u64 0, .int .u64 0, .int .u64 0, .int .i64 0, .int .i64 0, .int .i64 0, .int .i64 0]] w fun e w' => e = .returned (.int .i64 (L.length : Nat)) ∧ ∃ v', Nt.Rg w' lb (L ++ [Nt.iJump 0]) gr sl v' ∧ Nt.Rz lb v v' w w' := by
  have h := rput_any lb L (Nt.iJump 0) gr sl v w h hroom
  simp only [Nt.insV, Nt.insA, Nt.iJump, Nt.wd_no] at h
  exact h
theorem rput_open (lb : Nat) (L : List Nt.Ins) (g : Int) (gr sl : Int) (v : Value) (w : World) (h : Nt.Rg w lb L gr sl v) (hroom : L.length ≤ 16384) :
    Calls Tryd.prog 40 #[.pointer (some ⟨lb, 0, none⟩), .agg #[.int .u8 4, .int .u64 0, .int .u64 0, .int .u64 0, .int .u64 0, .int .i64 0, .int .i64 g, .int .i64 0, .int .i64 0]] w fun e w' => e = .returned (.int .i64 (L.length : Nat)) ∧ ∃ v', Nt.Rg w' lb (L ++ [Nt.iOpen g]) gr sl v' ∧ Nt.Rz lb v v' w w' := by
  have h := rput_any lb L (Nt.iOpen g) gr sl v w h hroom
  simp only [Nt.insV, Nt.insA, Nt.iOpen, Nt.wd_no] at h
  exact h
theorem rput_close (lb : Nat) (L : List Nt.Ins) (g : Int) (gr sl : Int) (v : Value) (w : World) (h : Nt.Rg w lb L gr sl v) (hroom : L.length ≤ 16384) :
    Calls Tryd.prog 40 #[.pointer (some ⟨lb, 0, none⟩), .agg #[.int .u8 5, .int .u64 0, .int .u64 0, .int .u64 0, .int .u64 0, .int .i64 0, .int .i64 g, .int .i64 0, .int .i64 0]] w fun e w' => e = .returned (.int .i64 (L.length : Nat)) ∧ ∃ v', Nt.Rg w' lb (L ++ [Nt.iClose g]) gr sl v' ∧ Nt.Rz lb v v' w w' := by
  have h := rput_any lb L (Nt.iClose g) gr sl v w h hroom
  simp only [Nt.insV, Nt.insA, Nt.iClose, Nt.wd_no] at h
  exact h
theorem rput_clear (lb : Nat) (L : List Nt.Ins) (lo hi : Int) (gr sl : Int) (v : Value) (w : World) (h : Nt.Rg w lb L gr sl v) (hroom : L.length ≤ 16384) :
    Calls Tryd.prog 40 #[.pointer (some ⟨lb, 0, none⟩), .agg #[.int .u8 6, .int .u64 0, .int .u64 0, .int .u64 0, .int .u64 0, .int .i64 0, .int .i64 lo, .int .i64 hi, .int .i64 0]] w fun e w' => e = .returned (.int .i64 (L.length : Nat)) ∧ ∃ v', Nt.Rg w' lb (L ++ [Nt.iClear lo hi]) gr sl v' ∧ Nt.Rz lb v v' w w' := by
  have h := rput_any lb L (Nt.iClear lo hi) gr sl v w h hroom
  simp only [Nt.insV, Nt.insA, Nt.iClear, Nt.wd_no] at h
  exact h
theorem rput_mark (lb : Nat) (L : List Nt.Ins) (n : Nat) (gr sl : Int) (v : Value) (w : World) (h : Nt.Rg w lb L gr sl v) (hroom : L.length ≤ 16384) :
    Calls Tryd.prog 40 #[.pointer (some ⟨lb, 0, none⟩), .agg #[.int .u8 7, .int .u64 0, .int .u64 0, .int .u64 0, .int .u64 0, .int .i64 0, .int .i64 0, .int .i64 0, .int .i64 (n : Int)]] w fun e w' => e = .returned (.int .i64 (L.length : Nat)) ∧ ∃ v', Nt.Rg w' lb (L ++ [Nt.iMark n]) gr sl v' ∧ Nt.Rz lb v v' w w' := by
  have h := rput_any lb L (Nt.iMark n) gr sl v w h hroom
  simp only [Nt.insV, Nt.insA, Nt.iMark, Nt.wd_no] at h
  exact h
theorem rput_moved (lb : Nat) (L : List Nt.Ins) (n : Nat) (gr sl : Int) (v : Value) (w : World) (h : Nt.Rg w lb L gr sl v) (hroom : L.length ≤ 16384) :
    Calls Tryd.prog 40 #[.pointer (some ⟨lb, 0, none⟩), .agg #[.int .u8 8, .int .u64 0, .int .u64 0, .int .u64 0, .int .u64 0, .int .i64 0, .int .i64 0, .int .i64 0, .int .i64 (n : Int)]] w fun e w' => e = .returned (.int .i64 (L.length : Nat)) ∧ ∃ v', Nt.Rg w' lb (L ++ [Nt.iMoved n]) gr sl v' ∧ Nt.Rz lb v v' w w' := by
  have h := rput_any lb L (Nt.iMoved n) gr sl v w h hroom
  simp only [Nt.insV, Nt.insA, Nt.iMoved, Nt.wd_no] at h
  exact h
theorem rput_back (lb : Nat) (L : List Nt.Ins) (g : Int) (gr sl : Int) (v : Value) (w : World) (h : Nt.Rg w lb L gr sl v) (hroom : L.length ≤ 16384) :
    Calls Tryd.prog 40 #[.pointer (some ⟨lb, 0, none⟩), .agg #[.int .u8 9, .int .u64 0, .int .u64 0, .int .u64 0, .int .u64 0, .int .i64 0, .int .i64 g, .int .i64 0, .int .i64 0]] w fun e w' => e = .returned (.int .i64 (L.length : Nat)) ∧ ∃ v', Nt.Rg w' lb (L ++ [Nt.iBack g]) gr sl v' ∧ Nt.Rz lb v v' w w' := by
  have h := rput_any lb L (Nt.iBack g) gr sl v w h hroom
  simp only [Nt.insV, Nt.insA, Nt.iBack, Nt.wd_no] at h
  exact h
theorem rput_begin (lb : Nat) (L : List Nt.Ins)  (gr sl : Int) (v : Value) (w : World) (h : Nt.Rg w lb L gr sl v) (hroom : L.length ≤ 16384) :
    Calls Tryd.prog 40 #[.pointer (some ⟨lb, 0, none⟩), .agg #[.int .u8 10, .int .u64 0, .int .u64 0, .int .u64 0, .int .u64 0, .int .i64 0, .int .i64 0, .int .i64 0, .int .i64 0]] w fun e w' => e = .returned (.int .i64 (L.length : Nat)) ∧ ∃ v', Nt.Rg w' lb (L ++ [Nt.iBegin]) gr sl v' ∧ Nt.Rz lb v v' w w' := by
  have h := rput_any lb L (Nt.iBegin) gr sl v w h hroom
  simp only [Nt.insV, Nt.insA, Nt.iBegin, Nt.wd_no] at h
  exact h
theorem rput_end (lb : Nat) (L : List Nt.Ins)  (gr sl : Int) (v : Value) (w : World) (h : Nt.Rg w lb L gr sl v) (hroom : L.length ≤ 16384) :
    Calls Tryd.prog 40 #[.pointer (some ⟨lb, 0, none⟩), .agg #[.int .u8 11, .int .u64 0, .int .u64 0, .int .u64 0, .int .u64 0, .int .i64 0, .int .i64 0, .int .i64 0, .int .i64 0]] w fun e w' => e = .returned (.int .i64 (L.length : Nat)) ∧ ∃ v', Nt.Rg w' lb (L ++ [Nt.iEnd]) gr sl v' ∧ Nt.Rz lb v v' w w' := by
  have h := rput_any lb L (Nt.iEnd) gr sl v w h hroom
  simp only [Nt.insV, Nt.insA, Nt.iEnd, Nt.wd_no] at h
  exact h
theorem rput_match (lb : Nat) (L : List Nt.Ins)  (gr sl : Int) (v : Value) (w : World) (h : Nt.Rg w lb L gr sl v) (hroom : L.length ≤ 16384) :
    Calls Tryd.prog 40 #[.pointer (some ⟨lb, 0, none⟩), .agg #[.int .u8 12, .int .u64 0, .int .u64 0, .int .u64 0, .int .u64 0, .int .i64 0, .int .i64 0, .int .i64 0, .int .i64 0]] w fun e w' => e = .returned (.int .i64 (L.length : Nat)) ∧ ∃ v', Nt.Rg w' lb (L ++ [Nt.iMatch]) gr sl v' ∧ Nt.Rz lb v v' w w' := by
  have h := rput_any lb L (Nt.iMatch) gr sl v w h hroom
  simp only [Nt.insV, Nt.insA, Nt.iMatch, Nt.wd_no] at h
  exact h
end Go.Proofs.YtdiokclbdaojpaaDoor
