/- What the reference's reading of a policy has in memory: the two lists of paths, what was told, and the state that a line is handed. What the reference's reading of a line leaves; the words' tests; the answer. A path that was read is put behind the first (the second) list of the state that the reference's take is handed. -/
import Derived.Test.YtcloljkaojnipaaGreatDoorPoPut
import Derived.Test.YtcloljkaojnipaaGreatDoorPgR
import Derived.Test.YtcloljkaojnipaaGreatDoorPhD
import Derived.Test.YtcloljkaojnipaaGreatDoorPgS
import Derived.Test.YtcloljkaojnipaaGreatDoorPgT
import Derived.Lib.SmallJoins
namespace Go.Proofs.YtcloljkaojnipaaGreatDoor
open Go.RowKit

/-- Two rows of paths of a call's own, apart from one another. -/
structure Rws (w : World) (N : Nat) (R W : List (List ByteArray)) (vR vW : Value) : Prop where
  R : PRowO w N vR vW R
  W : PRowO w N vW vR W
  ne : ∀ b, vR.ownBlock = some b → vW.ownBlock ≠ some b
  nR : ∀ s, vR ≠ .string s
  nW : ∀ s, vW ≠ .string s
theorem Rws.symm {w : World} {N : Nat} {R W : List (List ByteArray)} {vR vW : Value} (h : Rws w N R W vR vW) : Rws w N W R vW vR := ⟨h.W, h.R, fun b hb e => h.ne b e hb, h.nW, h.nR⟩
theorem Rws.below {w w' : World} {N : Nat} {R W : List (List ByteArray)} {vR vW : Value} (h : Rws w N R W vR vW) (hb : Below w.heap.size w w') : Rws w' N R W vR vW := ⟨h.R.below hb, h.W.below hb, h.ne, h.nR, h.nW⟩
theorem Rws.empty (w : World) (N : Nat) : Rws w N [] [] (.slice none 0 0) (.slice none 0 0) := ⟨PRowO.empty _ _ _, PRowO.empty _ _ _, fun b hb => (by cases hb), fun s => (by simp), fun s => (by simp)⟩
theorem own_block_ne {w : World} {base : Nat} {e : TypeId} {size : Nat} {v : Value} {n : Nat} {xs : List Value} {tb : Nat} {cs : Array Value} {t : TypeId} {fr : Nat × Nat} (h : w.ownsRow base e size v n xs) (hb : w.heap[tb]? = some (.cells cs t fr)) (ht : t ≠ e) (b : Nat) (hv : v.ownBlock = some b) : b ≠ tb := by
  intro q
  subst q
  rcases h.2 with ⟨rfl, _⟩ | ⟨g, cap, cur, rfl, _, h2, _⟩
  · cases hv
  · cases hv
    rw [hb] at h2
    cases h2
    exact ht rfl
/-- What stores into a block that holds no text and no path leave of them. -/
theorem Rws.far {w w' : World} {N g : Nat} {R W : List (List ByteArray)} {vR vW : Value} (h : Rws w N R W vR vW) {cs : Array Value} {t : TypeId} {fr : Nat × Nat} (hg : w.heap[g]? = some (.cells cs t fr)) (ht : t ≠ 26) (hcs : ∀ (i : Nat) (s : ByteArray), cs[i]? ≠ some (Value.string s)) (hT : Tu (fun k => k = g) w w') : Rws w' N R W vR vW := by
  have hown : ∀ v l ys, w.ownsRow N 26 1 v l ys → ∀ b, v.ownBlock = some b → ¬ b = g := fun v l ys ho b hb => own_block_ne ho hg ht b hb
  exact ⟨h.R.far hT (by obtain ⟨ys, k, _⟩ := h.R; exact hown _ _ ys k) (fun x c p hs hp ad hx => strs_far hg hcs hs hp ad hx), h.W.far hT (by obtain ⟨ys, k, _⟩ := h.W; exact hown _ _ ys k) (fun x c p hs hp ad hx => strs_far hg hcs hs hp ad hx), h.ne, h.nR, h.nW⟩
/-- A path is put behind those of the first row. -/
theorem Rws.put {w w3 : World} {N : Nat} {R W : List (List ByteArray)} {vR vW : Value} (h : Rws w N R W vR vW) {x : Option Addr} {c m : Nat} {p : List ByteArray} {xs : List Value} {v' : Value} (ox : w.ownsRow N 26 1 vR R.length xs) (ex : Elts w vR.ownBlock xs R) (ex' : Elts w vW.ownBlock xs R) (hs : Strs w x c p) (hx1 : Off x p vR.ownBlock) (hx2 : Off x p vW.ownBlock) (hxn : Off x p v'.ownBlock)
    (own3 : w3.ownsRow N 26 1 v' (R.length + 1) (xs ++ [.slice x p.length c])) (ht : Tu (fun k => vR.ownBlock = some k) w w3) (hat : v'.ownBlock = vR.ownBlock ∨ v'.ownBlock = some m) (hm : w.heap.size ≤ m) (hv : ∀ s, v' ≠ .string s) :
    Rws w3 N (R ++ [p]) W v' vW := by
  have hxl : xs.length = R.length := by simpa using ox.1
  have hkeep : ∀ (y : Option Addr) (d : Nat) (q : List ByteArray), Strs w y d q → Off y q vR.ownBlock → Strs w3 y d q := fun y d q k1 k2 => k1.tu ht (fun hl ad e q => k2 hl ad e q.symm)
  have hs3 := hkeep x c p hs hx1
  have hne : ∀ b, vW.ownBlock = some b → vR.ownBlock ≠ some b := fun b hb e => h.ne b e hb
  have R3 : PRowO w3 N v' vW (R ++ [p]) := by
    refine ⟨xs ++ [.slice x p.length c], by rw [List.length_append]; exact own3, elts_snoc hxl ex (fun y d q _ k1 k2 => hkeep y d q k1 k2) hs3 hxn hat hm, elts_snoc (m := m) hxl ex' (fun y d q hq k1 _ => ?_) hs3 hx2 (.inl rfl) hm⟩
    obtain ⟨i, hq⟩ := hq
    have hi : i < R.length := by
      rcases Nat.lt_or_ge i xs.length with hlt | hge
      · omega
      · rw [List.getElem?_eq_none hge] at hq; cases hq
    obtain ⟨y', d', k1', k2', k3'⟩ := ex i hi
    rw [hq] at k1'
    obtain ⟨rfl, hlen, rfl⟩ : y = y' ∧ q.length = (R[i]'hi).length ∧ d = d' := by simpa using k1'
    refine k1.tu ht (fun hl ad e q2 => k3' (fun e2 => hl (List.eq_nil_of_length_eq_zero (by rw [hlen, e2]; rfl))) ad e q2.symm)
  refine ⟨R3, h.W.other ht hne hat hm, ?_, hv, h.nW⟩
  intro b hb hw
  rcases hat with e | e
  · rw [e] at hb; exact h.ne b hb hw
  · rw [e] at hb
    obtain ⟨ys, k, _⟩ := h.W
    have := (k.lt b hw).2
    have := Option.some.inj hb
    omega

/-- The reference's words, where they lie. -/
structure WT (w : World) (b0 o0 c0 : Nat) : Prop where
  v : w.cell? ⟨0, 0, none⟩ = some (.slice (some ⟨b0, o0, none⟩) 6 c0)
  c : ∀ k, k < 6 → w.cell? ⟨b0, o0 + k, none⟩ = some (.string (Ln.bs (Pl.wd k ++ [32])))
theorem WT.lt {w : World} {b0 o0 c0 : Nat} (h : WT w b0 o0 c0) : b0 < w.heap.size := by
  refine Nat.lt_of_not_le fun hn => ?_
  have e : w.heap[b0]? = none := Array.getElem?_eq_none hn
  have := h.c 0 (by omega)
  simp [World.cell?, e] at this
theorem WT.gt {w : World} {b0 o0 c0 : Nat} (h : WT w b0 o0 c0) : 0 < w.heap.size := by
  refine Nat.lt_of_not_le fun hn => ?_
  have e : w.heap[0]? = none := Array.getElem?_eq_none hn
  have := h.v
  simp [World.cell?, e] at this
theorem WT.tu {O : Nat → Prop} {w w' : World} {b0 o0 c0 : Nat} (h : WT w b0 o0 c0) (ht : Tu O w w') (h0 : ¬ O 0) (h1 : ¬ O b0) : WT w' b0 o0 c0 :=
  ⟨(cell_blk (ht.block _ h.gt h0)).trans h.v, fun k hk => (cell_blk (ht.block _ h.lt h1)).trans (h.c k hk)⟩
theorem WT.below {w w' : World} {b0 o0 c0 : Nat} (h : WT w b0 o0 c0) (hb : Below w.heap.size w w') : WT w' b0 o0 c0 :=
  ⟨(cell_blk (hb.block _ h.gt)).trans h.v, fun k hk => (cell_blk (hb.block _ h.lt)).trans (h.c k hk)⟩

/-- What was told, as a row of truths. -/
def seenO (t : Nat → Bool) : Obj := .cells #[.bool false, .bool false, .bool (t 0), .bool (t 1), .bool (t 2), .bool (t 3)] 4 (0, 0)
/-- The reference's state as cells. -/
def stO (x0 x1 x2 x3 x4 x5 x6 : Value) : Obj := .cells #[x0, x1, x2, x3, x4, x5, x6] 70 (0, 0)
abbrev stC (S : Pl.PSt) (vR vW : Value) (g : Nat) : Array Value := #[vR, vW, .int .i64 (S.q 0 : Nat), .int .i64 (S.q 1 : Nat), .int .i64 (S.q 2 : Nat), .int .i64 (S.q 3 : Nat), .slice (some ⟨g, 0, none⟩) 6 6]
def zSt : Obj := stO (.slice none 0 0) (.slice none 0 0) (.int .i64 0) (.int .i64 0) (.int .i64 0) (.int .i64 0) (.slice none 0 0)
theorem cells_st {w : World} {g : Nat} {x0 x1 x2 x3 x4 x5 x6 : Value} (h : w.heap[g]? = some (stO x0 x1 x2 x3 x4 x5 x6)) : (w.cell? ⟨g, 0, none⟩ = some x0 ∧ w.cell? ⟨g, 1, none⟩ = some x1 ∧ w.cell? ⟨g, 2, none⟩ = some x2 ∧ w.cell? ⟨g, 3, none⟩ = some x3 ∧ w.cell? ⟨g, 4, none⟩ = some x4 ∧ w.cell? ⟨g, 5, none⟩ = some x5 ∧ w.cell? ⟨g, 6, none⟩ = some x6) ∧ ∀ j, w.frozen? ⟨g, j, none⟩ = false := by
  simp only [World.cell?, h]
  exact ⟨⟨rfl, rfl, rfl, rfl, rfl, rfl, rfl⟩, fun j => frozen_of_row w _ j _ _ h⟩
theorem st_nostr {x0 x1 x2 x3 x4 x5 x6 : Value} (h : ∀ s : ByteArray, x0 ≠ .string s ∧ x1 ≠ .string s ∧ x2 ≠ .string s ∧ x3 ≠ .string s ∧ x4 ≠ .string s ∧ x5 ≠ .string s ∧ x6 ≠ .string s) : ∀ (i : Nat) (s : ByteArray), (#[x0, x1, x2, x3, x4, x5, x6] : Array Value)[i]? ≠ some (Value.string s) := fun j s q => by
  obtain ⟨h0, h1, h2, h3, h4, h5, h6⟩ := h s
  rcases (show j = 0 ∨ j = 1 ∨ j = 2 ∨ j = 3 ∨ j = 4 ∨ j = 5 ∨ j = 6 ∨ 7 ≤ j by omega) with rfl | rfl | rfl | rfl | rfl | rfl | rfl | hj
  · exact h0 (Option.some.inj q)
  · exact h1 (Option.some.inj q)
  · exact h2 (Option.some.inj q)
  · exact h3 (Option.some.inj q)
  · exact h4 (Option.some.inj q)
  · exact h5 (Option.some.inj q)
  · exact h6 (Option.some.inj q)
  · rw [Array.getElem?_eq_none (by simpa using hj)] at q; cases q
theorem seen_nostr (t : Nat → Bool) : ∀ (i : Nat) (s : ByteArray), (#[.bool false, .bool false, .bool (t 0), .bool (t 1), .bool (t 2), .bool (t 3)] : Array Value)[i]? ≠ some (Value.string s) := fun j s q => by
  rcases (show j = 0 ∨ j = 1 ∨ j = 2 ∨ j = 3 ∨ j = 4 ∨ j = 5 ∨ 6 ≤ j by omega) with rfl | rfl | rfl | rfl | rfl | rfl | hj
  · cases Option.some.inj q
  · cases Option.some.inj q
  · cases Option.some.inj q
  · cases Option.some.inj q
  · cases Option.some.inj q
  · cases Option.some.inj q
  · rw [Array.getElem?_eq_none (by simpa using hj)] at q; cases q
/-- What lies in memory while the reference reads a policy. -/
structure Rst (w : World) (N g : Nat) (S : Pl.PSt) (vR vW : Value) : Prop where
  rows : Rws w N S.R S.W vR vW
  sn : w.heap[g]? = some (seenO S.t)
  gN : g < N
  NN : N ≤ w.heap.size
theorem Rst.below {w w' : World} {N g : Nat} {S : Pl.PSt} {vR vW : Value} (h : Rst w N g S vR vW) (hb : Below w.heap.size w w') : Rst w' N g S vR vW := ⟨h.rows.below hb, (hb.block _ (lt_of_block h.sn)).trans h.sn, h.gN, Nat.le_trans h.NN hb.size⟩
theorem Rst.sc {w : World} {N g : Nat} {S : Pl.PSt} {vR vW : Value} (h : Rst w N g S vR vW) (i : Nat) (hi : i < 4) : w.cell? ⟨g, 2 + i, none⟩ = some (.bool (S.t i)) := by
  simp only [World.cell?, h.sn, seenO]
  rcases (show i = 0 ∨ i = 1 ∨ i = 2 ∨ i = 3 by omega) with rfl | rfl | rfl | rfl <;> rfl
theorem Rst.sf {w : World} {N g : Nat} {S : Pl.PSt} {vR vW : Value} (h : Rst w N g S vR vW) (j : Nat) : w.frozen? ⟨g, j, none⟩ = false := frozen_of_row w _ j _ _ h.sn
theorem Rst.far {w w' : World} {N g n : Nat} {S : Pl.PSt} {vR vW : Value} (h : Rst w N g S vR vW) {x0 x1 x2 x3 x4 x5 x6 : Value} (hn : w.heap[n]? = some (stO x0 x1 x2 x3 x4 x5 x6)) (hs : ∀ s : ByteArray, x0 ≠ .string s ∧ x1 ≠ .string s ∧ x2 ≠ .string s ∧ x3 ≠ .string s ∧ x4 ≠ .string s ∧ x5 ≠ .string s ∧ x6 ≠ .string s) (hT : Tu (fun k => k = n) w w') : Rst w' N g S vR vW := by
  have hgn : g ≠ n := fun e => by
    have := h.sn
    rw [e, hn] at this
    simp [stO, seenO] at this
  exact ⟨h.rows.far hn (by decide) (st_nostr hs) hT, (hT.block _ (lt_of_block h.sn) hgn).trans h.sn, h.gN, Nat.le_trans h.NN hT.size⟩
/-- A number was told. -/
theorem Rst.tell {w : World} {N g : Nat} {S : Pl.PSt} {vR vW : Value} (h : Rst w N g S vR vW) (i : Nat) (hi : i < 4) (n : Nat) : Rst (w.setCell ⟨g, 2 + i, none⟩ (.bool true)) N g { S with q := Pl.upd S.q i n, t := Pl.upd S.t i true } vR vW := by
  have hT : Tu (fun k => k = g) w (w.setCell ⟨g, 2 + i, none⟩ (.bool true)) := (Tu.refl (fun k => k = g) w).setCell (p := ⟨g, 2 + i, none⟩) (fun _ => rfl) _
  refine ⟨h.rows.far h.sn (by decide) (seen_nostr S.t) hT, ?_, h.gN, Nat.le_trans h.NN hT.size⟩
  rw [heap_setCell_same _ _ _ _ _ _ h.sn]
  rcases (show i = 0 ∨ i = 1 ∨ i = 2 ∨ i = 3 by omega) with rfl | rfl | rfl | rfl <;> simp [seenO, Pl.upd]
end Go.Proofs.YtcloljkaojnipaaGreatDoor
namespace Go.Proofs.YtcloljkaojnipaaGreatDoor
open Go.RowKit

namespace Ln
theorem unqGo_le (L : List UInt8) : ∀ (f off : Nat) (out : List UInt8), (unqGo L f off out).2.1 ≤ L.length
  | 0, off, out => by simp [unqGo]
  | f + 1, off, out => by
    rw [unqGo]
    split
    · rename_i h
      show off + 1 ≤ _
      rcases Nat.lt_or_ge off L.length with h1 | h1
      · exact h1
      · rw [List.drop_eq_nil_of_le h1] at h; cases h
    · split
      · exact unqGo_le L f _ _
      · split
        · simp
        · exact unqGo_le L f _ _
theorem unqP_le (s : ByteArray) : (unqP s).2.1 ≤ s.size := by
  unfold unqP
  split
  · have := unqGo_le s.data.toList s.size 1 []; simpa using this
  · simp
end Ln
namespace Pl
theorem pre_yes {l : List UInt8} {s : ByteArray} (h : l <+: s.data.toList) : l.length ≤ s.size ∧ ((s.extract 0 l.length).toList == (Ln.bs l).toList) = true := by
  have h1 := h.length_le
  rw [Pl.szL] at h1
  refine ⟨h1, ?_⟩
  rw [Ln.extract_bs, Ln.bs_toList, Ln.bs_toList]
  obtain ⟨r, hr⟩ := h
  rw [← hr]
  simp
theorem pre_no {l : List UInt8} {s : ByteArray} (h : ¬ l <+: s.data.toList) : ((s.extract 0 l.length).toList == (Ln.bs l).toList) = false := by
  rw [Ln.extract_bs, Ln.bs_toList, Ln.bs_toList, beq_eq_false_iff_ne]
  intro e
  apply h
  rw [← e]
  simp [List.take_prefix]
/-- What stands behind a word. -/
theorem rest_is {k : Nat} {s : ByteArray} (h : (wd k ++ [32]) <+: s.data.toList) : s.data.toList = wd k ++ 32 :: (s.extract ((wd k ++ [32]).length) s.size).data.toList := by
  have h2 := wd_pre h
  rw [Ln.extract_bs]
  have e : (Ln.bs ((s.data.toList.drop (wd k ++ [32]).length).take (s.size - (wd k ++ [32]).length))).data.toList = s.data.toList.drop ((wd k).length + 1) := by
    show (s.data.toList.drop (wd k ++ [32]).length).take (s.size - (wd k ++ [32]).length) = _
    rw [List.take_of_length_le (by rw [List.length_drop, Pl.szL]; omega), List.length_append]
    rfl
  rw [e]
  exact h2
end Pl
theorem rnormal_nil (s : ByteArray) (w : World) (hs : s.size ≤ 16777216) :
    Calls Tryz.prog 77 #[.slice none 0 0, .string s] w fun e w' => ∃ a c, e = .returned (.tuple #[.slice a (Pl.normalP [] s).1.length c, .bool (Pl.normalP [] s).2.1, .int .i64 (Pl.normalP [] s).2.2]) ∧ Strs w' a c (Pl.normalP [] s).1 ∧ (∀ ad : Addr, a = some ad → w.heap.size ≤ ad.block ∧ ad.block < w'.heap.size) ∧ Below w.heap.size w w' := by
  refine (rnormal_any none 0 [] s w (Strs.empty w) (by omega)).mono ?_
  rintro e w' ⟨v, rfl, ho, hb⟩
  obtain ⟨h1, h2⟩ := Pl.normal_names [] s
  obtain ⟨a, c, rfl, h3, h4⟩ := own_strs_at ho (by omega) (names_size h1)
  exact ⟨a, c, rfl, h3, h4, hb⟩

/-- What a line leaves: the rule that it breaks, and, where it breaks none, the state. -/
def TkE (w : World) (N g : Nat) (r : Nat × Pl.PSt) (e : Ending) (w' : World) : Prop :=
  ∃ (p0 p1 p6 : Option Addr) (l0 k0 l1 k1 l6 k6 : Nat) (j2 j3 j4 j5 : Int), e = .returned (.tuple #[.agg #[.slice p0 l0 k0, .slice p1 l1 k1, .int .i64 j2, .int .i64 j3, .int .i64 j4, .int .i64 j5, .slice p6 l6 k6], .int .i64 (r.1 : Nat)]) ∧ Tu (fun k => k = g ∨ N ≤ k) w w' ∧ (r.1 = 0 → (#[.slice p0 l0 k0, .slice p1 l1 k1, .int .i64 j2, .int .i64 j3, .int .i64 j4, .int .i64 j5, .slice p6 l6 k6] : Array Value) = stC r.2 (.slice p0 l0 k0) (.slice p1 l1 k1) g ∧ Rst w' N g r.2 (.slice p0 l0 k0) (.slice p1 l1 k1))
def put7 (w : World) (g : Nat) (x0 x1 x2 x3 x4 x5 x6 : Value) : World := ((((((w.setCell ⟨g, 0, none⟩ x0).setCell ⟨g, 1, none⟩ x1).setCell ⟨g, 2, none⟩ x2).setCell ⟨g, 3, none⟩ x3).setCell ⟨g, 4, none⟩ x4).setCell ⟨g, 5, none⟩ x5).setCell ⟨g, 6, none⟩ x6
theorem put7_at {w : World} {g : Nat} {a0 a1 a2 a3 a4 a5 a6 : Value} (hg : w.heap[g]? = some (stO a0 a1 a2 a3 a4 a5 a6)) (x0 x1 x2 x3 x4 x5 x6 : Value) :
    (put7 w g x0 x1 x2 x3 x4 x5 x6).heap[g]? = some (stO x0 x1 x2 x3 x4 x5 x6) ∧ Tu (fun k => k = g) w (put7 w g x0 x1 x2 x3 x4 x5 x6) := by
  have k1 := heap_setCell_same _ g 0 _ _ x0 hg
  have k2 := heap_setCell_same _ g 1 _ _ x1 k1
  have k3 := heap_setCell_same _ g 2 _ _ x2 k2
  have k4 := heap_setCell_same _ g 3 _ _ x3 k3
  have k5 := heap_setCell_same _ g 4 _ _ x4 k4
  have k6 := heap_setCell_same _ g 5 _ _ x5 k5
  have k7 := heap_setCell_same _ g 6 _ _ x6 k6
  refine ⟨?_, ?_⟩
  · unfold put7
    rw [k7]; simp [stO]
  · unfold put7
    exact (((((((Tu.refl (fun k => k = g) w).setCell (p := ⟨g, 0, none⟩) (fun _ => rfl) _).setCell (p := ⟨g, 1, none⟩) (fun _ => rfl) _).setCell (p := ⟨g, 2, none⟩) (fun _ => rfl) _).setCell (p := ⟨g, 3, none⟩) (fun _ => rfl) _).setCell (p := ⟨g, 4, none⟩) (fun _ => rfl) _).setCell (p := ⟨g, 5, none⟩) (fun _ => rfl) _).setCell (p := ⟨g, 6, none⟩) (fun _ => rfl) _
theorem results_st {fn : Func} {p a : Tmp} (h : fn.results = #[.cell p 70, .tmp a]) (tmps : Array Value) (w : World) (g : Nat) (x0 x1 x2 x3 x4 x5 x6 : Value)
    (hp : tmps.getD p undef = .pointer (some ⟨g, 0, none⟩)) (hg : w.heap[g]? = some (stO x0 x1 x2 x3 x4 x5 x6)) :
    (results fn tmps).run Tryz.prog w = .ok (.tuple #[.agg #[x0, x1, x2, x3, x4, x5, x6], tmps.getD a undef]) w := by
  have hp' : tmps[p]?.getD undef = .pointer (some ⟨g, 0, none⟩) := by simpa using hp
  have hl := run_loadVar_row (P := Tryz.prog) w g 70 70 #[x0, x1, x2, x3, x4, x5, x6] (0, 0) _ hg Tryz.underlying70 rfl (by kernel_rfl)
  simp [results, h, hp', asAddr, hl]
/-- The state that a line is handed lies in block n, a zero one behind it. -/
structure Bz (n : Nat) (w : World) (x0 x1 x2 x3 x4 x5 x6 : Value) : Prop where
  x : w.heap[n]? = some (stO x0 x1 x2 x3 x4 x5 x6)
  z : w.heap[n + 1]? = some zSt
theorem Bz.under {n : Nat} {w w' : World} {x0 x1 x2 x3 x4 x5 x6 : Value} (h : Bz n w x0 x1 x2 x3 x4 x5 x6) (hb : Below w.heap.size w w') : Bz n w' x0 x1 x2 x3 x4 x5 x6 := ⟨(hb.block _ (lt_of_block h.x)).trans h.x, (hb.block _ (lt_of_block h.z)).trans h.z⟩
theorem Bz.tu {O : Nat → Prop} {n : Nat} {w w' : World} {x0 x1 x2 x3 x4 x5 x6 : Value} (h : Bz n w x0 x1 x2 x3 x4 x5 x6) (ht : Tu O w w') (h0 : ¬ O n) (h1 : ¬ O (n + 1)) : Bz n w' x0 x1 x2 x3 x4 x5 x6 := ⟨(ht.block _ (lt_of_block h.x) h0).trans h.x, (ht.block _ (lt_of_block h.z) h1).trans h.z⟩
theorem bz_new (w : World) (x0 x1 x2 x3 x4 x5 x6 : Value) : Bz w.heap.size ((w.alloc (stO x0 x1 x2 x3 x4 x5 x6)).alloc zSt) x0 x1 x2 x3 x4 x5 x6 :=
  ⟨by rw [heap_alloc_old _ _ (by simp)]; exact heap_alloc_new _ _, by rw [show w.heap.size + 1 = (w.alloc (stO x0 x1 x2 x3 x4 x5 x6)).heap.size from by simp]; exact heap_alloc_new _ _⟩
/-- A rule was broken. -/
theorem tk_bad {w w5 : World} {N g n : Nat} {r : Nat × Pl.PSt} {p0 p1 p6 : Option Addr} {l0 k0 l1 k1 l6 k6 : Nat} {j2 j3 j4 j5 : Int} (hn : N ≤ n) (hr : r.1 ≠ 0) (hb : Bz n w5 (.slice p0 l0 k0) (.slice p1 l1 k1) (.int .i64 j2) (.int .i64 j3) (.int .i64 j4) (.int .i64 j5) (.slice p6 l6 k6)) (ht : Tu (fun k => k = g ∨ N ≤ k) w w5) : TkE w N g r (.returned (.tuple #[.agg #[.slice p0 l0 k0, .slice p1 l1 k1, .int .i64 j2, .int .i64 j3, .int .i64 j4, .int .i64 j5, .slice p6 l6 k6], .int .i64 (r.1 : Nat)])) (put7 w5 (n + 1) (.slice p0 l0 k0) (.slice p1 l1 k1) (.int .i64 j2) (.int .i64 j3) (.int .i64 j4) (.int .i64 j5) (.slice p6 l6 k6)) :=
  ⟨_, _, _, _, _, _, _, _, _, _, _, _, _, rfl, ht.trans (put7_at hb.z _ _ _ _ _ _ _).2 (fun k _ e => .inr (by omega)), fun e => absurd e hr⟩
/-- None was. -/
theorem tk_ok {w w5 : World} {N g n : Nat} {S : Pl.PSt} {p0 p1 : Option Addr} {l0 k0 l1 k1 : Nat} (hn : N ≤ n) (hb : Bz n w5 (.slice p0 l0 k0) (.slice p1 l1 k1) (.int .i64 (S.q 0 : Nat)) (.int .i64 (S.q 1 : Nat)) (.int .i64 (S.q 2 : Nat)) (.int .i64 (S.q 3 : Nat)) (.slice (some ⟨g, 0, none⟩) 6 6)) (ht : Tu (fun k => k = g ∨ N ≤ k) w w5) (hs : Rst w5 N g S (.slice p0 l0 k0) (.slice p1 l1 k1)) : TkE w N g (0, S) (.returned (.tuple #[.agg (stC S (.slice p0 l0 k0) (.slice p1 l1 k1) g), .int .i64 0])) (put7 w5 (n + 1) (.slice p0 l0 k0) (.slice p1 l1 k1) (.int .i64 (S.q 0 : Nat)) (.int .i64 (S.q 1 : Nat)) (.int .i64 (S.q 2 : Nat)) (.int .i64 (S.q 3 : Nat)) (.slice (some ⟨g, 0, none⟩) 6 6)) := by
  have hp := (put7_at hb.z (.slice p0 l0 k0) (.slice p1 l1 k1) (.int .i64 (S.q 0 : Nat)) (.int .i64 (S.q 1 : Nat)) (.int .i64 (S.q 2 : Nat)) (.int .i64 (S.q 3 : Nat)) (.slice (some ⟨g, 0, none⟩) 6 6)).2
  exact ⟨_, _, _, _, _, _, _, _, _, _, _, _, _, rfl, ht.trans hp (fun k _ e => .inr (by omega)), fun _ => ⟨rfl, hs.far hb.z (fun s => ⟨by simp, by simp, by simp, by simp, by simp, by simp, by simp⟩) hp⟩⟩
end Go.Proofs.YtcloljkaojnipaaGreatDoor
namespace Go.Proofs.YtcloljkaojnipaaGreatDoor
open Go.RowKit

theorem Tu.drewN {O : Nat → Prop} {A B : World} (h : Tu O A B) (n : Nat) : Tu O A (B.drewN n) := ⟨h.os, h.tape, h.output, h.size, h.block⟩
theorem Bz.drewN {n : Nat} {w : World} {x0 x1 x2 x3 x4 x5 x6 : Value} (h : Bz n w x0 x1 x2 x3 x4 x5 x6) (m : Nat) : Bz n (w.drewN m) x0 x1 x2 x3 x4 x5 x6 := ⟨h.x, h.z⟩
theorem Rst.drewN {w : World} {N g : Nat} {S : Pl.PSt} {vR vW : Value} (h : Rst w N g S vR vW) (m : Nat) : Rst (w.drewN m) N g S vR vW := h.below ⟨rfl, rfl, rfl, Nat.le_refl _, fun _ _ => rfl⟩
theorem tk_appR {w2 w3 : World} {N g n : Nat} {S : Pl.PSt} {vR vW v' : Value} {a : Option Addr} {c : Nat} {p : List ByteArray} {xs : List Value} {o : Obj} (hb : Bz n w2 vR vW (.int .i64 (S.q 0 : Nat)) (.int .i64 (S.q 1 : Nat)) (.int .i64 (S.q 2 : Nat)) (.int .i64 (S.q 3 : Nat)) (.slice (some ⟨g, 0, none⟩) 6 6)) (hr : Rst w2 N g S vR vW) (hn : N ≤ n)
    (ox : w2.ownsRow N 26 1 vR S.R.length xs) (ex : Elts w2 vR.ownBlock xs S.R) (ex' : Elts w2 vW.ownBlock xs S.R) (hs : Strs w2 a c p) (hx1 : Off a p vR.ownBlock) (hx2 : Off a p vW.ownBlock)
    (own3 : w3.ownsRow N 26 1 v' (S.R.length + 1) (xs ++ [.slice a p.length c])) (hg : (w2.alloc o).grownBy w3 vR.ownBlock) (hat : v'.ownBlock = vR.ownBlock ∨ v'.ownBlock = some (w2.alloc o).heap.size) (hv : ∀ s, v' ≠ .string s) :
    (Bz n w3 vR vW (.int .i64 (S.q 0 : Nat)) (.int .i64 (S.q 1 : Nat)) (.int .i64 (S.q 2 : Nat)) (.int .i64 (S.q 3 : Nat)) (.slice (some ⟨g, 0, none⟩) 6 6)) ∧ Bz n (w3.setCell ⟨n, 0, none⟩ v') v' vW (.int .i64 (S.q 0 : Nat)) (.int .i64 (S.q 1 : Nat)) (.int .i64 (S.q 2 : Nat)) (.int .i64 (S.q 3 : Nat)) (.slice (some ⟨g, 0, none⟩) 6 6) ∧ Rst (w3.setCell ⟨n, 0, none⟩ v') N g { S with R := S.R ++ [p] } v' vW ∧ Tu (fun k => k = g ∨ N ≤ k) w2 (w3.setCell ⟨n, 0, none⟩ v') := by
  have hs4 : (w2.alloc o).heap.size = w2.heap.size + 1 := by simp
  have tu : Tu (fun k => vR.ownBlock = some k) w2 w3 := by
    have y : Below w2.heap.size w2 (w2.alloc o) := (Below.refl _ w2).alloc (Nat.le_refl _) o
    exact ⟨hg.os.trans y.os, hg.tape.trans y.tape, hg.output.trans y.output, Nat.le_trans y.size hg.size, fun k hk hn => (hg.block k (by omega) (fun e => hn e.symm)).trans (y.block k hk)⟩
  have hat' : v'.ownBlock = vR.ownBlock ∨ v'.ownBlock = some (w2.heap.size + 1) := by rw [← hs4]; exact hat
  have hxn : Off a p v'.ownBlock := by
    rcases hat' with e | e
    · rw [e]; exact hx1
    · rw [e]; exact hs.off (by omega)
  have n0 : ¬ vR.ownBlock = some n := fun e => own_block_ne ox hb.x (by decide) n e rfl
  have n1 : ¬ vR.ownBlock = some (n + 1) := fun e => own_block_ne ox (show w2.heap[n + 1]? = some (stO _ _ _ _ _ _ _) from hb.z) (by decide) (n + 1) e rfl
  have n2 : ¬ vR.ownBlock = some g := fun e => own_block_ne ox hr.sn (by decide) g e rfl
  have b3 : Bz n w3 vR vW (.int .i64 (S.q 0 : Nat)) (.int .i64 (S.q 1 : Nat)) (.int .i64 (S.q 2 : Nat)) (.int .i64 (S.q 3 : Nat)) (.slice (some ⟨g, 0, none⟩) 6 6) := hb.tu tu n0 n1
  have t4 : Tu (fun k => k = n) w3 (w3.setCell ⟨n, 0, none⟩ v') := (Tu.refl (fun k => k = n) w3).setCell (p := ⟨n, 0, none⟩) (fun _ => rfl) _
  have r3 : Rst w3 N g { S with R := S.R ++ [p] } v' vW := ⟨(hr.rows.put ox ex ex' hs hx1 hx2 hxn own3 tu hat' (by omega) hv), (tu.block _ (lt_of_block hr.sn) n2).trans hr.sn, hr.gN, Nat.le_trans hr.NN tu.size⟩
  have b4 : Bz n (w3.setCell ⟨n, 0, none⟩ v') v' vW (.int .i64 (S.q 0 : Nat)) (.int .i64 (S.q 1 : Nat)) (.int .i64 (S.q 2 : Nat)) (.int .i64 (S.q 3 : Nat)) (.slice (some ⟨g, 0, none⟩) 6 6) := ⟨by rw [heap_setCell_same _ _ _ _ _ _ b3.x]; simp [stO], (t4.block _ (lt_of_block b3.z) (by omega)).trans b3.z⟩
  refine ⟨b3, b4, r3.far b3.x (fun s => ⟨hr.rows.nR s, hr.rows.nW s, by simp, by simp, by simp, by simp, by simp⟩) t4, ?_⟩
  exact (tu.mono (O' := fun k => k = g ∨ N ≤ k) (fun k _ e => .inr (ox.lt k e).1)).trans t4 (fun k _ e => .inr (by omega))
theorem tk_appW {w2 w3 : World} {N g n : Nat} {S : Pl.PSt} {vR vW v' : Value} {a : Option Addr} {c : Nat} {p : List ByteArray} {xs : List Value} {o : Obj} (hb : Bz n w2 vR vW (.int .i64 (S.q 0 : Nat)) (.int .i64 (S.q 1 : Nat)) (.int .i64 (S.q 2 : Nat)) (.int .i64 (S.q 3 : Nat)) (.slice (some ⟨g, 0, none⟩) 6 6)) (hr : Rst w2 N g S vR vW) (hn : N ≤ n)
    (ox : w2.ownsRow N 26 1 vW S.W.length xs) (ex : Elts w2 vW.ownBlock xs S.W) (ex' : Elts w2 vR.ownBlock xs S.W) (hs : Strs w2 a c p) (hx1 : Off a p vW.ownBlock) (hx2 : Off a p vR.ownBlock)
    (own3 : w3.ownsRow N 26 1 v' (S.W.length + 1) (xs ++ [.slice a p.length c])) (hg : (w2.alloc o).grownBy w3 vW.ownBlock) (hat : v'.ownBlock = vW.ownBlock ∨ v'.ownBlock = some (w2.alloc o).heap.size) (hv : ∀ s, v' ≠ .string s) :
    (Bz n w3 vR vW (.int .i64 (S.q 0 : Nat)) (.int .i64 (S.q 1 : Nat)) (.int .i64 (S.q 2 : Nat)) (.int .i64 (S.q 3 : Nat)) (.slice (some ⟨g, 0, none⟩) 6 6)) ∧ Bz n (w3.setCell ⟨n, 1, none⟩ v') vR v' (.int .i64 (S.q 0 : Nat)) (.int .i64 (S.q 1 : Nat)) (.int .i64 (S.q 2 : Nat)) (.int .i64 (S.q 3 : Nat)) (.slice (some ⟨g, 0, none⟩) 6 6) ∧ Rst (w3.setCell ⟨n, 1, none⟩ v') N g { S with W := S.W ++ [p] } vR v' ∧ Tu (fun k => k = g ∨ N ≤ k) w2 (w3.setCell ⟨n, 1, none⟩ v') := by
  have hs4 : (w2.alloc o).heap.size = w2.heap.size + 1 := by simp
  have tu : Tu (fun k => vW.ownBlock = some k) w2 w3 := by
    have y : Below w2.heap.size w2 (w2.alloc o) := (Below.refl _ w2).alloc (Nat.le_refl _) o
    exact ⟨hg.os.trans y.os, hg.tape.trans y.tape, hg.output.trans y.output, Nat.le_trans y.size hg.size, fun k hk hn => (hg.block k (by omega) (fun e => hn e.symm)).trans (y.block k hk)⟩
  have hat' : v'.ownBlock = vW.ownBlock ∨ v'.ownBlock = some (w2.heap.size + 1) := by rw [← hs4]; exact hat
  have hxn : Off a p v'.ownBlock := by
    rcases hat' with e | e
    · rw [e]; exact hx1
    · rw [e]; exact hs.off (by omega)
  have n0 : ¬ vW.ownBlock = some n := fun e => own_block_ne ox hb.x (by decide) n e rfl
  have n1 : ¬ vW.ownBlock = some (n + 1) := fun e => own_block_ne ox (show w2.heap[n + 1]? = some (stO _ _ _ _ _ _ _) from hb.z) (by decide) (n + 1) e rfl
  have n2 : ¬ vW.ownBlock = some g := fun e => own_block_ne ox hr.sn (by decide) g e rfl
  have b3 : Bz n w3 vR vW (.int .i64 (S.q 0 : Nat)) (.int .i64 (S.q 1 : Nat)) (.int .i64 (S.q 2 : Nat)) (.int .i64 (S.q 3 : Nat)) (.slice (some ⟨g, 0, none⟩) 6 6) := hb.tu tu n0 n1
  have t4 : Tu (fun k => k = n) w3 (w3.setCell ⟨n, 1, none⟩ v') := (Tu.refl (fun k => k = n) w3).setCell (p := ⟨n, 1, none⟩) (fun _ => rfl) _
  have r3 : Rst w3 N g { S with W := S.W ++ [p] } vR v' := ⟨(hr.rows.symm.put ox ex ex' hs hx1 hx2 hxn own3 tu hat' (by omega) hv).symm, (tu.block _ (lt_of_block hr.sn) n2).trans hr.sn, hr.gN, Nat.le_trans hr.NN tu.size⟩
  have b4 : Bz n (w3.setCell ⟨n, 1, none⟩ v') vR v' (.int .i64 (S.q 0 : Nat)) (.int .i64 (S.q 1 : Nat)) (.int .i64 (S.q 2 : Nat)) (.int .i64 (S.q 3 : Nat)) (.slice (some ⟨g, 0, none⟩) 6 6) := ⟨by rw [heap_setCell_same _ _ _ _ _ _ b3.x]; simp [stO], (t4.block _ (lt_of_block b3.z) (by omega)).trans b3.z⟩
  refine ⟨b3, b4, r3.far b3.x (fun s => ⟨hr.rows.nR s, hr.rows.nW s, by simp, by simp, by simp, by simp, by simp⟩) t4, ?_⟩
  exact (tu.mono (O' := fun k => k = g ∨ N ≤ k) (fun k _ e => .inr (ox.lt k e).1)).trans t4 (fun k _ e => .inr (by omega))
theorem tk_num {w : World} {N g n : Nat} {S : Pl.PSt} {vR vW : Value} (hb : Bz n w vR vW (.int .i64 (S.q 0 : Nat)) (.int .i64 (S.q 1 : Nat)) (.int .i64 (S.q 2 : Nat)) (.int .i64 (S.q 3 : Nat)) (.slice (some ⟨g, 0, none⟩) 6 6)) (hr : Rst w N g S vR vW) (hn : N ≤ n) (i : Nat) (hi : i < 4) (v : Nat) :
    Bz n ((w.setCell ⟨g, 2 + i, none⟩ (.bool true)).setCell ⟨n, 2 + i, none⟩ (.int .i64 (v : Int))) vR vW (.int .i64 (Pl.upd S.q i v 0 : Nat)) (.int .i64 (Pl.upd S.q i v 1 : Nat)) (.int .i64 (Pl.upd S.q i v 2 : Nat)) (.int .i64 (Pl.upd S.q i v 3 : Nat)) (.slice (some ⟨g, 0, none⟩) 6 6) ∧ Rst ((w.setCell ⟨g, 2 + i, none⟩ (.bool true)).setCell ⟨n, 2 + i, none⟩ (.int .i64 (v : Int))) N g { S with q := Pl.upd S.q i v, t := Pl.upd S.t i true } vR vW ∧ Tu (fun k => k = g ∨ N ≤ k) w ((w.setCell ⟨g, 2 + i, none⟩ (.bool true)).setCell ⟨n, 2 + i, none⟩ (.int .i64 (v : Int))) := by
  have hgN := hr.gN
  have t3 : Tu (fun k => k = g) w (w.setCell ⟨g, 2 + i, none⟩ (.bool true)) := (Tu.refl (fun k => k = g) w).setCell (p := ⟨g, 2 + i, none⟩) (fun _ => rfl) _
  have b3 := hb.tu t3 (by omega) (by omega)
  have r3 := hr.tell i hi v
  have t4 : Tu (fun k => k = n) (w.setCell ⟨g, 2 + i, none⟩ (.bool true)) ((w.setCell ⟨g, 2 + i, none⟩ (.bool true)).setCell ⟨n, 2 + i, none⟩ (.int .i64 (v : Int))) := (Tu.refl (fun k => k = n) _).setCell (p := ⟨n, 2 + i, none⟩) (fun _ => rfl) _
  refine ⟨⟨?_, (t4.block _ (lt_of_block b3.z) (by omega)).trans b3.z⟩, r3.far b3.x (fun s => ⟨hr.rows.nR s, hr.rows.nW s, by simp, by simp, by simp, by simp, by simp⟩) t4, ?_⟩
  · rw [heap_setCell_same _ _ _ _ _ _ b3.x]
    rcases (show i = 0 ∨ i = 1 ∨ i = 2 ∨ i = 3 by omega) with rfl | rfl | rfl | rfl <;> simp [stO, Pl.upd]
  · exact (t3.mono (O' := fun k => k = g ∨ N ≤ k) (fun k _ e => .inl e)).trans t4 (fun k _ e => .inr (by omega))
end Go.Proofs.YtcloljkaojnipaaGreatDoor
