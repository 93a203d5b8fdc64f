/- What a tree's owner may write over: what of the memory turns, and what of the tree is left. What the law's spoil turns: nothing but its tree's own memory. A list that its owner writes over: each path in a row of its own. -/
import Derived.Test.YtfbhofomcenabaaGreatDoorUC
import Derived.Test.YtfbhofomcenabaaGreatDoorUD
import Derived.Deep.DeepCutAuto
import Derived.Test.YtfbhofomcenabaaGreatDoorFTList
namespace Go.Proofs.YtfbhofomcenabaaGreatDoor
open Go Go.RowKit

namespace Ft
/-- Of the old blocks none has turned but those between lo and hi. -/
structure Outs (lo hi : Nat) (w w' : World) : Prop where
  os : w'.os = w.os
  tape : w'.tape = w.tape
  output : w'.output = w.output
  size : w.heap.size ≤ w'.heap.size
  block : ∀ k, k < w.heap.size → (k < lo ∨ hi ≤ k) → w'.heap[k]? = w.heap[k]?
theorem Outs.refl (lo hi : Nat) (w : World) : Outs lo hi w w := ⟨rfl, rfl, rfl, Nat.le_refl _, fun _ _ _ => rfl⟩
theorem Outs.of {lo hi : Nat} {w w' : World} (h : Below w.heap.size w w') : Outs lo hi w w' := ⟨h.os, h.tape, h.output, h.size, fun k hk _ => h.block k hk⟩
theorem Outs.trans {lo hi : Nat} {w w1 w2 : World} (h : Outs lo hi w w1) (h' : Outs lo hi w1 w2) : Outs lo hi w w2 := ⟨h'.os.trans h.os, h'.tape.trans h.tape, h'.output.trans h.output, Nat.le_trans h.size h'.size, fun k hk ho => (h'.block k (Nat.lt_of_lt_of_le hk h.size) ho).trans (h.block k hk ho)⟩
theorem Outs.widen {lo hi lo' hi' : Nat} {w w' : World} (h : Outs lo hi w w') (h1 : lo' ≤ lo) (h2 : hi ≤ hi') : Outs lo' hi' w w' := ⟨h.os, h.tape, h.output, h.size, fun k hk ho => h.block k hk (by omega)⟩
theorem Outs.setCell {lo hi : Nat} {w w' : World} (h : Outs lo hi w w') {g j : Nat} (hg : (lo ≤ g ∧ g < hi) ∨ w.heap.size ≤ g) (v : Value) : Outs lo hi w (w'.setCell ⟨g, j, none⟩ v) :=
  have hb := (Below.refl 0 w').setCell (p := ⟨g, j, none⟩) (Nat.zero_le _) v
  ⟨hb.os.trans h.os, hb.tape.trans h.tape, hb.output.trans h.output, by simpa using h.size, fun k hk ho => (heap_setCell_other w' ⟨g, j, none⟩ k v (show k ≠ g by omega)).trans (h.block k hk ho)⟩
theorem Outs.grown {lo hi : Nat} {w w1 w2 : World} {row : Option Nat} (h : Outs lo hi w w1) (hg : w1.grownBy w2 row) (hr : ∀ g, row = some g → (lo ≤ g ∧ g < hi) ∨ w.heap.size ≤ g) : Outs lo hi w w2 :=
  ⟨hg.os.trans h.os, hg.tape.trans h.tape, hg.output.trans h.output, Nat.le_trans h.size hg.size, fun k hk ho => (hg.block k (Nat.lt_of_lt_of_le hk h.size) (fun e => by have := hr k e.symm; omega)).trans (h.block k hk ho)⟩
theorem Outs.alloc {lo hi : Nat} {w w' : World} (h : Outs lo hi w w') (o : Obj) : Outs lo hi w (w'.alloc o) := h.trans (.of ((Below.refl _ _).alloc (Nat.le_refl _) o))
/-- What old blocks below lo hold. -/
theorem Outs.below {lo hi B : Nat} {w w' : World} (h : Outs lo hi w w') (hB : B ≤ lo) (hB2 : B ≤ w.heap.size) : Below B w w' := ⟨h.os, h.tape, h.output, h.size, fun k hk => h.block k (by omega) (by omega)⟩
/-- What is left of a row of files from the i-th one on. -/
def RemB (w : World) (b cap : Nat) (l : List FT) (vs : Nat → Option Addr × Nat) (iv : Nat → Nat × Nat) (i : Nat) : Prop :=
  ∃ cur, w.heap[b]? = some (.cells cur 25 (0, 0)) ∧ cur.size = cap * 4 ∧ ∀ j (h : j < l.length), i ≤ j → Four w b (j * 4) (l[j]) (vs j).1 (vs j).2 ∧ Fdx w (iv j).1 (iv j).2 (l[j]) (vs j).1 (vs j).2
theorem RemB.outs {w w' : World} {b cap i lo hi : Nat} {l : List FT} {vs : Nat → Option Addr × Nat} {iv : Nat → Nat × Nat} (h : RemB w b cap l vs iv i) (ho : Outs lo hi w w') (hb : b < lo ∨ hi ≤ b) (hs : ∀ j, i + 1 ≤ j → j < l.length → hi ≤ (iv j).1 ∧ (iv j).2 ≤ w.heap.size) (hbl : b < w.heap.size) : RemB w' b cap l vs iv (i + 1) := by
  obtain ⟨cur, h1, h2, h3⟩ := h
  have hk := ho.block b hbl hb
  refine ⟨cur, hk.trans h1, h2, fun j hj hij => ?_⟩
  obtain ⟨f, x⟩ := h3 j hj (by omega)
  have hj2 := hs j hij hj
  exact ⟨f.same hk, x.same (fun k h4 h5 => ho.block k (by omega) (by omega))⟩
/-- A file of the row is written over. -/
theorem RemB.put {w : World} {b cap i : Nat} {l : List FT} {vs : Nat → Option Addr × Nat} {iv : Nat → Nat × Nat} (h : RemB w b cap l vs iv (i + 1)) (hiv : ∀ j, i + 1 ≤ j → j < l.length → b < (iv j).1 ∨ (iv j).2 ≤ b) (v0 v1 v2 v3 : Value) :
    RemB ((((w.setCell ⟨b, i * 4, none⟩ v0).setCell ⟨b, i * 4 + 1, none⟩ v1).setCell ⟨b, i * 4 + 2, none⟩ v2).setCell ⟨b, i * 4 + 3, none⟩ v3) b cap l vs iv (i + 1) := by
  obtain ⟨cur, h1, h2, h3⟩ := h
  obtain ⟨W, hW⟩ : ∃ W, W = (((w.setCell ⟨b, i * 4, none⟩ v0).setCell ⟨b, i * 4 + 1, none⟩ v1).setCell ⟨b, i * 4 + 2, none⟩ v2).setCell ⟨b, i * 4 + 3, none⟩ v3 := ⟨_, rfl⟩
  have e4 : W.heap[b]? = some (.cells ((((cur.setIfInBounds (i * 4) v0).setIfInBounds (i * 4 + 1) v1).setIfInBounds (i * 4 + 2) v2).setIfInBounds (i * 4 + 3) v3) 25 (0, 0)) := by
    rw [hW]
    exact heap_setCell_same _ b _ _ _ v3 (heap_setCell_same _ b _ _ _ v2 (heap_setCell_same _ b _ _ _ v1 (heap_setCell_same _ b _ _ _ v0 h1)))
  have hoth : ∀ k, k ≠ b → W.heap[k]? = w.heap[k]? := fun k hk => by
    rw [hW, heap_setCell_other _ ⟨b, i * 4 + 3, none⟩ k _ hk, heap_setCell_other _ ⟨b, i * 4 + 2, none⟩ k _ hk, heap_setCell_other _ ⟨b, i * 4 + 1, none⟩ k _ hk, heap_setCell_other _ ⟨b, i * 4, none⟩ k _ hk]
  have hcell : ∀ k, (i + 1) * 4 ≤ k → W.cell? ⟨b, k, none⟩ = w.cell? ⟨b, k, none⟩ := fun k hk => by
    rw [cell_of_row W b k _ _ _ e4, cell_of_row w b k _ _ _ h1]
    rw [Array.getElem?_setIfInBounds_ne (by omega), Array.getElem?_setIfInBounds_ne (by omega), Array.getElem?_setIfInBounds_ne (by omega), Array.getElem?_setIfInBounds_ne (by omega)]
  rw [← hW]
  refine ⟨_, e4, by simp [h2], fun j hj hij => ?_⟩
  obtain ⟨⟨f0, f1, f2, f3⟩, x⟩ := h3 j hj hij
  have hij4 : (i + 1) * 4 ≤ j * 4 := Nat.mul_le_mul_right 4 hij
  exact ⟨⟨(hcell _ (by omega)).trans f0, (hcell _ (by omega)).trans f1, (hcell _ (by omega)).trans f2, (hcell _ (by omega)).trans f3⟩, x.same (fun k h4 h5 => hoth k (fun e => by have := hiv j hij hj; omega))⟩
/-- The row, as one that an append may go on. -/
theorem RemB.own {w : World} {b cap i : Nat} {l : List FT} {vs : Nat → Option Addr × Nat} {iv : Nat → Nat × Nat} (h : RemB w b cap l vs iv i) (hr : l.length ≤ cap) (hm : cap ≤ maxLen) : ∃ xs, w.ownsRow 0 25 4 (.slice (some ⟨b, 0, none⟩) l.length cap) l.length xs := by
  obtain ⟨cur, h1, h2, _⟩ := h
  refine ⟨cur.toList.take (l.length * 4), ?_, .inr ⟨b, cap, cur, rfl, Nat.zero_le _, h1, hr, hm, h2, rfl⟩⟩
  have e : cur.toList.length = cap * 4 := by rw [Array.length_toList]; exact h2
  have := Nat.mul_le_mul_right 4 hr
  rw [List.length_take, e]
  omega
end Ft
end Go.Proofs.YtfbhofomcenabaaGreatDoor
namespace Go.Proofs.YtfbhofomcenabaaGreatDoor
open Go Go.RowKit

namespace Ft
theorem own_grown_at {w' : World} {base N : Nat} {v' : Value} {xs : List Value} (h : w'.ownsRow base 25 4 v' N xs) (hN : N ≠ 0) : ∃ g c cur, v' = .slice (some ⟨g, 0, none⟩) N c ∧ w'.heap[g]? = some (.cells cur 25 (0, 0)) ∧ N * 4 ≤ cur.size ∧ N ≤ c ∧ c ≤ maxLen := by
  rcases h.2 with ⟨_, hz⟩ | ⟨g, cap, cur, hv, _, hg, hc, hm, hs, _⟩
  · exact absurd hz hN
  · exact ⟨g, cap, cur, hv, hg, by rw [hs]; exact Nat.mul_le_mul_right 4 hc, hc, hm⟩
theorem zero2_new (w : World) : ∀ j u, (fourL (zF, none, 0) ++ fourL (zF, none, 0))[j]? = some u → (w.alloc (.cells #[.string ⟨#[]⟩, .int .u8 0, .string ⟨#[]⟩, .slice none 0 0, .string ⟨#[]⟩, .int .u8 0, .string ⟨#[]⟩, .slice none 0 0] 25)).cell? ((⟨w.heap.size, 0, none⟩ : Addr).add j) = some u := by
  intro j u hu
  have h := heap_alloc_new w (.cells #[.string ⟨#[]⟩, .int .u8 0, .string ⟨#[]⟩, .slice none 0 0, .string ⟨#[]⟩, .int .u8 0, .string ⟨#[]⟩, .slice none 0 0] 25)
  rw [add_at, cell_of_row _ _ _ _ _ _ h]
  match j, hu with
  | 0, hu | 1, hu | 2, hu | 3, hu | 4, hu | 5, hu | 6, hu | 7, hu => exact hu
  | j + 8, hu => cases hu
end Ft

set_option maxRecDepth 100000 in
set_option maxHeartbeats 4000000 in
theorem spoil_any (T : Ft.FT) : ∀ (lo hi : Nat) (a : Option Addr) (cap : Nat) (w : World), hi ≤ w.heap.size → Ft.Fdx w lo hi T a cap →
    Calls Tryz.prog 16 #[Ft.fdV T a cap] w fun e w' => (∃ v, e = .returned v) ∧ Ft.Outs lo hi w w' := by
  induction T using Ft.FT.ind with
  | h T ih =>
  intro lo hi a cap w hhi hX
  have IH : Hid _ := ih
  clear ih
  obtain ⟨i0, hi0, hz0, hz1, hz2⟩ := info_parts Tryz.infoFile
  cases hX with
  | mk vs ivs le len nil room most row lies ord inb sub =>
  obtain ⟨W, hW⟩ : ∃ W, W = w.alloc (.cells (Ft.fdA T a cap) 25) := ⟨_, rfl⟩
  have hB : Below w.heap.size w W := by rw [hW]; exact (Below.refl _ _).alloc (Nat.le_refl _) _
  have hF : Ft.FileAt W w.heap.size T a cap := by rw [hW]; exact Ft.file_new w T a cap
  have HR0 : Hid (Ft.FileAt W w.heap.size T a cap ∧ Ft.Outs lo hi w W ∧ w.heap.size + 1 ≤ W.heap.size ∧ ∀ b, a = some ⟨b, 0, none⟩ → Ft.RemB W b cap T.kids vs ivs 0) := by
    refine ⟨hF, .of hB, by rw [hW]; simp, fun b e => ?_⟩
    obtain ⟨b2, cur, e2, h1, h2, h3, h4, _⟩ := row (fun e2 => by rw [e2] at e; cases e)
    have e3 := e.symm.trans e2
    cases e3
    refine ⟨cur, (hB.block b (by omega)).trans h3, h4, fun j hj _ => ?_⟩
    obtain ⟨b3, e3, f⟩ := lies j hj
    have e4 := e.symm.trans e3
    cases e4
    have hj2 := inb j hj
    exact ⟨f.same (hB.block b (by omega)), (sub j hj).same (fun k h5 h6 => hB.block k (by omega))⟩
  have HC : Hid (hi ≤ w.heap.size ∧ cap ≤ maxLen ∧ (a = none → cap = 0) ∧ (∀ b, a = some ⟨b, 0, none⟩ → lo ≤ b ∧ b < hi ∧ ∀ i, i < T.kids.length → b < (ivs i).1 ∨ (ivs i).2 ≤ b) ∧ (∀ i, i < T.kids.length → ∃ b, a = some ⟨b, 0, none⟩) ∧ (∀ i j, i < j → j < T.kids.length → (ivs i).2 ≤ (ivs j).1) ∧ (∀ i, i < T.kids.length → lo ≤ (ivs i).1 ∧ (ivs i).2 ≤ hi)) := by
    refine ⟨hhi, most, nil, fun b e => ?_, fun i hi => ?_, ord, inb⟩
    · obtain ⟨b2, cur, e2, h1, h2, _, _, h5⟩ := row (fun e2 => by rw [e2] at e; cases e)
      have e3 := e.symm.trans e2
      cases e3
      exact ⟨h1, h2, h5⟩
    · obtain ⟨b, e, _⟩ := lies i hi
      exact ⟨b, e⟩
  have HAn : Hid (a = none ∨ ∃ b, a = some ⟨b, 0, none⟩) := by
    by_cases h : a = none
    · exact .inl h
    · obtain ⟨b, cur, e, _⟩ := row h
      exact .inr ⟨b, e⟩
  have HW : Hid (W = w.alloc (.cells #[.string T.nm, .int .u8 (T.k : Int), .string T.d, .slice a T.kids.length cap] 25)) := hW
  clear hW hB row lies ord inb sub nil
  obtain ⟨t0, t1, t2, t3⟩ := hF.cellsG
  simp only [Ft.fdV, Ft.fdA]
  go_enter Tryz.func16, Tryz.ntmps16
  go_wp2_with fail
  rw [← HW.out]
  clear HW t0 t1 t2 t3 hF
  go_loopw [6] (fun iv wr => ∃ i : Nat, i ≤ T.kids.length ∧ iv = .int .i64 (i : Int) ∧ Hid (Ft.FileAt wr w.heap.size T a cap ∧ Ft.Outs lo hi w wr ∧ w.heap.size + 1 ≤ wr.heap.size ∧ ∀ b, a = some ⟨b, 0, none⟩ → Ft.RemB wr b cap T.kids vs ivs i)) (fun iv _ => T.kids.length - (intOf iv).toNat)
  case atStart => exact ⟨0, by omega, rfl, HR0⟩
  case round =>
    clear HR0
    obtain ⟨i, hi9, rfl, HR⟩ := hrel
    have hsz := HR.out.2.2.1
    obtain ⟨t0, t1, t2, t3⟩ := HR.out.1.cellsG
    have tf := HR.out.1.frozen
    by_cases hlt : i < T.kids.length
    · obtain ⟨b, rfl⟩ := HC.out.2.2.2.2.1 i hlt
      have hi1 : (i : Int) < (T.kids.length : Int) := by omega
      obtain ⟨cur, hcur, hcs, hrest⟩ := HR.out.2.2.2 b rfl
      obtain ⟨f4, x4⟩ := hrest i hlt (Nat.le_refl _)
      obtain ⟨hb1, hb2, hb3⟩ := HC.out.2.2.2.1 b rfl
      have hin := HC.out.2.2.2.2.2.2 i hlt
      have hhi := HC.out.1
      have C := IH.out i hlt (ivs i).1 (ivs i).2 (vs i).1 (vs i).2 wr (by omega) x4
      simp only [Ft.fdV, Ft.fdA] at C
      have HCa : Hid _ := C
      have Hf4 : Hid _ := f4
      obtain ⟨r0, r1, r2, r3⟩ := f4
      clear C hcur hcs hrest x4
      go_wp2_with fail
      refine Calls.mono HCa.out ?_
      clear HCa r0 r1 r2 r3 t0 t1 t2 t3 tf
      rintro e w2 ⟨⟨ve, rfl⟩, o2⟩
      have hs2 := o2.size
      have hF2 : Ft.FileAt w2 w.heap.size T (some ⟨b, 0, none⟩) cap := (o2.block _ (by omega) (by omega)).trans HR.out.1
      have hRB : Ft.RemB w2 b cap T.kids vs ivs (i + 1) := (HR.out.2.2.2 b rfl).outs o2 (hb3 i hlt) (fun j hj hjl => ⟨HC.out.2.2.2.2.2.1 i j (by omega) hjl, by have := HC.out.2.2.2.2.2.2 j hjl; omega⟩) (by omega)
      have HO2 : Hid (Ft.FileAt w2 w.heap.size T (some ⟨b, 0, none⟩) cap ∧ Ft.Outs lo hi w w2 ∧ Ft.RemB w2 b cap T.kids vs ivs (i + 1)) := ⟨hF2, HR.out.2.1.trans (o2.widen hin.1 hin.2), hRB⟩
      obtain ⟨r0, r1, r2, r3⟩ := Ft.Four.same Hf4.out (o2.block b (by omega) (hb3 i hlt))
      have hfr : ∀ j, w2.frozen? ⟨b, j, none⟩ = false := fun j => by obtain ⟨cur, h1, _⟩ := hRB; exact frozen_of_row w2 b j _ _ h1
      obtain ⟨t0, t1, t2, t3⟩ := hF2.cellsG
      clear o2 hF2 hRB HR Hf4
      go_wp2_with fail
      go_roundw
      case rel =>
        refine ⟨i + 1, by omega, by go_num, ?_, ?_, ?_, fun b' e => ?_⟩
        · exact (((HO2.out.1.setCell (ad := ⟨b, i * 4, none⟩) _ (show w.heap.size ≠ b by omega)).setCell (ad := ⟨b, i * 4 + 1, none⟩) _ (show w.heap.size ≠ b by omega)).setCell (ad := ⟨b, i * 4 + 2, none⟩) _ (show w.heap.size ≠ b by omega)).setCell (ad := ⟨b, i * 4 + 3, none⟩) _ (show w.heap.size ≠ b by omega)
        · exact (((HO2.out.2.1.setCell (.inl ⟨hb1, hb2⟩) _).setCell (.inl ⟨hb1, hb2⟩) _).setCell (.inl ⟨hb1, hb2⟩) _).setCell (.inl ⟨hb1, hb2⟩) _
        · simp; omega
        · cases e
          exact HO2.out.2.2.put (fun j hj hjl => hb3 j hjl) _ _ _ _
      case measure => simp [intOf]; omega
    · obtain rfl : i = T.kids.length := by omega
      have hi1 : ¬ (T.kids.length : Int) < (T.kids.length : Int) := by omega
      have HOW : Hid (∃ xs, wr.ownsRow 0 25 4 (.slice a T.kids.length cap) T.kids.length xs) := by
        rcases HAn.out with rfl | ⟨b, rfl⟩
        · have h0 := HC.out.2.2.1 rfl
          have hk0 : T.kids.length = 0 := by omega
          rw [hk0, h0]
          exact ⟨[], World.ownsRow_nil _ _ _ _⟩
        · exact (HR.out.2.2.2 b rfl).own room most
      obtain ⟨xs, hxs⟩ := HOW.out
      have HXs : Hid _ := hxs
      have hhi := HC.out.1
      clear hxs HOW
      go_wp2_with (at_builtin; refine Ft.wpList_append_far _ rfl _ _ 23 rfl 0 25 i0 (.agg #[.string ⟨#[]⟩, .int .u8 0, .string ⟨#[]⟩, .slice none 0 0]) 4 64 Tryz.underlying23 hi0 hz0 hz1 hz2 rfl (by decide) (.slice a T.kids.length cap) T.kids.length xs rfl (World.ownsRow.alloc HXs.out _) ⟨wr.heap.size, 0, none⟩ 2 2 (Ft.fourL (Ft.zF, none, 0) ++ Ft.fourL (Ft.zF, none, 0)) rfl rfl (Ft.zero2_new wr) (by intro u hu; rcases List.mem_append.1 hu with h | h <;> exact Ft.four_one _ u h) (by unfold maxLen; omega) (by omega) (Nat.zero_le _) ?_)
      intro v' w3 own gr _ hat
      obtain ⟨N, hN⟩ : ∃ N, T.kids.length + 2 = N + 1 := ⟨T.kids.length + 1, rfl⟩
      rw [hN] at own
      obtain ⟨g, c, cur, rfl, hg, hcz, hc1, hc2⟩ := Ft.own_grown_at own (by omega)
      have hrow : ∀ k, (Value.slice a T.kids.length cap).ownBlock = some k → lo ≤ k ∧ k < hi := fun k hk => by
        rcases HAn.out with rfl | ⟨b, rfl⟩
        · cases hk
        · have e : some b = some k := hk
          injection e with e
          subst e
          exact ⟨(HC.out.2.2.2.1 b rfl).1, (HC.out.2.2.2.1 b rfl).2.1⟩
      have hgr : (lo ≤ g ∧ g < hi) ∨ w.heap.size < g := by
        rcases hat with e | e
        · exact .inl (hrow g e.symm)
        · have e : some g = some (wr.heap.size + 1) := e
          injection e with e
          exact .inr (by omega)
      have hne : g ≠ w.heap.size := by omega
      have hne1 : ¬ g = w.heap.size := hne
      have hF3 : Ft.FileAt w3 w.heap.size T a cap := by
        have h1 := gr.block w.heap.size (by simp; omega) (fun e => by have := hrow _ e.symm; omega)
        rw [heap_alloc_old _ _ (by omega)] at h1
        exact h1.trans HR.out.1
      have HO3 : Hid (Ft.Outs lo hi w w3) := (HR.out.2.1.alloc _).grown gr (fun k hk => .inl (hrow k hk))
      obtain ⟨u, hu⟩ : ∃ u, w3.cell? ⟨g, N * 4, none⟩ = some u := ⟨cur[N * 4]'(by omega), by rw [cell_of_row w3 g _ _ _ _ hg]; exact Array.getElem?_eq_getElem _⟩
      have hfg : w3.frozen? ⟨g, N * 4, none⟩ = false := frozen_of_row w3 g _ _ _ hg
      have HGr : Hid ((lo ≤ g ∧ g < hi) ∨ w.heap.size ≤ g) := hgr.imp id (fun h => by omega)
      obtain ⟨t0, t1, t2, t3⟩ := hF3.cellsG
      have tf := hF3.frozen
      have hNb : N ≤ 1048577 := by omega
      have hmi : ((N + 1 : Nat) : Int) - 1 = (N : Int) := by omega
      have hw1 : IntKind.i64.wrap (N : Int) = (N : Int) := by rw [IntKind.wrap_i64]; omega
      have hm0 : (0 : Int) ≤ (N : Int) := by omega
      have hml : (N : Int) < ((N + 1 : Nat) : Int) := by omega
      have hmk : ¬ ((N : Int) + 1 ≤ (N : Int)) := by omega
      clear own gr hat hgr hrow hg hcz HXs HR hF3 hi1
      go_wp2_with fail
      refine bodyPost_end (results_none rfl _ _ _) rfl ?_
      exact ⟨⟨_, rfl⟩, (HO3.out.setCell (.inr (Nat.le_refl _)) _).setCell HGr.out _⟩
end Go.Proofs.YtfbhofomcenabaaGreatDoor
namespace Go.Proofs.YtfbhofomcenabaaGreatDoor
open Go Go.RowKit

namespace Ft
/-- A row of texts of one's own. -/
def SRow (w : World) (B : Nat) (a : Option Addr) (n c : Nat) : Prop := (a = none ∧ n = 0 ∧ c = 0) ∨ ∃ g cur, a = some ⟨g, 0, none⟩ ∧ B ≤ g ∧ n ≤ c ∧ c ≤ maxLen ∧ w.heap[g]? = some (.cells cur 9 (0, 0)) ∧ cur.size = c
theorem SRow.own {w : World} {B : Nat} {a : Option Addr} {n c : Nat} (h : SRow w B a n c) : ∃ xs, w.ownsRow B 9 1 (.slice a n c) n xs := by
  rcases h with ⟨rfl, rfl, rfl⟩ | ⟨g, cur, rfl, h1, h2, h3, h4, h5⟩
  · exact ⟨[], World.ownsRow_nil _ _ _ _⟩
  · refine ⟨cur.toList.take (n * 1), ?_, .inr ⟨g, c, cur, rfl, h1, h4, h2, h3, by omega, rfl⟩⟩
    have e : cur.toList.length = c := by rw [Array.length_toList]; exact h5
    rw [List.length_take, e]
    omega
theorem srow_of {w : World} {B : Nat} {a : Option Addr} {n c : Nat} {xs : List Value} (h : w.ownsRow B 9 1 (.slice a n c) n xs) : SRow w B a n c := by
  rcases h.2 with ⟨hv, hz⟩ | ⟨g, cap, cur, hv, hb, hg, hr, hm, hs, _⟩
  · injection hv with h1 h2 h3
    exact .inl ⟨h1, hz, h3⟩
  · injection hv with h1 h2 h3
    subst h3
    exact .inr ⟨g, cur, h1, hb, hr, hm, hg, by omega⟩
theorem SRow.same {w w' : World} {B : Nat} {a : Option Addr} {n c : Nat} (h : SRow w B a n c) (hk : ∀ g, a = some ⟨g, 0, none⟩ → w'.heap[g]? = w.heap[g]?) : SRow w' B a n c := by
  rcases h with h | ⟨g, cur, e, h1, h2, h3, h4, h5⟩
  · exact .inl h
  · exact .inr ⟨g, cur, e, h1, h2, h3, (hk g e).trans h4, h5⟩
/-- The list in the memory w, which was w0: its row is the block g; the i-th path is the row ps i. -/
structure OwL (w0 w : World) (B g n lc : Nat) (ps : Nat → Option Addr × Nat × Nat) : Prop where
  row : ∃ cur, w.heap[g]? = some (.cells cur 47 (0, 0)) ∧ cur.size = lc * 3
  room : n ≤ lc
  at_ : B ≤ g
  cell : ∀ i, i < n → w.cell? ⟨g, i * 3, none⟩ = some (.slice (ps i).1 (ps i).2.1 (ps i).2.2)
  rows : ∀ i, i < n → SRow w B (ps i).1 (ps i).2.1 (ps i).2.2 ∧ (ps i).2.1 ≤ 1048580
  apart : ∀ i j, i < n → j < n → i ≠ j → ∀ x y, (ps i).1 = some x → (ps j).1 = some y → x.block ≠ y.block
  bel : Below B w0 w
  old : B ≤ w0.heap.size
theorem OwL.ne {w0 w : World} {B g n lc i x : Nat} {ps : Nat → Option Addr × Nat × Nat} (h : OwL w0 w B g n lc ps) (hi : i < n) (hx : (ps i).1 = some ⟨x, 0, none⟩) : x ≠ g := by
  intro e
  obtain ⟨cur, h1, _⟩ := h.row
  rcases (h.rows i hi).1 with ⟨h2, _⟩ | ⟨g2, cur2, h2, _, _, _, h3, _⟩
  · rw [hx] at h2; cases h2
  · rw [hx] at h2
    have e2 : x = g2 := by injection h2 with h2; injection h2
    subst e2
    subst e
    rw [h1] at h3
    injection h3 with h3
    injection h3 with h4 h5 h6
    exact absurd h5 (by decide)
/-- A name of a path is written over. -/
theorem OwL.put {w0 w : World} {B g n lc i x k : Nat} {ps : Nat → Option Addr × Nat × Nat} (h : OwL w0 w B g n lc ps) (hi : i < n) (hx : (ps i).1 = some ⟨x, 0, none⟩) (v : Value) : OwL w0 (w.setCell ⟨x, k, none⟩ v) B g n lc ps := by
  have hne := h.ne hi hx
  have hoth : ∀ j, j ≠ x → (w.setCell ⟨x, k, none⟩ v).heap[j]? = w.heap[j]? := fun j hj => heap_setCell_other w ⟨x, k, none⟩ j v hj
  have hBx : B ≤ x := by
    rcases (h.rows i hi).1 with ⟨h2, _⟩ | ⟨g2, _, h2, h3, _⟩
    · rw [hx] at h2; cases h2
    · rw [hx] at h2
      injection h2 with h2; injection h2 with h2; omega
  obtain ⟨cur, h1, h2⟩ := h.row
  refine ⟨⟨cur, (hoth g hne.symm).trans h1, h2⟩, h.room, h.at_, fun j hj => (World.cell?_of_block (hoth g hne.symm)).trans (h.cell j hj), fun j hj => ⟨?_, (h.rows j hj).2⟩, h.apart, h.bel.setCell (p := ⟨x, k, none⟩) hBx v, h.old⟩
  by_cases hij : j = i
  · subst hij
    rcases (h.rows j hj).1 with q | ⟨g2, cur2, e, a1, a2, a3, a4, a5⟩
    · exact .inl q
    · have e2 : x = g2 := by rw [hx] at e; injection e with e; injection e
      subst e2
      exact .inr ⟨x, _, e, a1, a2, a3, heap_setCell_same w x k _ _ v a4, by simp [a5]⟩
  · exact (h.rows j hj).1.same (fun y hy => hoth y (fun e => h.apart j i hj hi hij _ _ hy hx e))
/-- A path has grown. -/
theorem OwL.app {w0 w w3 : World} {B g n lc i m : Nat} {a' : Option Addr} {c' : Nat} {ps : Nat → Option Addr × Nat × Nat} {o : Obj} {xs : List Value} (h : OwL w0 w B g n lc ps) (hi : i < n) (hlen : (ps i).2.1 + 2 ≤ 1048580)
    (own : w3.ownsRow B 9 1 (.slice a' ((ps i).2.1 + 2) c') ((ps i).2.1 + 2) xs) (gr : (w.alloc o).grownBy w3 (Value.slice (ps i).1 (ps i).2.1 (ps i).2.2).ownBlock) (hat : (Value.slice a' ((ps i).2.1 + 2) c').ownBlock = (Value.slice (ps i).1 (ps i).2.1 (ps i).2.2).ownBlock ∨ (Value.slice a' ((ps i).2.1 + 2) c').ownBlock = some m) (hm : w.heap.size < m) :
    (∃ u, w3.cell? ⟨g, i * 3, none⟩ = some u) ∧ w3.frozen? ⟨g, i * 3, none⟩ = false ∧ OwL w0 (w3.setCell ⟨g, i * 3, none⟩ (.slice a' ((ps i).2.1 + 2) c')) B g n lc (fun j => if j = i then (a', (ps i).2.1 + 2, c') else ps j) := by
  have hgw : g < w.heap.size := by obtain ⟨cur, h1, _⟩ := h.row; exact lt_of_block h1
  have hob : ∀ k, (Value.slice (ps i).1 (ps i).2.1 (ps i).2.2).ownBlock = some k → k ≠ g ∧ B ≤ k ∧ (ps i).1 = some ⟨k, 0, none⟩ ∧ k < w.heap.size := fun k hk => by
    rcases (h.rows i hi).1 with ⟨e, _⟩ | ⟨g2, cur2, e, b1, _, _, b4, _⟩
    · rw [e] at hk; cases hk
    · rw [e] at hk
      have e2 : some g2 = some k := hk
      injection e2 with e2
      subst e2
      exact ⟨h.ne hi e, b1, e, lt_of_block b4⟩
  have keep : ∀ k, k < w.heap.size → (Value.slice (ps i).1 (ps i).2.1 (ps i).2.2).ownBlock ≠ some k → w3.heap[k]? = w.heap[k]? := fun k hk hne => by rw [gr.block k (by simp; omega) (fun e => hne e.symm), heap_alloc_old w o hk]
  have hg3 : w3.heap[g]? = w.heap[g]? := keep g hgw (fun e => (hob g e).1 rfl)
  obtain ⟨cur, h1, h2⟩ := h.row
  have h13 := hg3.trans h1
  have hset : ∀ k, k ≠ g → (w3.setCell ⟨g, i * 3, none⟩ (.slice a' ((ps i).2.1 + 2) c')).heap[k]? = w3.heap[k]? := fun k hk => heap_setCell_other w3 ⟨g, i * 3, none⟩ k _ hk
  have hg4 := heap_setCell_same w3 g (i * 3) _ _ (.slice a' ((ps i).2.1 + 2) c') h13
  have hro := h.room
  have hcs : i * 3 < cur.size := by rw [h2]; omega
  have hB3 : Below B w0 w3 := (h.bel.alloc (Nat.le_trans h.old h.bel.size |> fun q => by have := h.at_; omega) o).grown gr (by simp; have := h.at_; omega) (fun k hk => (hob k hk).2.1)
  refine ⟨⟨_, (World.cell?_of_block hg3).trans (h.cell i hi)⟩, frozen_of_row w3 g _ _ _ h13, ⟨⟨_, hg4, by simp [h2]⟩, h.room, h.at_, fun j hj => ?_, fun j hj => ?_, fun j k hj hk hjk x y hx hy => ?_, hB3.setCell (p := ⟨g, i * 3, none⟩) h.at_ _, h.old⟩⟩
  · rw [cell_of_row _ g (j * 3) _ _ _ hg4]
    by_cases hij : j = i
    · subst hij
      rw [if_pos rfl, Array.getElem?_setIfInBounds_self_of_lt hcs]
    · rw [if_neg hij, Array.getElem?_setIfInBounds_ne (by omega), ← cell_of_row w g (j * 3) _ _ _ h1]
      exact h.cell j hj
  · by_cases hij : j = i
    · subst hij
      rw [if_pos rfl]
      refine ⟨(srow_of own).same (fun k hk => hset k (fun e => ?_)), hlen⟩
      subst e
      have hk2 : (Value.slice a' ((ps j).2.1 + 2) c').ownBlock = some k := by rw [hk]; rfl
      rcases hat with q | q
      · exact (hob k (q.symm.trans hk2)).1 rfl
      · have e : some m = some k := q.symm.trans hk2
        injection e with e
        omega
    · rw [if_neg hij]
      refine ⟨(h.rows j hj).1.same (fun k hk => ?_), (h.rows j hj).2⟩
      have hkg := h.ne hj hk
      have hkw : k < w.heap.size := by
        rcases (h.rows j hj).1 with ⟨e, _⟩ | ⟨g2, cur2, e, _, _, _, b4, _⟩
        · rw [hk] at e; cases e
        · have e2 : k = g2 := by rw [hk] at e; injection e with e; injection e
          subst e2; exact lt_of_block b4
      exact (hset k hkg).trans (keep k hkw (fun e => h.apart j i hj hi hij _ _ hk (hob k e).2.2.1 rfl))
  · have key : ∀ j, j < n → j ≠ i → ∀ x y, (ps j).1 = some x → a' = some y → x.block ≠ y.block := fun j hj hji x y hx hy e => by
      have hk2 : (Value.slice a' ((ps i).2.1 + 2) c').ownBlock = some y.block := by rw [hy]; rfl
      rcases (h.rows j hj).1 with ⟨e0, _⟩ | ⟨g2, cur2, e0, _, _, _, b4, _⟩
      · rw [hx] at e0; cases e0
      · have e2 : x = ⟨g2, 0, none⟩ := by rw [hx] at e0; injection e0
        subst e2
        have hlt := lt_of_block b4
        rcases hat with q | q
        · exact h.apart j i hj hi hji _ _ hx (hob _ (q.symm.trans hk2)).2.2.1 (by show g2 = y.block; exact e)
        · have e3 : some m = some y.block := q.symm.trans hk2
          injection e3 with e3
          have e : g2 = y.block := e
          omega
    by_cases h1 : j = i
    · subst h1
      rw [if_pos rfl] at hx
      by_cases h2 : k = j
      · exact absurd h2.symm hjk
      · rw [if_neg h2] at hy
        exact (key k hk h2 y x hy hx).symm
    · rw [if_neg h1] at hx
      by_cases h2 : k = i
      · subst h2
        rw [if_pos rfl] at hy
        exact key j hj h1 x y hx hy
      · rw [if_neg h2] at hy
        exact h.apart j k hj hk hjk x y hx hy
/-- The list as it is answered. -/
theorem KRowX.owl {w : World} {B : Nat} {v : Value} {l : List Kp} (h : KRowX w B v l) (hB : B ≤ w.heap.size) (hl : ∀ y ∈ l, y.1.length ≤ 1048576) : ∃ la n lc, v = .slice la n lc ∧ n = l.length ∧ n ≤ lc ∧ (n ≠ 0 → ∃ g ps, la = some ⟨g, 0, none⟩ ∧ OwL w w B g n lc ps ∧ ∀ i, i < n → (ps i).2.1 ≤ 1048576) := by
  obtain ⟨L, h1, h2, h3, h4⟩ := h
  have hn : L.length = l.length := by rw [← h1]; simp
  rcases h2.2 with ⟨hv, hz⟩ | ⟨g, cap, cur, hv, hb, hg, hcap, hmax, hsize, htake⟩
  · exact ⟨none, 0, 0, hv, by omega, Nat.le_refl _, fun h => absurd rfl h⟩
  · refine ⟨some ⟨g, 0, none⟩, L.length, cap, hv, hn, hcap, fun _ => ⟨g, fun i => ((L[i]?).map (fun y => (y.2.1, y.1.1.length, y.2.2))).getD (none, 0, 0), rfl, ?_, ?_⟩⟩
    · refine ⟨⟨cur, hg, hsize⟩, hcap, hb, fun i hi => ?_, fun i hi => ?_, fun i j hi hj hij x y hx hy => ?_, Below.refl _ _, hB⟩
      · subst hv
        rw [h2.cellAt (i * 3) (by omega), show i * 3 = i * 3 + 0 by omega, kcells_at L i hi 0 (by omega)]
        simp only [List.getElem?_eq_getElem hi, Option.map_some, Option.getD_some]
        rfl
      · simp only [List.getElem?_eq_getElem hi, Option.map_some, Option.getD_some]
        obtain ⟨⟨s, pw⟩, hof⟩ := h3 _ (List.getElem_mem hi)
        have hle : (L[i]).1.1.length ≤ 1048576 := hl _ (by rw [← h1]; exact List.mem_map_of_mem (List.getElem_mem hi))
        refine ⟨?_, by omega⟩
        have hrm := s.room
        rcases pw with ⟨e1, e2⟩ | ⟨g2, cur2, e1, e2, e3⟩
        · exact .inl ⟨e1, by omega, e2⟩
        · exact .inr ⟨g2, cur2, e1, (hof _ e1).1, hrm, s.most, e2, e3⟩
      · simp only [List.getElem?_eq_getElem hi, List.getElem?_eq_getElem hj, Option.map_some, Option.getD_some] at hx hy
        rcases Nat.lt_or_gt_of_ne hij with q | q
        · exact List.pairwise_iff_getElem.1 h4 i j hi hj q x y hx hy
        · exact fun e => List.pairwise_iff_getElem.1 h4 j i hj hi q y x hy hx e.symm
    · intro i hi
      simp only [List.getElem?_eq_getElem hi, Option.map_some, Option.getD_some]
      exact hl _ (by rw [← h1]; exact List.mem_map_of_mem (List.getElem_mem hi))
end Ft
end Go.Proofs.YtfbhofomcenabaaGreatDoor
