/- What trees.Read answers. -/
import Derived.Test.YtfbhofomcenabaaGreatDoorTQ
import Derived.BigRegion
namespace Go.Proofs.YtfbhofomcenabaaGreatDoor
open Go.RowKit

namespace Ft
/-- What lies in memory while lines are read. -/
structure Rd (w V : World) (x : Td) (a : Option Addr) (c : Nat) : Prop where
  fz : FileAt V w.heap.size zF none 0
  ez : V.heap[w.heap.size + 1]? = some (.cells #[.int .i64 0, .int .i64 0] 30 (0, 0))
  td : TdAt V (w.heap.size + 2) x a c
  str : Strs V a c x.1
  below : Below w.heap.size w V
  size : w.heap.size + 3 ≤ V.heap.size
  tab : TxT V
theorem Rd.under {w V V' : World} {x : Td} {a : Option Addr} {c : Nat} (h : Rd w V x a c) (hb : Below V.heap.size V V') : Rd w V' x a c :=
  ⟨h.fz.under hb, (hb.block _ (by have := h.size; omega)).trans h.ez, h.td.under hb, h.str.below hb, h.below.trans (hb.mono h.below.size), Nat.le_trans h.size hb.size, h.tab.under hb⟩
/-- The results, written. -/
theorem read_end {w A : World} {x : Td} {a : Option Addr} {c : Nat} (h : Rd w A x a c) (T : FT) (a' : Option Addr) (c' : Nat) (n m : Int) :
    (((putF A w.heap.size T a' c').setCell ⟨w.heap.size + 1, 0, none⟩ (.int .i64 n)).setCell ⟨w.heap.size + 1, 1, none⟩ (.int .i64 m)).heap[w.heap.size]? = some (.cells (fdA T a' c') 25 (0, 0)) ∧
    (((putF A w.heap.size T a' c').setCell ⟨w.heap.size + 1, 0, none⟩ (.int .i64 n)).setCell ⟨w.heap.size + 1, 1, none⟩ (.int .i64 m)).heap[w.heap.size + 1]? = some (.cells #[.int .i64 n, .int .i64 m] 30 (0, 0)) ∧
    Below w.heap.size w (((putF A w.heap.size T a' c').setCell ⟨w.heap.size + 1, 0, none⟩ (.int .i64 n)).setCell ⟨w.heap.size + 1, 1, none⟩ (.int .i64 m)) ∧
    (∀ b, w.heap.size + 2 ≤ b → (((putF A w.heap.size T a' c').setCell ⟨w.heap.size + 1, 0, none⟩ (.int .i64 n)).setCell ⟨w.heap.size + 1, 1, none⟩ (.int .i64 m)).heap[b]? = A.heap[b]?) ∧
    (((putF A w.heap.size T a' c').setCell ⟨w.heap.size + 1, 0, none⟩ (.int .i64 n)).setCell ⟨w.heap.size + 1, 1, none⟩ (.int .i64 m)).heap.size = A.heap.size := by
  have h0 : (putF A w.heap.size T a' c').heap[w.heap.size]? = some (.cells (fdA T a' c') 25 (0, 0)) := h.fz.putF T a' c'
  have h1 : (putF A w.heap.size T a' c').heap[w.heap.size + 1]? = some (.cells #[.int .i64 0, .int .i64 0] 30 (0, 0)) := (putF_other (by omega)).trans h.ez
  have h2 : ((putF A w.heap.size T a' c').setCell ⟨w.heap.size + 1, 0, none⟩ (.int .i64 n)).heap[w.heap.size + 1]? = some (.cells #[.int .i64 n, .int .i64 0] 30 (0, 0)) := heap_setCell_same _ _ 0 _ _ _ h1
  refine ⟨?_, heap_setCell_same _ _ 1 _ _ _ h2, ?_, fun b hb => ?_, by simp⟩
  · rw [heap_setCell_other _ ⟨w.heap.size + 1, 1, none⟩ _ _ (by simp), heap_setCell_other _ ⟨w.heap.size + 1, 0, none⟩ _ _ (by simp)]; exact h0
  · exact ((putF_below h.below (Nat.le_refl _)).setCell (p := ⟨w.heap.size + 1, 0, none⟩) (by simp) _).setCell (p := ⟨w.heap.size + 1, 1, none⟩) (by simp) _
  · rw [heap_setCell_other _ ⟨w.heap.size + 1, 1, none⟩ _ _ (show b ≠ w.heap.size + 1 by omega), heap_setCell_other _ ⟨w.heap.size + 1, 0, none⟩ _ _ (show b ≠ w.heap.size + 1 by omega)]
    exact putF_other (by omega)
theorem strs_lt' {w : World} {x : Option Addr} {c : Nat} {l : List ByteArray} (h : Strs w x c l) (hl : l ≠ []) : ∀ ad, x = some ad → ad.block < w.heap.size := strs_lt h hl
theorem strs_keep {A C : World} {a : Option Addr} {c : Nat} {l : List ByteArray} (h : Strs A a c l) (hk : l ≠ [] → ∀ ad, a = some ad → C.heap[ad.block]? = A.heap[ad.block]?) (hs : A.heap.size ≤ C.heap.size) : Strs C a c l := by
  refine ⟨h.len, h.nil, h.room, h.most, h.size, fun i hi => ?_⟩
  obtain ⟨b, off, e, hlt, hc⟩ := h.cells i hi
  have hbk : C.heap[b]? = A.heap[b]? := hk (fun e2 => by rw [e2] at hi; simp at hi) _ e
  exact ⟨b, off, e, Nat.lt_of_lt_of_le hlt hs, (World.cell?_of_block hbk).trans hc⟩
theorem TRow.keep {A C : World} {base : Nat} {v : Value} {l : List Td} (h : TRow A base v l) (hk : ∀ k, base ≤ k → C.heap[k]? = A.heap[k]?) (hs : A.heap.size ≤ C.heap.size) : TRow C base v l := by
  obtain ⟨L, h1, h2, h3⟩ := h
  exact ⟨L, h1, own_kept h2 (fun k e => hk k (own_base h2 e)), fun y hy => ⟨strs_keep (h3 y hy).1 (fun hl ad e => hk _ ((h3 y hy).2 hl ad e).1) hs, (h3 y hy).2⟩⟩
/-- The blocks from n on that were there lie as they lay. -/
structure Kp1 (n : Nat) (A B : World) : Prop where
  size : A.heap.size ≤ B.heap.size
  block : ∀ b, n ≤ b → b < A.heap.size → B.heap[b]? = A.heap[b]?
theorem Kp1.refl (n : Nat) (A : World) : Kp1 n A A := ⟨Nat.le_refl _, fun _ _ _ => rfl⟩
theorem Kp1.under {n : Nat} {A B C : World} (h : Kp1 n A B) (hb : Below B.heap.size B C) : Kp1 n A C :=
  ⟨Nat.le_trans h.size hb.size, fun b h1 h2 => (hb.block b (by have := h.size; omega)).trans (h.block b h1 h2)⟩
theorem Kp1.below {n : Nat} {A B C : World} (h : Kp1 n A B) (hb : Below A.heap.size B C) : Kp1 n A C :=
  ⟨Nat.le_trans h.size hb.size, fun b h1 h2 => (hb.block b h2).trans (h.block b h1 h2)⟩
/-- What Read leaves. -/
def ReadE (w : World) (R : FT × Int × Nat × Nat) (e : Ending) (w' : World) : Prop :=
  (∃ a c, e = .returned (.tuple #[fdV R.1 a c, .int .i64 R.2.1, .agg #[.int .i64 (R.2.2.1 : Int), .int .i64 (R.2.2.2 : Int)]]) ∧ Fd w' (fun b => w.heap.size ≤ b ∧ b < w'.heap.size) R.1 a c) ∧ Below w.heap.size w w'
theorem fd_none (w : World) (P : Nat → Prop) (nm : ByteArray) (k : Nat) (d : ByteArray) : Fd w P (.mk nm k d []) none 0 :=
  .mk (fun _ => (none, 0)) (by show 0 ≤ _; omega) (fun _ => rfl) (Nat.le_refl 0) (Nat.zero_le _) (fun i hi => absurd hi (by show ¬ i < 0; omega)) (fun i hi => absurd hi (by show ¬ i < 0; omega))
theorem readG_skip {x : ByteArray × Bool} {r : List (ByteArray × Bool)} {i : Nat} {a : Td} {out : List Td} (h : x.1.data.toList = [] ∨ x.1.data.toList.head? = some 35) : readG (x :: r) i a out = readG r (i + 1) a out := by rw [readG, if_pos h]
theorem readG_bad {x : ByteArray × Bool} {r : List (ByteArray × Bool)} {i : Nat} {a : Td} {out : List Td} (h : ¬ (x.1.data.toList = [] ∨ x.1.data.toList.head? = some 35)) (h2 : ¬ (lineR x.1.data.toList a).2 = 0) : readG (x :: r) i a out = ([], i + 1, (lineR x.1.data.toList a).2) := by rw [readG, if_neg h, if_neg h2]
theorem readG_on {x : ByteArray × Bool} {r : List (ByteArray × Bool)} {i : Nat} {a : Td} {out : List Td} (h : ¬ (x.1.data.toList = [] ∨ x.1.data.toList.head? = some 35)) (h2 : (lineR x.1.data.toList a).2 = 0) : readG (x :: r) i a out = readG r (i + 1) (lineR x.1.data.toList a).1 (out ++ [(lineR x.1.data.toList a).1]) := by rw [readG, if_neg h, if_pos h2]
end Ft

set_option maxRecDepth 100000 in
set_option maxHeartbeats 4000000 in
theorem read_any (s : ByteArray) (w : World) (T : TxT w) (hs : s.size ≤ 1099511627776) (hLl : (Ln.splB s).length ≤ 1048576) (hLs : ∀ x ∈ Ln.splB s, x.1.size ≤ 16777216) :
    Calls Tryz.prog 10 #[.string s] w (Ft.ReadE w (Ft.readR s)) := by
  obtain ⟨i0, hi0, hz0, hz1, hz2⟩ := info_parts Tryz.infoTold
  obtain ⟨R, hR⟩ : ∃ R, R = Ft.readR s := ⟨_, rfl⟩
  rw [← hR]
  unfold Ft.readR at hR
  obtain ⟨W, hW⟩ : ∃ W, W = ((w.alloc (.cells #[.string ⟨#[]⟩, .int .u8 0, .string ⟨#[]⟩, .slice none 0 0] 25)).alloc (.cells #[.int .i64 0, .int .i64 0] 30)).alloc (.cells #[.slice none 0 0, .int .u8 1, .string ⟨#[]⟩] 83) := ⟨_, rfl⟩
  have HK0 : Hid (Ft.Rd w W ([], 1, ⟨#[]⟩) none 0) := by
    rw [hW]
    have h1 := (Below.refl w.heap.size w).alloc (Nat.le_refl _) (.cells #[.string ⟨#[]⟩, .int .u8 0, .string ⟨#[]⟩, .slice none 0 0] 25)
    have h2 := h1.alloc (by simp) (.cells #[.int .i64 0, .int .i64 0] 30)
    have h3 := h2.alloc (by simp; omega) (.cells #[.slice none 0 0, .int .u8 1, .string ⟨#[]⟩] 83)
    refine ⟨((Ft.file_zero w).alloc _).alloc _, ?_, ?_, Strs.empty _, h3, by simp, T.under h3⟩
    · have h := heap_alloc_new (w.alloc (.cells #[.string ⟨#[]⟩, .int .u8 0, .string ⟨#[]⟩, .slice none 0 0] 25)) (.cells #[.int .i64 0, .int .i64 0] 30)
      rw [World.size_alloc] at h
      exact (Below.heap_alloc _ _ _ (by simp)).trans h
    · have h := Ft.td_new ((w.alloc (.cells #[.string ⟨#[]⟩, .int .u8 0, .string ⟨#[]⟩, .slice none 0 0] 25)).alloc (.cells #[.int .i64 0, .int .i64 0] 30)) ([], 1, ⟨#[]⟩) none 0
      rw [World.size_alloc, World.size_alloc] at h
      exact h
  have HW : Hid (W = ((w.alloc (.cells #[.string ⟨#[]⟩, .int .u8 0, .string ⟨#[]⟩, .slice none 0 0] 25)).alloc (.cells #[.int .i64 0, .int .i64 0] 30)).alloc (.cells #[.slice none 0 0, .int .u8 1, .string ⟨#[]⟩] 83)) := hW
  have C1 := split_any s W hs
  obtain ⟨L, hL⟩ : ∃ L, L = Ln.splB s := ⟨_, rfl⟩
  rw [← hL] at C1 hLl hLs hR
  have HR : Hid _ := hR
  have T0 : Hid (6 ≤ w.heap.size) := T.size
  clear hW T hs hL hR
  go_enter Tryz.func10, Tryz.ntmps10
  go_wp2_with fail
  rw [← HW.out]
  clear HW
  refine C1.mono ?_
  rintro e w1 ⟨v, rfl, hown, b1⟩
  obtain ⟨av, cv, rfl, hLn⟩ := own_lns hown (by omega) (fun x hx => by have := hLs x hx; omega)
  have HK1 : Hid (Ft.Rd w w1 ([], 1, ⟨#[]⟩) none 0) := HK0.out.under b1
  have HLn : Hid _ := hLn
  have HLb : Hid (∀ b off, av = some ⟨b, off, none⟩ → w.heap.size + 3 ≤ b) := fun b off e => by
    subst e
    exact Nat.le_trans (HK0.out.size) (own_base hown rfl)
  have hw1s : w.heap.size + 3 ≤ w1.heap.size := Nat.le_trans HK0.out.size b1.size
  have HLs : Hid _ := hLs
  clear C1 hown b1 HK0 hLn hLs
  go_wp2_with fail
  go_loopw [5, 17] (fun v iv wr => ∃ (k : Nat) (out : List Ft.Td) (x : Ft.Td) (a : Option Addr) (c : Nat), k ≤ L.length ∧ iv = .int .i64 (k : Int) ∧ Ft.TRow wr w1.heap.size v out ∧ Ft.Rd w wr x a c ∧ Ft.Kp1 (w.heap.size + 3) w1 wr ∧ out.length ≤ k ∧ (∀ y ∈ out, y.1.length ≤ 64) ∧ Hid (Ft.readG L 0 ([], 1, ⟨#[]⟩) [] = Ft.readG (L.drop k) k x out)) (fun _ iv _ => L.length - (intOf iv).toNat)
  case atStart => exact ⟨0, [], ([], 1, ⟨#[]⟩), none, 0, Nat.zero_le _, rfl, Ft.TRow.empty _ _, HK1.out, Ft.Kp1.refl _ _, Nat.le_refl _, fun y hy => (by cases hy), rfl⟩
  case round =>
    clear HK1
    obtain ⟨k, out, x, a, c, hk, rfl, hT, hK, hB1, hol, hop, HE⟩ := hrel
    have HT : Hid _ := hT
    have HK : Hid _ := hK
    have HB1 : Hid _ := hB1
    have HOp : Hid _ := hop
    clear hT hK hB1 hop
    by_cases hlt : k < L.length
    · obtain ⟨b, off, rfl, hb1, l0, l1⟩ := HLn.out.cells k hlt
      have hbk : wr.heap[b]? = w1.heap[b]? := HB1.out.block b (HLb.out b off rfl) hb1
      have hb : b < wr.heap.size := Nat.lt_of_lt_of_le hb1 HB1.out.size
      have l0 := (World.cell?_of_block (w := w1) (w' := wr) (a := ⟨b, off + k * 2, none⟩) hbk).trans l0
      have l1 := (World.cell?_of_block (w := w1) (w' := wr) (a := ⟨b, off + k * 2 + 1, none⟩) hbk).trans l1
      clear hbk
      have hdr := List.drop_eq_getElem_cons hlt
      have hsz := HLs.out _ (List.getElem_mem hlt)
      have i1 : (k : Int) < (L.length : Int) := by omega
      generalize L[k] = y at hdr hsz l0 l1
      obtain ⟨tx, wh⟩ := y
      simp only at hsz l0 l1
      have HE2 : Hid (Ft.readG L 0 ([], 1, ⟨#[]⟩) [] = Ft.readG ((tx, wh) :: L.drop (k + 1)) k x out) := by show _ = _; rw [HE.out, hdr]
      clear hdr HE
      have hA : Below wr.heap.size wr (wr.alloc (.cells #[.string tx, .bool wh] 87)) := (Below.refl _ _).alloc (Nat.le_refl _) _
      have HKA : Hid (Ft.Rd w (wr.alloc (.cells #[.string tx, .bool wh] 87)) x a c ∧ Ft.Kp1 (w.heap.size + 3) w1 (wr.alloc (.cells #[.string tx, .bool wh] 87)) ∧ Below wr.heap.size wr (wr.alloc (.cells #[.string tx, .bool wh] 87))) := ⟨HK.out.under hA, HB1.out.under hA, hA⟩
      clear hA
      by_cases h0 : tx.toList = []
      · have HE3 : Hid (Ft.readG L 0 ([], 1, ⟨#[]⟩) [] = Ft.readG (L.drop (k + 1)) (k + 1) x out) := by
          show _ = _; rw [HE2.out, Ft.readG_skip (.inl (by rw [← Pl.toL]; exact h0))]
        clear HE2
        go_wp2_with fail
        go_roundw
        case rel => exact ⟨k + 1, out, x, a, c, by omega, by go_num, Ft.TRow.below HT.out HKA.out.2.2, HKA.out.1, HKA.out.2.1, by omega, HOp.out, HE3⟩
        case measure => simp [intOf]; omega
      · have hpos : 0 < tx.size := Pl.size_pos h0
        have b0 : (tx.toList == []) = false := by rw [beq_eq_false_iff_ne]; exact h0
        have hhd := Pl.head_byte hpos
        cases hc : ((tx[0].toNat : Int) == 35)
        · have hno : ¬ (tx.data.toList = [] ∨ tx.data.toList.head? = some 35) := by
            rintro (h | h)
            · exact h0 (by rw [Pl.toL]; exact h)
            · rw [hhd] at h
              have : tx[0] = 35 := Option.some.inj h
              rw [this] at hc
              cases hc
          have hYl := Ft.line_len tx.data.toList x
          have C2 := readLine_any tx x a c _ HKA.out.1.tab hsz HKA.out.1.str
          obtain ⟨Y, hY⟩ : ∃ Y, Y = Ft.lineR tx.data.toList x := ⟨_, rfl⟩
          rw [← hY] at hYl C2
          have HBad : Hid (¬ Y.2 = 0 → Ft.readG L 0 ([], 1, ⟨#[]⟩) [] = ([], k + 1, Y.2)) := fun h => by rw [HE2.out, Ft.readG_bad hno (by rw [← hY]; exact h), ← hY]
          have HOn : Hid (Y.2 = 0 → Ft.readG L 0 ([], 1, ⟨#[]⟩) [] = Ft.readG (L.drop (k + 1)) (k + 1) Y.1 (out ++ [Y.1])) := fun h => by rw [HE2.out, Ft.readG_on hno (by rw [← hY]; exact h), ← hY]
          have HC2 : Hid _ := C2
          have td0 := HKA.out.1.td.c0
          have td1 := HKA.out.1.td.c1
          have td2 := HKA.out.1.td.c2
          simp only [Ft.tdV, Ft.tdA] at HC2
          clear HE2 hhd hno hY C2
          go_wp2_with fail
          refine Calls.mono HC2.out ?_
          rintro e w2 ⟨⟨a2, c2, rfl, hS, hof⟩, b2⟩
          have HK2 : Hid (Ft.Rd w w2 x a c) := HKA.out.1.under b2
          have HB2 : Hid (Below wr.heap.size wr w2) := HKA.out.2.2.trans (b2.mono HKA.out.2.2.size)
          have HS2 : Hid (Strs w2 a2 c2 Y.1.1 ∧ ∀ ad, a2 = some ad → wr.heap.size ≤ ad.block) := ⟨hS, fun ad e => Nat.le_trans HKA.out.2.2.size (hof ad e)⟩
          have hszr := HK.out.size
          have hsz2 := HB2.out.size
          clear hS hof b2 HC2 td0 td1 td2 HKA HK
          have HK3 : Hid (Ft.Rd w (w2.alloc (.cells #[.slice a2 Y.1.1.length c2, .int .u8 (Y.1.2.1 : Int), .string Y.1.2.2] 83)) x a c) := HK2.out.under ((Below.refl _ _).alloc (Nat.le_refl _) _)
          have HB3 : Hid (Below wr.heap.size wr (w2.alloc (.cells #[.slice a2 Y.1.1.length c2, .int .u8 (Y.1.2.1 : Int), .string Y.1.2.2] 83))) := HB2.out.alloc hsz2 _
          have HT3 : Hid (Ft.TdAt (w2.alloc (.cells #[.slice a2 Y.1.1.length c2, .int .u8 (Y.1.2.1 : Int), .string Y.1.2.2] 83)) w2.heap.size Y.1 a2 c2) := Ft.td_new w2 Y.1 a2 c2
          have HS3 : Hid (Strs (w2.alloc (.cells #[.slice a2 Y.1.1.length c2, .int .u8 (Y.1.2.1 : Int), .string Y.1.2.2] 83)) a2 c2 Y.1.1) := HS2.out.1.alloc _
          obtain ⟨q0, q1, q2, q3⟩ := HK3.out.fz.four
          have r0 := HK3.out.fz.frozen 0
          have r1 := HK3.out.fz.frozen 1
          have r2 := HK3.out.fz.frozen 2
          have r3 := HK3.out.fz.frozen 3
          have hez := HK3.out.ez
          have e0 : (w2.alloc (.cells #[.slice a2 Y.1.1.length c2, .int .u8 (Y.1.2.1 : Int), .string Y.1.2.2] 83)).cell? ⟨w.heap.size + 1, 0, none⟩ = some (.int .i64 0) := by rw [cell_of_row _ _ _ _ _ _ hez]; rfl
          have e1 : (w2.alloc (.cells #[.slice a2 Y.1.1.length c2, .int .u8 (Y.1.2.1 : Int), .string Y.1.2.2] 83)).cell? ⟨w.heap.size + 1, 1, none⟩ = some (.int .i64 0) := by rw [cell_of_row _ _ _ _ _ _ hez]; rfl
          have s0 := frozen_of_row (w2.alloc (.cells #[.slice a2 Y.1.1.length c2, .int .u8 (Y.1.2.1 : Int), .string Y.1.2.2] 83)) _ 0 _ _ hez
          have s1 := frozen_of_row (w2.alloc (.cells #[.slice a2 Y.1.1.length c2, .int .u8 (Y.1.2.1 : Int), .string Y.1.2.2] 83)) _ 1 _ _ hez
          clear hez
          simp only [Ft.tdV, Ft.tdA]
          by_cases hr : Y.2 = 0
          · have hr' : ((Y.2 : Int) != 0) = false := by simp [hr]
            have HE3 : Hid _ := HOn.out hr
            have hown := Ft.TRow.own HT.out
            obtain ⟨Lt, hLt, ox, ex⟩ := Ft.TRow.below HT.out HB3.out
            have hLn2 : Lt.length = out.length := by rw [← hLt]; simp
            have hx5 : Strs (w2.alloc (.cells #[.slice a2 Y.1.1.length c2, .int .u8 (Y.1.2.1 : Int), .string Y.1.2.2] 83)) a2 c2 Y.1.1 ∧ Ft.Ofs w1.heap.size u5.ownBlock a2 Y.1.1 :=
              ⟨HS3.out, fun _ ad e => ⟨Nat.le_trans HB1.out.size (HS2.out.2 ad e), fun e2 => by have := HS2.out.2 ad e; have := hown _ e2.symm; omega⟩⟩
            have hw1r := HB1.out.size
            have hA1 : (w2.alloc (.cells #[.slice a2 Y.1.1.length c2, .int .u8 (Y.1.2.1 : Int), .string Y.1.2.2] 83)).heap.size = w2.heap.size + 1 := by simp
            clear hr HBad HOn q0 q1 q2 q3 r0 r1 r2 r3 e0 e1 s0 s1
            go_wp2_with (at_builtin; refine Ft.wpList_append_far _ rfl _ _ 81 rfl w1.heap.size 83 i0 (.agg #[.slice none 0 0, .int .u8 0, .string ⟨#[]⟩]) 3 48 Tryz.underlying81 hi0 hz0 hz1 hz2 rfl (by decide) _ _ _ rfl (ox.alloc _) ⟨w2.heap.size + 1, 0, none⟩ 1 1 (Ft.tdL (Y.1, a2, c2)) rfl rfl ?c1 ?c2 ?c3 ?c4 ?c5 ?_)
            case c1 =>
              have h := Ft.td_cells (w2.alloc (.cells #[.slice a2 Y.1.1.length c2, .int .u8 (Y.1.2.1 : Int), .string Y.1.2.2] 83)) Y.1 a2 c2
              rw [World.size_alloc] at h
              exact h
            case c2 => exact Ft.tdL_one _
            case c3 => unfold maxLen; omega
            case c4 => omega
            case c5 => simp; omega
            intro v5 w5 hown5 hgr5 _ hat5
            have hB5 : Below w1.heap.size (w2.alloc (.cells #[.slice a2 Y.1.1.length c2, .int .u8 (Y.1.2.1 : Int), .string Y.1.2.2] 83)) w5 := ((Below.refl _ _).alloc (by omega) _).grown hgr5 (by simp; omega) (fun g hg => (ox.lt g hg).1)
            rw [show out.length + 1 = Lt.length + 1 by omega] at hown5
            have NR5 := Ft.trow_snoc ex hx5 hown5 hgr5 hat5 (by simp)
            rw [hLt] at NR5
            have hkeep : ∀ b, b < (w2.alloc (.cells #[.slice a2 Y.1.1.length c2, .int .u8 (Y.1.2.1 : Int), .string Y.1.2.2] 83)).heap.size → some b ≠ u5.ownBlock → w5.heap[b]? = (w2.alloc (.cells #[.slice a2 Y.1.1.length c2, .int .u8 (Y.1.2.1 : Int), .string Y.1.2.2] 83)).heap[b]? := fun b hb hne => by
              rw [hgr5.block b (by simp at hb ⊢; omega) hne, heap_alloc_old _ _ hb]
            have hf5 : Ft.TdAt w5 w2.heap.size Y.1 a2 c2 := by
              show w5.heap[w2.heap.size]? = _
              rw [hkeep _ (by simp) (fun e => by have := hown _ e.symm; omega)]; exact HT3.out
            have hS5 : Strs w5 a2 c2 Y.1.1 := Ft.strs_keep HS3.out (fun hl ad e => hkeep _ (Ft.strs_lt' HS3.out hl ad e) (hx5.2 hl ad e).2) hB5.size
            have f50 := hf5.c0
            have f51 := hf5.c1
            have f52 := hf5.c2
            have hg5 : Ft.TdAt w5 (w.heap.size + 1 + 1) x a c := Ft.TdAt.below HK3.out.td hB5 (by omega)
            have g50 := hg5.c0
            have g51 := hg5.c1
            have g52 := hg5.c2
            have g5f0 := hg5.frozen 0
            have g5f1 := hg5.frozen 1
            have g5f2 := hg5.frozen 2
            have HM5 : Hid (Ft.FileAt w5 w.heap.size Ft.zF none 0 ∧ w5.heap[w.heap.size + 1]? = some (.cells #[.int .i64 0, .int .i64 0] 30 (0, 0)) ∧ Ft.TdAt w5 (w.heap.size + 1 + 1) x a c ∧ Below w.heap.size w w5 ∧ TxT w5 ∧ Strs w5 a2 c2 Y.1.1 ∧ Ft.TRow w5 w1.heap.size v5 (out ++ [Y.1]) ∧ Ft.Kp1 (w.heap.size + 3) w1 w5) :=
              ⟨Ft.FileAt.below HK3.out.fz hB5 (by omega), (hB5.block _ (by omega)).trans HK3.out.ez, hg5, HK3.out.below.trans (hB5.mono (by omega)), HK3.out.tab.below (by have := T0.out; omega) hB5, hS5, NR5, (HB1.out.under HB3.out).below hB5⟩
            have hs5 := hB5.size
            clear hf5 hg5 hS5 NR5 hkeep hB5 hgr5 hat5 hown5 ex ox hx5 HS3 HT3 HK3 HB3 HT
            go_wp2_with fail
            obtain ⟨m1, m2, m3, m4, m5, m6, m7, m8⟩ := HM5.out
            refine ⟨⟨k + 1, out ++ [Y.1], Y.1, a2, c2, by omega, rfl, Ft.TRow.keep m7 (fun b hb => Ft.td3_other (by omega)) (Nat.le_of_eq (by simp)), ⟨?_, ?_, ?_, ?_, ?_, ?_, ?_⟩, ⟨?_, fun b h1 h2 => ?_⟩, by simp only [List.length_append, List.length_cons, List.length_nil]; omega, fun y hy => ?_, HE3⟩, by simp [intOf]; omega⟩
            · exact (Ft.td3_other (by omega)).trans m1
            · exact (Ft.td3_other (by omega)).trans m2
            · exact Ft.td3_at m3
            · exact Ft.strs_keep m6 (fun hl ad e => Ft.td3_other (by have := HS2.out.2 ad e; omega)) (Nat.le_of_eq (by simp))
            · exact Ft.td3_below m4 (by omega)
            · simp; omega
            · exact m5.below T0.out (Ft.td3_below (Below.refl _ _) (by omega))
            · simp; exact m8.size
            · exact (Ft.td3_other (by omega)).trans (m8.block b h1 h2)
            · rcases List.mem_append.1 hy with h | h
              · exact HOp.out y h
              · rw [List.mem_singleton.1 h]; exact hYl
          · have hr' : ((Y.2 : Int) != 0) = true := by simp; omega
            have HG : Hid (Ft.readG L 0 ([], 1, ⟨#[]⟩) [] = ([], k + 1, Y.2)) := HBad.out hr
            have HRb : Hid (R = (.mk ⟨#[]⟩ 0 ⟨#[]⟩ [], 51, k + 1, Y.2)) := by show _ = _; rw [HR.out, HG.out]; simp [hr]
            clear hr HBad HOn HG HR
            go_wp2_with fail
            have hE := Ft.read_end HK3.out (.mk ⟨#[]⟩ 0 ⟨#[]⟩ []) none 0 ((k : Int) + 1) (Y.2 : Int)
            refine bodyPost_ret (results_ctc_at rfl _ _ w.heap.size (w.heap.size + 1) _ _ _ _ _ _ _ _ rfl hE.1 Tryz.underlying25 (by kernel_rfl) rfl hE.2.1 Tryz.underlying30 (by kernel_rfl) rfl) rfl ?_
            rw [HRb.out]
            exact ⟨⟨none, 0, rfl, Ft.fd_none _ _ _ _ _⟩, hE.2.2.1⟩
        · have HE3 : Hid (Ft.readG L 0 ([], 1, ⟨#[]⟩) [] = Ft.readG (L.drop (k + 1)) (k + 1) x out) := by
            show _ = _
            rw [HE2.out, Ft.readG_skip (.inr ?_)]
            show tx.data.toList.head? = some 35
            rw [hhd]
            congr 1
            rw [← UInt8.toNat_inj]
            have := beq_iff_eq.1 hc
            simp
            omega
          clear HE2 hhd
          go_wp2_with fail
          go_roundw
          case rel => exact ⟨k + 1, out, x, a, c, by omega, by go_num, Ft.TRow.below HT.out HKA.out.2.2, HKA.out.1, HKA.out.2.1, by omega, HOp.out, HE3⟩
          case measure => simp [intOf]; omega
    · have i1 : ¬ (k : Int) < (L.length : Int) := by omega
      have HG : Hid (Ft.readG L 0 ([], 1, ⟨#[]⟩) [] = (out, 0, 0)) := by show _ = _; rw [HE.out, List.drop_eq_nil_of_le (by omega)]; rfl
      have HRk : Hid (R = (.mk ⟨#[]⟩ 1 ⟨#[]⟩ (Ft.bldT 0 out).1, 0, 0, 0)) := by show _ = _; rw [HR.out, HG.out]; simp
      obtain ⟨a3, c3, rfl, hTd⟩ := Ft.TRow.tds HT.out (by omega)
      have C3 := build_any wr out.length out 0 a3 c3 wr (Nat.le_refl _) (by omega) HOp.out hTd (Below.refl _ _)
      rw [show ((0 : Nat) : Int) = 0 from rfl] at C3
      have hbl := Ft.bldT_len 0 out
      obtain ⟨K, hK⟩ : ∃ K, K = (Ft.bldT 0 out).1 := ⟨_, rfl⟩
      rw [← hK] at C3 HRk hbl
      have HC3 : Hid _ := C3
      clear hTd C3 HE HG HR hK
      go_wp2_with fail
      refine Calls.mono HC3.out ?_
      rintro e w3 ⟨v, a4, c4, rfl, hFr, _, _, b3⟩
      obtain ⟨a5, cap5, hv, hn5⟩ := Ft.FRow.nd (T := .mk ⟨#[]⟩ 1 ⟨#[]⟩ K) hFr (by show K.length ≤ _; omega)
      have hv : v = .slice a5 K.length cap5 := hv
      subst hv
      have HK3 : Hid (Ft.Rd w w3 x a c) := HK.out.under b3
      have HN5 : Hid _ := hn5
      have hsz := HK.out.size
      obtain ⟨q0, q1, q2, q3⟩ := HK3.out.fz.four
      have r0 := HK3.out.fz.frozen 0
      have r1 := HK3.out.fz.frozen 1
      have r2 := HK3.out.fz.frozen 2
      have r3 := HK3.out.fz.frozen 3
      have hez := HK3.out.ez
      have e0 : w3.cell? ⟨w.heap.size + 1, 0, none⟩ = some (.int .i64 0) := by rw [cell_of_row _ _ _ _ _ _ hez]; rfl
      have e1 : w3.cell? ⟨w.heap.size + 1, 1, none⟩ = some (.int .i64 0) := by rw [cell_of_row _ _ _ _ _ _ hez]; rfl
      have s0 := frozen_of_row w3 _ 0 _ _ hez
      have s1 := frozen_of_row w3 _ 1 _ _ hez
      clear hFr b3 hn5 hez HT HC3
      go_wp2_with fail
      have hE := Ft.read_end HK3.out (.mk ⟨#[]⟩ 1 ⟨#[]⟩ K) a5 cap5 0 0
      refine bodyPost_ret (results_ctc_at rfl _ _ w.heap.size (w.heap.size + 1) _ _ _ _ _ _ _ _ rfl hE.1 Tryz.underlying25 (by kernel_rfl) rfl hE.2.1 Tryz.underlying30 (by kernel_rfl) rfl) rfl ?_
      rw [HRk.out]
      exact ⟨⟨a5, cap5, rfl, HN5.out.same (fun b hb => hE.2.2.2.1 b (by omega)) (fun b hb => ⟨by omega, by simp; exact hb.2⟩)⟩, hE.2.2.1⟩
end Go.Proofs.YtfbhofomcenabaaGreatDoor
