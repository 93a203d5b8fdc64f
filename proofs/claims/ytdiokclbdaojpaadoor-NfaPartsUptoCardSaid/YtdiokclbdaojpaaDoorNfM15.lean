/- How many pairs (*run).ends yields at most; rows that are written over. What the reference's Same answers of two programs that are one. Whether two rows of numbers are the same: what the reference's Ints answers. -/
import Derived.Test.YtdiokclbdaojpaaDoorNfM13
import Derived.Test.YtdiokclbdaojpaaDoorNfM4
import Derived.Test.YtdiokclbdaojpaaDoorNfCmp
import Derived.Deep.QuietTactic
namespace Go.Proofs.YtdiokclbdaojpaaDoor
open Go Go.RowKit Go.Shelf

namespace Nt
theorem plcF_ok (L : List Ins) (hL : Leads L) (s : ByteArray) (a : Nat) : ∀ (ws : List (Nat × Nat)) (x : (List (Nat × Nat) × Nat) × List Nat), Gd L a ws → x.2.length = L.length → Gd L a x.1.1 →
    (plcF L s a ws x).2.length + opn (plcF L s a ws x).1.2 (a + 1) ≤ opn x.2 (a + 1) ∧ (plcF L s a ws x).1.2.length = L.length ∧ Gd L a (plcF L s a ws x).1.1.1 := by
  intro ws
  induction ws with
  | nil => intro x _ h1 h2; exact ⟨by simp [plcF], h1, h2⟩
  | cons p ws ih =>
    obtain ⟨i, b⟩ := p
    intro x hw h1 h2
    simp only [plcF]
    split
    · exact ⟨by simp, h1, h2⟩
    · obtain ⟨hi, hb⟩ := hw (i, b) (List.mem_cons_self ..)
      have hl : ∀ k ∈ [i], k < L.length := fun k hk => by obtain rfl : k = i := by simpa using hk
                                                          exact hi
      have e1 := stF_len L hL s.size a (mu [i] x.2 (a + 1)) [i] x.2 h1 hl
      have e2 := stF_mlen L s.size a (mu [i] x.2 (a + 1)) [i] x.2
      have e3 := stF_mem L hL s.size a (mu [i] x.2 (a + 1)) [i] x.2 h1 hl
      have e4 := wayF_ys L s a b (stF L s.size a (mu [i] x.2 (a + 1)) [i] x.2).1 x.1
      have e5 := wayF_gd L hL s a b hb _ e3 x.1 h2
      obtain ⟨g1, g2, g3⟩ := ih ((wayF L s a b (stF L s.size a (mu [i] x.2 (a + 1)) [i] x.2).1 x.1).1, (stF L s.size a (mu [i] x.2 (a + 1)) [i] x.2).2) (fun p hp => hw p (List.mem_cons_of_mem _ hp)) (e2.trans h1) e5
      refine ⟨?_, g2, g3⟩
      rw [List.length_append]
      simp only at g1 ⊢
      omega
theorem endF_len (L : List Ins) (hL : Leads L) (h0 : 1 ≤ L.length) (s : ByteArray) (til : Nat) : ∀ (k a last : Nat) (now : List (Nat × Nat)) (m : List Nat), Gd L a now → m.length = L.length → (endF L s til k a last now m).length ≤ k * L.length := by
  intro k
  induction k with
  | zero => intro a last now m _ _; simp [endF]
  | succ k ih =>
    intro a last now m hg hm
    simp only [endF]
    split
    · have hw : Gd L a (if a ≤ last then now ++ [(0, a)] else now) := by
        split
        · intro p hp
          rcases List.mem_append.1 hp with hp | hp
          · exact hg p hp
          · obtain rfl : p = (0, a) := by simpa using hp
            exact ⟨h0, Nat.le_refl _⟩
        · exact hg
      obtain ⟨g1, g2, g3⟩ := plcF_ok L hL s a _ (([], last), m) hw hm (fun p hp => by cases hp)
      have e1 := ih (a + 1) (plcF L s a (if a ≤ last then now ++ [(0, a)] else now) (([], last), m)).1.1.2 (plcF L s a (if a ≤ last then now ++ [(0, a)] else now) (([], last), m)).1.1.1 (plcF L s a (if a ≤ last then now ++ [(0, a)] else now) (([], last), m)).1.2 (fun p hp => ⟨(g3 p hp).1, Nat.le_succ_of_le (g3 p hp).2⟩) g2
      have e2 := opn_le m (a + 1)
      rw [List.length_append, Nat.succ_mul]
      simp only at g1
      omega
    · simp
/-- What nfa.Ends answers is no longer than this. -/
theorem enR_len (gr sl : Int) (L : List Ins) (s : ByteArray) (fr : Int) (hs : s.size ≤ 1048576) : (enR gr sl L s fr).1.length ≤ 17179885568 := by
  unfold enR
  split
  · rename_i hr
    have hri := rb_right hr
    have hll := right_len hri
    split
    · rw [List.length_map]
      have := endF_len L (right_leads hri) hll.1 s s.size (s.size + 1 - fr.toNat) fr.toNat fr.toNat [] (List.replicate L.length 0) (fun p hp => by cases hp) (by simp)
      have h2 : (s.size + 1 - fr.toNat) * L.length ≤ 1048577 * 16384 := Nat.mul_le_mul (by omega) hll.2
      unfold endsP
      omega
    · simp
  · simp
/-- A row of the call's own, whatever it holds. -/
def RowN (w : World) (base : Nat) (e : TypeId) (size : Nat) (v : Value) (n : Nat) : Prop := ∃ xs, w.ownsRow base e size v n xs
theorem RowN.set {w : World} {base : Nat} {e : TypeId} {size n g cap : Nat} (h : RowN w base e size (.slice (some ⟨g, 0, none⟩) n cap) n) (off : Nat) (u : Value) : RowN (w.setCell ⟨g, off, none⟩ u) base e size (.slice (some ⟨g, 0, none⟩) n cap) n := by
  obtain ⟨xs, h0, ⟨h1, _⟩ | ⟨g', cap', cur, h1, h2, h3, h4, h5, h6, h7⟩⟩ := h
  · cases h1
  · injection h1 with e1 _ e3
    injection e1 with e1
    injection e1 with e1
    subst e1 e3
    have := heap_setCell_same w g off _ _ u h3
    refine ⟨_, ?_, .inr ⟨g, cap, _, rfl, h2, this, h4, h5, by simpa using h6, rfl⟩⟩
    rw [List.length_take, Array.length_toList, Array.size_setIfInBounds, h6]
    exact Nat.min_eq_left (Nat.mul_le_mul_right _ h4)
theorem RowN.at {w : World} {base : Nat} {e : TypeId} {size n g cap : Nat} (h : RowN w base e size (.slice (some ⟨g, 0, none⟩) n cap) n) {off : Nat} (ho : off < n * size) : (∃ u, w.cell? ⟨g, off, none⟩ = some u) ∧ w.frozen? ⟨g, off, none⟩ = false := by
  obtain ⟨xs, h0, ⟨h1, _⟩ | ⟨g', cap', cur, h1, h2, h3, h4, h5, h6, h7⟩⟩ := h
  · cases h1
  · injection h1 with e1 _ e3
    injection e1 with e1
    injection e1 with e1
    subst e1 e3
    have hc : off < cur.size := by rw [h6]; exact Nat.lt_of_lt_of_le ho (Nat.mul_le_mul_right _ h4)
    exact ⟨⟨cur[off], by rw [cell_of_row w g off _ _ _ h3]; exact Array.getElem?_eq_getElem hc⟩, frozen_of_row w g off _ _ h3⟩
theorem RowN.blk {w w' : World} {base : Nat} {e : TypeId} {size n : Nat} {v : Value} (h : RowN w base e size v n) (hk : ∀ k, v.ownBlock = some k → w'.heap[k]? = w.heap[k]?) : RowN w' base e size v n := by
  obtain ⟨xs, h⟩ := h
  exact ⟨xs, own_blk h hk⟩
theorem list_new (w : World) (A : Array Value) (t : TypeId) : ∀ j u, A.toList[j]? = some u → (w.alloc (.cells A t)).cell? ((⟨w.heap.size, 0, none⟩ : Addr).add j) = some u := by
  intro j u hu
  rw [add_at, cell_of_row _ _ _ _ _ _ (World.alloc_heap_new w (.cells A t)), ← hu, Array.getElem?_toList]
/-- The eighteen cells of two empty instructions. -/
def zz : Array Value := #[.int .u8 0, .int .u64 0, .int .u64 0, .int .u64 0, .int .u64 0, .int .i64 0, .int .i64 0, .int .i64 0, .int .i64 0, .int .u8 0, .int .u64 0, .int .u64 0, .int .u64 0, .int .u64 0, .int .i64 0, .int .i64 0, .int .i64 0, .int .i64 0]
theorem zz_one : ∀ u ∈ zz.toList, u.oneCell' = true := by decide
theorem grown_set {w w' : World} {g : Nat} {row : Option Nat} (h : w.grownBy w' row) (hr : row = some g) (off : Nat) (u : Value) : w.grownBy (w'.setCell ⟨g, off, none⟩ u) row := by
  have y := (Below.refl 0 w').setCell (p := ⟨g, off, none⟩) (Nat.zero_le _) u
  refine ⟨y.os.trans h.os, y.tape.trans h.tape, y.output.trans h.output, Nat.le_trans h.size y.size, fun k hk hn => ?_⟩
  rw [heap_setCell_other w' ⟨g, off, none⟩ k _ (fun e => hn (by rw [hr]; exact congrArg some e))]
  exact h.block k hk hn
end Nt
end Go.Proofs.YtdiokclbdaojpaaDoor
namespace Go.Proofs.YtdiokclbdaojpaaDoor
open Go Go.RowKit

namespace Nt
theorem own_form {w : World} {base : Nat} {e : TypeId} {size n : Nat} {v : Value} {xs : List Value} (h : w.ownsRow base e size v n xs) : ∃ a cap, v = .slice a n cap := by
  rcases h.2 with ⟨hv, hz⟩ | ⟨g, cap, _, hv, _⟩
  · exact ⟨none, 0, by rw [hv, hz]⟩
  · exact ⟨_, cap, hv⟩
theorem own_at {w : World} {base : Nat} {a : Option Addr} {cap : Nat} {L : List Ins} (h : w.ownsRow base 64 9 (.slice a L.length cap) L.length (insC L)) {i : Nat} (hi : i < L.length) : ∃ g, a = some ⟨g, 0, none⟩ ∧ ∀ j, j < 9 → w.cell? ⟨g, i * 9 + j, none⟩ = (insL (L[i]))[j]? := by
  obtain ⟨g, c, hv, _⟩ := h.form (by omega)
  have hr := h
  rw [hv] at hr
  simp only [Value.slice.injEq, true_and] at hv
  obtain ⟨rfl, rfl⟩ := hv
  exact ⟨g, rfl, fun j hj => by rw [hr.cellAt (i * 9 + j) (by omega)]; exact insC_at L i hi j hj⟩
end Nt
set_option maxRecDepth 100000 in
set_option maxHeartbeats 4000000 in
theorem rsame_yes (gr sl : Int) (L : List Nt.Ins) (va vb : Value) (ba bb : Nat) (w : World) (ha : w.ownsRow ba 64 9 va L.length (Nt.insC L)) (hb : w.ownsRow bb 64 9 vb L.length (Nt.insC L)) (hl : L.length ≤ 16384) :
    Calls Tryd.prog 14 #[Nt.prgV gr sl va, Nt.prgV gr sl vb] w fun e w' => e = .returned (.bool true) ∧ Below w.heap.size w w' := by
  obtain ⟨aa, ca, rfl⟩ := Nt.own_form ha
  obtain ⟨ab, cb, rfl⟩ := Nt.own_form hb
  have HA : Hid (∀ i (hi : i < L.length), ∃ g, aa = some ⟨g, 0, none⟩ ∧ g < w.heap.size ∧ ∀ j, j < 9 → w.cell? ⟨g, i * 9 + j, none⟩ = (Nt.insL (L[i]))[j]?) := fun i hi => by
    obtain ⟨g, h1, h2⟩ := Nt.own_at ha hi
    exact ⟨g, h1, (ha.lt g (by rw [h1]; rfl)).2, h2⟩
  have HB : Hid (∀ i (hi : i < L.length), ∃ g, ab = some ⟨g, 0, none⟩ ∧ g < w.heap.size ∧ ∀ j, j < 9 → w.cell? ⟨g, i * 9 + j, none⟩ = (Nt.insL (L[i]))[j]?) := fun i hi => by
    obtain ⟨g, h1, h2⟩ := Nt.own_at hb hi
    exact ⟨g, h1, (hb.lt g (by rw [h1]; rfl)).2, h2⟩
  have hB0 : Below w.heap.size w ((w.alloc (.cells #[.int .i64 gr, .int .i64 sl, .slice aa L.length ca] 35)).alloc (.cells #[.int .i64 gr, .int .i64 sl, .slice ab L.length cb] 35)) := ((Below.refl w.heap.size w).alloc (Nat.le_refl _) _).alloc (by simp) _
  have PA : ((w.alloc (.cells #[.int .i64 gr, .int .i64 sl, .slice aa L.length ca] 35)).alloc (.cells #[.int .i64 gr, .int .i64 sl, .slice ab L.length cb] 35)).heap[w.heap.size]? = some (.cells #[.int .i64 gr, .int .i64 sl, .slice aa L.length ca] 35 (0, 0)) := by
    rw [heap_alloc_old _ _ (by simp)]; exact heap_alloc_new w _
  have PB : ((w.alloc (.cells #[.int .i64 gr, .int .i64 sl, .slice aa L.length ca] 35)).alloc (.cells #[.int .i64 gr, .int .i64 sl, .slice ab L.length cb] 35)).heap[w.heap.size + 1]? = some (.cells #[.int .i64 gr, .int .i64 sl, .slice ab L.length cb] 35 (0, 0)) := heap_alloc2_new w _ _
  simp only [Nt.prgV]
  obtain ⟨W, hW⟩ : ∃ W, W = ((w.alloc (.cells #[.int .i64 gr, .int .i64 sl, .slice aa L.length ca] 35)).alloc (.cells #[.int .i64 gr, .int .i64 sl, .slice ab L.length cb] 35)) := ⟨_, rfl⟩
  rw [← hW] at hB0 PA PB
  have a0 : W.cell? ⟨w.heap.size, 0, none⟩ = some (.int .i64 gr) := cell_of_row _ _ _ _ _ _ PA
  have a1 : W.cell? ⟨w.heap.size, 1, none⟩ = some (.int .i64 sl) := cell_of_row _ _ _ _ _ _ PA
  have a2 : W.cell? ⟨w.heap.size, 2, none⟩ = some (.slice aa L.length ca) := cell_of_row _ _ _ _ _ _ PA
  have b0 : W.cell? ⟨w.heap.size + 1, 0, none⟩ = some (.int .i64 gr) := cell_of_row _ _ _ _ _ _ PB
  have b1 : W.cell? ⟨w.heap.size + 1, 1, none⟩ = some (.int .i64 sl) := cell_of_row _ _ _ _ _ _ PB
  have b2 : W.cell? ⟨w.heap.size + 1, 2, none⟩ = some (.slice ab L.length cb) := cell_of_row _ _ _ _ _ _ PB
  have HB0 : Hid _ := hB0
  clear ha hb PA PB hB0
  go_enter Tryd.func14, Tryd.ntmps14
  go_wp2_with fail
  rw [← hW]
  clear hW
  have HW : Hid (∀ wr : World, (∀ k : Nat, wr.heap[k]? = W.heap[k]?) → wr.cell? ⟨w.heap.size, 2, none⟩ = some (.slice aa L.length ca) ∧ wr.cell? ⟨w.heap.size + 1, 2, none⟩ = some (.slice ab L.length cb)) := fun wr h => ⟨(World.cell?_of_block (h _)).trans a2, (World.cell?_of_block (h _)).trans b2⟩
  clear a0 a1 a2 b0 b1 b2
  go_loopw [5] (fun iv wr => ∃ i : Nat, i ≤ L.length ∧ iv = .int .i64 (i : Int) ∧ Below w.heap.size w wr ∧ (∀ k : Nat, wr.heap[k]? = W.heap[k]?)) (fun iv _ => L.length - (intOf iv).toNat)
  case atStart => exact ⟨0, by omega, rfl, HB0.out, fun _ => rfl⟩
  case round =>
    obtain ⟨i, hi, rfl, hB, hK⟩ := hrel
    obtain ⟨a2, b2⟩ := HW.out _ hK
    by_cases hlt : i < L.length
    · obtain ⟨g, rfl, hg, cA⟩ := HA.out i hlt
      obtain ⟨g', rfl, hg', cB⟩ := HB.out i hlt
      obtain ⟨x, hx⟩ : ∃ x, L[i] = x := ⟨_, rfl⟩
      rw [hx] at cA cB
      have hc : ∀ G j, G < w.heap.size → wr.cell? ⟨G, j, none⟩ = w.cell? ⟨G, j, none⟩ := fun G j hG => hB.cell (p := ⟨G, j, none⟩) hG
      have x0 : wr.cell? ⟨g, i * 9, none⟩ = some (.int .u8 (x.k : Int)) := (hc _ _ hg).trans (cA 0 (by omega))
      have x1 : wr.cell? ⟨g, i * 9 + 1, none⟩ = some (.int .u64 (St.wd x.s 0 : Nat)) := (hc _ _ hg).trans (cA 1 (by omega))
      have x2 : wr.cell? ⟨g, i * 9 + 2, none⟩ = some (.int .u64 (St.wd x.s 1 : Nat)) := (hc _ _ hg).trans (cA 2 (by omega))
      have x3 : wr.cell? ⟨g, i * 9 + 3, none⟩ = some (.int .u64 (St.wd x.s 2 : Nat)) := (hc _ _ hg).trans (cA 3 (by omega))
      have x4 : wr.cell? ⟨g, i * 9 + 4, none⟩ = some (.int .u64 (St.wd x.s 3 : Nat)) := (hc _ _ hg).trans (cA 4 (by omega))
      have x5 : wr.cell? ⟨g, i * 9 + 5, none⟩ = some (.int .i64 x.to) := (hc _ _ hg).trans (cA 5 (by omega))
      have x6 : wr.cell? ⟨g, i * 9 + 6, none⟩ = some (.int .i64 x.gr) := (hc _ _ hg).trans (cA 6 (by omega))
      have x7 : wr.cell? ⟨g, i * 9 + 7, none⟩ = some (.int .i64 x.la) := (hc _ _ hg).trans (cA 7 (by omega))
      have x8 : wr.cell? ⟨g, i * 9 + 8, none⟩ = some (.int .i64 x.sl) := (hc _ _ hg).trans (cA 8 (by omega))
      have y0 : wr.cell? ⟨g', i * 9, none⟩ = some (.int .u8 (x.k : Int)) := (hc _ _ hg').trans (cB 0 (by omega))
      have y1 : wr.cell? ⟨g', i * 9 + 1, none⟩ = some (.int .u64 (St.wd x.s 0 : Nat)) := (hc _ _ hg').trans (cB 1 (by omega))
      have y2 : wr.cell? ⟨g', i * 9 + 2, none⟩ = some (.int .u64 (St.wd x.s 1 : Nat)) := (hc _ _ hg').trans (cB 2 (by omega))
      have y3 : wr.cell? ⟨g', i * 9 + 3, none⟩ = some (.int .u64 (St.wd x.s 2 : Nat)) := (hc _ _ hg').trans (cB 3 (by omega))
      have y4 : wr.cell? ⟨g', i * 9 + 4, none⟩ = some (.int .u64 (St.wd x.s 3 : Nat)) := (hc _ _ hg').trans (cB 4 (by omega))
      have y5 : wr.cell? ⟨g', i * 9 + 5, none⟩ = some (.int .i64 x.to) := (hc _ _ hg').trans (cB 5 (by omega))
      have y6 : wr.cell? ⟨g', i * 9 + 6, none⟩ = some (.int .i64 x.gr) := (hc _ _ hg').trans (cB 6 (by omega))
      have y7 : wr.cell? ⟨g', i * 9 + 7, none⟩ = some (.int .i64 x.la) := (hc _ _ hg').trans (cB 7 (by omega))
      have y8 : wr.cell? ⟨g', i * 9 + 8, none⟩ = some (.int .i64 x.sl) := (hc _ _ hg').trans (cB 8 (by omega))
      have E := ins_neq x
      have HB1 : Hid _ := hB
      have HK1 : Hid _ := hK
      clear cA cB hc hx hB hK
      go_wp2_with fail
      go_quiet (fail)
      go_wp2_with fail
      go_roundw
      case rel => exact ⟨i + 1, by omega, by go_num, ⟨HB1.out.os, HB1.out.tape, HB1.out.output, HB1.out.size, HB1.out.block⟩, HK1.out⟩
      case measure => simp [intOf]; omega
    · go_wp2_with fail
      go_ret
      exact ⟨rfl, hB⟩
end Go.Proofs.YtdiokclbdaojpaaDoor
namespace Go.Proofs.YtdiokclbdaojpaaDoor
open Go Go.RowKit Go.Shelf

namespace Nt
theorem ints_at {w : World} {base : Nat} {a : Option Addr} {cap : Nat} {l : List Nat} (h : w.ownsRow base 3 1 (.slice a l.length cap) l.length (icellsN l)) {i : Nat} (hi : i < l.length) : ∃ g, a = some ⟨g, 0, none⟩ ∧ g < w.heap.size ∧ w.cell? ⟨g, i, none⟩ = some (.int .i64 (l[i] : Int)) := by
  obtain ⟨g, c, hv, _⟩ := h.form (by omega)
  have hr := h
  rw [hv] at hr
  simp only [Value.slice.injEq, true_and] at hv
  obtain ⟨rfl, rfl⟩ := hv
  refine ⟨g, rfl, (h.lt g rfl).2, ?_⟩
  rw [hr.cellAt i (by omega)]
  simp [icellsN, hi]
/-- Two rows that read alike up to a place, and not there, are not the same. -/
theorem ne_at {l m : List Nat} {i : Nat} (hi : i < l.length) (hj : i < m.length) (h : l[i] ≠ m[i]) : (l == m) = false := by
  rw [beq_eq_false_iff_ne]
  rintro rfl
  exact h rfl
end Nt

set_option maxRecDepth 100000 in
set_option maxHeartbeats 8000000 in
theorem ints_any (l m : List Nat) (va vb : Value) (ba bb : Nat) (w : World) (ha : w.ownsRow ba 3 1 va l.length (Nt.icellsN l)) (hb : w.ownsRow bb 3 1 vb m.length (Nt.icellsN m)) (hl : l.length ≤ 1099511627776) :
    Calls Tryd.prog 21 #[va, vb] w fun e w' => e = .returned (.bool (l == m)) ∧ Below w.heap.size w w' := by
  obtain ⟨aa, ca, rfl⟩ := Nt.own_form ha
  obtain ⟨ab, cb, rfl⟩ := Nt.own_form hb
  have HA : Hid (∀ i (hi : i < l.length), ∃ g, aa = some ⟨g, 0, none⟩ ∧ g < w.heap.size ∧ w.cell? ⟨g, i, none⟩ = some (.int .i64 (l[i] : Int))) := fun i hi => Nt.ints_at ha hi
  have HB : Hid (∀ i (hi : i < m.length), ∃ g, ab = some ⟨g, 0, none⟩ ∧ g < w.heap.size ∧ w.cell? ⟨g, i, none⟩ = some (.int .i64 (m[i] : Int))) := fun i hi => Nt.ints_at hb hi
  clear ha hb
  by_cases hlm : l.length = m.length
  · have HLM : Hid _ := hlm
    rw [← hlm]
    clear hlm
    go_enter Tryd.func21, Tryd.ntmps21
    go_wp2_with fail
    go_loopw [5] (fun iv wr => ∃ i : Nat, i ≤ l.length ∧ iv = .int .i64 (i : Int) ∧ l.take i = m.take i ∧ Below w.heap.size w wr) (fun iv _ => l.length - (intOf iv).toNat)
    case atStart => exact ⟨0, by omega, rfl, by simp, Below.refl _ _⟩
    case round =>
      obtain ⟨i, hi, rfl, hT, hB⟩ := hrel
      by_cases hlt : i < l.length
      · have hlt2 : i < m.length := by have := HLM.out; omega
        obtain ⟨g, rfl, hg, cA⟩ := HA.out i hlt
        obtain ⟨g', rfl, hg', cB⟩ := HB.out i hlt2
        obtain ⟨x, hx⟩ : ∃ x, l[i] = x := ⟨_, rfl⟩
        obtain ⟨y, hy⟩ : ∃ y, m[i] = y := ⟨_, rfl⟩
        rw [hx] at cA
        rw [hy] at cB
        have x0 : wr.cell? ⟨g, i, none⟩ = some (.int .i64 (x : Int)) := (hB.cell (p := ⟨g, i, none⟩) hg).trans cA
        have y0 : wr.cell? ⟨g', i, none⟩ = some (.int .i64 (y : Int)) := (hB.cell (p := ⟨g', i, none⟩) hg').trans cB
        have HB1 : Hid _ := hB
        have HT : Hid _ := hT
        have HX : Hid _ := hx
        have HY : Hid _ := hy
        clear hT hB cA cB hx hy
        by_cases hxy : x = y
        · have HS : Hid (l.take (i + 1) = m.take (i + 1)) := by
            show _ = _
            rw [List.take_succ_eq_append_getElem hlt, List.take_succ_eq_append_getElem hlt2, HT.out, HX.out, HY.out, hxy]
          clear HX HY
          subst hxy
          go_wp2_with fail
          go_quiet (fail)
          go_wp2_with fail
          go_roundw
          case rel => exact ⟨i + 1, by omega, by go_num, HS.out, ⟨HB1.out.os, HB1.out.tape, HB1.out.output, HB1.out.size, HB1.out.block⟩⟩
          case measure => simp [intOf]; omega
        · have hne : ((x : Int) == (y : Int)) = false := by simp; omega
          have HN : Hid ((l == m) = false) := Nt.ne_at hlt hlt2 (by rw [HX.out, HY.out]; exact hxy)
          go_wp2_with fail
          go_quiet (fail)
          go_wp2_with fail
          go_ret
          rw [HN.out]
          exact ⟨rfl, ⟨HB1.out.os, HB1.out.tape, HB1.out.output, HB1.out.size, HB1.out.block⟩⟩
      · have hE : (l == m) = true := by
          have e1 : i = l.length := by omega
          have h2 := HLM.out
          rw [e1, List.take_length, h2, List.take_length] at hT
          rw [hT]; exact beq_self_eq_true m
        have HE : Hid _ := hE
        clear hE hT
        go_wp2_with fail
        go_ret
        rw [HE.out]
        exact ⟨rfl, hB⟩
  · have HN : Hid ((l == m) = false) := by
      show _ = _
      rw [beq_eq_false_iff_ne]
      rintro rfl
      exact hlm rfl
    have hne : ((l.length : Int) == (m.length : Int)) = false := by simp; omega
    go_enter Tryd.func21, Tryd.ntmps21
    go_wp2_with fail
    go_ret
    rw [HN.out]
    exact ⟨rfl, Below.refl _ _⟩
end Go.Proofs.YtdiokclbdaojpaaDoor
