/- A set that lies in a block; a slice of bytes that is read; what sets.Of answers. -/
import Derived.Test.YtmlpfgfpmbnbeaaSHas
import Derived.Deep.WholeRow
namespace Go.Proofs.Ytmlpfgfpmbnbeaa
open Go.RowKit

/-- The block g holds a set. -/
def SetAt (w : World) (g : Nat) (p : Nat → Bool) : Prop := w.heap[g]? = some (.cells (setA p) 25 (0, 0))
theorem SetAt.lt {w : World} {g : Nat} {p : Nat → Bool} (h : SetAt w g p) : g < w.heap.size := by
  unfold SetAt at h
  by_cases hlt : g < w.heap.size
  · exact hlt
  · rw [Array.getElem?_eq_none (by omega)] at h; cases h
theorem SetAt.below {w w' : World} {g B : Nat} {p : Nat → Bool} (h : SetAt w g p) (hb : Below B w w') (hB : g < B) : SetAt w' g p := by
  unfold SetAt; rw [hb.block g hB]; exact h
theorem SetAt.under {w w' : World} {g : Nat} {p : Nat → Bool} (h : SetAt w g p) (hb : Below w.heap.size w w') : SetAt w' g p := h.below hb h.lt
theorem SetAt.cells {w : World} {g : Nat} {p : Nat → Bool} (h : SetAt w g p) :
    w.cell? ⟨g, 0, none⟩ = some (.int .u64 (St.wd p 0 : Nat)) ∧ w.cell? ⟨g, 1, none⟩ = some (.int .u64 (St.wd p 1 : Nat)) ∧ w.cell? ⟨g, 2, none⟩ = some (.int .u64 (St.wd p 2 : Nat)) ∧ w.cell? ⟨g, 3, none⟩ = some (.int .u64 (St.wd p 3 : Nat)) := by
  refine ⟨?_, ?_, ?_, ?_⟩ <;> rw [cell_of_row w g _ _ _ _ h] <;> rfl
theorem SetAt.frozen {w : World} {g : Nat} {p : Nat → Bool} (h : SetAt w g p) (j : Nat) : w.frozen? ⟨g, j, none⟩ = false := frozen_of_row w g j _ _ h
/-- The world behind a set's being written into the block g. -/
abbrev put4 (w : World) (g : Nat) (q : Nat → Bool) : World := (((w.setCell ⟨g, 0, none⟩ (.int .u64 (St.wd q 0 : Nat))).setCell ⟨g, 1, none⟩ (.int .u64 (St.wd q 1 : Nat))).setCell ⟨g, 2, none⟩ (.int .u64 (St.wd q 2 : Nat))).setCell ⟨g, 3, none⟩ (.int .u64 (St.wd q 3 : Nat))
theorem SetAt.put {w : World} {g : Nat} {p q : Nat → Bool} (h : SetAt w g p) : SetAt (put4 w g q) g q := by
  have h0 := heap_setCell_same w g 0 _ _ (.int .u64 (St.wd q 0 : Nat)) h
  have h1 := heap_setCell_same _ g 1 _ _ (.int .u64 (St.wd q 1 : Nat)) h0
  have h2 := heap_setCell_same _ g 2 _ _ (.int .u64 (St.wd q 2 : Nat)) h1
  exact heap_setCell_same _ g 3 _ _ (.int .u64 (St.wd q 3 : Nat)) h2
theorem SetAt.congr {w : World} {g : Nat} {p q : Nat → Bool} (h : SetAt w g p) (e : ∀ c, c < 256 → p c = q c) : SetAt w g q := by
  have := St.setV_congr e
  unfold St.setV at this
  unfold SetAt setA at *
  injection this with this
  rw [← this]; exact h
theorem SetAt.setCell {w : World} {g : Nat} {p : Nat → Bool} (h : SetAt w g p) {a : Addr} (v : Value) (hne : g ≠ a.block) : SetAt (w.setCell a v) g p := by
  unfold SetAt; rw [heap_setCell_other w a g v hne]; exact h

theorem SetAt.other {w : World} {g g' : Nat} {p q : Nat → Bool} (h : SetAt w g p) (hne : g ≠ g') : SetAt (put4 w g' q) g p := (((h.setCell _ hne).setCell _ hne).setCell _ hne).setCell _ hne
theorem put4_below {w a : World} {g B : Nat} {q : Nat → Bool} (h : Below B a w) (hB : B ≤ g) : Below B a (put4 w g q) := (((h.setCell (p := ⟨g, 0, none⟩) hB _).setCell (p := ⟨g, 1, none⟩) hB _).setCell (p := ⟨g, 2, none⟩) hB _).setCell (p := ⟨g, 3, none⟩) hB _
theorem Below.more {B : Nat} {a b c : World} (h : Below B a b) (k : Below b.heap.size b c) (hB : B ≤ b.heap.size) : Below B a c := h.trans (k.mono hB)

/-- A slice's bytes. -/
structure Bys (w : World) (a : Option Addr) (l : List UInt8) : Prop where
  len : l.length ≤ 281474976710656
  cells : ∀ i (h : i < l.length), ∃ b off, a = some ⟨b, off, none⟩ ∧ b < w.heap.size ∧ w.cell? ⟨b, off + i, none⟩ = some (.int .u8 ((l[i]'h).toNat : Int))
theorem Bys.below {w w' : World} {a : Option Addr} {l : List UInt8} (h : Bys w a l) (hb : Below w.heap.size w w') : Bys w' a l :=
  ⟨h.len, fun i hi => by
    obtain ⟨b, off, e, hlt, hc⟩ := h.cells i hi
    exact ⟨b, off, e, Nat.lt_of_lt_of_le hlt hb.size, (hb.cell (p := ⟨b, off + i, none⟩) hlt).trans hc⟩⟩

namespace St
/-- The bytes of a list, as a set. -/
def inL (l : List UInt8) (c : Nat) : Bool := l.any (fun b => b.toNat == c)
theorem inL_step {l : List UInt8} {k : Nat} (hk : k < l.length) (c : Nat) : (inL (l.take k) c || c == (l[k]'hk).toNat) = inL (l.take (k + 1)) c := by
  rw [List.take_succ_eq_append_getElem hk]
  unfold inL
  rw [List.any_append, List.any_cons, List.any_nil, Bool.or_false]
  congr 1
  rw [Bool.eq_iff_iff, beq_iff_eq, beq_iff_eq]
  exact eq_comm
end St
theorem wd_none : ∀ i, St.wd (St.inL []) i = 0 := by
  intro i
  show St.word (fun _ => false) 64 = 0
  decide

def zA : Obj := .cells #[.int .u64 0, .int .u64 0, .int .u64 0, .int .u64 0] 25
theorem zA_eq : zA = .cells (setA (St.inL [])) 25 := by
  unfold zA setA
  rw [wd_none, wd_none, wd_none, wd_none]; rfl
theorem atS0 (w : World) : SetAt (w.alloc (.cells #[.int .u64 0, .int .u64 0, .int .u64 0, .int .u64 0] 25)) w.heap.size (St.inL []) := by
  show (w.alloc zA).heap[w.heap.size]? = _
  rw [zA_eq, heap_alloc_new]
theorem atS1 (w : World) : SetAt ((w.alloc (.cells #[.int .u64 0, .int .u64 0, .int .u64 0, .int .u64 0] 25)).alloc (.cells #[.int .u64 0, .int .u64 0, .int .u64 0, .int .u64 0] 25)) w.heap.size (St.inL []) := by
  show ((w.alloc zA).alloc zA).heap[w.heap.size]? = _
  rw [zA_eq, heap_alloc2_old]
theorem atS2 (w : World) : SetAt ((w.alloc (.cells #[.int .u64 0, .int .u64 0, .int .u64 0, .int .u64 0] 25)).alloc (.cells #[.int .u64 0, .int .u64 0, .int .u64 0, .int .u64 0] 25)) (w.heap.size + 1) (St.inL []) := by
  show ((w.alloc zA).alloc zA).heap[w.heap.size + 1]? = _
  rw [zA_eq, heap_alloc2_new]

set_option maxRecDepth 100000 in
set_option maxHeartbeats 1000000 in
theorem of_any (a : Option Addr) (cap : Nat) (l : List UInt8) (w : World) (h : Bys w a l) :
    Calls Try.prog 12 #[.slice a l.length cap] w fun e w' => e = .returned (St.setV (St.inL l)) ∧ Below w.heap.size w w' := by
  have hl := h.len
  go_enter Try.func12, Try.ntmps12
  go_wp2_with fail
  go_loopw [8] (fun i wr => ∃ k : Nat, k ≤ l.length ∧ i = .int .i64 k ∧ SetAt wr (w.heap.size + 1) (St.inL (l.take k)) ∧ SetAt wr w.heap.size (St.inL []) ∧ Below w.heap.size w wr) (fun i _ => l.length - (intOf i).toNat)
  case atStart => exact ⟨0, Nat.zero_le _, rfl, atS2 w, atS1 w, ((Below.refl _ _).alloc (Nat.le_refl _) _).alloc (by simp) _⟩
  case round =>
    obtain ⟨k, hk, rfl, S1, S2, hnx⟩ := hrel
    obtain ⟨q0, q1, q2, q3⟩ := S1.cells
    have hl1 := S1.lt
    by_cases hlt : k < l.length
    · obtain ⟨b, off, rfl, hb0, hc⟩ := (h.below hnx).cells k hlt
      go_wp2_with (go_at_call 36; refine (with_any _ _ (l[k]'hlt).toNat_lt _).mono ?_; rintro x w1 ⟨rfl, hb⟩; simp only [St.setV]; have f0 := (S1.under hb).frozen 0; have f1 := (S1.under hb).frozen 1; have f2 := (S1.under hb).frozen 2; have f3 := (S1.under hb).frozen 3; obtain ⟨r0, r1, r2, r3⟩ := (S1.under hb).cells)
      have hs := hb.size
      refine ⟨⟨k + 1, by omega, by go_num, (S1.under hb).put.congr (fun c _ => St.inL_step hlt c), (S2.under hb).other (by omega), put4_below (Below.more hnx hb (by omega)) (by omega)⟩, ?_⟩
      simp [intOf]; omega
    · obtain ⟨r0, r1, r2, r3⟩ := S2.cells
      have f0 := S2.frozen 0
      have f1 := S2.frozen 1
      have f2 := S2.frozen 2
      have f3 := S2.frozen 3
      have HE : Hid (l.take k = l) := List.take_of_length_le (by omega)
      go_wp2_with fail
      refine bodyPost_ret (results_cell_row rfl _ _ w.heap.size _ _ _ _ rfl (S2.put (q := St.inL (l.take k))) Try.underlying25 rfl (by kernel_rfl)) rfl ?_
      refine ⟨?_, put4_below hnx (Nat.le_refl _)⟩
      rw [HE.out]; rfl
end Go.Proofs.Ytmlpfgfpmbnbeaa
