/- The table of options as args.options makes it. -/
import Derived.Test.YtklcfjakhabbgaaArA
import Derived.Test.YtklcfjakhabbgaaArRd
import Derived.Laws.EntriesVeiled
namespace Go.Proofs.Ytklcfjakhabbgaa
open Go.RowKit

def fnV (n : Nat) : Value := .func (.func n) #[] #[]
def fnB (n b : Nat) : Value := .func (.func n) #[] #[.pointer (some ⟨b, 0, none⟩)]
theorem sets_any (n : Nat) (w : World) : Calls Try.prog 35 #[.func (.func n) #[] #[]] w fun e w' => e = .returned (.func (.func 49) #[] #[.pointer (some ⟨w.heap.size, 0, none⟩)]) ∧ w' = w.alloc (.cells #[.func (.func n) #[] #[]] 67) := by
  go_enter Try.func35, Try.ntmps35
  go_wp2_with fail
  go_ret
  exact ⟨rfl, rfl⟩
theorem piece_any (b : Bool) (w : World) : Calls Try.prog 39 #[.bool b] w fun e w' => e = .returned (.func (.func 50) #[] #[.pointer (some ⟨w.heap.size, 0, none⟩)]) ∧ w' = w.alloc (.cells #[.bool b] 4) := by
  go_enter Try.func39, Try.ntmps39
  go_wp2_with fail
  go_ret
  exact ⟨rfl, rfl⟩
/-- The function of each option: its boxes behind B. -/
def doK (B : Nat) : Nat → Value
  | 0 => fnB 49 (B + 1) | 1 => fnB 49 (B + 3) | 2 => fnB 49 (B + 5) | 3 => fnB 50 (B + 7) | 4 => fnB 50 (B + 9) | _ => fnV 40
/-- The four cells of an option. -/
def opK (B k : Nat) : List Value := [.string (Ar.letK k), .slice (some ⟨B + 2 * k, 0, none⟩) (Ar.namK k).length (Ar.namK k).length, .int .i64 (Ar.valK k), doK B k]
/-- The table of options behind B. -/
structure KT (B : Nat) (W : World) : Prop where
  nm : ∀ k, k < 6 → W.heap[B + 2 * k]? = some (.cells ((Ar.namK k).map Value.string).toArray 9)
  s0 : W.heap[B + 1]? = some (.cells #[fnV 36] 67)
  s1 : W.heap[B + 3]? = some (.cells #[fnV 37] 67)
  s2 : W.heap[B + 5]? = some (.cells #[fnV 38] 67)
  p0 : W.heap[B + 7]? = some (.cells #[.bool false] 4)
  p1 : W.heap[B + 9]? = some (.cells #[.bool true] 4)
  tb : ∃ cs, W.heap[B + 11]? = some (.cells cs 69) ∧ ∀ k, k < 6 → ∀ j, j < 4 → cs[k * 4 + j]? = (opK B k)[j]?
theorem KT.keep {B : Nat} {W W' : World} (h : KT B W) (hk : ∀ k, B ≤ k → k < B + 12 → W'.heap[k]? = W.heap[k]?) : KT B W' := by
  obtain ⟨cs, h1, h2⟩ := h.tb
  exact ⟨fun k hk' => (hk _ (by omega) (by omega)).trans (h.nm k hk'), (hk _ (by omega) (by omega)).trans h.s0, (hk _ (by omega) (by omega)).trans h.s1, (hk _ (by omega) (by omega)).trans h.s2, (hk _ (by omega) (by omega)).trans h.p0, (hk _ (by omega) (by omega)).trans h.p1, cs, (hk _ (by omega) (by omega)).trans h1, h2⟩
theorem KT.lt {B : Nat} {W : World} (h : KT B W) : B + 11 < W.heap.size := by
  obtain ⟨cs, h1, _⟩ := h.tb
  exact lt_of_block h1
theorem KT.below {B : Nat} {W W' : World} (h : KT B W) (hb : Below W.heap.size W W') : KT B W' := h.keep (fun k _ hk => hb.block k (by have := h.lt; omega))
theorem KT.cell {B : Nat} {W : World} (h : KT B W) (k j : Nat) (hk : k < 6) (hj : j < 4) : W.cell? ⟨B + 11, k * 4 + j, none⟩ = (opK B k)[j]? := by
  obtain ⟨cs, h1, h2⟩ := h.tb
  rw [cell_of_row _ _ _ _ _ _ h1, h2 k hk j hj]
theorem KT.strs {B : Nat} {W : World} (h : KT B W) (k : Nat) (hk : k < 6) (j : Nat) (hj : j < (Ar.namK k).length) : W.cell? ⟨B + 2 * k, j, none⟩ = some (.string ((Ar.namK k)[j]'hj)) := by
  rw [cell_of_row _ _ _ _ _ _ (h.nm k hk)]
  simp [hj]
theorem al_old : ∀ (os : List Obj) (w : World) (k : Nat), k < w.heap.size → (os.foldl World.alloc w).heap[k]? = w.heap[k]?
  | [], _, _, _ => rfl
  | o :: r, w, k, h => by
    rw [List.foldl_cons, al_old r (w.alloc o) k (by simp; omega)]
    exact heap_alloc_old w o h
theorem al_heap : ∀ (os : List Obj) (w : World) (i : Nat), i < os.length → (os.foldl World.alloc w).heap[w.heap.size + i]? = os[i]?
  | [], _, _, h => absurd h (by simp)
  | o :: r, w, 0, _ => by
    rw [List.foldl_cons, Nat.add_zero, al_old r (w.alloc o) _ (by simp)]
    exact heap_alloc_new w o
  | o :: r, w, i + 1, h => by
    have := al_heap r (w.alloc o) i (by simpa using h)
    rw [show (w.alloc o).heap.size + i = w.heap.size + (i + 1) by simp; omega] at this
    exact this
theorem al12 (w : World) (o0 o1 o2 o3 o4 o5 o6 o7 o8 o9 o10 o11 : Obj) (i : Nat) (h : i < 12) : ((((((((((((w.alloc o0).alloc o1).alloc o2).alloc o3).alloc o4).alloc o5).alloc o6).alloc o7).alloc o8).alloc o9).alloc o10).alloc o11).heap[w.heap.size + i]? = [o0, o1, o2, o3, o4, o5, o6, o7, o8, o9, o10, o11][i]? := al_heap [o0, o1, o2, o3, o4, o5, o6, o7, o8, o9, o10, o11] w i h
set_option maxRecDepth 100000 in
set_option maxHeartbeats 1000000 in
theorem options_any (w : World) : Calls Try.prog 23 #[] w fun e w' => e = .returned (.slice (some ⟨w.heap.size + 11, 0, none⟩) 6 6) ∧ KT w.heap.size w' ∧ w'.heap.size = w.heap.size + 12 ∧ Below w.heap.size w w' := by
  go_enter Try.func23, Try.ntmps23
  go_wp2_with (first
    | (go_at_call 35; refine (sets_any _ _).mono ?_; rintro e w1 ⟨rfl, rfl⟩)
    | (go_at_call 39; refine (piece_any _ _).mono ?_; rintro e w1 ⟨rfl, rfl⟩))
  go_ret
  refine ⟨rfl, ?_, by simp, ?_⟩
  · refine ⟨fun k hk => ?_, ?_, ?_, ?_, ?_, ?_, ?_⟩
    · match k, hk with
      | 0, _ => exact al12 w _ _ _ _ _ _ _ _ _ _ _ _ 0 (by decide)
      | 1, _ => exact al12 w _ _ _ _ _ _ _ _ _ _ _ _ 2 (by decide)
      | 2, _ => exact al12 w _ _ _ _ _ _ _ _ _ _ _ _ 4 (by decide)
      | 3, _ => exact al12 w _ _ _ _ _ _ _ _ _ _ _ _ 6 (by decide)
      | 4, _ => exact al12 w _ _ _ _ _ _ _ _ _ _ _ _ 8 (by decide)
      | 5, _ => exact al12 w _ _ _ _ _ _ _ _ _ _ _ _ 10 (by decide)
    · exact al12 w _ _ _ _ _ _ _ _ _ _ _ _ 1 (by decide)
    · exact al12 w _ _ _ _ _ _ _ _ _ _ _ _ 3 (by decide)
    · exact al12 w _ _ _ _ _ _ _ _ _ _ _ _ 5 (by decide)
    · exact al12 w _ _ _ _ _ _ _ _ _ _ _ _ 7 (by decide)
    · exact al12 w _ _ _ _ _ _ _ _ _ _ _ _ 9 (by decide)
    · refine ⟨_, al12 w _ _ _ _ _ _ _ _ _ _ _ _ 11 (by decide), fun k hk j hj => ?_⟩
      match k, hk with
      | 0, _ | 1, _ | 2, _ | 3, _ | 4, _ | 5, _ =>
        match j, hj with
        | 0, _ | 1, _ | 2, _ | 3, _ => rfl
  · exact (((((((((((((Below.refl w.heap.size w).alloc (by first | omega | (simp only [World.size_alloc]; omega)) _).alloc (by first | omega | (simp only [World.size_alloc]; omega)) _).alloc (by first | omega | (simp only [World.size_alloc]; omega)) _).alloc (by first | omega | (simp only [World.size_alloc]; omega)) _).alloc (by first | omega | (simp only [World.size_alloc]; omega)) _).alloc (by first | omega | (simp only [World.size_alloc]; omega)) _).alloc (by first | omega | (simp only [World.size_alloc]; omega)) _).alloc (by first | omega | (simp only [World.size_alloc]; omega)) _).alloc (by first | omega | (simp only [World.size_alloc]; omega)) _).alloc (by first | omega | (simp only [World.size_alloc]; omega)) _).alloc (by first | omega | (simp only [World.size_alloc]; omega)) _).alloc (by first | omega | (simp only [World.size_alloc]; omega)) _)
end Go.Proofs.Ytklcfjakhabbgaa
