/- What sets.Has and sets.with and the reference's Has and Add answer. -/
import Derived.Test.YtmlpfgfpmbnbeaaBytes
import Derived.Test.YtmlpfgfpmbnbeaaSPlain
import Derived.Laws.Rows
import Derived.Laws.ShiftsVarLaws
import Derived.Laws.BitsAllLaws
namespace Go.Proofs.Ytmlpfgfpmbnbeaa
open Go.RowKit

theorem has_bit (p : Nat → Bool) {i c : Nat} (h : c / 64 = i) : (bits .and .u64 ((St.wd p i : Int) / 2 ^ (c % 64)) 1 == 1) = p c := by
  have e : ((St.wd p i : Int) / 2 ^ (c % 64)) = ((St.wd p i / 2 ^ (c % 64) : Nat) : Int) := by
    rw [Int.natCast_ediv, Int.natCast_pow]; rfl
  have hl : St.wd p i / 2 ^ (c % 64) < 18446744073709551616 := Nat.lt_of_le_of_lt (Nat.div_le_self _ _) (St.wd_lt p i)
  rw [e, show (1 : Int) = ((1 : Nat) : Int) from rfl, u64_and_nat _ _ hl (by decide), nat_mask1, St.wd_has p (show c = 64 * i + c % 64 by omega) (Nat.mod_lt _ (by decide))]
  cases p c <;> rfl

set_option maxRecDepth 100000 in
set_option maxHeartbeats 1000000 in
theorem has_any (p : Nat → Bool) (c : Nat) (hc : c < 256) (w : World) :
    Calls Try.prog 17 #[St.setV p, .int .u8 (c : Int)] w fun e w' => e = .returned (.bool (p c)) ∧ Below w.heap.size w w' := by
  simp only [St.setV]
  obtain h | h | h | h : c / 64 = 0 ∨ c / 64 = 1 ∨ c / 64 = 2 ∨ c / 64 = 3 := by omega
  all_goals
    go_enter Try.func17, Try.ntmps17
    go_wp2_with fail
    go_ret
    rw [has_bit p h]
    exact ⟨rfl, (Below.refl _ _).alloc (Nat.le_refl _) _⟩

/-- A set as a row of cells. -/
def setA (p : Nat → Bool) : Array Value := #[.int .u64 (St.wd p 0 : Nat), .int .u64 (St.wd p 1 : Nat), .int .u64 (St.wd p 2 : Nat), .int .u64 (St.wd p 3 : Nat)]

set_option maxRecDepth 100000 in
set_option maxHeartbeats 1000000 in
theorem rhas_at (p : Nat → Bool) (c : Nat) (hc : c < 256) (w : World) :
    Calls Try.prog 18 #[.agg #[.int .u64 (St.wd p 0 : Nat), .int .u64 (St.wd p 1 : Nat), .int .u64 (St.wd p 2 : Nat), .int .u64 (St.wd p 3 : Nat)], .int .u8 (c : Int)] w fun e w' => e = .returned (.bool (p c)) ∧ w' = w.alloc (.cells #[.int .u64 (St.wd p 0 : Nat), .int .u64 (St.wd p 1 : Nat), .int .u64 (St.wd p 2 : Nat), .int .u64 (St.wd p 3 : Nat)] 25) := by
  obtain h | h | h | h : c / 64 = 0 ∨ c / 64 = 1 ∨ c / 64 = 2 ∨ c / 64 = 3 := by omega
  all_goals
    go_enter Try.func18, Try.ntmps18
    go_wp2_with fail
    go_ret
    rw [has_bit p h]
    exact ⟨rfl, rfl⟩
theorem rhas_any (p : Nat → Bool) (c : Nat) (hc : c < 256) (w : World) :
    Calls Try.prog 18 #[St.setV p, .int .u8 (c : Int)] w fun e w' => e = .returned (.bool (p c)) ∧ Below w.heap.size w w' :=
  (rhas_at p c hc w).mono fun _ _ ⟨he, hw⟩ => ⟨he, by rw [hw]; exact (Below.refl _ _).alloc (Nat.le_refl _) _⟩

theorem bit_lt (c : Nat) : 2 ^ (c % 64) < 18446744073709551616 := Nat.lt_of_lt_of_le (Nat.pow_lt_pow_right (by decide) (Nat.mod_lt c (show 0 < 64 by decide))) (by decide)
theorem wrap_bit (c : Nat) : (IntKind.u64.wrap (2 ^ (c % 64)) : Int) = ((2 ^ (c % 64) : Nat) : Int) := by
  have h : ((2 ^ (c % 64) : Nat) : Int) < ((18446744073709551616 : Nat) : Int) := Int.ofNat_lt.mpr (bit_lt c)
  have e : ((2 : Int) ^ (c % 64)) = ((2 ^ (c % 64) : Nat) : Int) := by rw [Int.natCast_pow]; rfl
  rw [IntKind.wrap_u64, e]
  exact Int.emod_eq_of_lt (Int.natCast_nonneg _) h
theorem or_bit (p : Nat → Bool) {i c : Nat} (h : c / 64 = i) : bits .or .u64 (St.wd p i : Int) (IntKind.u64.wrap (2 ^ (c % 64))) = (St.wd (fun x => p x || x == c) i : Nat) := by
  rw [wrap_bit, u64_or_nat _ _ (St.wd_lt p i) (bit_lt c), St.wd_or p (show c = 64 * i + c % 64 by omega) (Nat.mod_lt _ (by decide))]
theorem add_bit (p : Nat → Bool) {i c : Nat} (h : c / 64 = i) (hp : p c = false) : IntKind.u64.wrap ((St.wd p i : Int) + IntKind.u64.wrap (2 ^ (c % 64))) = (St.wd (fun x => p x || x == c) i : Nat) := by
  have e := St.wd_add p (show c = 64 * i + c % 64 by omega) (Nat.mod_lt _ (by decide)) hp
  have hl : ((St.wd (fun x => p x || x == c) i : Nat) : Int) < ((18446744073709551616 : Nat) : Int) := Int.ofNat_lt.mpr (St.wd_lt _ i)
  rw [wrap_bit, ← Int.natCast_add, e, IntKind.wrap_u64]
  exact Int.emod_eq_of_lt (Int.natCast_nonneg _) hl
theorem heap_alloc3_mid (w : World) (A B C : Obj) : (((w.alloc A).alloc B).alloc C).heap[w.heap.size + 1]? = some B :=
  (heap_alloc_old ((w.alloc A).alloc B) C (by simp)).trans (heap_alloc2_new w A B)

set_option maxRecDepth 100000 in
set_option maxHeartbeats 1000000 in
theorem with_any (p : Nat → Bool) (c : Nat) (hc : c < 256) (w : World) :
    Calls Try.prog 36 #[St.setV p, .int .u8 (c : Int)] w fun e w' => e = .returned (St.setV (fun x => p x || x == c)) ∧ Below w.heap.size w w' := by
  simp only [St.setV]
  have key : ∀ i', i' ≠ c / 64 → St.wd (fun x => p x || x == c) i' = St.wd p i' := fun i' hi => St.wd_other p (show c = 64 * (c / 64) + c % 64 by omega) (Nat.mod_lt _ (by decide)) hi
  have HK : Hid (∀ i', i' ≠ c / 64 → St.wd (fun x => p x || x == c) i' = St.wd p i') := key
  clear key
  obtain h | h | h | h : c / 64 = 0 ∨ c / 64 = 1 ∨ c / 64 = 2 ∨ c / 64 = 3 := by omega
  all_goals
    go_enter Try.func36, Try.ntmps36
    go_wp2_with fail
    refine bodyPost_ret (results_cell_row rfl _ _ (w.heap.size + 1) _ _ _ _ rfl (heap_alloc2_new w _ _) Try.underlying25 rfl (by kernel_rfl)) rfl ?_
    rw [or_bit p h]
    refine ⟨?_, ((Below.refl _ _).alloc (Nat.le_refl _) _).alloc (by simp) _⟩
    have key := HK.out
    rw [h] at key
  · rw [key 1 (by decide), key 2 (by decide), key 3 (by decide)]
  · rw [key 0 (by decide), key 2 (by decide), key 3 (by decide)]
  · rw [key 0 (by decide), key 1 (by decide), key 3 (by decide)]
  · rw [key 0 (by decide), key 1 (by decide), key 2 (by decide)]

set_option maxRecDepth 100000 in
set_option maxHeartbeats 1000000 in
theorem radd_any (p : Nat → Bool) (c : Nat) (hc : c < 256) (w : World) :
    Calls Try.prog 35 #[St.setV p, .int .u8 (c : Int)] w fun e w' => e = .returned (St.setV (fun x => p x || x == c)) ∧ Below w.heap.size w w' := by
  simp only [St.setV]
  have key : ∀ i', i' ≠ c / 64 → St.wd (fun x => p x || x == c) i' = St.wd p i' := fun i' hi => St.wd_other p (show c = 64 * (c / 64) + c % 64 by omega) (Nat.mod_lt _ (by decide)) hi
  have HK : Hid (∀ i', i' ≠ c / 64 → St.wd (fun x => p x || x == c) i' = St.wd p i') := key
  clear key
  cases hp : p c
  · obtain h | h | h | h : c / 64 = 0 ∨ c / 64 = 1 ∨ c / 64 = 2 ∨ c / 64 = 3 := by omega
    all_goals
      go_enter Try.func35, Try.ntmps35
      go_wp2_with (go_at_call 18; refine (rhas_at p c hc _).mono ?_; rw [hp]; rintro x w' ⟨rfl, rfl⟩)
      refine bodyPost_ret (results_cell_row rfl _ _ (w.heap.size + 1) _ _ _ _ rfl (heap_alloc3_mid w _ _ _) Try.underlying25 rfl (by kernel_rfl)) rfl ?_
      rw [add_bit p h hp]
      refine ⟨?_, (((Below.refl _ _).alloc (Nat.le_refl _) _).alloc (by simp) _).alloc (by simp; omega) _⟩
      have key := HK.out
      rw [h] at key
    · rw [key 1 (by decide), key 2 (by decide), key 3 (by decide)]
    · rw [key 0 (by decide), key 2 (by decide), key 3 (by decide)]
    · rw [key 0 (by decide), key 1 (by decide), key 3 (by decide)]
    · rw [key 0 (by decide), key 1 (by decide), key 2 (by decide)]
  · have HE : Hid (St.setV (fun x => p x || x == c) = St.setV p) := St.setV_congr (fun x _ => by
      by_cases e : x = c
      · subst e; rw [hp]; rfl
      · have : (x == c) = false := by simpa using e
        rw [this, Bool.or_false])
    go_enter Try.func35, Try.ntmps35
    go_wp2_with (go_at_call 18; refine (rhas_at p c hc _).mono ?_; rw [hp]; rintro x w' ⟨rfl, rfl⟩)
    refine bodyPost_ret (results_cell_row rfl _ _ (w.heap.size + 1) _ _ _ _ rfl (heap_alloc3_mid w _ _ _) Try.underlying25 rfl (by kernel_rfl)) rfl ?_
    refine ⟨?_, (((Below.refl _ _).alloc (Nat.le_refl _) _).alloc (by simp) _).alloc (by simp; omega) _⟩
    have he := HE.out
    simp only [St.setV] at he
    rw [he]
end Go.Proofs.Ytmlpfgfpmbnbeaa
