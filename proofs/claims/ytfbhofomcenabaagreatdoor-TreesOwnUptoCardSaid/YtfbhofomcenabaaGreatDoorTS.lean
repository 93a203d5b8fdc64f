/- What trees.Get answers. The statements' sample tree. The sample tree: plain. -/
import Derived.Test.YtfbhofomcenabaaGreatDoorTI
import Derived.Test.YtfbhofomcenabaaGreatDoorTR
namespace Go.Proofs.YtfbhofomcenabaaGreatDoor
open Go.RowKit

theorem tget_any (T : Ft.FT) (p : List ByteArray) (a ap : Option Addr) (cap cp : Nat) (w : World) (hN : Ft.Fd w (· < w.heap.size) T a cap) (hz : Ft.szT T = true) (hP : Strs w ap cp p) :
    Calls Tryz.prog 18 #[Ft.fdV T a cap, .slice ap p.length cp] w (Ft.GetE w (Ft.getR T p)) := tget_of tchk T p a ap cap cp w hN hz hP
end Go.Proofs.YtfbhofomcenabaaGreatDoor
namespace Go.Proofs.YtfbhofomcenabaaGreatDoor
open Go Go.RowKit

namespace Ft
def samB : FT := .mk ⟨#[98]⟩ 2 ⟨#[120, 10]⟩ []
def samA : FT := .mk ⟨#[97]⟩ 1 ⟨#[]⟩ [samB]
def samC : FT := .mk ⟨#[99]⟩ 3 ⟨#[47, 97, 47, 98]⟩ []
def samT : FT := .mk ⟨#[]⟩ 1 ⟨#[]⟩ [samA, samC]
end Ft

/-- A file that lies in a row of files. -/
theorem four_row {w : World} {g o : Nat} {c : Array Value} {t : TypeId} (T : Ft.FT) (a : Option Addr) (cap : Nat) (h : w.heap[g]? = some (.cells c t (0, 0)))
    (h0 : c[o]? = some (.string T.nm)) (h1 : c[o + 1]? = some (.int .u8 (T.k : Int))) (h2 : c[o + 2]? = some (.string T.d)) (h3 : c[o + 3]? = some (.slice a T.kids.length cap)) : Ft.Four w g o T a cap := by
  constructor <;> rw [cell_of_row w g _ _ _ _ h] <;> assumption
theorem sam_fd (w : World) (g : Nat) (P : Nat → Prop) (h1 : w.heap[g]? = some (.cells #[.string ⟨#[98]⟩, .int .u8 2, .string ⟨#[120, 10]⟩, .slice none 0 0] 25 (0, 0))) (hp1 : P g)
    (h2 : w.heap[g + 1]? = some (.cells #[.string ⟨#[97]⟩, .int .u8 1, .string ⟨#[]⟩, .slice (some ⟨g, 0, none⟩) 1 1, .string ⟨#[99]⟩, .int .u8 3, .string ⟨#[47, 97, 47, 98]⟩, .slice none 0 0] 25 (0, 0))) (hp2 : P (g + 1)) :
    Ft.Fd w P Ft.samT (some ⟨g + 1, 0, none⟩) 2 := by
  have hB : Ft.Fd w P Ft.samB none 0 := Ft.fd_none _ _ _ _ _
  have hC : Ft.Fd w P Ft.samC none 0 := Ft.fd_none _ _ _ _ _
  have hA : Ft.Fd w P Ft.samA (some ⟨g, 0, none⟩) 1 := by
    refine .mk (fun _ => (none, 0)) (by show 1 ≤ _; omega) (fun h => (by cases h)) (by show 1 ≤ 1; omega) (by unfold maxLen; omega) (fun i hi => ?_) (fun i hi => ?_)
    · match i, hi with
      | 0, _ => exact ⟨g, 0, rfl, hp1, four_row Ft.samB none 0 h1 rfl rfl rfl rfl⟩
      | n + 1, h => exact absurd h (by show ¬ n + 1 < 1; omega)
    · match i, hi with
      | 0, _ => exact hB
      | n + 1, h => exact absurd h (by show ¬ n + 1 < 1; omega)
  refine .mk (fun i => if i = 0 then (some ⟨g, 0, none⟩, 1) else (none, 0)) (by show 2 ≤ _; omega) (fun h => (by cases h)) (by show 2 ≤ 2; omega) (by unfold maxLen; omega) (fun i hi => ?_) (fun i hi => ?_)
  · match i, hi with
    | 0, _ => exact ⟨g + 1, 0, rfl, hp2, four_row Ft.samA (some ⟨g, 0, none⟩) 1 h2 rfl rfl rfl rfl⟩
    | 1, _ => exact ⟨g + 1, 0, rfl, hp2, four_row Ft.samC none 0 h2 rfl rfl rfl rfl⟩
    | n + 2, h => exact absurd h (by show ¬ n + 2 < 2; omega)
  · match i, hi with
    | 0, _ => exact hA
    | 1, _ => exact hC
    | n + 2, h => exact absurd h (by show ¬ n + 2 < 2; omega)

set_option maxRecDepth 100000 in
set_option maxHeartbeats 1000000 in
theorem sample_any (w : World) : Calls Tryz.prog 52 #[] w fun e w' => ∃ a, e = .returned (Ft.fdV Ft.samT a 2) ∧ Ft.Fd w' (fun b => w.heap.size ≤ b ∧ b < w'.heap.size) Ft.samT a 2 ∧ Below w.heap.size w w' := by
  go_enter Tryz.func52, Tryz.ntmps52
  go_wp2_with fail
  obtain ⟨A, hA⟩ : ∃ A, A = w.alloc (.cells #[.string ⟨#[]⟩, .int .u8 1, .string ⟨#[]⟩, .slice (some ⟨w.heap.size + 1 + 1, 0, none⟩) 2 2] 25) := ⟨_, rfl⟩
  rw [← hA]
  have hB0 : Below w.heap.size w A := by rw [hA]; exact (Below.refl _ _).alloc (Nat.le_refl _) _
  have hA0 : A.heap[w.heap.size]? = some (.cells #[.string ⟨#[]⟩, .int .u8 1, .string ⟨#[]⟩, .slice (some ⟨w.heap.size + 1 + 1, 0, none⟩) 2 2] 25 (0, 0)) := by rw [hA]; exact heap_alloc_new _ _
  have hs : A.heap.size = w.heap.size + 1 := by rw [hA]; simp
  obtain ⟨B, hB⟩ : ∃ B, B = A.alloc (.cells #[.string ⟨#[98]⟩, .int .u8 2, .string ⟨#[120, 10]⟩, .slice none 0 0] 25) := ⟨_, rfl⟩
  rw [← hB]
  have hB1 : Below A.heap.size A B := by rw [hB]; exact (Below.refl _ _).alloc (Nat.le_refl _) _
  have hb0 : B.heap[w.heap.size + 1]? = some (.cells #[.string ⟨#[98]⟩, .int .u8 2, .string ⟨#[120, 10]⟩, .slice none 0 0] 25 (0, 0)) := by rw [hB, ← hs]; exact heap_alloc_new _ _
  have hs1 : B.heap.size = w.heap.size + 1 + 1 := by rw [hB, World.size_alloc, hs]
  obtain ⟨C, hC⟩ : ∃ C, C = B.alloc (.cells #[.string ⟨#[97]⟩, .int .u8 1, .string ⟨#[]⟩, .slice (some ⟨w.heap.size + 1, 0, none⟩) 1 1, .string ⟨#[99]⟩, .int .u8 3, .string ⟨#[47, 97, 47, 98]⟩, .slice none 0 0] 25) := ⟨_, rfl⟩
  rw [← hC]
  have hB2 : Below B.heap.size B C := by rw [hC]; exact (Below.refl _ _).alloc (Nat.le_refl _) _
  have hc0 : C.heap[w.heap.size + 1 + 1]? = some (.cells #[.string ⟨#[97]⟩, .int .u8 1, .string ⟨#[]⟩, .slice (some ⟨w.heap.size + 1, 0, none⟩) 1 1, .string ⟨#[99]⟩, .int .u8 3, .string ⟨#[47, 97, 47, 98]⟩, .slice none 0 0] 25 (0, 0)) := by rw [hC, ← hs1]; exact heap_alloc_new _ _
  have hs2 : C.heap.size = w.heap.size + 1 + 1 + 1 := by rw [hC, World.size_alloc, hs1]
  have hb : C.heap[w.heap.size + 1]? = some (.cells #[.string ⟨#[98]⟩, .int .u8 2, .string ⟨#[120, 10]⟩, .slice none 0 0] 25 (0, 0)) := (hB2.block _ (by omega)).trans hb0
  have ha : C.heap[w.heap.size]? = some (.cells #[.string ⟨#[]⟩, .int .u8 1, .string ⟨#[]⟩, .slice (some ⟨w.heap.size + 1 + 1, 0, none⟩) 2 2] 25 (0, 0)) := (hB2.block _ (by omega)).trans ((hB1.block _ (by omega)).trans hA0)
  refine bodyPost_ret (results_cell_row rfl _ _ w.heap.size _ _ _ _ rfl ha Tryz.underlying25 rfl (by kernel_rfl)) rfl ?_
  refine ⟨_, rfl, sam_fd C (w.heap.size + 1) _ hb ⟨by omega, by omega⟩ hc0 ⟨by omega, by omega⟩, hB0.trans ((hB1.mono (by omega)).trans (hB2.mono (by omega)))⟩
end Go.Proofs.YtfbhofomcenabaaGreatDoor
namespace Go.Proofs.YtfbhofomcenabaaGreatDoor
open Go Go.RowKit

namespace Ft
def samL : List UInt8 := [100, 105, 114, 32, 34, 47, 97, 34, 10, 116, 101, 120, 116, 32, 34, 47, 97, 47, 98, 34, 32, 34, 120, 92, 110, 34, 10, 108, 105, 110, 107, 32, 34, 47, 99, 34, 32, 34, 47, 97, 47, 98, 34, 10]
theorem sam_right : rightT samT = true := by kernel_rfl
theorem sam_sz : szT samT = true := by kernel_rfl
theorem sam_prt : prtT samT = samL := by kernel_rfl
theorem sam_read : (readR (Ln.bs samL)).2 = (0, 0, 0) := by kernel_rfl
theorem sam_back : sameT samT (readR (Ln.bs samL)).1 = true := by kernel_rfl
theorem ft_pair {a b : FT × Int × Nat × Nat} (h1 : sameT a.1 b.1 = true) (h2 : a.2 = b.2) : a = b := Prod.ext ((sameT_iff _ _).1 h1) h2
theorem sam_reads : readR (Ln.bs samL) = (samT, 0, 0, 0) := (ft_pair (b := readR (Ln.bs samL)) (a := (samT, 0, 0, 0)) sam_back sam_read.symm).symm
theorem sam_get : sameT samB (match getR samT [⟨#[97]⟩, ⟨#[98]⟩] with | .inl _ => samC | .inr T => T) = true := by kernel_rfl
theorem sam_bc : sameT samB samC = false := by kernel_rfl
theorem sam_gets : getR samT [⟨#[97]⟩, ⟨#[98]⟩] = .inr samB := by
  have h := sam_get
  revert h
  cases getR samT [⟨#[97]⟩, ⟨#[98]⟩] with
  | inl n => intro h; exact absurd ((show sameT samB samC = true from h).symm.trans sam_bc) (by decide)
  | inr T => intro h; rw [(sameT_iff _ _).1 h]
end Ft
end Go.Proofs.YtfbhofomcenabaaGreatDoor
