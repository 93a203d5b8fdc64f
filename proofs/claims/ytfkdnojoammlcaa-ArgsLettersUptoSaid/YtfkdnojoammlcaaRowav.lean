/- The rows' frame of the command lines, with bytes among the arguments. -/
import Derived.Test.YtfkdnojoammlcaaRowau
import Derived.Test.YtfkdnojoammlcaaArFlg
namespace Go.Proofs.Ytfkdnojoammlcaa
open Go.ChangeShapes Go.WideShapes Go.ChangeAt Go.RowKit

theorem Try.cellsByte : Try.prog.cellsOf 5 = 1 := by kernel_rfl
theorem lits_bulk {H : Type} (k : IntKind) (zs : List Int) : Rows.uptoBulkAll (Go.ChangeShapes.lits (H := H) k zs) = zs.length := by
  induction zs with
  | nil => rfl
  | cons z r ih =>
    show Rows.uptoBulk _ + Rows.uptoBulkAll (Go.ChangeShapes.lits (H := H) k r) = _
    rw [ih]
    simp only [Rows.uptoBulk, List.length_cons]
    omega
set_option maxRecDepth 100000 in
/-- Bytes among the arguments. -/
theorem bytes_open {H : Type} {enc : TypeId × Value → H} {W : World} {base : Nat} {v : Value} {d : DataW H} {p : List MemPlace}
    (hok : Value.okWide Try.prog W .any base 44 v) (h : DataW.Trod enc Try.prog W 0 (fun _ => true) true 44 v d p) (hlt : ∀ x ∈ p, x.block < W.heap.size) (hsz : Rows.uptoBulk d ≤ 1048576) :
    ∃ a cap l, v = .slice a l.length cap ∧ Bys W a cap l ∧ l.length + 1 ≤ Rows.uptoBulk d := by
  obtain ⟨a0, len, cap, rfl⟩ := okWide_slice Try.underlying44 hok
  obtain ⟨fuel, hf⟩ := h
  rcases Go.ChangeShapes.open_ints Try.underlying44 Try.underlying5 Try.cellsByte hf with ⟨hcs, hx⟩ | ⟨a, len', cap', zs, hcs, _, hl, hm, hzl, hx, hcell, hwf⟩
  · simp [Value.cells] at hcs
    obtain ⟨rfl, rfl, rfl⟩ := hcs
    simp only [Prod.mk.injEq] at hx
    obtain ⟨rfl, rfl⟩ := hx
    exact ⟨none, 0, [], rfl, ⟨by decide, fun _ => rfl, by decide, by decide, fun i hi => by simp at hi⟩, by simp [Rows.uptoBulk]⟩
  · simp [Value.cells] at hcs
    obtain ⟨rfl, rfl, rfl⟩ := hcs
    simp only [if_true] at hzl
    simp only [Prod.mk.injEq] at hx
    obtain ⟨rfl, rfl⟩ := hx
    have hb0 : len + 1 ≤ Rows.uptoBulk (DataW.slice (Go.ChangeShapes.lits (H := H) .u8 (zs.take len)) (Go.ChangeShapes.lits .u8 (zs.drop len))) := by
      simp only [Rows.uptoBulk, lits_bulk, List.length_take]
      omega
    have hb : ∀ i, i < len → 0 ≤ zs.getD i 0 ∧ zs.getD i 0 ≤ 255 := fun i hi => by
      have hi' : i < zs.length := by omega
      have := hwf (zs.getD i 0) (by rw [List.getD_eq_getElem?_getD, List.getElem?_eq_getElem hi']; exact List.getElem_mem hi')
      have h3 : decide (IntKind.u8.min ≤ zs.getD i 0 ∧ zs.getD i 0 ≤ IntKind.u8.max) = true := by simpa [Lit.wf] using this
      exact of_decide_eq_true h3
    refine ⟨some a, cap, (List.range len).map (fun i => UInt8.ofNat (zs.getD i 0).toNat), by simp, ⟨by simp; omega, fun e => (by cases e), by simpa using hl, hm, fun i hi => ?_⟩, by simpa using hb0⟩
    have hi' : i < len := by simpa using hi
    have hc := hcell i (by omega)
    obtain ⟨b, off, spot⟩ := a
    have hspot : spot = none := by simpa [Addr.add] using World.cell?_spot (hcell 0 (by omega))
    subst hspot
    refine ⟨b, off, rfl, hlt (.cell b off) (MemPlace.mem_row.2 ⟨0, by omega, by simp⟩), ?_⟩
    rw [← add_at, hc]
    have h4 := hb i hi'
    congr 2
    simp only [List.getElem_map, List.getElem_range]
    rw [UInt8.toNat_ofNat']
    omega
end Go.Proofs.Ytfkdnojoammlcaa
