/- Of a row over sets: a slice of bytes among the arguments, opened. -/
import Derived.Test.YtmlpfgfpmbnbeaaRows5
import Derived.Test.YtmlpfgfpmbnbeaaSRow
namespace Go.Proofs.Ytmlpfgfpmbnbeaa
open Go.ChangeShapes Go.WideShapes Go.ChangeAt Go.RowKit

theorem Try.cellsByte : Try.prog.cellsOf 5 = 1 := by kernel_rfl
theorem Try.bytesByte : Try.prog.bytesOf 5 = 1 := by kernel_rfl
theorem bytes_open {H : Type} {enc : TypeId × Value → H} {W : World} {base : Nat} {v : Value} {d : DataW H} {p : List MemPlace}
    (hok : Value.okWide Try.prog W .any base 22 v) (h : DataW.Trod enc Try.prog W 0 (fun _ => true) true 22 v d p) (hlt : ∀ x ∈ p, x.block < W.heap.size)
    (hsz : ∀ n ∈ d.weights Try.prog 22, n ≤ reachBytes) : ∃ a cap l, v = .slice a l.length cap ∧ Bys W a l := by
  obtain ⟨a0, len, cap, rfl⟩ := okWide_slice Try.underlying22 hok
  obtain ⟨fuel, hf⟩ := h
  rcases Go.ChangeShapes.open_ints Try.underlying22 Try.underlying5 Try.cellsByte hf with ⟨hcs, hx⟩ | ⟨a, len', cap', zs, hcs, _, hl, hm, hzl, hx, hcell, hwf⟩
  · simp [Value.cells] at hcs
    obtain ⟨rfl, rfl, rfl⟩ := hcs
    exact ⟨none, 0, [], rfl, ⟨by decide, fun i hi => by simp at hi⟩⟩
  · simp [Value.cells] at hcs
    obtain ⟨rfl, rfl, rfl⟩ := hcs
    simp only [if_true] at hzl
    simp only [Prod.mk.injEq] at hx
    obtain ⟨rfl, rfl⟩ := hx
    have h1 : len ≤ 281474976710656 := by
      simp only [DataW.weights, Try.underlying22, Try.bytesByte, List.mem_cons, List.mem_append] at hsz
      have := hsz _ (.inl rfl)
      simp only [reachBytes, Go.ChangeShapes.lits, List.length_map, List.length_take, List.length_drop] at this
      omega
    have hb : ∀ i, i < len → 0 ≤ zs.getD i 0 ∧ zs.getD i 0 ≤ 255 := fun i hi => by
      have hi' : i < zs.length := by omega
      have := hwf (zs.getD i 0) (by rw [List.getD_eq_getElem?_getD, List.getElem?_eq_getElem hi']; exact List.getElem_mem hi')
      have h2 : (0 : Int) ≤ zs.getD i 0 ∧ zs.getD i 0 ≤ 255 := by
        have h3 : decide (IntKind.u8.min ≤ zs.getD i 0 ∧ zs.getD i 0 ≤ IntKind.u8.max) = true := by simpa [Lit.wf] using this
        exact of_decide_eq_true h3
      exact h2
    refine ⟨some a, cap, (List.range len).map (fun i => UInt8.ofNat (zs.getD i 0).toNat), by simp, ⟨by simpa using h1, fun i hi => ?_⟩⟩
    have hi' : i < len := by simpa using hi
    have hc := hcell i (by omega)
    obtain ⟨b, off, spot⟩ := a
    have hspot : spot = none := by simpa [Addr.add] using World.cell?_spot (hcell 0 (by omega))
    subst hspot
    refine ⟨b, off, rfl, hlt (.cell b off) (MemPlace.mem_row.2 ⟨0, by omega, by simp⟩), ?_⟩
    rw [← add_plain, hc]
    have h4 := hb i hi'
    congr 2
    simp only [List.getElem_map, List.getElem_range]
    rw [UInt8.toNat_ofNat']
    omega
end Go.Proofs.Ytmlpfgfpmbnbeaa
