/- What inputs are told to be, among the arguments, opened. -/
import Derived.Test.YthmofbcjhfcokaaRowiu
import Derived.Test.YthmofbcjhfcokaaInP
namespace Go.Proofs.Ythmofbcjhfcokaa
open Go.ChangeShapes Go.WideShapes Go.ChangeAt Go.RowKit

theorem told_bulk {H : Type} (Lx : Nat → In.Tl) (n : List Nat) :
    In.tsz (n.map Lx) + n.length * 3 ≤ Rows.uptoBulkAll (n.map fun i => (.agg [.lit (.string (Lx i).1.data.toList), .lit (.int .i64 (Lx i).2)] : DataW H)) := by
  induction n with
  | nil => simp [In.tsz, Rows.uptoBulkAll]
  | cons j r ih =>
    simp only [In.tsz, List.map_cons, Rows.uptoBulkAll, Rows.uptoBulk, List.sum_cons, List.length_cons, Ln.szL] at ih ⊢
    omega
/-- What inputs are told to be, among the arguments. -/
theorem tolds_open {H : Type} {enc : TypeId × Value → H} {W : World} {base : Nat} {v : Value} {d : DataW H} {p : List MemPlace}
    (hok : Value.okWide Try.prog W .any base 22 v) (h : DataW.Trod enc Try.prog W 0 (fun _ => true) true 22 v d p) (hlt : ∀ x ∈ p, x.block < W.heap.size) :
    ∃ a cap, ∃ l : List In.Tl, v = .slice a l.length cap ∧ Tls W a cap l ∧ In.tsz l + l.length * 3 + 1 ≤ Rows.uptoBulk d := by
  obtain ⟨a0, len, cap, rfl⟩ := okWide_slice Try.underlying22 hok
  obtain ⟨fuel, hf⟩ := h
  rcases Deep.open_slice Try.underlying22 hf with ⟨hcs, hx⟩ | ⟨a, len', cap', m, n, D, Pl, hcs, _, hl, hm, hmm, hx, hcell⟩
  · simp [Value.cells] at hcs
    obtain ⟨rfl, rfl, rfl⟩ := hcs
    simp only [Prod.mk.injEq] at hx
    obtain ⟨rfl, rfl⟩ := hx
    exact ⟨none, 0, [], rfl, ⟨fun j hj => by simp at hj, Nat.le_refl _⟩, by simp [Rows.uptoBulk, In.tsz]⟩
  · simp [Value.cells] at hcs
    obtain ⟨rfl, rfl, rfl⟩ := hcs
    simp only [if_true] at hmm
    subst hmm
    simp only [Prod.mk.injEq] at hx
    obtain ⟨rfl, rfl⟩ := hx
    have each : ∀ i, i < m → ∃ x : In.Tl, W.cell? (a.add (i * 2)) = some (.string x.1) ∧ W.cell? (a.add (i * 2 + 1)) = some (.int .i64 x.2) ∧ D i = .agg [.lit (.string x.1.data.toList), .lit (.int .i64 x.2)] := fun i hi => by
      obtain ⟨cs', h1, h2⟩ := hcell i hi
      rw [Try.cellsT] at h1
      obtain ⟨_, hlen, hc⟩ := World.cells?_some h1
      obtain ⟨xs, k, hk, hxy, _, hxl, hff⟩ := DataW.trod_struct Try.underlying48 h2
      match xs, hxl, cs', hlen with
      | [y0, y1], _, [v0, v1], _ =>
        have g0 := hff 0 _ rfl
        have g1 := hff 1 _ rfl
        simp [Try.cellsS, Try.cellsE] at g0 g1
        obtain ⟨s1, e3, e4, _⟩ := DataW.trod_string Try.underlying9 g0
        obtain ⟨kn, e1, e2, _⟩ := DataW.trod_int Try.underlying32 g1
        simp at e1 e2 e3 e4
        subst e1; subst e3; subst e2; subst e4
        have c0 := hc 0 (by omega)
        have c1 := hc 1 (by omega)
        rw [Deep.add_add] at c0 c1
        simp only [Prod.mk.injEq] at hxy
        refine ⟨(s1, kn), by simpa using c0, by simpa using c1, ?_⟩
        rw [hxy.1]
        simp
    obtain ⟨Lx, hL⟩ := Deep.choose_lt each
    have hbulk : In.tsz ((List.range len).map Lx) + ((List.range len).map Lx).length * 3 + 1 ≤ Rows.uptoBulk (.slice ((List.range len).map D) ((List.range (m - len)).map fun j => D (len + j))) := by
      simp only [Rows.uptoBulk]
      have e : ((List.range len).map D) = (List.range len).map fun i => (.agg [.lit (.string (Lx i).1.data.toList), .lit (.int .i64 (Lx i).2)] : DataW H) :=
        List.map_congr_left fun i hi => by
          have := List.mem_range.1 hi
          rw [(hL i (by omega)).2.2]
      have e2 := told_bulk (H := H) Lx (List.range len)
      rw [e]
      rw [List.length_map]
      omega
    refine ⟨some a, m, (List.range len).map Lx, by simp, ⟨fun i hi => ?_, by simpa using hl⟩, hbulk⟩
    have hi' : i < len := by simpa using hi
    obtain ⟨q0, q1, _⟩ := hL i (by omega)
    obtain ⟨b, off, spot⟩ := a
    have hspot : spot = none := by simpa [Addr.add] using World.cell?_spot (hL 0 (by omega)).1
    subst hspot
    rw [add_at] at q0 q1
    refine ⟨b, off, rfl, hlt (.cell b off) ?_, by simpa using q0, by simpa [Nat.add_assoc] using q1⟩
    rw [Try.cellsT]
    exact List.mem_append_left _ (MemPlace.mem_row.2 ⟨0, by omega, by simp⟩)
end Go.Proofs.Ythmofbcjhfcokaa
