/- Items among the arguments, opened. -/
import Derived.Test.YtngmaijfahjfcaaRowsp
import Derived.Test.YtngmaijfahjfcaaSpI
import Derived.Deep.SlicePairs
import Derived.ChangeArms
namespace Go.Proofs.Ytngmaijfahjfcaa
open Go.ChangeShapes Go.WideShapes Go.ChangeAt Go.RowKit

theorem Try.cellsItem : Try.prog.cellsOf 33 = 2 := by kernel_rfl
theorem Try.bytesItem : Try.prog.bytesOf 33 = 24 := by kernel_rfl
theorem Try.cellsKind : Try.prog.cellsOf 31 = 1 := by kernel_rfl
theorem Try.cellsS : Try.prog.cellsOf 9 = 1 := by kernel_rfl
theorem weights_items {H : Type} (Lx : Nat → Sc.It) (n : List Nat) (i : Nat) (hi : i ∈ n) : (Lx i).2.size ∈ DataW.weightsAll (H := H) Try.prog 33 (n.map fun i => .agg [.lit (.int .u8 ((Lx i).1 : Int)), .lit (.string (Lx i).2.data.toList)]) := by
  induction n with
  | nil => cases hi
  | cons j r ih =>
    simp only [List.map_cons, DataW.weightsAll, List.mem_append]
    rcases List.mem_cons.1 hi with rfl | h
    · left
      simp [DataW.weights, DataW.weightsEach, Try.underlying33]
    · exact .inr (ih h)
/-- Items among the arguments. -/
theorem items_open {H : Type} {enc : TypeId × Value → H} {W : World} {base : Nat} {v : Value} {d : DataW H} {p : List MemPlace}
    (hok : Value.okWide Try.prog W .any base 27 v) (h : DataW.Trod enc Try.prog W 0 (fun _ => true) true 27 v d p) (hlt : ∀ x ∈ p, x.block < W.heap.size)
    (hsz : ∀ n ∈ d.weights Try.prog 27, n ≤ reachBytes) :
    ∃ a cap l, v = .slice a l.length cap ∧ (l ≠ [] → Its W (.slice a l.length cap) l) ∧ l.length * 24 ≤ 140737488351232 ∧ ∀ y ∈ l, y.1 < 256 ∧ y.2.size ≤ 281474976710656 := by
  obtain ⟨a0, len, cap, rfl⟩ := okWide_slice Try.underlying27 hok
  obtain ⟨fuel, hf⟩ := h
  rcases Deep.open_slice Try.underlying27 hf with ⟨hcs, hx⟩ | ⟨a, len', cap', m, n, D, Pl, hcs, _, hl, hm, hmm, hx, hcell⟩
  · simp [Value.cells] at hcs
    obtain ⟨rfl, rfl, rfl⟩ := hcs
    exact ⟨none, 0, [], rfl, fun h => absurd rfl h, by simp, fun y hy => (by cases hy)⟩
  · simp [Value.cells] at hcs
    obtain ⟨rfl, rfl, rfl⟩ := hcs
    simp only [if_true] at hmm
    subst hmm
    simp only [Prod.mk.injEq] at hx
    obtain ⟨rfl, rfl⟩ := hx
    have each : ∀ i, i < m → ∃ x : Sc.It, W.cell? (a.add (i * 2)) = some (.int .u8 (x.1 : Int)) ∧ W.cell? (a.add (i * 2 + 1)) = some (.string x.2) ∧ x.1 < 256 ∧ D i = .agg [.lit (.int .u8 (x.1 : Int)), .lit (.string x.2.data.toList)] := fun i hi => by
      obtain ⟨cs', h1, h2⟩ := hcell i hi
      rw [Try.cellsItem] at h1
      obtain ⟨_, hlen, hc⟩ := World.cells?_some h1
      obtain ⟨xs, k, hk, hxy, _, hxl, hff⟩ := DataW.trod_struct Try.underlying33 h2
      match xs, hxl, cs', hlen with
      | [y0, y1], _, [v0, v1], _ =>
        have g0 := hff 0 _ rfl
        have g1 := hff 1 _ rfl
        simp [Try.cellsKind, Try.cellsS] at g0 g1
        obtain ⟨kn, e1, e2, hwf⟩ := DataW.trod_int Try.underlying31 g0
        obtain ⟨s1, e3, e4, _⟩ := DataW.trod_string Try.underlying9 g1
        simp at e1 e2 e3 e4
        subst e1; subst e3; subst e2; subst e4
        have hb := bounds_u8 hwf
        have c0 := hc 0 (by omega)
        have c1 := hc 1 (by omega)
        rw [Deep.add_add] at c0 c1
        simp only [Prod.mk.injEq] at hxy
        obtain ⟨kd, rfl⟩ : ∃ kd : Nat, kn = (kd : Int) := ⟨kn.toNat, by omega⟩
        refine ⟨(kd, s1), by simpa using c0, by simpa using c1, by simp only []; omega, ?_⟩
        rw [hxy.1]
        simp
    obtain ⟨Lx, hL⟩ := Deep.choose_lt each
    simp only [DataW.weights, Try.underlying27, Try.bytesItem, List.length_map, List.length_range, List.mem_cons, List.mem_append] at hsz
    have h1 := hsz _ (.inl rfl)
    simp only [reachBytes] at h1
    have e : ((List.range len).map D) = (List.range len).map fun i => (.agg [.lit (.int .u8 ((Lx i).1 : Int)), .lit (.string (Lx i).2.data.toList)] : DataW H) :=
      List.map_congr_left fun i hi => by
        have := List.mem_range.1 hi
        rw [(hL i (by omega)).2.2.2]
    rw [e] at hsz
    refine ⟨some a, m, (List.range len).map Lx, by simp, fun hne => ?_, by simp; omega, fun y hy => ?_⟩
    · have h0 : 0 < len := by
        rcases Nat.eq_zero_or_pos len with q | q
        · exact absurd (by simp [q]) hne
        · exact q
      obtain ⟨b, off, spot⟩ := a
      have hspot : spot = none := by simpa [Addr.add] using World.cell?_spot (hL 0 (by omega)).1
      subst hspot
      refine .inr ⟨b, off, m, by simp, hlt (.cell b off) ?_, fun i hi => ?_⟩
      · rw [Try.cellsItem]
        exact List.mem_append_left _ (MemPlace.mem_row.2 ⟨0, by omega, by simp⟩)
      · have hi' : i < len := by simpa using hi
        obtain ⟨q0, q1, _⟩ := hL i (by omega)
        rw [add_at] at q0 q1
        exact ⟨by simpa using q0, by simpa [Nat.add_assoc] using q1⟩
    · obtain ⟨i, hi, rfl⟩ := List.mem_map.1 hy
      have hi' := List.mem_range.1 hi
      refine ⟨(hL i (by omega)).2.2.1, ?_⟩
      have := hsz _ (.inr (.inl (weights_items Lx (List.range len) i hi)))
      simp only [reachBytes] at this
      omega
end Go.Proofs.Ytngmaijfahjfcaa
