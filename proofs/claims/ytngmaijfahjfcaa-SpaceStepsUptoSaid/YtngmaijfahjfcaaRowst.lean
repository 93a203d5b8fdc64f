/- Steps among the arguments, opened. -/
import Derived.Test.YtngmaijfahjfcaaRowsp
import Derived.Test.YtngmaijfahjfcaaSpT
import Derived.Deep.SlicePairs
import Derived.ChangeArms
namespace Go.Proofs.Ytngmaijfahjfcaa
open Go.ChangeShapes Go.WideShapes Go.ChangeAt Go.RowKit

theorem Try.cellsStep : Try.prog.cellsOf 35 = 4 := by kernel_rfl
theorem Try.cellsItem : Try.prog.cellsOf 33 = 2 := by kernel_rfl
theorem Try.cellsKind : Try.prog.cellsOf 31 = 1 := by kernel_rfl
theorem Try.cellsS : Try.prog.cellsOf 9 = 1 := by kernel_rfl
theorem Try.cellsI : Try.prog.cellsOf 3 = 1 := by kernel_rfl
theorem bnd_u8 {kn : Int} (h : (Lit.int .u8 kn).wf = true) : 0 ≤ kn ∧ kn < 256 := by
  have := bounds_u8 h
  omega
theorem bnd_i64 {kn : Int} (h : (Lit.int .i64 kn).wf = true) : -9223372036854775808 ≤ kn ∧ kn ≤ 9223372036854775807 := by
  have := bounds_i64 h
  omega
instance : Inhabited Stp := ⟨⟨0, ⟨#[]⟩, 0, ⟨#[]⟩⟩⟩
/-- How great steps are. -/
def stot : List Stp → Nat
  | [] => 0
  | s :: r => s.t.size + s.x.size + 6 + stot r
theorem bulk_steps {H : Type} (Lx : Nat → Stp) (n : List Nat) :
    Rows.uptoBulkAll (n.map fun i => (.agg [.lit (.int .i64 (Lx i).k), .lit (.string (Lx i).t.data.toList), .agg [.lit (.int .u8 ((Lx i).i : Int)), .lit (.string (Lx i).x.data.toList)]] : DataW H)) = stot (n.map Lx) := by
  induction n with
  | nil => rfl
  | cons j r ih =>
    simp only [List.map_cons, Rows.uptoBulkAll, Rows.uptoBulk, stot, ih, Sc.szL]
    omega
/-- Steps among the arguments. -/
theorem steps_open {H : Type} {enc : TypeId × Value → H} {W : World} {base : Nat} {v : Value} {d : DataW H} {p : List MemPlace}
    (hok : Value.okWide Try.prog W .any base 22 v) (h : DataW.Trod enc Try.prog W 0 (fun _ => true) true 22 v d p) (hlt : ∀ x ∈ p, x.block < W.heap.size) :
    ∃ a cap l, v = .slice a l.length cap ∧ Stps W a cap l ∧ (∀ s ∈ l, s.i < 256 ∧ -9223372036854775808 ≤ s.k ∧ s.k ≤ 9223372036854775807) ∧ stot l + 1 ≤ Rows.uptoBulk d := by
  obtain ⟨a0, len, cap, rfl⟩ := okWide_slice Try.underlying22 hok
  obtain ⟨fuel, hf⟩ := h
  rcases Deep.open_slice Try.underlying22 hf with ⟨hcs, hx⟩ | ⟨a, len', cap', m, n, D, Pl, hcs, _, hl, hm, hmm, hx, hcell⟩
  · simp [Value.cells] at hcs
    obtain ⟨rfl, rfl, rfl⟩ := hcs
    simp only [Prod.mk.injEq] at hx
    obtain ⟨rfl, rfl⟩ := hx
    exact ⟨none, 0, [], rfl, ⟨by simp [maxLen], by simp, fun j hj => by simp at hj⟩, fun s hs => (by cases hs), by simp [stot, Rows.uptoBulk]⟩
  · simp [Value.cells] at hcs
    obtain ⟨rfl, rfl, rfl⟩ := hcs
    simp only [if_true] at hmm
    subst hmm
    simp only [Prod.mk.injEq] at hx
    obtain ⟨rfl, rfl⟩ := hx
    have each : ∀ i, i < m → ∃ x : Stp, W.cell? (a.add (i * 4)) = some (.int .i64 x.k) ∧ W.cell? (a.add (i * 4 + 1)) = some (.string x.t) ∧ W.cell? (a.add (i * 4 + 2)) = some (.int .u8 (x.i : Int)) ∧ W.cell? (a.add (i * 4 + 3)) = some (.string x.x) ∧ (x.i < 256 ∧ -9223372036854775808 ≤ x.k ∧ x.k ≤ 9223372036854775807) ∧ D i = .agg [.lit (.int .i64 x.k), .lit (.string x.t.data.toList), .agg [.lit (.int .u8 (x.i : Int)), .lit (.string x.x.data.toList)]] := fun i hi => by
      obtain ⟨cs', h1, h2⟩ := hcell i hi
      rw [Try.cellsStep] at h1
      obtain ⟨_, hlen, hc⟩ := World.cells?_some h1
      obtain ⟨xs, k, hk, hxy, _, hxl, hff⟩ := DataW.trod_struct Try.underlying35 h2
      match xs, hxl, cs', hlen with
      | [y0, y1, y2], _, [v0, v1, v2, v3], _ =>
        have g0 := hff 0 _ rfl
        have g1 := hff 1 _ rfl
        have g2 := hff 2 _ rfl
        simp [Try.cellsI, Try.cellsS, Try.cellsItem] at g0 g1 g2
        obtain ⟨xs2, k2, hk2, hxy2, _, hxl2, hff2⟩ := DataW.trod_struct Try.underlying33 g2
        match xs2, hxl2 with
        | [z0, z1], _ =>
          have i0 := hff2 0 _ rfl
          have i1 := hff2 1 _ rfl
          simp [Try.cellsKind, Try.cellsS] at i0 i1
          obtain ⟨kn, e1, e2, hwf⟩ := DataW.trod_int Try.underlying3 g0
          obtain ⟨s1, e3, e4, _⟩ := DataW.trod_string Try.underlying9 g1
          obtain ⟨kn2, e5, e6, hwf2⟩ := DataW.trod_int Try.underlying31 i0
          obtain ⟨s2, e7, e8, _⟩ := DataW.trod_string Try.underlying9 i1
          simp at e1 e2 e3 e4 e5 e6 e7 e8
          subst e1; subst e3; subst e5; subst e7; subst e2; subst e4; subst e6; subst e8
          have hb := bnd_i64 hwf
          have hb2 := bnd_u8 hwf2
          have c0 := hc 0 (by omega)
          have c1 := hc 1 (by omega)
          have c2 := hc 2 (by omega)
          have c3 := hc 3 (by omega)
          rw [Deep.add_add] at c0 c1 c2 c3
          simp only [Prod.mk.injEq] at hxy
          obtain ⟨kd, rfl⟩ : ∃ kd : Nat, kn2 = (kd : Int) := ⟨kn2.toNat, by omega⟩
          refine ⟨⟨kn, s1, kd, s2⟩, by simpa using c0, by simpa using c1, by simpa using c2, by simpa using c3, ⟨by simp only []; omega, hb⟩, ?_⟩
          rw [hxy.1, hxy2]
          simp
    obtain ⟨Lx, hL⟩ := Deep.choose_lt each
    have hbulk : stot ((List.range len).map Lx) + 1 ≤ Rows.uptoBulk (.slice ((List.range len).map D) ((List.range (m - len)).map fun j => D (len + j))) := by
      simp only [Rows.uptoBulk]
      have e : ((List.range len).map D) = (List.range len).map fun i => (.agg [.lit (.int .i64 (Lx i).k), .lit (.string (Lx i).t.data.toList), .agg [.lit (.int .u8 ((Lx i).i : Int)), .lit (.string (Lx i).x.data.toList)]] : DataW H) :=
        List.map_congr_left fun i hi => by
          have := List.mem_range.1 hi
          rw [(hL i (by omega)).2.2.2.2.2]
      rw [e, bulk_steps]
      omega
    refine ⟨some a, m, (List.range len).map Lx, by simp, ⟨by simp; omega, by simpa using hl, fun i hi => ?_⟩, fun s hs => ?_, hbulk⟩
    · have hi' : i < len := by simpa using hi
      obtain ⟨q0, q1, q2, q3, _⟩ := hL i (by omega)
      obtain ⟨b, off, spot⟩ := a
      have hspot : spot = none := by simpa [Addr.add] using World.cell?_spot (hL 0 (by omega)).1
      subst hspot
      rw [add_at] at q0 q1 q2 q3
      refine ⟨b, off, rfl, hlt (.cell b off) ?_, by simpa using q0, by simpa [Nat.add_assoc] using q1, by simpa [Nat.add_assoc] using q2, by simpa [Nat.add_assoc] using q3⟩
      rw [Try.cellsStep]
      exact List.mem_append_left _ (MemPlace.mem_row.2 ⟨0, by omega, by simp⟩)
    · obtain ⟨i, hi, rfl⟩ := List.mem_map.1 hs
      exact (hL i (by have := List.mem_range.1 hi; omega)).2.2.2.2.1
end Go.Proofs.Ytngmaijfahjfcaa
