/- The frame of the rows of changes: five tables out of what a row lists; changes among the arguments, with their bulk. -/
import Derived.Test.YtpoimhkfajppmaaDoorRowl
import Derived.Test.YtpoimhkfajppmaaDoorLItoa
import Derived.Test.YtpoimhkfajppmaaDoorLChs
namespace Go.Proofs.YtpoimhkfajppmaaDoor
open Go.ChangeShapes Go.WideShapes Go.ChangeAt Go.RowKit

theorem Tryd.gPow : Tryd.prog.globalNamed "internal/strconv.uint64pow10" = some 2 := by kernel_rfl
theorem Tryd.gPowType : (Tryd.prog.globals[2]?).map (·.type) = some 94 := by kernel_rfl
theorem Tryd.cellsU64 : Tryd.prog.cellsOf 87 = 1 := by kernel_rfl
theorem Tryd.cellsPow : Tryd.prog.cellsOf 94 = 20 := by kernel_rfl
theorem Tryd.cellsChange : Tryd.prog.cellsOf 40 = 3 := by kernel_rfl
theorem Tryd.cellsKind : Tryd.prog.cellsOf 36 = 1 := by kernel_rfl
theorem pow_data : (Rows.laid_internal_strconv_uint64pow10 : DataW Unit) = Lib.tabData .u64 Lib.pow10Tab := by kernel_rfl

theorem laid_tail {P : Program} {x : String × DataW Unit} {r : List (String × DataW Unit)} {w : World} (h : laidMet P (x :: r) w) : laidMet P r w := by
  obtain ⟨n, d⟩ := x
  obtain ⟨ps, ⟨g, t, cs, fuel, p, q, _, _, _, _, hq, rfl⟩, hnd, hc⟩ := h
  exact ⟨q, hq, (List.nodup_append.1 hnd).2.1, fun b off hm => hc b off (List.mem_append_right _ hm)⟩
theorem tabs2_of_laid {W : World} (h : laidMetH Tryd.prog [("math/bits.deBruijn32tab", Rows.laid_math_bits_deBruijn32tab), ("math/bits.deBruijn64tab", Rows.laid_math_bits_deBruijn64tab), ("internal/strconv.uint64pow10", Rows.laid_internal_strconv_uint64pow10), ("paddock/lines.letters", Rows.laid_paddock_lines_letters), ("paddock/lines.octals", Rows.laid_paddock_lines_octals)] W) : Tabs2 W := by
  have h0 : laidMet Tryd.prog [("math/bits.deBruijn32tab", Rows.laid_math_bits_deBruijn32tab), ("math/bits.deBruijn64tab", Rows.laid_math_bits_deBruijn64tab), ("internal/strconv.uint64pow10", Rows.laid_internal_strconv_uint64pow10), ("paddock/lines.letters", Rows.laid_paddock_lines_letters), ("paddock/lines.octals", Rows.laid_paddock_lines_octals)] W := h
  have h2 := laid_tail (laid_tail h0)
  have h3 := laid_tail h2
  rw [pow_data] at h2
  exact ⟨tabs_of_laid h3, Lib.tabIs_of_head Tryd.gPow Tryd.gPowType Tryd.underlying94 Tryd.underlying87 Tryd.cellsU64 Tryd.cellsPow h2⟩

theorem bulk_changes {H : Type} (Lx : Nat → Ln.Chg) (n : List Nat) :
    Rows.uptoBulkAll (H := H) (n.map fun i => .agg [.lit (.int .u8 ((Lx i).1 : Int)), .agg [.lit (.string (Lx i).2.1.data.toList), .lit (.bool (Lx i).2.2)]]) = Ln.tot ((n.map Lx).map (·.2)) + 4 * n.length := by
  induction n with
  | nil => rfl
  | cons j r ih =>
    simp only [List.map_cons, Rows.uptoBulkAll, Rows.uptoBulk, ih, Ln.tot, List.length_cons, Array.length_toList]
    show 1 + ((Lx j).2.1.size + 1 + (1 + 0) + 1 + 0) + 1 + _ = _
    omega

set_option maxRecDepth 100000 in
/-- Changes among the arguments, with their bulk. -/
theorem changes_open {H : Type} {enc : TypeId × Value → H} {W : World} {base : Nat} {v : Value} {d : DataW H} {p : List MemPlace}
    (hok : Value.okWide Tryd.prog W .any base 22 v) (h : DataW.Trod enc Tryd.prog W 0 (fun _ => true) true 22 v d p) (hlt : ∀ x ∈ p, x.block < W.heap.size)
    (hsz : Rows.uptoBulk d ≤ 1048576) : ∃ a cap l, v = .slice a l.length cap ∧ Chs W a cap l ∧ Ln.tot (l.map (·.2)) + 4 * l.length + 1 ≤ Rows.uptoBulk d + 0 := by
  obtain ⟨a0, len, cap, rfl⟩ := okWide_slice Tryd.underlying22 hok
  obtain ⟨fuel, hf⟩ := h
  rcases Deep.open_slice Tryd.underlying22 hf with ⟨hcs, hx⟩ | ⟨a, len', cap', m, n, D, Pl, hcs, _, hl, hm, hmm, hx, hcell⟩
  · simp [Value.cells] at hcs
    obtain ⟨rfl, rfl, rfl⟩ := hcs
    simp only [Prod.mk.injEq] at hx
    obtain ⟨rfl, rfl⟩ := hx
    exact ⟨none, 0, [], rfl, Chs.empty W, by simp [Ln.tot, Rows.uptoBulk]⟩
  · simp [Value.cells] at hcs
    obtain ⟨rfl, rfl, rfl⟩ := hcs
    simp only [if_true] at hmm
    subst hmm
    simp only [Prod.mk.injEq] at hx
    obtain ⟨rfl, rfl⟩ := hx
    have each : ∀ i, i < m → ∃ x : Ln.Chg, W.cell? (a.add (i * 3)) = some (.int .u8 (x.1 : Int)) ∧ W.cell? (a.add (i * 3 + 1)) = some (.string x.2.1) ∧ W.cell? (a.add (i * 3 + 2)) = some (.bool x.2.2) ∧ x.1 < 256 ∧ D i = .agg [.lit (.int .u8 (x.1 : Int)), .agg [.lit (.string x.2.1.data.toList), .lit (.bool x.2.2)]] := fun i hi => by
      obtain ⟨cs', h1, h2⟩ := hcell i hi
      rw [Tryd.cellsChange] at h1
      obtain ⟨_, hlen, hc⟩ := World.cells?_some h1
      obtain ⟨xs, k, hk, hxy, _, hxl, hff⟩ := DataW.trod_struct Tryd.underlying40 h2
      match xs, hxl, cs', hlen with
      | [y0, y1], _, [v0, v1, v2], _ =>
        have g0 := hff 0 _ rfl
        have g1 := hff 1 _ rfl
        simp [Tryd.cellsKind, Tryd.cellsLine] at g0 g1
        obtain ⟨xs2, k2, hk2, hxy2, _, hxl2, hff2⟩ := DataW.trod_struct Tryd.underlying38 g1
        match xs2, hxl2 with
        | [z0, z1], _ =>
          have i0 := hff2 0 _ rfl
          have i1 := hff2 1 _ rfl
          simp [Tryd.cellsS, Tryd.cellsB] at i0 i1
          obtain ⟨kn, e1, e2, hwf⟩ := DataW.trod_int Tryd.underlying36 g0
          obtain ⟨s, e3, e4, _⟩ := DataW.trod_string Tryd.underlying9 i0
          obtain ⟨b, e5, e6⟩ := DataW.trod_bool Tryd.underlying4 i1
          simp at e1 e2 e3 e4 e5 e6
          subst e1; subst e3; subst e5; subst e4; subst e6
          have hb := bounds_u8 hwf
          have c0 := hc 0 (by omega)
          have c1 := hc 1 (by omega)
          have c2 := hc 2 (by omega)
          rw [Deep.add_add] at c0 c1 c2
          simp only [Prod.mk.injEq] at hxy
          obtain ⟨kd, rfl⟩ : ∃ kd : Nat, kn = (kd : Int) := ⟨kn.toNat, by omega⟩
          refine ⟨(kd, (s, b)), by simpa using c0, by simpa using c1, by simpa using c2, by omega, ?_⟩
          rw [hxy.1, hxy2, e2]
          simp
    obtain ⟨Lx, hL⟩ := Deep.choose_lt each
    have hbulk : Ln.tot (((List.range len).map Lx).map (·.2)) + 4 * len + 1 ≤ Rows.uptoBulk (.slice ((List.range len).map D) ((List.range (m - len)).map fun j => D (len + j))) := by
      simp only [Rows.uptoBulk]
      have e : ((List.range len).map D) = (List.range len).map fun i => (.agg [.lit (.int .u8 ((Lx i).1 : Int)), .agg [.lit (.string (Lx i).2.1.data.toList), .lit (.bool (Lx i).2.2)]] : DataW H) :=
        List.map_congr_left fun i hi => by
          have := List.mem_range.1 hi
          rw [(hL i (by omega)).2.2.2.2]
      rw [e, bulk_changes, List.length_range]
      omega
    have hlen : len ≤ 1048576 := by omega
    refine ⟨some a, m, (List.range len).map Lx, by simp, ⟨by simp; omega, fun h => (by cases h), by simpa using hl, hm, fun x hx => ?_, fun x hx => ?_, fun i hi => ?_⟩, by simpa using hbulk⟩
    · have h1 : x.2.1.size ≤ Ln.tot (((List.range len).map Lx).map (·.2)) := Ln.tot_mem (List.mem_map.2 ⟨x, hx, rfl⟩)
      omega
    · obtain ⟨i, hi, rfl⟩ := List.mem_map.1 hx
      have := List.mem_range.1 hi
      exact (hL i (by omega)).2.2.2.1
    · have hi' : i < len := by simpa using hi
      obtain ⟨b, off, spot⟩ := a
      have hspot : spot = none := by simpa [Addr.add] using World.cell?_spot (hL 0 (by omega)).1
      subst hspot
      refine ⟨b, off, rfl, hlt (.cell b off) ?_, ?_, ?_, ?_⟩
      · exact List.mem_append_left _ (MemPlace.mem_row.2 ⟨0, by rw [Tryd.cellsChange]; omega, by simp⟩)
      · rw [← add_plain, (hL i (by omega)).1]; simp
      · rw [Nat.add_assoc, ← add_plain, (hL i (by omega)).2.1]; simp
      · rw [Nat.add_assoc, ← add_plain, (hL i (by omega)).2.2.1]; simp

/-- A world for the witness: the settled one, the tables holding what their initialisers lay. -/
noncomputable def laidPow : Obj → Obj
  | .cells _ t frozen => .cells #[.int .u64 1, .int .u64 10, .int .u64 100, .int .u64 1000, .int .u64 10000, .int .u64 100000, .int .u64 1000000, .int .u64 10000000, .int .u64 100000000, .int .u64 1000000000, .int .u64 10000000000, .int .u64 100000000000, .int .u64 1000000000000, .int .u64 10000000000000, .int .u64 100000000000000, .int .u64 1000000000000000, .int .u64 10000000000000000, .int .u64 100000000000000000, .int .u64 1000000000000000000, .int .u64 10000000000000000000] t frozen
  | o => o
noncomputable def laidB32 : Obj → Obj
  | .cells _ t frozen => .cells #[.int .u8 0, .int .u8 1, .int .u8 28, .int .u8 2, .int .u8 29, .int .u8 14, .int .u8 24, .int .u8 3, .int .u8 30, .int .u8 22, .int .u8 20, .int .u8 15, .int .u8 25, .int .u8 17, .int .u8 4, .int .u8 8, .int .u8 31, .int .u8 27, .int .u8 13, .int .u8 23, .int .u8 21, .int .u8 19, .int .u8 16, .int .u8 7, .int .u8 26, .int .u8 12, .int .u8 18, .int .u8 6, .int .u8 11, .int .u8 5, .int .u8 10, .int .u8 9] t frozen
  | o => o
noncomputable def laidB64 : Obj → Obj
  | .cells _ t frozen => .cells #[.int .u8 0, .int .u8 1, .int .u8 56, .int .u8 2, .int .u8 57, .int .u8 49, .int .u8 28, .int .u8 3, .int .u8 61, .int .u8 58, .int .u8 42, .int .u8 50, .int .u8 38, .int .u8 29, .int .u8 17, .int .u8 4, .int .u8 62, .int .u8 47, .int .u8 59, .int .u8 36, .int .u8 45, .int .u8 43, .int .u8 51, .int .u8 22, .int .u8 53, .int .u8 39, .int .u8 33, .int .u8 30, .int .u8 24, .int .u8 18, .int .u8 12, .int .u8 5, .int .u8 63, .int .u8 55, .int .u8 48, .int .u8 27, .int .u8 60, .int .u8 41, .int .u8 37, .int .u8 16, .int .u8 46, .int .u8 35, .int .u8 44, .int .u8 21, .int .u8 52, .int .u8 32, .int .u8 23, .int .u8 11, .int .u8 54, .int .u8 26, .int .u8 40, .int .u8 15, .int .u8 34, .int .u8 20, .int .u8 31, .int .u8 10, .int .u8 25, .int .u8 14, .int .u8 19, .int .u8 9, .int .u8 13, .int .u8 8, .int .u8 7, .int .u8 6] t frozen
  | o => o
noncomputable def laidWorld5 (os : Os) : World :=
  { World.holding Tryd.prog os ⟨#[], #[], []⟩ with heap := (((((World.holding Tryd.prog os ⟨#[], #[], []⟩).heap.modify 0 laidLets).modify 1 laidOcts).modify 2 laidPow).modify 3 laidB32).modify 4 laidB64 }
end Go.Proofs.YtpoimhkfajppmaaDoor
