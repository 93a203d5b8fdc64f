/- The frame of the nfa's rows that have a program among the arguments. -/
import Derived.Test.YtdiokclbdaojpaaDoorNfM19
import Derived.Test.YtdiokclbdaojpaaDoorNfIn
namespace Go.Proofs.YtdiokclbdaojpaaDoor
open Go.ChangeShapes Go.WideShapes Go.ChangeAt Go.RowKit

theorem Tryd.cellsInst : Tryd.prog.cellsOf 64 = 9 := by kernel_rfl
theorem Tryd.cellsInstKind : Tryd.prog.cellsOf 62 = 1 := by kernel_rfl
theorem Tryd.cellsProg : Tryd.prog.cellsOf 35 = 3 := by kernel_rfl
theorem Tryd.cellsCode : Tryd.prog.cellsOf 33 = 1 := by kernel_rfl
namespace Nt
theorem addr_off (b off k : Nat) : (⟨b, off, none⟩ : Addr).add k = ⟨b, off + k, none⟩ := by
  unfold Addr.add; split <;> simp_all
set_option maxRecDepth 100000 in
/-- An instruction, out of its reading. -/
theorem inst_trod {H : Type} {enc : TypeId × Value → H} {W : World} (fuel : Nat) (cs : List Value) (x : DataW H × List MemPlace) (h : DataW.trod enc Tryd.prog W 0 (fun _ => true) true fuel 64 cs = some x) : ∃ y : Ins, cs = insL y ∧ y.k ≤ 255 := by
  obtain ⟨xs, n, _, rfl, hl, hxl, hff⟩ := DataW.trod_struct Tryd.underlying64 h
  rw [Tryd.cellsInst] at hl
  match xs, hxl, cs, hl with
  | [y0, y1, y2, y3, y4, y5], _, [v0, v1, v2, v3, v4, v5, v6, v7, v8], _ =>
    have g0 := hff 0 _ rfl
    have g1 := hff 1 _ rfl
    have g2 := hff 2 _ rfl
    have g3 := hff 3 _ rfl
    have g4 := hff 4 _ rfl
    have g5 := hff 5 _ rfl
    simp [Tryd.cellsInstKind, Tryd.cellsSet4, Tryd.cellsInt1] at g0 g1 g2 g3 g4 g5
    obtain ⟨kn, e0, f0, w0⟩ := DataW.trod_int Tryd.underlying62 g0
    obtain ⟨to, e2, f2, _⟩ := DataW.trod_int Tryd.underlying3 g2
    obtain ⟨gr, e3, f3, _⟩ := DataW.trod_int Tryd.underlying3 g3
    obtain ⟨la, e4, f4, _⟩ := DataW.trod_int Tryd.underlying3 g4
    obtain ⟨sl, e5, f5, _⟩ := DataW.trod_int Tryd.underlying3 g5
    simp at e0 e2 e3 e4 e5
    subst e0; subst e2; subst e3; subst e4; subst e5
    have hb := bounds_u8 w0
    obtain ⟨k, rfl⟩ : ∃ k : Nat, kn = (k : Int) := ⟨kn.toNat, by omega⟩
    obtain ⟨zs, m1, _, fz, _, hzl, hel⟩ := DataW.trod_array Tryd.underlying25 g1
    rw [Tryd.cellsU64] at hel
    have word : ∀ i u, i < 4 → ([v1, v2, v3, v4] : List Value)[i]? = some u → ∃ c : Nat, c < 18446744073709551616 ∧ u = .int .u64 (c : Int) := fun i u hi hu => by
      have g := hel i hi
      rw [List.getElem?_eq_getElem (by omega)] at g
      obtain ⟨c, e, _, hw⟩ := DataW.trod_int Tryd.underlying23 g
      have hc := bounds_u64 hw
      have := congrArg (·[0]?) e
      simp only [Nat.mul_one, List.getElem?_take, List.getElem?_drop, Nat.add_zero, hu] at this
      refine ⟨c.toNat, by omega, ?_⟩
      have e5 : u = .int .u64 c := by simpa using this
      rw [e5]
      congr 1
      omega
    obtain ⟨n1, h1, rfl⟩ := word 0 v1 (by omega) rfl
    obtain ⟨n2, h2, rfl⟩ := word 1 v2 (by omega) rfl
    obtain ⟨n3, h3, rfl⟩ := word 2 v3 (by omega) rfl
    obtain ⟨n4, h4, rfl⟩ := word 3 v4 (by omega) rfl
    have hset := St.setV_bits n1 n2 n3 n4 h1 h2 h3 h4
    simp only [St.setV, Value.agg.injEq, Array.mk.injEq, List.cons.injEq, Value.int.injEq, true_and, and_true] at hset
    obtain ⟨s1, s2, s3, s4⟩ := hset
    exact ⟨⟨k, St.bitsOf n1 n2 n3 n4, to, gr, la, sl⟩, by simp [insL, s1, s2, s3, s4], by show k ≤ 255; omega⟩
end Nt
set_option maxRecDepth 100000 in
theorem prog_open {H : Type} {enc : TypeId × Value → H} {W : World} {base : Nat} {v : Value} {d : DataW H} {p : List MemPlace}
    (hok : Value.okWide Tryd.prog W .any base 35 v) (h : DataW.Trod enc Tryd.prog W 0 (fun _ => true) true 35 v d p) (hlt : ∀ x ∈ p, x.block < W.heap.size) (hsz : Rows.uptoBulk d ≤ 1048576) : ∃ gr sl a cap L, v = .agg #[.int .i64 gr, .int .i64 sl, .slice a L.length cap] ∧ Nt.Cds W W.heap.size a cap L ∧ ∀ x ∈ L, x.k ≤ 255 := by
  obtain ⟨fuel, hf⟩ := h
  simp only [Value.okWide, Tryd.underlying35] at hok
  obtain ⟨cs, rfl, _⟩ := hok
  have hf : DataW.trod enc Tryd.prog W 0 (fun _ => true) true fuel 35 cs.toList = some (d, p) := hf
  obtain ⟨xs, n, _, hd, hl, hxl, hff⟩ := DataW.trod_struct Tryd.underlying35 hf
  rw [Tryd.cellsProg] at hl
  obtain ⟨us, hus⟩ : ∃ us, us = cs.toList := ⟨_, rfl⟩
  rw [← hus] at hff hl
  match xs, hxl, us, hl, hus with
  | [y0, y1, y2], _, [v0, v1, v2], _, hus =>
    have hcs : cs = #[v0, v1, v2] := Array.toList_inj.1 hus.symm
    subst hcs
    have g0 := hff 0 _ rfl
    have g1 := hff 1 _ rfl
    have g2 := hff 2 _ rfl
    simp [Tryd.cellsInt1, Tryd.cellsCode] at g0 g1 g2
    obtain ⟨gr, e0, f0, _⟩ := DataW.trod_int Tryd.underlying3 g0
    obtain ⟨sl, e1, f1, _⟩ := DataW.trod_int Tryd.underlying3 g1
    simp at e0 e1
    subst e0; subst e1
    obtain ⟨hd1, hd2⟩ : d = .agg ([y0, y1, y2].map (·.1)) ∧ p = [y0, y1, y2].flatMap (·.2) := by simpa using hd
    subst hd1; subst hd2
    have hbulk : Rows.uptoBulk y2.1 + 1 ≤ Rows.uptoBulk (DataW.agg ([y0, y1, y2].map (·.1)) : DataW H) := by
      have := Nt.bulk_mem (d := y2.1) (l := [y0, y1, y2].map (·.1)) (by simp)
      rw [Rows.uptoBulk]; omega
    rcases Deep.open_slice Tryd.underlying33 g2 with ⟨hcs, hx⟩ | ⟨a, len, cap, m, n', D, Pl, hcs, _, hl', hm, hmm, hx, hcell⟩
    · simp at hcs
      subst hcs
      exact ⟨gr, sl, none, 0, [], rfl, ⟨by simp, by simp, by unfold maxLen; omega, fun _ => rfl, fun i hi => absurd hi (by simp)⟩, fun x hx => by cases hx⟩
    · simp at hcs
      subst hcs
      simp only [if_true] at hmm
      subst hmm
      have hy2 : y2.1 = .slice ((List.range len).map D) ((List.range (m - len)).map fun j => D (len + j)) := by rw [hx]
      have hpl : y2.2 = MemPlace.row a (m * Tryd.prog.cellsOf 64) ++ (List.range m).flatMap Pl := by rw [hx]
      have hb2 : Rows.uptoBulkAll ((List.range len).map D) + 1 ≤ Rows.uptoBulk y2.1 := by rw [hy2, Rows.uptoBulk]; omega
      have hlt2 : ∀ pl ∈ y2.2, pl.block < W.heap.size := fun pl hp => hlt pl (by simp [hp])
      haveI : Inhabited Nt.Ins := ⟨Nt.iEnd⟩
      have each : ∀ i, i < len → ∃ y : Nt.Ins, (∀ j, j < 9 → W.cell? (a.add (i * 9 + j)) = (Nt.insL y)[j]?) ∧ y.k ≤ 255 := fun i hi => by
        obtain ⟨cs', c1, c2⟩ := hcell i (by omega)
        rw [Tryd.cellsInst] at c1
        obtain ⟨_, hlen', hc⟩ := World.cells?_some c1
        obtain ⟨y, e, hy⟩ := Nt.inst_trod n' cs' (D i, Pl i) c2
        refine ⟨y, fun j hj => ?_, hy⟩
        rw [← Deep.add_add, hc j hj, e]
      obtain ⟨X, hX⟩ := Deep.choose_lt each
      have hlen : len ≤ 1048576 := by
        have := Nt.bulk_len ((List.range len).map D)
        simp at this
        omega
      refine ⟨gr, sl, some a, m, (List.range len).map X, by simp, ⟨by simp; omega, by simp; omega, hm, fun h => (by cases h), fun i hi => ?_⟩, fun x hx => ?_⟩
      · have hi' : i < len := by simpa using hi
        obtain ⟨b, off, spot⟩ := a
        obtain ⟨c, _⟩ := hX i hi'
        have hspot : spot = none := by
          have c0 := (hX 0 (by omega)).1 0 (by omega)
          have c1 : W.cell? ⟨b, off, spot⟩ = some (.int .u8 ((X 0).k : Int)) := by simpa [Addr.add, Nt.insL] using c0
          exact World.cell?_spot c1
        subst hspot
        have hblk : b < W.heap.size := hlt2 (.cell b off) (by
          rw [hpl]
          exact List.mem_append_left _ (MemPlace.mem_row.2 ⟨0, by rw [Tryd.cellsInst]; omega, by simp⟩))
        refine ⟨b, off, rfl, hblk, fun j hj => ?_⟩
        have e : ((List.range len).map X)[i]'hi = X i := by simp
        rw [e, ← c j hj, Nt.addr_off, Nat.add_assoc]
      · obtain ⟨i, hi, rfl⟩ := List.mem_map.1 hx
        exact (hX i (List.mem_range.1 hi)).2
theorem Tryd.cellsSpan : Tryd.prog.cellsOf 42 = 2 := by kernel_rfl
set_option maxRecDepth 100000 in
theorem span_open {H : Type} {enc : TypeId × Value → H} {W : World} {base : Nat} {v : Value} {d : DataW H} {p : List MemPlace}
    (hok : Value.okWide Tryd.prog W .any base 42 v) (h : DataW.Trod enc Tryd.prog W 0 (fun _ => true) true 42 v d p) : ∃ f t : Int, v = .agg #[.int .i64 f, .int .i64 t] := by
  obtain ⟨fuel, hf⟩ := h
  simp only [Value.okWide, Tryd.underlying42] at hok
  obtain ⟨cs, rfl, _⟩ := hok
  have hf : DataW.trod enc Tryd.prog W 0 (fun _ => true) true fuel 42 cs.toList = some (d, p) := hf
  obtain ⟨xs, n, _, hd, hl, hxl, hff⟩ := DataW.trod_struct Tryd.underlying42 hf
  rw [Tryd.cellsSpan] at hl
  obtain ⟨us, hus⟩ : ∃ us, us = cs.toList := ⟨_, rfl⟩
  rw [← hus] at hff hl
  match xs, hxl, us, hl, hus with
  | [y0, y1], _, [v0, v1], _, hus =>
    have hcs : cs = #[v0, v1] := Array.toList_inj.1 hus.symm
    subst hcs
    have g0 := hff 0 _ rfl
    have g1 := hff 1 _ rfl
    simp [Tryd.cellsInt1] at g0 g1
    obtain ⟨f, e0, _, _⟩ := DataW.trod_int Tryd.underlying3 g0
    obtain ⟨t, e1, _, _⟩ := DataW.trod_int Tryd.underlying3 g1
    simp at e0 e1
    subst e0; subst e1
    exact ⟨f, t, rfl⟩
end Go.Proofs.YtdiokclbdaojpaaDoor
