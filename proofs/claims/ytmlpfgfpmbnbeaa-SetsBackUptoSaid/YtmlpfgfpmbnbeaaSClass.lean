/- What sets.Class answers. -/
import Derived.Test.YtmlpfgfpmbnbeaaSCls3
import Derived.Laws.ResultCell
namespace Go.Proofs.Ytmlpfgfpmbnbeaa
open Go.RowKit

namespace St
/-- A class's bytes, none if there is no such class; whether there is. -/
def clsV (n : List UInt8) : Nat → Bool := (clsP n).getD (inL [])
def clsB (n : List UInt8) : Bool := (clsP n).isSome
end St
theorem results_set2 {fn : Func} {p a : Tmp} (h : fn.results = #[.cell p 25, .tmp a]) (tmps : Array Value) (w : World) (g : Nat) (q : Nat → Bool)
    (hp : tmps.getD p undef = .pointer (some ⟨g, 0, none⟩)) (hg : SetAt w g q) :
    (results fn tmps).run Try.prog w = .ok (.tuple #[St.setV q, tmps.getD a undef]) w := by
  have hp' : tmps[p]?.getD undef = .pointer (some ⟨g, 0, none⟩) := by simpa using hp
  have hl := run_loadVar_row (P := Try.prog) w g 25 25 (setA q) (0, 0) _ hg Try.underlying25 rfl (by kernel_rfl)
  simp [results, h, hp', asAddr, hl]
  rfl
theorem zero_set (w : World) : (zeroValue 25).run Try.prog w = .ok (.agg #[.int .u64 0, .int .u64 0, .int .u64 0, .int .u64 0]) w := by kernel_rfl
theorem setV_none : St.setV (St.inL []) = .agg #[.int .u64 0, .int .u64 0, .int .u64 0, .int .u64 0] := by unfold St.setV; rw [wd_none, wd_none, wd_none, wd_none]; rfl
theorem cls_look {w : World} {m : Nat} (h : ClsMap w m) (s : ByteArray) (hs : s.size ≤ maxLen) :
    (Instr.lookup 47 (.map (some m)) (.string s) true).run Try.prog w = .ok (.tuple #[St.setV (St.clsV s.data.toList), .bool (St.clsB s.data.toList)]) w := by
  obtain ⟨n, D, ho, hD⟩ := h
  obtain ⟨v, ps, hr, hv⟩ := ho.look_ok Try.keyStr Try.underlying47 (zero_set w) (rfl : hR _ = some (.held _, [])) (Go.WideMaps.keyOf_string_mk Try.underlying9 hs)
  rw [hr]
  have hd := hD s.data.toList
  unfold St.clsV St.clsB St.clsP
  cases hc : St.lookC (fun _ => true) s.data.toList with
  | none =>
    rw [hc] at hd
    have e1 : v = St.setV (St.inL []) := by
      rw [hd] at hv
      simp only [hR, Option.map_none, Option.getD_none, Option.some.injEq, Prod.mk.injEq, DataW.held.injEq] at hv
      rw [setV_none]
      exact hv.1
    have e2 : Maps.has D (.string s.data.toList) = false := Maps.has_false_of_atKey (fun z => by rw [hd]; rfl)
    rw [e1, e2]
    rfl
  | some e =>
    rw [hc] at hd
    have e1 : v = St.setV e.2.2 := by
      rw [hd] at hv
      simp only [hR, Option.map_some, Option.getD_some, Option.some.injEq, Prod.mk.injEq, DataW.held.injEq] at hv
      exact hv.1
    have e2 : Maps.has D (.string s.data.toList) = true := Maps.has_true_of_atKey (y := .held (St.setV e.2.2)) (fun z => by rw [hd]; rfl)
    rw [e1, e2]
    rfl

set_option maxRecDepth 100000 in
set_option maxHeartbeats 2000000 in
theorem class_any (s : ByteArray) (w : World) (hs : s.size ≤ maxLen) :
    Calls Try.prog 9 #[.string s] w fun e w' => e = .returned (.tuple #[St.setV (St.clsV s.data.toList), .bool (St.clsB s.data.toList)]) ∧ Below w.heap.size w w' := by
  have HL : Hid (∀ w1 m, ClsMap w1 m → (Instr.lookup 47 (.map (some m)) (.string s) true).run Try.prog w1 = .ok (.tuple #[St.setV (St.clsV s.data.toList), .bool (St.clsB s.data.toList)]) w1) := fun w1 m h => cls_look h s hs
  generalize St.clsV s.data.toList = q at *
  generalize St.clsB s.data.toList = b at *
  simp only [St.setV] at HL
  go_enter Try.func9, Try.ntmps9
  go_wp2_with fail
  refine (classes_any _).mono ?_
  rintro x w1 ⟨m, rfl, hm, hb⟩
  have hl := HL.out w1 m hm
  have S2 : SetAt w1 w.heap.size (St.inL []) := SetAt.under (hb := hb) (h := atS0 w)
  have hB : Below w.heap.size w w1 := ((Below.refl _ _).alloc (Nat.le_refl _) _).trans (hb.mono (by simp))
  have hlt := S2.lt
  obtain ⟨r0, r1, r2, r3⟩ := S2.cells
  have f0 := S2.frozen 0
  have f1 := S2.frozen 1
  have f2 := S2.frozen 2
  have f3 := S2.frozen 3
  clear hb hm
  go_wp2_with fail
  have S3 := (S2.put (q := q)).alloc (.cells #[.int .u64 (St.wd q 0 : Nat), .int .u64 (St.wd q 1 : Nat), .int .u64 (St.wd q 2 : Nat), .int .u64 (St.wd q 3 : Nat)] 25)
  have hB2 := put4_below (q := q) hB (Nat.le_refl _)
  exact bodyPost_ret (results_set2 rfl _ _ w.heap.size q rfl S3) rfl ⟨rfl, hB2.alloc hB2.size _⟩
end Go.Proofs.Ytmlpfgfpmbnbeaa
