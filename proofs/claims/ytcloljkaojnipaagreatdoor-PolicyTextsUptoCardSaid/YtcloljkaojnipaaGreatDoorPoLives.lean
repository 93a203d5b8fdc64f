/- What lives() of the policies' statements answers. -/
import Derived.Test.YtcloljkaojnipaaGreatDoorPgL
import Derived.Test.YtcloljkaojnipaaGreatDoorPoPry
import Derived.Test.YtcloljkaojnipaaGreatDoorPhA
namespace Go.Proofs.YtcloljkaojnipaaGreatDoor
open Go.RowKit

theorem fault_eq (x1 x2 y1 y2 : Int) (wx : World) : (binOp .eql 40 (.agg #[.int .i64 x1, .int .i64 x2]) (.agg #[.int .i64 y1, .int .i64 y2])).run Tryz.prog wx = .ok (.bool ((x1 == y1) && (x2 == y2))) wx := by
  have ht : Tryz.prog.underlying 40 = some (.struct (Tryz.prog.fieldsOf 40)) := by kernel_rfl
  have hp : Tryz.prog.stoodInHeld 40 = false := by kernel_rfl
  obtain ⟨f, g, hf, f1, f2, f3, g1, g2, g3⟩ : ∃ f g : Field, (Tryz.prog.fieldsOf 40).toList = [f, g] ∧ f.name = "Line" ∧ f.type = 3 ∧ f.offset = 0 ∧ g.name = "Rule" ∧ g.type = 3 ∧ g.offset = 1 :=
    ⟨(Tryz.prog.fieldsOf 40).toList.head!, (Tryz.prog.fieldsOf 40).toList.tail.head!, by kernel_rfl, by kernel_rfl, by kernel_rfl, by kernel_rfl, by kernel_rfl, by kernel_rfl, by kernel_rfl⟩
  have p1 : ∀ (a b : Int) (w : World), (part 3 #[.int .i64 a, .int .i64 b] 0).run Tryz.prog w = .ok (.int .i64 a) w := fun _ _ _ => by kernel_rfl
  have p2 : ∀ (a b : Int) (w : World), (part 3 #[.int .i64 a, .int .i64 b] 1).run Tryz.prog w = .ok (.int .i64 b) w := fun _ _ _ => by kernel_rfl
  rw [run_eql_struct, show (10000 : Nat) = 9999 + 1 from rfl, run_equalIn_struct wx 9999 40 _ _ ht hp, hf]
  simp only [Op.eqFields, f1, f2, f3, g1, g2, g3, Sem.run_bind, Sem.run_ite, p1, p2, Result.andThen_ok, Sem.run_pure, show (9999 : Nat) = 9998 + 1 from rfl, run_equalIn_int wx 9998 3 .i64 .i64 x1 y1 Tryz.underlying3, run_equalIn_int wx 9998 3 .i64 .i64 x2 y2 Tryz.underlying3]
  cases (x1 == y1) <;> cases (x2 == y2) <;> simp
theorem two_strs (w : World) (x y : ByteArray) (hx : x.size ≤ 1024) (hy : y.size ≤ 1024) : Strs (w.alloc (.cells #[.string x, .string y] 9)) (some ⟨w.heap.size, 0, none⟩) 2 [x, y] := by
  refine ⟨by simp, fun h => (by cases h), by simp, by decide, fun i hi => ?_, fun i hi => ⟨w.heap.size, 0, rfl, by simp, ?_⟩⟩
  · match i, hi with
    | 0, _ => show x.size ≤ _; omega
    | 1, _ => show y.size ≤ _; omega
  · match i, hi with
    | 0, _ => simp
    | 1, _ => simp
theorem sam_any (w : World) (T : PT w) : Calls Tryz.prog 23 #[.string ⟨#[114, 101, 97, 100, 32, 34, 47, 97, 34, 10, 114, 101, 97, 100, 32, 34, 47, 97, 47, 98, 34, 10, 119, 114, 105, 116, 101, 32, 34, 47, 116, 109, 112, 34, 10, 102, 117, 101, 108, 32, 49, 48, 48, 10]⟩] w fun e w' => ∃ aR cR aW cW, e = .returned (.tuple #[.agg #[.slice aR 2 cR, .slice aW 1 cW, .int .i64 100, .int .i64 0, .int .i64 0, .int .i64 0], .int .i64 0, .agg #[.int .i64 0, .int .i64 0]]) ∧ Pts w' aR cR [Pl.pA, Pl.pAB] ∧ Pts w' aW cW [Pl.pT] ∧ Below w.heap.size w w' := by
  refine (parse_any ⟨Pl.samL.toArray⟩ w T (by decide)).mono ?_
  rintro e w' ⟨hb, hm⟩
  obtain ⟨S, hS, h1, h2, h3, h4, h5, h6⟩ := Pl.sam_parse
  rw [hS] at hm
  obtain ⟨vR, vW, rfl, hR, hW, _, _, _⟩ := hm
  rw [h1] at hR
  rw [h2] at hW
  obtain ⟨aR, cR, rfl, pR⟩ := hR.row.pts (by simp)
  obtain ⟨aW, cW, rfl, pW⟩ := hW.row.pts (by simp)
  exact ⟨aR, cR, aW, cW, by rw [h3, h4, h5, h6]; rfl, pR, pW, hb⟩
theorem sam_print (aR aW : Option Addr) (cR cW : Nat) (w : World) (T : PT w) (hr : Pts w aR cR [Pl.pA, Pl.pAB]) (hw : Pts w aW cW [Pl.pT]) :
    Calls Tryz.prog 25 #[.agg #[.slice aR 2 cR, .slice aW 1 cW, .int .i64 100, .int .i64 0, .int .i64 0, .int .i64 0]] w fun x w' => x = .returned (.tuple #[.string ⟨#[114, 101, 97, 100, 32, 34, 47, 97, 34, 10, 119, 114, 105, 116, 101, 32, 34, 47, 116, 109, 112, 34, 10, 102, 117, 101, 108, 32, 49, 48, 48, 10, 109, 101, 109, 111, 114, 121, 32, 48, 10, 111, 117, 116, 112, 117, 116, 32, 48, 10, 101, 97, 99, 104, 32, 48, 10]⟩, .int .i64 0]) ∧ Below w.heap.size w w' := by
  refine (pprint_yes aR aW cR cW [Pl.pA, Pl.pAB] [Pl.pT] 100 0 0 0 w T hr hw Pl.sam_right (by simp) (by simp) ⟨by omega, by omega, by omega, by omega⟩).mono ?_
  rintro x w' ⟨c, d, h1, h2, rfl, hb⟩
  rw [h1.unique Pl.sam_covR, h2.unique Pl.sam_covW, Pl.sam_text]
  exact ⟨rfl, hb⟩
theorem sam_mayR (aR aW ap : Option Addr) (cR cW cp : Nat) (w : World) (hr : Pts w aR cR [Pl.pA, Pl.pAB]) (hw : Pts w aW cW [Pl.pT]) (hp : Strs w ap cp Pl.pAC) :
    Calls Tryz.prog 17 #[.agg #[.slice aR 2 cR, .slice aW 1 cW, .int .i64 100, .int .i64 0, .int .i64 0, .int .i64 0], .bool false, .slice ap 2 cp] w fun x w' => x = .returned (.bool true) ∧ Below w.heap.size w w' := by
  have h := pmay_any aR aW ap cR cW cp [Pl.pA, Pl.pAB] [Pl.pT] 100 0 0 0 false Pl.pAC w hr hw hp
  rw [Pl.sam_may] at h
  exact h
theorem sam_mayW (aR aW ap : Option Addr) (cR cW cp : Nat) (w : World) (hr : Pts w aR cR [Pl.pA, Pl.pAB]) (hw : Pts w aW cW [Pl.pT]) (hp : Strs w ap cp Pl.pAC) :
    Calls Tryz.prog 17 #[.agg #[.slice aR 2 cR, .slice aW 1 cW, .int .i64 100, .int .i64 0, .int .i64 0, .int .i64 0], .bool true, .slice ap 2 cp] w fun x w' => x = .returned (.bool false) ∧ Below w.heap.size w w' := by
  have h := pmay_any aR aW ap cR cW cp [Pl.pA, Pl.pAB] [Pl.pT] 100 0 0 0 true Pl.pAC w hr hw hp
  rw [Pl.sam_not] at h
  exact h
theorem sam_check (aR aW : Option Addr) (cR cW : Nat) (w : World) (hr : Pts w aR cR [Pl.pA, Pl.pAB]) (hw : Pts w aW cW [Pl.pT]) :
    Calls Tryz.prog 13 #[.agg #[.slice aR 2 cR, .slice aW 1 cW, .int .i64 100, .int .i64 0, .int .i64 0, .int .i64 0]] w fun x w' => x = .returned (.int .i64 0) ∧ Below w.heap.size w w' := by
  have h := check_any aR aW cR cW [Pl.pA, Pl.pAB] [Pl.pT] 100 0 0 0 w hr hw
  rw [Pl.sam_right] at h
  exact h
/-- The sample's policy in a block, and the fault beside it. -/
structure Sam (w0 w : World) (g : Nat) (aR aW : Option Addr) (cR cW : Nat) : Prop where
  p : w.heap[g]? = some (polO (.slice aR 2 cR) (.slice aW 1 cW) 100 0 0 0)
  f : w.heap[g + 1]? = some zFau
  r : Pts w aR cR [Pl.pA, Pl.pAB]
  s : Pts w aW cW [Pl.pT]
  bel : Below w0.heap.size w0 w
  T : PT w
theorem Sam.under {w0 w w' : World} {g : Nat} {aR aW : Option Addr} {cR cW : Nat} (h : Sam w0 w g aR aW cR cW) (hb : Below w.heap.size w w') : Sam w0 w' g aR aW cR cW :=
  ⟨(hb.block _ (lt_of_block h.p)).trans h.p, (hb.block _ (lt_of_block h.f)).trans h.f, h.r.below hb, h.s.below hb, h.bel.trans (hb.mono h.bel.size), h.T.under hb⟩
theorem Sam.cells {w0 w : World} {g : Nat} {aR aW : Option Addr} {cR cW : Nat} (h : Sam w0 w g aR aW cR cW) : w.cell? ⟨g, 0, none⟩ = some (.slice aR 2 cR) ∧ w.cell? ⟨g, 1, none⟩ = some (.slice aW 1 cW) ∧ w.cell? ⟨g, 2, none⟩ = some (.int .i64 100) ∧ w.cell? ⟨g, 3, none⟩ = some (.int .i64 0) ∧ w.cell? ⟨g, 4, none⟩ = some (.int .i64 0) ∧ w.cell? ⟨g, 5, none⟩ = some (.int .i64 0) ∧ w.cell? ⟨g + 1, 0, none⟩ = some (.int .i64 0) ∧ w.cell? ⟨g + 1, 1, none⟩ = some (.int .i64 0) := by
  simp only [World.cell?, h.p, h.f]; exact ⟨rfl, rfl, rfl, rfl, rfl, rfl, rfl, rfl⟩

set_option maxRecDepth 100000 in
set_option maxHeartbeats 1000000 in
theorem plives_any (w : World) (T : PT w) : Calls Tryz.prog 12 #[] w fun e w' => e = .returned (.bool true) ∧ Below w.heap.size w w' := by
  have HT : Hid (PT w) := T
  have hT := T.size
  have feq := fault_eq 0 0 0 0
  clear T
  go_enter Tryz.func12, Tryz.ntmps12
  go_wp2_with fail
  refine (sam_any w HT.out).mono ?_
  rintro e w1 ⟨aR, cR, aW, cW, rfl, hr, hw, hb1⟩
  have HS : Hid (Sam w ((w1.alloc (.cells #[.slice aR 2 cR, .slice aW 1 cW, .int .i64 100, .int .i64 0, .int .i64 0, .int .i64 0] 24)).alloc (.cells #[.int .i64 0, .int .i64 0] 40)) w1.heap.size aR aW cR cW) := by
    have hb2 : Below w1.heap.size w1 ((w1.alloc (.cells #[.slice aR 2 cR, .slice aW 1 cW, .int .i64 100, .int .i64 0, .int .i64 0, .int .i64 0] 24)).alloc (.cells #[.int .i64 0, .int .i64 0] 40)) := ((Below.refl _ w1).alloc (Nat.le_refl _) _).alloc (by simp) _
    refine ⟨?_, ?_, hr.below hb2, hw.below hb2, hb1.trans (hb2.mono hb1.size), HT.out.under (hb1.trans (hb2.mono hb1.size))⟩
    · rw [heap_alloc_old _ _ (by simp)]; exact heap_alloc_new _ _
    · rw [show w1.heap.size + 1 = (w1.alloc (.cells #[.slice aR 2 cR, .slice aW 1 cW, .int .i64 100, .int .i64 0, .int .i64 0, .int .i64 0] 24)).heap.size from by simp]; exact heap_alloc_new _ _
  clear hr hw hb1
  go_wp2_with fail
  refine (sam_print aR aW cR cW _ HS.out.T HS.out.r HS.out.s).mono ?_
  rintro e w3 ⟨rfl, hb3⟩
  have HS3 : Hid (Sam w w3 w1.heap.size aR aW cR cW) := HS.out.under hb3
  generalize w1.heap.size = g at *
  clear HS hb3
  obtain ⟨a0, a1, a2, a3, a4, a5, a6, a7⟩ := HS3.out.cells
  go_wp2_with fail
  have HA : Hid (Sam w (w3.alloc (.cells #[.string ⟨#[97]⟩, .string ⟨#[99]⟩] 9)) g aR aW cR cW) := HS3.out.under ((Below.refl _ w3).alloc (Nat.le_refl _) _)
  refine (sam_mayR aR aW _ cR cW 2 _ HA.out.r HA.out.s (two_strs w3 _ _ (by decide) (by decide))).mono ?_
  rintro e w4 ⟨rfl, hb4⟩
  have HS4 : Hid (Sam w w4 g aR aW cR cW) := HA.out.under hb4
  clear a0 a1 a2 a3 a4 a5 a6 a7 HA HS3 hb4
  obtain ⟨a0, a1, a2, a3, a4, a5, a6, a7⟩ := HS4.out.cells
  go_wp2_with fail
  have HA : Hid (Sam w (w4.alloc (.cells #[.string ⟨#[97]⟩, .string ⟨#[99]⟩] 9)) g aR aW cR cW) := HS4.out.under ((Below.refl _ w4).alloc (Nat.le_refl _) _)
  refine (sam_mayW aR aW _ cR cW 2 _ HA.out.r HA.out.s (two_strs w4 _ _ (by decide) (by decide))).mono ?_
  rintro e w5 ⟨rfl, hb5⟩
  have HS5 : Hid (Sam w w5 g aR aW cR cW) := HA.out.under hb5
  clear a0 a1 a2 a3 a4 a5 a6 a7 HA HS4 hb5
  obtain ⟨a0, a1, a2, a3, a4, a5, a6, a7⟩ := HS5.out.cells
  go_wp2_with fail
  refine (sam_check aR aW cR cW _ HS5.out.r HS5.out.s).mono ?_
  rintro e w6 ⟨rfl, hb6⟩
  have HS6 : Hid (Sam w w6 g aR aW cR cW) := HS5.out.under hb6
  clear a0 a1 a2 a3 a4 a5 a6 a7 HS5 hb6
  go_wp2_with fail
  go_ret
  exact ⟨rfl, HS6.out.bel⟩
end Go.Proofs.YtcloljkaojnipaaGreatDoor
