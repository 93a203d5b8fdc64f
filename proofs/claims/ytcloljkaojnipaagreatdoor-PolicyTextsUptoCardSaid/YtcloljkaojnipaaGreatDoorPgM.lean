/- What policy.inside and policy.allInside answer. What policy.allInside, policy.checkBoth and policy.Within answer. What policy.Within answers. -/
import Derived.Test.YtcloljkaojnipaaGreatDoorPhA
import Derived.Deep.RegionHeld3
namespace Go.Proofs.YtcloljkaojnipaaGreatDoor
open Go.RowKit

namespace Pl
theorem filter_yes {l m : List (List ByteArray)} {k : Nat} (hk : k < l.length) (h : insideB m (l[k]'hk) = true) : (l.take (k + 1)).filter (insideB m) = (l.take k).filter (insideB m) ++ [l[k]'hk] := by
  rw [List.take_succ_eq_append_getElem hk, List.filter_append]; simp [h]
theorem filter_no {l m : List (List ByteArray)} {k : Nat} (hk : k < l.length) (h : insideB m (l[k]'hk) = false) : (l.take (k + 1)).filter (insideB m) = (l.take k).filter (insideB m) := by
  rw [List.take_succ_eq_append_getElem hk, List.filter_append]; simp [h]
end Pl

set_option maxRecDepth 100000 in
set_option maxHeartbeats 1000000 in
theorem pinside_any (a ao : Option Addr) (cap co : Nat) (l m : List (List ByteArray)) (w : World) (h : Pts w a cap l) (ho : Pts w ao co m) :
    Calls Tryz.prog 72 #[.slice a l.length cap, .slice ao m.length co] w fun e w' => ∃ v, e = .returned v ∧ PRow w' w.heap.size v (l.filter (Pl.insideB m)) ∧ Below w.heap.size w w' := by
  obtain ⟨i0, hi, hz0, hz1, hz2⟩ := info_parts Tryz.infoPath
  have hl := h.len
  have hlm := ho.len
  go_enter Tryz.func72, Tryz.ntmps72
  go_wp2_with fail
  go_loopw [5, 7, 10] (fun v _ i wr => ∃ k : Nat, k ≤ l.length ∧ i = .int .i64 k ∧ PRow wr w.heap.size v ((l.take k).filter (Pl.insideB m)) ∧ Below w.heap.size w wr) (fun _ _ i _ => l.length - (intOf i).toNat)
  case atStart => exact ⟨0, Nat.zero_le _, rfl, PRow.empty _ _, Below.refl _ _⟩
  case round =>
    obtain ⟨k, hk, rfl, hpr, hnx⟩ := hrel
    have hsz := hnx.size
    by_cases hlt : k < l.length
    · obtain ⟨b, off, x, c, rfl, hb, hc, hs⟩ := h.cells k hlt
      have hc := (hnx.cell (p := ⟨b, off + k, none⟩) hb).trans hc
      have hx0 : l[k] ≠ [] → ∀ ad, x = some ad → ad.block < w.heap.size := hs.lt
      have hs := hs.below hnx
      have HY : Hid (Pl.insideB m (l[k]'hlt) = true → (l.take (k + 1)).filter (Pl.insideB m) = (l.take k).filter (Pl.insideB m) ++ [l[k]'hlt]) := Pl.filter_yes hlt
      have HN : Hid (Pl.insideB m (l[k]'hlt) = false → (l.take (k + 1)).filter (Pl.insideB m) = (l.take k).filter (Pl.insideB m)) := Pl.filter_no hlt
      have hkl : ((l.take k).filter (Pl.insideB m)).length ≤ k := Nat.le_trans (List.length_filter_le _ _) (by simp; omega)
      have hxl := hs.len
      generalize l[k]'hlt = p at *
      generalize (l.take k).filter (Pl.insideB m) = t at *
      have i1 : (k : Int) < (l.length : Int) := by omega
      have HO : Hid (Pts wr ao co m) := ho.below hnx
      have HX : Hid (p ≠ [] → ∀ ad, x = some ad → ad.block < w.heap.size) := hx0
      have HPR : Hid (PRow wr w.heap.size _ t) := hpr
      clear hx0 hpr
      cases hp : Pl.insideB m p
      · have HE : Hid ((l.take (k + 1)).filter (Pl.insideB m) = t) := HN.out hp
        go_wp2_with fail
        refine (inside_any _ _ _ _ m p _ HO.out hs).mono ?_
        rw [hp]
        rintro e w1 ⟨rfl, hb1⟩
        have hB1 := hnx.trans (hb1.mono hsz)
        have HR1 : Hid (PRow w1 w.heap.size _ t) := HPR.out.below hb1
        go_wp2_with fail
        go_roundw
        case rel => exact ⟨k + 1, by omega, by go_num, by rw [HE.out]; exact HR1.out, hB1⟩
        case measure => simp [intOf]; omega
      · have HE : Hid ((l.take (k + 1)).filter (Pl.insideB m) = t ++ [p]) := HY.out hp
        go_wp2_with fail
        refine (inside_any _ _ _ _ m p _ HO.out hs).mono ?_
        rw [hp]
        rintro e w1 ⟨rfl, hb1⟩
        have hB1 := hnx.trans (hb1.mono hsz)
        have hs1 := hB1.size
        obtain ⟨xs, ox, ex⟩ := HPR.out.below hb1
        have s1 := hs.below hb1
        have hoff : Off x p (Value.ownBlock _) := fun hp ad e q => by
          have h1 := HX.out hp ad e
          have h2 := (ox.lt ad.block q.symm).1
          omega
        clear hb1
        go_wp2_with (at_builtin; refine wpList_append_far _ rfl _ _ 22 rfl w.heap.size 26 i0 (.slice none 0 0) 1 24 Tryz.underlying22 hi hz0 hz1 hz2 rfl (by decide) _ _ _ rfl (ox.alloc _) ⟨w1.heap.size, 0, none⟩ 1 1 [.slice x p.length c] rfl rfl (cell_one_new _ _ _) ?c2 ?c3 ?c4 ?c5 ?_)
        case c2 => first | rfl | (intro u hu; simp at hu; subst hu; rfl)
        case c3 => unfold maxLen; omega
        case c4 => omega
        case c5 => simp; omega
        intro v3 w3 hown3 hgr3 _ hat3
        have hB3 : Below w.heap.size w w3 := (hB1.alloc hs1 _).grown hgr3 (by simp; omega) (fun g hg => (ox.lt g hg).1)
        have hpr3 := prow_snoc ox ex s1 hoff hown3 hgr3 hat3 (by simp)
        clear hgr3 hown3 hat3
        go_wp2
        go_roundw
        case rel => exact ⟨k + 1, by omega, by go_num, by rw [HE.out]; exact hpr3, hB3⟩
        case measure => simp [intOf]; omega
    · have e : l.take k = l := List.take_of_length_le (by omega)
      rw [e] at hpr
      have i1 : ¬ (k : Int) < (l.length : Int) := by omega
      clear e
      go_wp2
      go_ret
      exact ⟨_, rfl, hpr, hnx⟩
end Go.Proofs.YtcloljkaojnipaaGreatDoor
namespace Go.Proofs.YtcloljkaojnipaaGreatDoor
open Go.RowKit

namespace Pl
def innP (l m : List (List ByteArray)) : Bool := l.all (insideB m)
theorem inn_len (l m : List (List ByteArray)) : (((l.filter (insideB m)).length : Int) == (l.length : Int)) = innP l m := by
  unfold innP
  rw [Bool.eq_iff_iff, List.all_eq_true, beq_iff_eq, Int.natCast_inj, List.length_filter_eq_length_iff]
def chk2 (R1 W1 : List (List ByteArray)) (f1 m1 o1 e1 : Int) (R2 W2 : List (List ByteArray)) (f2 m2 o2 e2 : Int) : Nat := if polC R1 W1 f1 m1 o1 e1 = 0 then polC R2 W2 f2 m2 o2 e2 else 50
end Pl

set_option maxRecDepth 100000 in
set_option maxHeartbeats 1000000 in
theorem allIn_any (a ao : Option Addr) (cap co : Nat) (l m : List (List ByteArray)) (w : World) (h : Pts w a cap l) (ho : Pts w ao co m) :
    Calls Tryz.prog 42 #[.slice a l.length cap, .slice ao m.length co] w fun e w' => e = .returned (.bool (Pl.innP l m)) ∧ Below w.heap.size w w' := by
  have HE : Hid ((((l.filter (Pl.insideB m)).length : Int) == (l.length : Int)) = Pl.innP l m) := Pl.inn_len l m
  have hl := h.len
  have hf := List.length_filter_le (Pl.insideB m) l
  have hc := pinside_any a ao cap co l m w h ho
  generalize l.filter (Pl.insideB m) = t at *
  go_enter Tryz.func42, Tryz.ntmps42
  go_wp2_with fail
  refine hc.mono ?_
  rintro e w1 ⟨v, rfl, hpr, hb⟩
  obtain ⟨a1, c1, rfl, hpt⟩ := hpr.pts (by omega)
  go_wp2_with fail
  go_ret
  rw [HE.out]
  exact ⟨rfl, hb⟩

set_option maxRecDepth 100000 in
set_option maxHeartbeats 1000000 in
theorem checkBoth_any (ar1 aw1 : Option Addr) (cr1 cw1 : Nat) (R1 W1 : List (List ByteArray)) (f1 m1 o1 e1 : Int) (ar2 aw2 : Option Addr) (cr2 cw2 : Nat) (R2 W2 : List (List ByteArray)) (f2 m2 o2 e2 : Int) (w : World) (hr1 : Pts w ar1 cr1 R1) (hw1 : Pts w aw1 cw1 W1) (hr2 : Pts w ar2 cr2 R2) (hw2 : Pts w aw2 cw2 W2) :
    Calls Tryz.prog 39 #[.agg #[.slice ar1 R1.length cr1, .slice aw1 W1.length cw1, .int .i64 f1, .int .i64 m1, .int .i64 o1, .int .i64 e1], .agg #[.slice ar2 R2.length cr2, .slice aw2 W2.length cw2, .int .i64 f2, .int .i64 m2, .int .i64 o2, .int .i64 e2]] w fun x w' => x = .returned (.int .i64 (Pl.chk2 R1 W1 f1 m1 o1 e1 R2 W2 f2 m2 o2 e2 : Nat)) ∧ Below w.heap.size w w' := by
  obtain ⟨wa, hwa⟩ : ∃ wa, wa = (w.alloc (.cells #[.slice ar1 R1.length cr1, .slice aw1 W1.length cw1, .int .i64 f1, .int .i64 m1, .int .i64 o1, .int .i64 e1] 24)).alloc (.cells #[.slice ar2 R2.length cr2, .slice aw2 W2.length cw2, .int .i64 f2, .int .i64 m2, .int .i64 o2, .int .i64 e2] 24) := ⟨_, rfl⟩
  have hB : Below w.heap.size w wa := by rw [hwa]; exact ((Below.refl _ _).alloc (Nat.le_refl _) _).alloc (by simp) _
  have HW : Hid (wa = (w.alloc (.cells #[.slice ar1 R1.length cr1, .slice aw1 W1.length cw1, .int .i64 f1, .int .i64 m1, .int .i64 o1, .int .i64 e1] 24)).alloc (.cells #[.slice ar2 R2.length cr2, .slice aw2 W2.length cw2, .int .i64 f2, .int .i64 m2, .int .i64 o2, .int .i64 e2] 24)) := hwa
  have hsz : w.heap.size + 2 = wa.heap.size := by rw [hwa]; simp
  have H1 : Hid (Calls Tryz.prog 13 #[.agg #[.slice ar1 R1.length cr1, .slice aw1 W1.length cw1, .int .i64 f1, .int .i64 m1, .int .i64 o1, .int .i64 e1]] wa fun x w' => x = .returned (.int .i64 (Pl.polC R1 W1 f1 m1 o1 e1 : Nat)) ∧ Below wa.heap.size wa w') := check_any ar1 aw1 cr1 cw1 R1 W1 f1 m1 o1 e1 wa (hr1.below hB) (hw1.below hB)
  have H2 : Hid (∀ w', Below wa.heap.size wa w' → Calls Tryz.prog 13 #[.agg #[.slice ar2 R2.length cr2, .slice aw2 W2.length cw2, .int .i64 f2, .int .i64 m2, .int .i64 o2, .int .i64 e2]] w' fun x w'' => x = .returned (.int .i64 (Pl.polC R2 W2 f2 m2 o2 e2 : Nat)) ∧ Below w'.heap.size w' w'') := fun w' hb => check_any ar2 aw2 cr2 cw2 R2 W2 f2 m2 o2 e2 w' ((hr2.below hB).below hb) ((hw2.below hB).below hb)
  have hlr1 := hr1.len
  have hlr2 := hr2.len
  have hlw1 := hw1.len
  have hlw2 := hw2.len
  have d0 : wa.cell? ⟨w.heap.size + 1, 0, none⟩ = some (.slice ar2 R2.length cr2) := by rw [hwa]; simp [go_sem]
  have d1 : wa.cell? ⟨w.heap.size + 1, 1, none⟩ = some (.slice aw2 W2.length cw2) := by rw [hwa]; simp [go_sem]
  have d2 : wa.cell? ⟨w.heap.size + 1, 2, none⟩ = some (.int .i64 f2) := by rw [hwa]; simp [go_sem]
  have d3 : wa.cell? ⟨w.heap.size + 1, 3, none⟩ = some (.int .i64 m2) := by rw [hwa]; simp [go_sem]
  have d4 : wa.cell? ⟨w.heap.size + 1, 4, none⟩ = some (.int .i64 o2) := by rw [hwa]; simp [go_sem]
  have d5 : wa.cell? ⟨w.heap.size + 1, 5, none⟩ = some (.int .i64 e2) := by rw [hwa]; simp [go_sem]
  have hpc : Pl.polC R1 W1 f1 m1 o1 e1 = 0 ∨ Pl.polC R1 W1 f1 m1 o1 e1 = 50 := by unfold Pl.polC; split <;> simp
  have HC : Hid (Pl.chk2 R1 W1 f1 m1 o1 e1 R2 W2 f2 m2 o2 e2 = if Pl.polC R1 W1 f1 m1 o1 e1 = 0 then Pl.polC R2 W2 f2 m2 o2 e2 else 50) := rfl
  clear hwa hr1 hw1 hr2 hw2
  rcases hpc with hpc | hpc
  · rw [hpc] at H1 HC
    have HE : Hid (Pl.chk2 R1 W1 f1 m1 o1 e1 R2 W2 f2 m2 o2 e2 = Pl.polC R2 W2 f2 m2 o2 e2) := HC.out.trans (if_pos rfl)
    clear hpc HC
    go_enter Tryz.func39, Tryz.ntmps39
    go_wp2_with fail
    rw [← HW.out]
    refine H1.out.mono ?_
    rintro x w1 ⟨rfl, hb1⟩
    have k0 := (hb1.cell (p := ⟨w.heap.size + 1, 0, none⟩) (by show w.heap.size + 1 < _; omega)).trans d0
    have k1 := (hb1.cell (p := ⟨w.heap.size + 1, 1, none⟩) (by show w.heap.size + 1 < _; omega)).trans d1
    have k2 := (hb1.cell (p := ⟨w.heap.size + 1, 2, none⟩) (by show w.heap.size + 1 < _; omega)).trans d2
    have k3 := (hb1.cell (p := ⟨w.heap.size + 1, 3, none⟩) (by show w.heap.size + 1 < _; omega)).trans d3
    have k4 := (hb1.cell (p := ⟨w.heap.size + 1, 4, none⟩) (by show w.heap.size + 1 < _; omega)).trans d4
    have k5 := (hb1.cell (p := ⟨w.heap.size + 1, 5, none⟩) (by show w.heap.size + 1 < _; omega)).trans d5
    clear d0 d1 d2 d3 d4 d5
    have H2' := H2.out w1 hb1
    have HS : Hid (w.heap.size + 2 = wa.heap.size) := hsz
    have HB1 : Hid (Below wa.heap.size wa w1) := hb1
    clear H2 hsz hb1
    go_wp2_with fail
    refine H2'.mono ?_
    rintro x w2 ⟨rfl, hb2⟩
    have hB1 := hB.trans (HB1.out.mono hB.size)
    go_wp2_with fail
    go_ret
    rw [HE.out]
    exact ⟨rfl, hB1.trans (hb2.mono hB1.size)⟩
  · rw [hpc] at H1 HC
    have HE : Hid (Pl.chk2 R1 W1 f1 m1 o1 e1 R2 W2 f2 m2 o2 e2 = 50) := HC.out.trans (if_neg (by decide))
    clear hpc HC d0 d1 d2 d3 d4 d5 hsz H2
    go_enter Tryz.func39, Tryz.ntmps39
    go_wp2_with fail
    rw [← HW.out]
    refine H1.out.mono ?_
    rintro x w1 ⟨rfl, hb1⟩
    go_wp2_with fail
    go_ret
    rw [HE.out]
    exact ⟨rfl, hB.trans (hb1.mono hB.size)⟩
end Go.Proofs.YtcloljkaojnipaaGreatDoor
namespace Go.Proofs.YtcloljkaojnipaaGreatDoor
open Go.RowKit

namespace Pl
theorem polC_two (R W : List (List ByteArray)) (f m o e : Int) : polC R W f m o e = 0 ∨ polC R W f m o e = 50 := by unfold polC; split <;> simp
theorem chk2_two (R1 W1 : List (List ByteArray)) (f1 m1 o1 e1 : Int) (R2 W2 : List (List ByteArray)) (f2 m2 o2 e2 : Int) : chk2 R1 W1 f1 m1 o1 e1 R2 W2 f2 m2 o2 e2 = 0 ∨ chk2 R1 W1 f1 m1 o1 e1 R2 W2 f2 m2 o2 e2 = 50 := by
  unfold chk2
  split
  · exact polC_two _ _ _ _ _ _
  · exact .inr rfl
/-- What lies within what. -/
def wthB (R1 W1 : List (List ByteArray)) (f1 m1 o1 e1 : Int) (R2 W2 : List (List ByteArray)) (f2 m2 o2 e2 : Int) : Bool :=
  innP R1 R2 && (innP W1 W2 && (decide (f1 ≤ f2) && (decide (m1 ≤ m2) && (decide (o1 ≤ o2) && decide (e1 ≤ e2)))))
def wthP (R1 W1 : List (List ByteArray)) (f1 m1 o1 e1 : Int) (R2 W2 : List (List ByteArray)) (f2 m2 o2 e2 : Int) : Bool :=
  chk2 R1 W1 f1 m1 o1 e1 R2 W2 f2 m2 o2 e2 == 0 && wthB R1 W1 f1 m1 o1 e1 R2 W2 f2 m2 o2 e2
end Pl

/-- Two policies, each in a block of its own. -/
structure Two (w : World) (g h : Nat) (ar1 aw1 : Option Addr) (cr1 cw1 : Nat) (R1 W1 : List (List ByteArray)) (f1 m1 o1 e1 : Int) (ar2 aw2 : Option Addr) (cr2 cw2 : Nat) (R2 W2 : List (List ByteArray)) (f2 m2 o2 e2 : Int) : Prop where
  gl : g < w.heap.size
  hl : h < w.heap.size
  g0 : w.cell? ⟨g, 0, none⟩ = some (.slice ar1 R1.length cr1)
  g1 : w.cell? ⟨g, 1, none⟩ = some (.slice aw1 W1.length cw1)
  g2 : w.cell? ⟨g, 2, none⟩ = some (.int .i64 f1)
  g3 : w.cell? ⟨g, 3, none⟩ = some (.int .i64 m1)
  g4 : w.cell? ⟨g, 4, none⟩ = some (.int .i64 o1)
  g5 : w.cell? ⟨g, 5, none⟩ = some (.int .i64 e1)
  h0 : w.cell? ⟨h, 0, none⟩ = some (.slice ar2 R2.length cr2)
  h1 : w.cell? ⟨h, 1, none⟩ = some (.slice aw2 W2.length cw2)
  h2 : w.cell? ⟨h, 2, none⟩ = some (.int .i64 f2)
  h3 : w.cell? ⟨h, 3, none⟩ = some (.int .i64 m2)
  h4 : w.cell? ⟨h, 4, none⟩ = some (.int .i64 o2)
  h5 : w.cell? ⟨h, 5, none⟩ = some (.int .i64 e2)
  r1 : Pts w ar1 cr1 R1
  w1 : Pts w aw1 cw1 W1
  r2 : Pts w ar2 cr2 R2
  w2 : Pts w aw2 cw2 W2
theorem Two.below {w w' : World} {g h : Nat} {ar1 aw1 : Option Addr} {cr1 cw1 : Nat} {R1 W1 : List (List ByteArray)} {f1 m1 o1 e1 : Int} {ar2 aw2 : Option Addr} {cr2 cw2 : Nat} {R2 W2 : List (List ByteArray)} {f2 m2 o2 e2 : Int} (t : Two w g h ar1 aw1 cr1 cw1 R1 W1 f1 m1 o1 e1 ar2 aw2 cr2 cw2 R2 W2 f2 m2 o2 e2) (hb : Below w.heap.size w w') : Two w' g h ar1 aw1 cr1 cw1 R1 W1 f1 m1 o1 e1 ar2 aw2 cr2 cw2 R2 W2 f2 m2 o2 e2 :=
  ⟨Nat.lt_of_lt_of_le t.gl hb.size, Nat.lt_of_lt_of_le t.hl hb.size, (hb.cell (p := ⟨g, 0, none⟩) t.gl).trans t.g0, (hb.cell (p := ⟨g, 1, none⟩) t.gl).trans t.g1, (hb.cell (p := ⟨g, 2, none⟩) t.gl).trans t.g2, (hb.cell (p := ⟨g, 3, none⟩) t.gl).trans t.g3, (hb.cell (p := ⟨g, 4, none⟩) t.gl).trans t.g4, (hb.cell (p := ⟨g, 5, none⟩) t.gl).trans t.g5,
   (hb.cell (p := ⟨h, 0, none⟩) t.hl).trans t.h0, (hb.cell (p := ⟨h, 1, none⟩) t.hl).trans t.h1, (hb.cell (p := ⟨h, 2, none⟩) t.hl).trans t.h2, (hb.cell (p := ⟨h, 3, none⟩) t.hl).trans t.h3, (hb.cell (p := ⟨h, 4, none⟩) t.hl).trans t.h4, (hb.cell (p := ⟨h, 5, none⟩) t.hl).trans t.h5, t.r1.below hb, t.w1.below hb, t.r2.below hb, t.w2.below hb⟩
theorem two_new (w : World) (ar1 aw1 : Option Addr) (cr1 cw1 : Nat) (R1 W1 : List (List ByteArray)) (f1 m1 o1 e1 : Int) (ar2 aw2 : Option Addr) (cr2 cw2 : Nat) (R2 W2 : List (List ByteArray)) (f2 m2 o2 e2 : Int) (hr1 : Pts w ar1 cr1 R1) (hw1 : Pts w aw1 cw1 W1) (hr2 : Pts w ar2 cr2 R2) (hw2 : Pts w aw2 cw2 W2) :
    Two ((w.alloc (.cells #[.slice ar1 R1.length cr1, .slice aw1 W1.length cw1, .int .i64 f1, .int .i64 m1, .int .i64 o1, .int .i64 e1] 24)).alloc (.cells #[.slice ar2 R2.length cr2, .slice aw2 W2.length cw2, .int .i64 f2, .int .i64 m2, .int .i64 o2, .int .i64 e2] 24)) w.heap.size (w.heap.size + 1) ar1 aw1 cr1 cw1 R1 W1 f1 m1 o1 e1 ar2 aw2 cr2 cw2 R2 W2 f2 m2 o2 e2 := by
  have hB : Below w.heap.size w ((w.alloc (.cells #[.slice ar1 R1.length cr1, .slice aw1 W1.length cw1, .int .i64 f1, .int .i64 m1, .int .i64 o1, .int .i64 e1] 24)).alloc (.cells #[.slice ar2 R2.length cr2, .slice aw2 W2.length cw2, .int .i64 f2, .int .i64 m2, .int .i64 o2, .int .i64 e2] 24)) := ((Below.refl _ _).alloc (Nat.le_refl _) _).alloc (by simp) _
  refine ⟨by simp; omega, by simp, ?_, ?_, ?_, ?_, ?_, ?_, ?_, ?_, ?_, ?_, ?_, ?_, hr1.below hB, hw1.below hB, hr2.below hB, hw2.below hB⟩ <;> simp [go_sem]

set_option maxRecDepth 100000 in
set_option maxHeartbeats 1000000 in
theorem pwithin_any (ar1 aw1 : Option Addr) (cr1 cw1 : Nat) (R1 W1 : List (List ByteArray)) (f1 m1 o1 e1 : Int) (ar2 aw2 : Option Addr) (cr2 cw2 : Nat) (R2 W2 : List (List ByteArray)) (f2 m2 o2 e2 : Int) (w : World) (hr1 : Pts w ar1 cr1 R1) (hw1 : Pts w aw1 cw1 W1) (hr2 : Pts w ar2 cr2 R2) (hw2 : Pts w aw2 cw2 W2) :
    Calls Tryz.prog 21 #[.agg #[.slice ar1 R1.length cr1, .slice aw1 W1.length cw1, .int .i64 f1, .int .i64 m1, .int .i64 o1, .int .i64 e1], .agg #[.slice ar2 R2.length cr2, .slice aw2 W2.length cw2, .int .i64 f2, .int .i64 m2, .int .i64 o2, .int .i64 e2]] w fun x w' => x = .returned (.tuple #[.bool (Pl.wthP R1 W1 f1 m1 o1 e1 R2 W2 f2 m2 o2 e2), .int .i64 (Pl.chk2 R1 W1 f1 m1 o1 e1 R2 W2 f2 m2 o2 e2 : Nat)]) ∧ Below w.heap.size w w' := by
  obtain ⟨wa, hwa⟩ : ∃ wa, wa = (w.alloc (.cells #[.slice ar1 R1.length cr1, .slice aw1 W1.length cw1, .int .i64 f1, .int .i64 m1, .int .i64 o1, .int .i64 e1] 24)).alloc (.cells #[.slice ar2 R2.length cr2, .slice aw2 W2.length cw2, .int .i64 f2, .int .i64 m2, .int .i64 o2, .int .i64 e2] 24) := ⟨_, rfl⟩
  have HB : Hid (Below w.heap.size w wa) := by unfold Hid; rw [hwa]; exact ((Below.refl _ _).alloc (Nat.le_refl _) _).alloc (by simp) _
  have HW : Hid (wa = (w.alloc (.cells #[.slice ar1 R1.length cr1, .slice aw1 W1.length cw1, .int .i64 f1, .int .i64 m1, .int .i64 o1, .int .i64 e1] 24)).alloc (.cells #[.slice ar2 R2.length cr2, .slice aw2 W2.length cw2, .int .i64 f2, .int .i64 m2, .int .i64 o2, .int .i64 e2] 24)) := hwa
  have HT : Hid (Two wa w.heap.size (w.heap.size + 1) ar1 aw1 cr1 cw1 R1 W1 f1 m1 o1 e1 ar2 aw2 cr2 cw2 R2 W2 f2 m2 o2 e2) := by unfold Hid; rw [hwa]; exact two_new w ar1 aw1 cr1 cw1 R1 W1 f1 m1 o1 e1 ar2 aw2 cr2 cw2 R2 W2 f2 m2 o2 e2 hr1 hw1 hr2 hw2
  have H1 : Hid (Calls Tryz.prog 39 #[.agg #[.slice ar1 R1.length cr1, .slice aw1 W1.length cw1, .int .i64 f1, .int .i64 m1, .int .i64 o1, .int .i64 e1], .agg #[.slice ar2 R2.length cr2, .slice aw2 W2.length cw2, .int .i64 f2, .int .i64 m2, .int .i64 o2, .int .i64 e2]] wa fun x w' => x = .returned (.int .i64 (Pl.chk2 R1 W1 f1 m1 o1 e1 R2 W2 f2 m2 o2 e2 : Nat)) ∧ Below wa.heap.size wa w') := checkBoth_any ar1 aw1 cr1 cw1 R1 W1 f1 m1 o1 e1 ar2 aw2 cr2 cw2 R2 W2 f2 m2 o2 e2 wa HT.out.r1 HT.out.w1 HT.out.r2 HT.out.w2
  have hlr1 := hr1.len
  have hlr2 := hr2.len
  have hlw1 := hw1.len
  have hlw2 := hw2.len
  have hpc : Pl.chk2 R1 W1 f1 m1 o1 e1 R2 W2 f2 m2 o2 e2 = 0 ∨ Pl.chk2 R1 W1 f1 m1 o1 e1 R2 W2 f2 m2 o2 e2 = 50 := Pl.chk2_two _ _ _ _ _ _ _ _ _ _ _ _
  have HC : Hid (Pl.wthP R1 W1 f1 m1 o1 e1 R2 W2 f2 m2 o2 e2 = (Pl.chk2 R1 W1 f1 m1 o1 e1 R2 W2 f2 m2 o2 e2 == 0 && Pl.wthB R1 W1 f1 m1 o1 e1 R2 W2 f2 m2 o2 e2)) := rfl
  have HD : Hid (Pl.wthB R1 W1 f1 m1 o1 e1 R2 W2 f2 m2 o2 e2 = (Pl.innP R1 R2 && (Pl.innP W1 W2 && (decide (f1 ≤ f2) && (decide (m1 ≤ m2) && (decide (o1 ≤ o2) && decide (e1 ≤ e2))))))) := rfl
  generalize Pl.chk2 R1 W1 f1 m1 o1 e1 R2 W2 f2 m2 o2 e2 = ck at *
  generalize Pl.wthB R1 W1 f1 m1 o1 e1 R2 W2 f2 m2 o2 e2 = wb at *
  generalize Pl.wthP R1 W1 f1 m1 o1 e1 R2 W2 f2 m2 o2 e2 = wp at *
  clear hwa hr1 hw1 hr2 hw2
  rcases hpc with rfl | rfl
  · have HE : Hid (wp = wb) := HC.out.trans (by simp)
    clear HC
    go_enter Tryz.func21, Tryz.ntmps21
    go_wp2_with fail
    rw [← HW.out]
    refine H1.out.mono ?_
    rintro x w1 ⟨rfl, hb1⟩
    have HT1 : Hid (Two w1 w.heap.size (w.heap.size + 1) ar1 aw1 cr1 cw1 R1 W1 f1 m1 o1 e1 ar2 aw2 cr2 cw2 R2 W2 f2 m2 o2 e2) := HT.out.below hb1
    have HB1 : Hid (Below w.heap.size w w1) := HB.out.trans (hb1.mono HB.out.size)
    clear hb1 H1 HT HW HB
    generalize hg : w.heap.size = g at *
    have HG : Hid (w.heap.size = g) := hg
    clear hg
    generalize hh : g + 1 = h at *
    clear hh
    have a10 := HT1.out.g0
    have b10 := HT1.out.h0
    have a11 := HT1.out.g1
    have b11 := HT1.out.h1
    have a12 := HT1.out.g2
    have b12 := HT1.out.h2
    have a13 := HT1.out.g3
    have b13 := HT1.out.h3
    have a14 := HT1.out.g4
    have b14 := HT1.out.h4
    have a15 := HT1.out.g5
    have b15 := HT1.out.h5
    cases e1' : Pl.innP R1 R2
    · have HF : Hid (wb = false) := HD.out.trans (by rw [e1']; rfl)
      go_wp2_with fail
      refine (allIn_any _ _ _ _ R1 R2 _ HT1.out.r1 HT1.out.r2).mono ?_
      rw [e1']
      rintro x w2 ⟨rfl, hb2⟩
      go_wp2_with fail
      go_ret2
      rw [HE.out, HF.out]
      exact ⟨rfl, by rw [HG.out]; exact HB1.out.trans (hb2.mono (by have := HT1.out.gl; omega))⟩
    go_wp2_with fail
    refine (allIn_any _ _ _ _ R1 R2 _ HT1.out.r1 HT1.out.r2).mono ?_
    rw [e1']
    rintro x w2 ⟨rfl, hb2⟩
    have HT2 : Hid (Two w2 g h ar1 aw1 cr1 cw1 R1 W1 f1 m1 o1 e1 ar2 aw2 cr2 cw2 R2 W2 f2 m2 o2 e2) := HT1.out.below hb2
    have HB2 : Hid (Below g w w2) := HB1.out.trans (hb2.mono (by have := HT1.out.gl; omega))
    clear a10 b10 a11 b11 a12 b12 a13 b13 a14 b14 a15 b15
    have a20 := HT2.out.g0
    have b20 := HT2.out.h0
    have a21 := HT2.out.g1
    have b21 := HT2.out.h1
    have a22 := HT2.out.g2
    have b22 := HT2.out.h2
    have a23 := HT2.out.g3
    have b23 := HT2.out.h3
    have a24 := HT2.out.g4
    have b24 := HT2.out.h4
    have a25 := HT2.out.g5
    have b25 := HT2.out.h5
    clear hb2 HT1 HB1
    cases e2' : Pl.innP W1 W2
    · have HF : Hid (wb = false) := HD.out.trans (by rw [e1', e2']; rfl)
      go_wp2_with fail
      refine (allIn_any _ _ _ _ W1 W2 _ HT2.out.w1 HT2.out.w2).mono ?_
      rw [e2']
      rintro x w3 ⟨rfl, hb3⟩
      go_wp2_with fail
      go_ret2
      rw [HE.out, HF.out]
      exact ⟨rfl, by rw [HG.out]; exact HB2.out.trans (hb3.mono (by have := HT2.out.gl; omega))⟩
    have HF : Hid (wb = (decide (f1 ≤ f2) && (decide (m1 ≤ m2) && (decide (o1 ≤ o2) && decide (e1 ≤ e2))))) := HD.out.trans (by rw [e1', e2']; rfl)
    go_wp2_with fail
    refine (allIn_any _ _ _ _ W1 W2 _ HT2.out.w1 HT2.out.w2).mono ?_
    rw [e2']
    rintro x w3 ⟨rfl, hb3⟩
    have HT3 : Hid (Two w3 g h ar1 aw1 cr1 cw1 R1 W1 f1 m1 o1 e1 ar2 aw2 cr2 cw2 R2 W2 f2 m2 o2 e2) := HT2.out.below hb3
    have HB3 : Hid (Below g w w3) := HB2.out.trans (hb3.mono (by have := HT2.out.gl; omega))
    clear a20 b20 a21 b21 a22 b22 a23 b23 a24 b24 a25 b25
    have a30 := HT3.out.g0
    have b30 := HT3.out.h0
    have a31 := HT3.out.g1
    have b31 := HT3.out.h1
    have a32 := HT3.out.g2
    have b32 := HT3.out.h2
    have a33 := HT3.out.g3
    have b33 := HT3.out.h3
    have a34 := HT3.out.g4
    have b34 := HT3.out.h4
    have a35 := HT3.out.g5
    have b35 := HT3.out.h5
    clear hb3 HT2 HB2 HD
    by_cases q1 : f1 ≤ f2
    · have p1 : decide (f1 ≤ f2) = true := by simpa using q1
      by_cases q2 : m1 ≤ m2
      · have p2 : decide (m1 ≤ m2) = true := by simpa using q2
        by_cases q3 : o1 ≤ o2
        · have p3 : decide (o1 ≤ o2) = true := by simpa using q3
          by_cases q4 : e1 ≤ e2
          · have p4 : decide (e1 ≤ e2) = true := by simpa using q4
            have HV : Hid (wb = true) := HF.out.trans (by rw [p1, p2, p3, p4]; rfl)
            go_wp2_with fail
            go_ret2
            rw [HE.out, HV.out]
            exact ⟨rfl, by rw [HG.out]; exact HB3.out⟩
          · have p4 : decide (e1 ≤ e2) = false := by simpa using q4
            have HV : Hid (wb = false) := HF.out.trans (by rw [p1, p2, p3, p4]; rfl)
            go_wp2_with fail
            go_ret2
            rw [HE.out, HV.out]
            exact ⟨rfl, by rw [HG.out]; exact HB3.out⟩
        · have p3 : decide (o1 ≤ o2) = false := by simpa using q3
          have HV : Hid (wb = false) := HF.out.trans (by rw [p1, p2, p3]; rfl)
          go_wp2_with fail
          go_ret2
          rw [HE.out, HV.out]
          exact ⟨rfl, by rw [HG.out]; exact HB3.out⟩
      · have p2 : decide (m1 ≤ m2) = false := by simpa using q2
        have HV : Hid (wb = false) := HF.out.trans (by rw [p1, p2]; rfl)
        go_wp2_with fail
        go_ret2
        rw [HE.out, HV.out]
        exact ⟨rfl, by rw [HG.out]; exact HB3.out⟩
    · have p1 : decide (f1 ≤ f2) = false := by simpa using q1
      have HV : Hid (wb = false) := HF.out.trans (by rw [p1]; rfl)
      go_wp2_with fail
      go_ret2
      rw [HE.out, HV.out]
      exact ⟨rfl, by rw [HG.out]; exact HB3.out⟩
  · have HE : Hid (wp = false) := HC.out.trans (by simp)
    clear HC HD
    go_enter Tryz.func21, Tryz.ntmps21
    go_wp2_with fail
    rw [← HW.out]
    refine H1.out.mono ?_
    rintro x w1 ⟨rfl, hb1⟩
    go_wp2_with fail
    go_ret2
    rw [HE.out]
    exact ⟨rfl, HB.out.trans (hb1.mono HB.out.size)⟩
end Go.Proofs.YtcloljkaojnipaaGreatDoor
