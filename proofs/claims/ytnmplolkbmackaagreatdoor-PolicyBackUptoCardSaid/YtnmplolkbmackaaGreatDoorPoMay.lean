/- What both May answer of a policy. -/
import Derived.Test.YtnmplolkbmackaaGreatDoorPoRef
import Derived.Test.YtnmplolkbmackaaGreatDoorPgF
namespace Go.Proofs.YtnmplolkbmackaaGreatDoor
open Go.RowKit

namespace Pl
/-- What both May answer. -/
def mayP (R W : List (List ByteArray)) (f m o e : Int) (b : Bool) (p : List ByteArray) : Bool := polC R W f m o e == 0 && (rightP p && (if b then insideB W p else insideB R p))
end Pl

set_option maxRecDepth 100000 in
set_option maxHeartbeats 2000000 in
theorem pmay_any (ar aw ap : Option Addr) (cr cw cp : Nat) (R W : List (List ByteArray)) (f m o e : Int) (b : Bool) (p : List ByteArray) (w : World) (hr : Pts w ar cr R) (hw : Pts w aw cw W) (hp : Strs w ap cp p) :
    Calls Tryz.prog 17 #[.agg #[.slice ar R.length cr, .slice aw W.length cw, .int .i64 f, .int .i64 m, .int .i64 o, .int .i64 e], .bool b, .slice ap p.length cp] w fun x w' => x = .returned (.bool (Pl.mayP R W f m o e b p)) ∧ Below w.heap.size w w' := by
  have hlr := hr.len
  have hlw := hw.len
  have hlp := hp.len
  obtain ⟨w1, hw1e⟩ : ∃ w1, w1 = w.alloc (.cells #[.slice ar R.length cr, .slice aw W.length cw, .int .i64 f, .int .i64 m, .int .i64 o, .int .i64 e] 24) := ⟨_, rfl⟩
  have hB1 : Below w.heap.size w w1 := by rw [hw1e]; exact (Below.refl _ _).alloc (Nat.le_refl _) _
  have hg : w.heap.size < w1.heap.size := by rw [hw1e]; simp
  have q0 : w1.cell? ⟨w.heap.size, 0, none⟩ = some (.slice ar R.length cr) := by rw [hw1e]; simp [go_sem]
  have q1 : w1.cell? ⟨w.heap.size, 1, none⟩ = some (.slice aw W.length cw) := by rw [hw1e]; simp [go_sem]
  have HW1 : Hid (w1 = w.alloc (.cells #[.slice ar R.length cr, .slice aw W.length cw, .int .i64 f, .int .i64 m, .int .i64 o, .int .i64 e] 24)) := hw1e
  have hr1 := hr.below hB1
  have hw1 := hw.below hB1
  have hp1 := hp.below hB1
  have hpc : Pl.polC R W f m o e = 0 ∨ Pl.polC R W f m o e = 50 := by unfold Pl.polC; split <;> simp
  have hC := check_any ar aw cr cw R W f m o e w1 hr1 hw1
  have HM : Hid (Pl.mayP R W f m o e b p = (Pl.polC R W f m o e == 0 && (Pl.rightP p && (if b then Pl.insideB W p else Pl.insideB R p)))) := rfl
  clear hw1e
  rcases hpc with hpc | hpc
  · rw [hpc] at hC HM
    have HC : Hid (Calls Tryz.prog 13 #[.agg #[.slice ar R.length cr, .slice aw W.length cw, .int .i64 f, .int .i64 m, .int .i64 o, .int .i64 e]] w1 fun x w' => x = .returned (.int .i64 0) ∧ Below w1.heap.size w1 w') := hC
    clear hC hpc
    cases e1 : Pl.rightP p
    · have HE : Hid (Pl.mayP R W f m o e b p = false) := by show _ = _; rw [HM.out, e1]; simp
      go_enter Tryz.func17, Tryz.ntmps17
      go_wp2_with fail
      rw [← HW1.out]
      refine HC.out.mono ?_
      rintro x w2 ⟨rfl, hb⟩
      have hp2 := hp1.below hb
      have hB2 := hB1.trans (hb.mono hB1.size)
      go_wp2_with fail
      refine (right_any _ _ p _ hp2).mono ?_; rw [e1]; rintro x w' ⟨rfl, rfl⟩
      go_wp2_with fail
      go_ret
      rw [HE.out]
      exact ⟨rfl, hB2⟩
    · cases b
      · have HE : Hid (Pl.mayP R W f m o e false p = Pl.insideB R p) := by show _ = _; rw [HM.out, e1]; simp
        go_enter Tryz.func17, Tryz.ntmps17
        go_wp2_with fail
        rw [← HW1.out]
        refine HC.out.mono ?_
        rintro x w2 ⟨rfl, hb⟩
        have hp2 := hp1.below hb
        have hl2 := hr1.below hb
        have q2 := (hb.cell (p := ⟨w.heap.size, 0, none⟩) hg).trans q0
        have hB2 := hB1.trans (hb.mono hB1.size)
        clear q0 q1
        go_wp2_with fail
        refine (right_any _ _ p _ hp2).mono ?_; rw [e1]; rintro x w' ⟨rfl, rfl⟩
        go_wp2_with fail
        refine (inside_any _ _ _ _ R p _ hl2 hp2).mono ?_
        rintro x w3 ⟨rfl, hb3⟩
        go_wp2_with fail
        go_ret
        rw [HE.out]
        exact ⟨rfl, hB2.trans (hb3.mono hB2.size)⟩
      · have HE : Hid (Pl.mayP R W f m o e true p = Pl.insideB W p) := by show _ = _; rw [HM.out, e1]; simp
        go_enter Tryz.func17, Tryz.ntmps17
        go_wp2_with fail
        rw [← HW1.out]
        refine HC.out.mono ?_
        rintro x w2 ⟨rfl, hb⟩
        have hp2 := hp1.below hb
        have hl2 := hw1.below hb
        have q2 := (hb.cell (p := ⟨w.heap.size, 1, none⟩) hg).trans q1
        have hB2 := hB1.trans (hb.mono hB1.size)
        clear q0 q1
        go_wp2_with fail
        refine (right_any _ _ p _ hp2).mono ?_; rw [e1]; rintro x w' ⟨rfl, rfl⟩
        go_wp2_with fail
        refine (inside_any _ _ _ _ W p _ hl2 hp2).mono ?_
        rintro x w3 ⟨rfl, hb3⟩
        go_wp2_with fail
        go_ret
        rw [HE.out]
        exact ⟨rfl, hB2.trans (hb3.mono hB2.size)⟩
  · rw [hpc] at hC HM
    have HC : Hid (Calls Tryz.prog 13 #[.agg #[.slice ar R.length cr, .slice aw W.length cw, .int .i64 f, .int .i64 m, .int .i64 o, .int .i64 e]] w1 fun x w' => x = .returned (.int .i64 50) ∧ Below w1.heap.size w1 w') := hC
    have HE : Hid (Pl.mayP R W f m o e b p = false) := by show _ = _; rw [HM.out]; rfl
    clear hC hpc
    go_enter Tryz.func17, Tryz.ntmps17
    go_wp2_with fail
    rw [← HW1.out]
    refine HC.out.mono ?_
    rintro x w2 ⟨rfl, hb⟩
    go_wp2_with fail
    go_ret
    rw [HE.out]
    exact ⟨rfl, hB1.trans (hb.mono hB1.size)⟩

set_option maxRecDepth 100000 in
set_option maxHeartbeats 2000000 in
theorem rpmay_any (ar aw ap : Option Addr) (cr cw cp : Nat) (R W : List (List ByteArray)) (f m o e : Int) (b : Bool) (p : List ByteArray) (w : World) (hr : Pts w ar cr R) (hw : Pts w aw cw W) (hp : Strs w ap cp p) :
    Calls Tryz.prog 18 #[.agg #[.slice ar R.length cr, .slice aw W.length cw, .int .i64 f, .int .i64 m, .int .i64 o, .int .i64 e], .bool b, .slice ap p.length cp] w fun x w' => x = .returned (.bool (Pl.mayP R W f m o e b p)) ∧ Below w.heap.size w w' := by
  have hlr := hr.len
  have hlw := hw.len
  have hlp := hp.len
  obtain ⟨w1, hw1e⟩ : ∃ w1, w1 = w.alloc (.cells #[.slice ar R.length cr, .slice aw W.length cw, .int .i64 f, .int .i64 m, .int .i64 o, .int .i64 e] 24) := ⟨_, rfl⟩
  have hB1 : Below w.heap.size w w1 := by rw [hw1e]; exact (Below.refl _ _).alloc (Nat.le_refl _) _
  have hg : w.heap.size < w1.heap.size := by rw [hw1e]; simp
  have q0 : w1.cell? ⟨w.heap.size, 0, none⟩ = some (.slice ar R.length cr) := by rw [hw1e]; simp [go_sem]
  have q1 : w1.cell? ⟨w.heap.size, 1, none⟩ = some (.slice aw W.length cw) := by rw [hw1e]; simp [go_sem]
  have HW1 : Hid (w1 = w.alloc (.cells #[.slice ar R.length cr, .slice aw W.length cw, .int .i64 f, .int .i64 m, .int .i64 o, .int .i64 e] 24)) := hw1e
  have hr1 := hr.below hB1
  have hw1 := hw.below hB1
  have hp1 := hp.below hB1
  have hpc : Pl.polC R W f m o e = 0 ∨ Pl.polC R W f m o e = 50 := by unfold Pl.polC; split <;> simp
  have hC := rRight_any ar aw cr cw R W f m o e w1 hr1 hw1
  have HM : Hid (Pl.mayP R W f m o e b p = (Pl.polC R W f m o e == 0 && (Pl.rightP p && (if b then Pl.insideB W p else Pl.insideB R p)))) := rfl
  clear hw1e
  rcases hpc with hpc | hpc
  · rw [hpc] at hC HM
    have HC : Hid (Calls Tryz.prog 29 #[.agg #[.slice ar R.length cr, .slice aw W.length cw, .int .i64 f, .int .i64 m, .int .i64 o, .int .i64 e]] w1 fun x w' => x = .returned (.bool true) ∧ Below w1.heap.size w1 w') := hC
    clear hC hpc
    cases e1 : Pl.rightP p
    · have HE : Hid (Pl.mayP R W f m o e b p = false) := by show _ = _; rw [HM.out, e1]; simp
      go_enter Tryz.func18, Tryz.ntmps18
      go_wp2_with fail
      rw [← HW1.out]
      refine HC.out.mono ?_
      rintro x w2 ⟨rfl, hb⟩
      have hp2 := hp1.below hb
      have hB2 := hB1.trans (hb.mono hB1.size)
      go_wp2_with fail
      refine (rright_any _ _ p _ hp2).mono ?_; rw [e1]; rintro x w' ⟨rfl, rfl⟩
      go_wp2_with fail
      go_ret
      rw [HE.out]
      exact ⟨rfl, hB2⟩
    · cases b
      · have HE : Hid (Pl.mayP R W f m o e false p = Pl.insideB R p) := by show _ = _; rw [HM.out, e1]; simp
        go_enter Tryz.func18, Tryz.ntmps18
        go_wp2_with fail
        rw [← HW1.out]
        refine HC.out.mono ?_
        rintro x w2 ⟨rfl, hb⟩
        have hp2 := hp1.below hb
        have hl2 := hr1.below hb
        have q2 := (hb.cell (p := ⟨w.heap.size, 0, none⟩) hg).trans q0
        have hB2 := hB1.trans (hb.mono hB1.size)
        clear q0 q1
        go_wp2_with fail
        refine (rright_any _ _ p _ hp2).mono ?_; rw [e1]; rintro x w' ⟨rfl, rfl⟩
        go_wp2_with fail
        refine (rinside_any _ _ _ _ R p _ hl2 hp2).mono ?_
        rintro x w3 ⟨rfl, hb3⟩
        go_wp2_with fail
        go_ret
        rw [HE.out]
        exact ⟨rfl, hB2.trans (hb3.mono hB2.size)⟩
      · have HE : Hid (Pl.mayP R W f m o e true p = Pl.insideB W p) := by show _ = _; rw [HM.out, e1]; simp
        go_enter Tryz.func18, Tryz.ntmps18
        go_wp2_with fail
        rw [← HW1.out]
        refine HC.out.mono ?_
        rintro x w2 ⟨rfl, hb⟩
        have hp2 := hp1.below hb
        have hl2 := hw1.below hb
        have q2 := (hb.cell (p := ⟨w.heap.size, 1, none⟩) hg).trans q1
        have hB2 := hB1.trans (hb.mono hB1.size)
        clear q0 q1
        go_wp2_with fail
        refine (rright_any _ _ p _ hp2).mono ?_; rw [e1]; rintro x w' ⟨rfl, rfl⟩
        go_wp2_with fail
        refine (rinside_any _ _ _ _ W p _ hl2 hp2).mono ?_
        rintro x w3 ⟨rfl, hb3⟩
        go_wp2_with fail
        go_ret
        rw [HE.out]
        exact ⟨rfl, hB2.trans (hb3.mono hB2.size)⟩
  · rw [hpc] at hC HM
    have HC : Hid (Calls Tryz.prog 29 #[.agg #[.slice ar R.length cr, .slice aw W.length cw, .int .i64 f, .int .i64 m, .int .i64 o, .int .i64 e]] w1 fun x w' => x = .returned (.bool false) ∧ Below w1.heap.size w1 w') := hC
    have HE : Hid (Pl.mayP R W f m o e b p = false) := by show _ = _; rw [HM.out]; rfl
    clear hC hpc
    go_enter Tryz.func18, Tryz.ntmps18
    go_wp2_with fail
    rw [← HW1.out]
    refine HC.out.mono ?_
    rintro x w2 ⟨rfl, hb⟩
    go_wp2_with fail
    go_ret
    rw [HE.out]
    exact ⟨rfl, hB1.trans (hb.mono hB1.size)⟩
end Go.Proofs.YtnmplolkbmackaaGreatDoor
