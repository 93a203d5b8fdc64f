/- What the reference's rights, quota, Right and Check answer of a policy. What both May answer of a policy. -/
import Derived.Test.YtcloljkaojnipaaGreatDoorPoCheck
import Derived.Test.YtcloljkaojnipaaGreatDoorRefA
import Derived.Test.YtcloljkaojnipaaGreatDoorPgF
namespace Go.Proofs.YtcloljkaojnipaaGreatDoor
open Go.RowKit

set_option maxRecDepth 100000 in
set_option maxHeartbeats 1000000 in
theorem rrights_any (a : Option Addr) (cap : Nat) (l : List (List ByteArray)) (w : World) (h : Pts w a cap l) :
    Calls Tryz.prog 61 #[.slice a l.length cap] w fun e w' => e = .returned (.bool (Pl.rightsP l)) ∧ w = w' := by
  have hl := h.len
  have HR : Hid (Pl.rightsP l = (decide ((l.length : Int) ≤ 1024) && l.all Pl.rightP)) := by
    show _ = _
    unfold Pl.rightsP
    rw [show decide (l.length ≤ 1024) = decide ((l.length : Int) ≤ 1024) from decide_eq_decide.2 (by omega)]
  go_enter Tryz.func61, Tryz.ntmps61
  go_wp2_with fail
  go_loopw [4, 7] (fun _ i wr => ∃ k : Nat, k ≤ l.length ∧ i = .int .i64 k ∧ Hid ((l.take k).all Pl.rightP = true) ∧ wr = w) (fun _ i _ => l.length - (intOf i).toNat)
  case atStart => exact ⟨0, Nat.zero_le _, rfl, rfl, rfl⟩
  case round =>
    obtain ⟨k, hk, rfl, HK, rfl⟩ := hrel
    by_cases hlt : k < l.length
    · obtain ⟨b, off, x, c, rfl, hb0, hc, hs⟩ := h.cells k hlt
      have HS1 : Hid (Pl.rightP (l[k]'hlt) = true → (l.take (k + 1)).all Pl.rightP = true) := fun e => Pl.rights_step hlt e HK.out
      have HS2 : Hid (Pl.rightP (l[k]'hlt) = false → l.all Pl.rightP = false) := Pl.rights_part hlt
      generalize l[k]'hlt = p at *
      cases hp : Pl.rightP p
      · have HE : Hid (l.all Pl.rightP = false) := HS2.out hp
        go_wp2_with (go_at_call 37; refine (rright_any _ _ p _ hs).mono ?_; rw [hp]; rintro e w' ⟨rfl, rfl⟩)
        go_ret
        rw [HR.out, HE.out, Bool.and_false]
        exact ⟨rfl, rfl⟩
      · have HE : Hid ((l.take (k + 1)).all Pl.rightP = true) := HS1.out hp
        go_wp2_with (go_at_call 37; refine (rright_any _ _ p _ hs).mono ?_; rw [hp]; rintro e w' ⟨rfl, rfl⟩)
        go_roundw
        case rel => exact ⟨k + 1, by omega, by go_num, HE, by first | rfl | trivial⟩
        case measure => simp [intOf]; omega
    · have HE : Hid (l.all Pl.rightP = true) := by have := HK.out; rwa [List.take_of_length_le (by omega)] at this
      go_wp2_with fail
      go_ret
      rw [HR.out, HE.out, Bool.and_true]
      exact ⟨rfl, rfl⟩

set_option maxRecDepth 100000 in
theorem rquota_any (x most : Int) (w : World) :
    Calls Tryz.prog 62 #[.int .i64 x, .int .i64 most] w fun e w' => e = .returned (.bool (decide (Pl.okN x most))) ∧ w = w' := by
  by_cases h0 : 0 ≤ x
  · have HE : Hid (decide (Pl.okN x most) = decide (x ≤ most)) := decide_eq_decide.2 ⟨fun h => h.2, fun h => ⟨h0, h⟩⟩
    go_enter Tryz.func62, Tryz.ntmps62
    go_wp2_with fail
    go_ret
    rw [HE.out]
    exact ⟨rfl, rfl⟩
  · have HE : Hid (decide (Pl.okN x most) = false) := decide_eq_false fun h => h0 h.1
    have h0' : decide (0 ≤ x) = false := by simpa using h0
    go_enter Tryz.func62, Tryz.ntmps62
    go_wp2_with fail
    go_ret
    rw [HE.out]
    exact ⟨rfl, rfl⟩

set_option maxRecDepth 100000 in
set_option maxHeartbeats 2000000 in
theorem rRight_any (ar aw : Option Addr) (cr cw : Nat) (R W : List (List ByteArray)) (f m o e : Int) (w : World) (hr : Pts w ar cr R) (hw : Pts w aw cw W) :
    Calls Tryz.prog 29 #[.agg #[.slice ar R.length cr, .slice aw W.length cw, .int .i64 f, .int .i64 m, .int .i64 o, .int .i64 e]] w fun x w' => x = .returned (.bool (Pl.polC R W f m o e == 0)) ∧ Below w.heap.size w w' := by
  have hlr := hr.len
  have hlw := hw.len
  have hr1 := hr.below ((Below.refl _ w).alloc (Nat.le_refl _) (.cells #[.slice ar R.length cr, .slice aw W.length cw, .int .i64 f, .int .i64 m, .int .i64 o, .int .i64 e] 24))
  have hw1 := hw.below ((Below.refl _ w).alloc (Nat.le_refl _) (.cells #[.slice ar R.length cr, .slice aw W.length cw, .int .i64 f, .int .i64 m, .int .i64 o, .int .i64 e] 24))
  cases e0 : Pl.rightsP R
  · have HE : Hid ((Pl.polC R W f m o e == 0) = false) := by show _ = _; unfold Pl.polC; rw [if_neg (by rw [e0]; simp)]; rfl
    go_enter Tryz.func29, Tryz.ntmps29
    go_wp2_with fail
    refine (rrights_any _ _ R _ hr1).mono ?_; rw [e0]; rintro x w' ⟨rfl, rfl⟩
    go_wp2_with fail
    go_ret
    rw [HE.out]
    exact ⟨rfl, (Below.refl _ _).alloc (Nat.le_refl _) _⟩
  cases e1 : Pl.rightsP W
  · have HE : Hid ((Pl.polC R W f m o e == 0) = false) := by show _ = _; unfold Pl.polC; rw [if_neg (by rw [e1]; simp)]; rfl
    go_enter Tryz.func29, Tryz.ntmps29
    go_wp2_with fail
    refine (rrights_any _ _ R _ hr1).mono ?_; rw [e0]; rintro x w' ⟨rfl, rfl⟩
    go_wp2_with fail
    refine (rrights_any _ _ W _ hw1).mono ?_; rw [e1]; rintro x w' ⟨rfl, rfl⟩
    go_wp2_with fail
    go_ret
    rw [HE.out]
    exact ⟨rfl, (Below.refl _ _).alloc (Nat.le_refl _) _⟩
  cases e2 : decide (Pl.okN f 1073741824)
  · have HE : Hid ((Pl.polC R W f m o e == 0) = false) := by show _ = _; unfold Pl.polC; rw [if_neg (by have h := of_decide_eq_false e2; exact fun k => h k.2.2.1)]; rfl
    go_enter Tryz.func29, Tryz.ntmps29
    go_wp2_with fail
    refine (rrights_any _ _ R _ hr1).mono ?_; rw [e0]; rintro x w' ⟨rfl, rfl⟩
    go_wp2_with fail
    refine (rrights_any _ _ W _ hw1).mono ?_; rw [e1]; rintro x w' ⟨rfl, rfl⟩
    go_wp2_with fail
    refine (rquota_any f 1073741824 _).mono ?_; rw [e2]; rintro x w' ⟨rfl, rfl⟩
    go_wp2_with fail
    go_ret
    rw [HE.out]
    exact ⟨rfl, (Below.refl _ _).alloc (Nat.le_refl _) _⟩
  cases e3 : decide (Pl.okN m 1073741824)
  · have HE : Hid ((Pl.polC R W f m o e == 0) = false) := by show _ = _; unfold Pl.polC; rw [if_neg (by have h := of_decide_eq_false e3; exact fun k => h k.2.2.2.1)]; rfl
    go_enter Tryz.func29, Tryz.ntmps29
    go_wp2_with fail
    refine (rrights_any _ _ R _ hr1).mono ?_; rw [e0]; rintro x w' ⟨rfl, rfl⟩
    go_wp2_with fail
    refine (rrights_any _ _ W _ hw1).mono ?_; rw [e1]; rintro x w' ⟨rfl, rfl⟩
    go_wp2_with fail
    refine (rquota_any f 1073741824 _).mono ?_; rw [e2]; rintro x w' ⟨rfl, rfl⟩
    go_wp2_with fail
    refine (rquota_any m 1073741824 _).mono ?_; rw [e3]; rintro x w' ⟨rfl, rfl⟩
    go_wp2_with fail
    go_ret
    rw [HE.out]
    exact ⟨rfl, (Below.refl _ _).alloc (Nat.le_refl _) _⟩
  cases e4 : decide (Pl.okN o 4294967296)
  · have HE : Hid ((Pl.polC R W f m o e == 0) = false) := by show _ = _; unfold Pl.polC; rw [if_neg (by have h := of_decide_eq_false e4; exact fun k => h k.2.2.2.2.1)]; rfl
    go_enter Tryz.func29, Tryz.ntmps29
    go_wp2_with fail
    refine (rrights_any _ _ R _ hr1).mono ?_; rw [e0]; rintro x w' ⟨rfl, rfl⟩
    go_wp2_with fail
    refine (rrights_any _ _ W _ hw1).mono ?_; rw [e1]; rintro x w' ⟨rfl, rfl⟩
    go_wp2_with fail
    refine (rquota_any f 1073741824 _).mono ?_; rw [e2]; rintro x w' ⟨rfl, rfl⟩
    go_wp2_with fail
    refine (rquota_any m 1073741824 _).mono ?_; rw [e3]; rintro x w' ⟨rfl, rfl⟩
    go_wp2_with fail
    refine (rquota_any o 4294967296 _).mono ?_; rw [e4]; rintro x w' ⟨rfl, rfl⟩
    go_wp2_with fail
    go_ret
    rw [HE.out]
    exact ⟨rfl, (Below.refl _ _).alloc (Nat.le_refl _) _⟩
  cases e5 : decide (Pl.okN e 4294967296)
  · have HE : Hid ((Pl.polC R W f m o e == 0) = false) := by show _ = _; unfold Pl.polC; rw [if_neg (by have h := of_decide_eq_false e5; exact fun k => h k.2.2.2.2.2)]; rfl
    go_enter Tryz.func29, Tryz.ntmps29
    go_wp2_with fail
    refine (rrights_any _ _ R _ hr1).mono ?_; rw [e0]; rintro x w' ⟨rfl, rfl⟩
    go_wp2_with fail
    refine (rrights_any _ _ W _ hw1).mono ?_; rw [e1]; rintro x w' ⟨rfl, rfl⟩
    go_wp2_with fail
    refine (rquota_any f 1073741824 _).mono ?_; rw [e2]; rintro x w' ⟨rfl, rfl⟩
    go_wp2_with fail
    refine (rquota_any m 1073741824 _).mono ?_; rw [e3]; rintro x w' ⟨rfl, rfl⟩
    go_wp2_with fail
    refine (rquota_any o 4294967296 _).mono ?_; rw [e4]; rintro x w' ⟨rfl, rfl⟩
    go_wp2_with fail
    refine (rquota_any e 4294967296 _).mono ?_; rw [e5]; rintro x w' ⟨rfl, rfl⟩
    go_wp2_with fail
    go_ret
    rw [HE.out]
    exact ⟨rfl, (Below.refl _ _).alloc (Nat.le_refl _) _⟩
  have HE : Hid ((Pl.polC R W f m o e == 0) = true) := by show _ = _; unfold Pl.polC; rw [if_pos ⟨e0, e1, of_decide_eq_true e2, of_decide_eq_true e3, of_decide_eq_true e4, of_decide_eq_true e5⟩]; rfl
  go_enter Tryz.func29, Tryz.ntmps29
  go_wp2_with fail
  refine (rrights_any _ _ R _ hr1).mono ?_; rw [e0]; rintro x w' ⟨rfl, rfl⟩
  go_wp2_with fail
  refine (rrights_any _ _ W _ hw1).mono ?_; rw [e1]; rintro x w' ⟨rfl, rfl⟩
  go_wp2_with fail
  refine (rquota_any f 1073741824 _).mono ?_; rw [e2]; rintro x w' ⟨rfl, rfl⟩
  go_wp2_with fail
  refine (rquota_any m 1073741824 _).mono ?_; rw [e3]; rintro x w' ⟨rfl, rfl⟩
  go_wp2_with fail
  refine (rquota_any o 4294967296 _).mono ?_; rw [e4]; rintro x w' ⟨rfl, rfl⟩
  go_wp2_with fail
  refine (rquota_any e 4294967296 _).mono ?_; rw [e5]; rintro x w' ⟨rfl, rfl⟩
  go_wp2_with fail
  go_ret
  rw [HE.out]
  exact ⟨rfl, (Below.refl _ _).alloc (Nat.le_refl _) _⟩

set_option maxRecDepth 100000 in
set_option maxHeartbeats 1000000 in
theorem rcheck_any (ar aw : Option Addr) (cr cw : Nat) (R W : List (List ByteArray)) (f m o e : Int) (w : World) (hr : Pts w ar cr R) (hw : Pts w aw cw W) :
    Calls Tryz.prog 14 #[.agg #[.slice ar R.length cr, .slice aw W.length cw, .int .i64 f, .int .i64 m, .int .i64 o, .int .i64 e]] w fun x w' => x = .returned (.int .i64 (Pl.polC R W f m o e : Nat)) ∧ Below w.heap.size w w' := by
  have hlr := hr.len
  have hlw := hw.len
  have hr1 := hr.below ((Below.refl _ w).alloc (Nat.le_refl _) (.cells #[.slice ar R.length cr, .slice aw W.length cw, .int .i64 f, .int .i64 m, .int .i64 o, .int .i64 e] 24))
  have hw1 := hw.below ((Below.refl _ w).alloc (Nat.le_refl _) (.cells #[.slice ar R.length cr, .slice aw W.length cw, .int .i64 f, .int .i64 m, .int .i64 o, .int .i64 e] 24))
  have hC := rRight_any ar aw cr cw R W f m o e _ hr1 hw1
  have HC : Hid (Calls Tryz.prog 29 #[.agg #[.slice ar R.length cr, .slice aw W.length cw, .int .i64 f, .int .i64 m, .int .i64 o, .int .i64 e]] _ _) := hC
  have hp : Pl.polC R W f m o e = 0 ∨ Pl.polC R W f m o e = 50 := by unfold Pl.polC; split <;> simp
  clear hC
  rcases hp with hp | hp
  · rw [hp] at HC
    have HE : Hid (Pl.polC R W f m o e = 0) := hp
    clear hp
    go_enter Tryz.func14, Tryz.ntmps14
    go_wp2_with fail
    refine HC.out.mono ?_
    rintro x w' ⟨rfl, hb⟩
    go_wp2_with fail
    go_ret
    rw [HE.out]
    exact ⟨rfl, ((Below.refl _ _).alloc (Nat.le_refl _) _).trans (hb.mono (by simp))⟩
  · rw [hp] at HC
    have HE : Hid (Pl.polC R W f m o e = 50) := hp
    clear hp
    go_enter Tryz.func14, Tryz.ntmps14
    go_wp2_with fail
    refine HC.out.mono ?_
    rintro x w' ⟨rfl, hb⟩
    go_wp2_with fail
    go_ret
    rw [HE.out]
    exact ⟨rfl, ((Below.refl _ _).alloc (Nat.le_refl _) _).trans (hb.mono (by simp))⟩
end Go.Proofs.YtcloljkaojnipaaGreatDoor
namespace Go.Proofs.YtcloljkaojnipaaGreatDoor
open Go.RowKit

namespace Pl
/-- What both May answer. -/
def mayP (R W : List (List ByteArray)) (f m o e : Int) (b : Bool) (p : List ByteArray) : Bool := polC R W f m o e == 0 && (rightP p && (if b then insideB W p else insideB R p))
end Pl

set_option maxRecDepth 100000 in
set_option maxHeartbeats 2000000 in
theorem pmay_any (ar aw ap : Option Addr) (cr cw cp : Nat) (R W : List (List ByteArray)) (f m o e : Int) (b : Bool) (p : List ByteArray) (w : World) (hr : Pts w ar cr R) (hw : Pts w aw cw W) (hp : Strs w ap cp p) :
    Calls Tryz.prog 17 #[.agg #[.slice ar R.length cr, .slice aw W.length cw, .int .i64 f, .int .i64 m, .int .i64 o, .int .i64 e], .bool b, .slice ap p.length cp] w fun x w' => x = .returned (.bool (Pl.mayP R W f m o e b p)) ∧ Below w.heap.size w w' := by
  have hlr := hr.len
  have hlw := hw.len
  have hlp := hp.len
  obtain ⟨w1, hw1e⟩ : ∃ w1, w1 = w.alloc (.cells #[.slice ar R.length cr, .slice aw W.length cw, .int .i64 f, .int .i64 m, .int .i64 o, .int .i64 e] 24) := ⟨_, rfl⟩
  have hB1 : Below w.heap.size w w1 := by rw [hw1e]; exact (Below.refl _ _).alloc (Nat.le_refl _) _
  have hg : w.heap.size < w1.heap.size := by rw [hw1e]; simp
  have q0 : w1.cell? ⟨w.heap.size, 0, none⟩ = some (.slice ar R.length cr) := by rw [hw1e]; simp [go_sem]
  have q1 : w1.cell? ⟨w.heap.size, 1, none⟩ = some (.slice aw W.length cw) := by rw [hw1e]; simp [go_sem]
  have HW1 : Hid (w1 = w.alloc (.cells #[.slice ar R.length cr, .slice aw W.length cw, .int .i64 f, .int .i64 m, .int .i64 o, .int .i64 e] 24)) := hw1e
  have hr1 := hr.below hB1
  have hw1 := hw.below hB1
  have hp1 := hp.below hB1
  have hpc : Pl.polC R W f m o e = 0 ∨ Pl.polC R W f m o e = 50 := by unfold Pl.polC; split <;> simp
  have hC := check_any ar aw cr cw R W f m o e w1 hr1 hw1
  have HM : Hid (Pl.mayP R W f m o e b p = (Pl.polC R W f m o e == 0 && (Pl.rightP p && (if b then Pl.insideB W p else Pl.insideB R p)))) := rfl
  clear hw1e
  rcases hpc with hpc | hpc
  · rw [hpc] at hC HM
    have HC : Hid (Calls Tryz.prog 13 #[.agg #[.slice ar R.length cr, .slice aw W.length cw, .int .i64 f, .int .i64 m, .int .i64 o, .int .i64 e]] w1 fun x w' => x = .returned (.int .i64 0) ∧ Below w1.heap.size w1 w') := hC
    clear hC hpc
    cases e1 : Pl.rightP p
    · have HE : Hid (Pl.mayP R W f m o e b p = false) := by show _ = _; rw [HM.out, e1]; simp
      go_enter Tryz.func17, Tryz.ntmps17
      go_wp2_with fail
      rw [← HW1.out]
      refine HC.out.mono ?_
      rintro x w2 ⟨rfl, hb⟩
      have hp2 := hp1.below hb
      have hB2 := hB1.trans (hb.mono hB1.size)
      go_wp2_with fail
      refine (right_any _ _ p _ hp2).mono ?_; rw [e1]; rintro x w' ⟨rfl, rfl⟩
      go_wp2_with fail
      go_ret
      rw [HE.out]
      exact ⟨rfl, hB2⟩
    · cases b
      · have HE : Hid (Pl.mayP R W f m o e false p = Pl.insideB R p) := by show _ = _; rw [HM.out, e1]; simp
        go_enter Tryz.func17, Tryz.ntmps17
        go_wp2_with fail
        rw [← HW1.out]
        refine HC.out.mono ?_
        rintro x w2 ⟨rfl, hb⟩
        have hp2 := hp1.below hb
        have hl2 := hr1.below hb
        have q2 := (hb.cell (p := ⟨w.heap.size, 0, none⟩) hg).trans q0
        have hB2 := hB1.trans (hb.mono hB1.size)
        clear q0 q1
        go_wp2_with fail
        refine (right_any _ _ p _ hp2).mono ?_; rw [e1]; rintro x w' ⟨rfl, rfl⟩
        go_wp2_with fail
        refine (inside_any _ _ _ _ R p _ hl2 hp2).mono ?_
        rintro x w3 ⟨rfl, hb3⟩
        go_wp2_with fail
        go_ret
        rw [HE.out]
        exact ⟨rfl, hB2.trans (hb3.mono hB2.size)⟩
      · have HE : Hid (Pl.mayP R W f m o e true p = Pl.insideB W p) := by show _ = _; rw [HM.out, e1]; simp
        go_enter Tryz.func17, Tryz.ntmps17
        go_wp2_with fail
        rw [← HW1.out]
        refine HC.out.mono ?_
        rintro x w2 ⟨rfl, hb⟩
        have hp2 := hp1.below hb
        have hl2 := hw1.below hb
        have q2 := (hb.cell (p := ⟨w.heap.size, 1, none⟩) hg).trans q1
        have hB2 := hB1.trans (hb.mono hB1.size)
        clear q0 q1
        go_wp2_with fail
        refine (right_any _ _ p _ hp2).mono ?_; rw [e1]; rintro x w' ⟨rfl, rfl⟩
        go_wp2_with fail
        refine (inside_any _ _ _ _ W p _ hl2 hp2).mono ?_
        rintro x w3 ⟨rfl, hb3⟩
        go_wp2_with fail
        go_ret
        rw [HE.out]
        exact ⟨rfl, hB2.trans (hb3.mono hB2.size)⟩
  · rw [hpc] at hC HM
    have HC : Hid (Calls Tryz.prog 13 #[.agg #[.slice ar R.length cr, .slice aw W.length cw, .int .i64 f, .int .i64 m, .int .i64 o, .int .i64 e]] w1 fun x w' => x = .returned (.int .i64 50) ∧ Below w1.heap.size w1 w') := hC
    have HE : Hid (Pl.mayP R W f m o e b p = false) := by show _ = _; rw [HM.out]; rfl
    clear hC hpc
    go_enter Tryz.func17, Tryz.ntmps17
    go_wp2_with fail
    rw [← HW1.out]
    refine HC.out.mono ?_
    rintro x w2 ⟨rfl, hb⟩
    go_wp2_with fail
    go_ret
    rw [HE.out]
    exact ⟨rfl, hB1.trans (hb.mono hB1.size)⟩

set_option maxRecDepth 100000 in
set_option maxHeartbeats 2000000 in
theorem rpmay_any (ar aw ap : Option Addr) (cr cw cp : Nat) (R W : List (List ByteArray)) (f m o e : Int) (b : Bool) (p : List ByteArray) (w : World) (hr : Pts w ar cr R) (hw : Pts w aw cw W) (hp : Strs w ap cp p) :
    Calls Tryz.prog 18 #[.agg #[.slice ar R.length cr, .slice aw W.length cw, .int .i64 f, .int .i64 m, .int .i64 o, .int .i64 e], .bool b, .slice ap p.length cp] w fun x w' => x = .returned (.bool (Pl.mayP R W f m o e b p)) ∧ Below w.heap.size w w' := by
  have hlr := hr.len
  have hlw := hw.len
  have hlp := hp.len
  obtain ⟨w1, hw1e⟩ : ∃ w1, w1 = w.alloc (.cells #[.slice ar R.length cr, .slice aw W.length cw, .int .i64 f, .int .i64 m, .int .i64 o, .int .i64 e] 24) := ⟨_, rfl⟩
  have hB1 : Below w.heap.size w w1 := by rw [hw1e]; exact (Below.refl _ _).alloc (Nat.le_refl _) _
  have hg : w.heap.size < w1.heap.size := by rw [hw1e]; simp
  have q0 : w1.cell? ⟨w.heap.size, 0, none⟩ = some (.slice ar R.length cr) := by rw [hw1e]; simp [go_sem]
  have q1 : w1.cell? ⟨w.heap.size, 1, none⟩ = some (.slice aw W.length cw) := by rw [hw1e]; simp [go_sem]
  have HW1 : Hid (w1 = w.alloc (.cells #[.slice ar R.length cr, .slice aw W.length cw, .int .i64 f, .int .i64 m, .int .i64 o, .int .i64 e] 24)) := hw1e
  have hr1 := hr.below hB1
  have hw1 := hw.below hB1
  have hp1 := hp.below hB1
  have hpc : Pl.polC R W f m o e = 0 ∨ Pl.polC R W f m o e = 50 := by unfold Pl.polC; split <;> simp
  have hC := rRight_any ar aw cr cw R W f m o e w1 hr1 hw1
  have HM : Hid (Pl.mayP R W f m o e b p = (Pl.polC R W f m o e == 0 && (Pl.rightP p && (if b then Pl.insideB W p else Pl.insideB R p)))) := rfl
  clear hw1e
  rcases hpc with hpc | hpc
  · rw [hpc] at hC HM
    have HC : Hid (Calls Tryz.prog 29 #[.agg #[.slice ar R.length cr, .slice aw W.length cw, .int .i64 f, .int .i64 m, .int .i64 o, .int .i64 e]] w1 fun x w' => x = .returned (.bool true) ∧ Below w1.heap.size w1 w') := hC
    clear hC hpc
    cases e1 : Pl.rightP p
    · have HE : Hid (Pl.mayP R W f m o e b p = false) := by show _ = _; rw [HM.out, e1]; simp
      go_enter Tryz.func18, Tryz.ntmps18
      go_wp2_with fail
      rw [← HW1.out]
      refine HC.out.mono ?_
      rintro x w2 ⟨rfl, hb⟩
      have hp2 := hp1.below hb
      have hB2 := hB1.trans (hb.mono hB1.size)
      go_wp2_with fail
      refine (rright_any _ _ p _ hp2).mono ?_; rw [e1]; rintro x w' ⟨rfl, rfl⟩
      go_wp2_with fail
      go_ret
      rw [HE.out]
      exact ⟨rfl, hB2⟩
    · cases b
      · have HE : Hid (Pl.mayP R W f m o e false p = Pl.insideB R p) := by show _ = _; rw [HM.out, e1]; simp
        go_enter Tryz.func18, Tryz.ntmps18
        go_wp2_with fail
        rw [← HW1.out]
        refine HC.out.mono ?_
        rintro x w2 ⟨rfl, hb⟩
        have hp2 := hp1.below hb
        have hl2 := hr1.below hb
        have q2 := (hb.cell (p := ⟨w.heap.size, 0, none⟩) hg).trans q0
        have hB2 := hB1.trans (hb.mono hB1.size)
        clear q0 q1
        go_wp2_with fail
        refine (rright_any _ _ p _ hp2).mono ?_; rw [e1]; rintro x w' ⟨rfl, rfl⟩
        go_wp2_with fail
        refine (rinside_any _ _ _ _ R p _ hl2 hp2).mono ?_
        rintro x w3 ⟨rfl, hb3⟩
        go_wp2_with fail
        go_ret
        rw [HE.out]
        exact ⟨rfl, hB2.trans (hb3.mono hB2.size)⟩
      · have HE : Hid (Pl.mayP R W f m o e true p = Pl.insideB W p) := by show _ = _; rw [HM.out, e1]; simp
        go_enter Tryz.func18, Tryz.ntmps18
        go_wp2_with fail
        rw [← HW1.out]
        refine HC.out.mono ?_
        rintro x w2 ⟨rfl, hb⟩
        have hp2 := hp1.below hb
        have hl2 := hw1.below hb
        have q2 := (hb.cell (p := ⟨w.heap.size, 1, none⟩) hg).trans q1
        have hB2 := hB1.trans (hb.mono hB1.size)
        clear q0 q1
        go_wp2_with fail
        refine (rright_any _ _ p _ hp2).mono ?_; rw [e1]; rintro x w' ⟨rfl, rfl⟩
        go_wp2_with fail
        refine (rinside_any _ _ _ _ W p _ hl2 hp2).mono ?_
        rintro x w3 ⟨rfl, hb3⟩
        go_wp2_with fail
        go_ret
        rw [HE.out]
        exact ⟨rfl, hB2.trans (hb3.mono hB2.size)⟩
  · rw [hpc] at hC HM
    have HC : Hid (Calls Tryz.prog 29 #[.agg #[.slice ar R.length cr, .slice aw W.length cw, .int .i64 f, .int .i64 m, .int .i64 o, .int .i64 e]] w1 fun x w' => x = .returned (.bool false) ∧ Below w1.heap.size w1 w') := hC
    have HE : Hid (Pl.mayP R W f m o e b p = false) := by show _ = _; rw [HM.out]; rfl
    clear hC hpc
    go_enter Tryz.func18, Tryz.ntmps18
    go_wp2_with fail
    rw [← HW1.out]
    refine HC.out.mono ?_
    rintro x w2 ⟨rfl, hb⟩
    go_wp2_with fail
    go_ret
    rw [HE.out]
    exact ⟨rfl, hB1.trans (hb.mono hB1.size)⟩
end Go.Proofs.YtcloljkaojnipaaGreatDoor
