/- What policy.rightPaths and policy.quotas answer. -/
import Derived.Test.YtcloljkaojnipaaGreatDoorPgE
import Derived.BigRegion
import Derived.BigQuiet
import Derived.Laws.Rows
namespace Go.Proofs.YtcloljkaojnipaaGreatDoor
open Go.RowKit

namespace Pl
def rightsP (l : List (List ByteArray)) : Bool := decide (l.length ≤ 1024) && l.all rightP
theorem rights_part {l : List (List ByteArray)} {k : Nat} (hk : k < l.length) (h : rightP (l[k]'hk) = false) : l.all rightP = false := by
  rw [List.all_eq_false]
  exact ⟨_, List.getElem_mem hk, by simp [h]⟩
theorem rights_step {l : List (List ByteArray)} {k : Nat} (hk : k < l.length) (h : rightP (l[k]'hk) = true) (h2 : (l.take k).all rightP = true) : (l.take (k + 1)).all rightP = true := by
  rw [List.take_succ_eq_append_getElem hk, List.all_append, h2]
  simp [h]
end Pl

set_option maxRecDepth 100000 in
set_option maxHeartbeats 1000000 in
theorem rightPaths_any (a : Option Addr) (cap : Nat) (l : List (List ByteArray)) (w : World) (h : Pts w a cap l) :
    Calls Tryz.prog 31 #[.slice a l.length cap] w fun e w' => e = .returned (.bool (Pl.rightsP l)) ∧ w = w' := by
  have hl := h.len
  by_cases hm : l.length ≤ 1024
  · have hm' : ¬ 1024 < (l.length : Int) := by omega
    have HR : Hid (Pl.rightsP l = l.all Pl.rightP) := by show _ = _; unfold Pl.rightsP; rw [decide_eq_true hm, Bool.true_and]
    go_enter Tryz.func31, Tryz.ntmps31
    go_wp2_with fail
    go_loopw [4, 10] (fun _ i wr => ∃ k : Nat, k ≤ l.length ∧ i = .int .i64 k ∧ Hid ((l.take k).all Pl.rightP = true) ∧ wr = w) (fun _ i _ => l.length - (intOf i).toNat)
    case atStart => exact ⟨0, Nat.zero_le _, rfl, rfl, rfl⟩
    case round =>
      obtain ⟨k, hk, rfl, HK, rfl⟩ := hrel
      by_cases hlt : k < l.length
      · obtain ⟨b, off, x, c, rfl, hb0, hc, hs⟩ := h.cells k hlt
        have HS1 : Hid (Pl.rightP (l[k]'hlt) = true → (l.take (k + 1)).all Pl.rightP = true) := fun e => Pl.rights_step hlt e HK.out
        have HS2 : Hid (Pl.rightP (l[k]'hlt) = false → l.all Pl.rightP = false) := Pl.rights_part hlt
        generalize l[k]'hlt = p at *
        cases hp : Pl.rightP p
        · have HE := HS2.out hp
          have HE : Hid (l.all Pl.rightP = false) := HE
          go_wp2_with (go_at_call 35; refine (right_any _ _ p _ hs).mono ?_; rw [hp]; rintro e w' ⟨rfl, rfl⟩)
          go_ret
          rw [HR.out, HE.out]
          exact ⟨rfl, rfl⟩
        · have HE : Hid ((l.take (k + 1)).all Pl.rightP = true) := HS1.out hp
          go_wp2_with (go_at_call 35; refine (right_any _ _ p _ hs).mono ?_; rw [hp]; rintro e w' ⟨rfl, rfl⟩)
          go_roundw
          case rel => exact ⟨k + 1, by omega, by go_num, HE, by first | rfl | trivial⟩
          case measure => simp [intOf]; omega
      · have HE : Hid (l.all Pl.rightP = true) := by have := HK.out; rwa [List.take_of_length_le (by omega)] at this
        go_wp2_with fail
        go_ret
        rw [HR.out, HE.out]
        exact ⟨rfl, rfl⟩
  · have hm' : 1024 < (l.length : Int) := by omega
    have HR : Hid (Pl.rightsP l = false) := by show _ = _; unfold Pl.rightsP; rw [decide_eq_false hm, Bool.false_and]
    go_enter Tryz.func31, Tryz.ntmps31
    go_wp2_with fail
    go_ret
    rw [HR.out]
    exact ⟨rfl, rfl⟩

/-- The four numbers of a policy, as the code tells them: the word, where the number lies, the most that it may be. -/
def quoV (b : Nat) : Array Value := #[.string ⟨#[102, 117, 101, 108]⟩, .pointer (some ⟨b, 2, none⟩), .int .i64 1073741824, .string ⟨#[109, 101, 109, 111, 114, 121]⟩, .pointer (some ⟨b, 3, none⟩), .int .i64 1073741824, .string ⟨#[111, 117, 116, 112, 117, 116]⟩, .pointer (some ⟨b, 4, none⟩), .int .i64 4294967296, .string ⟨#[101, 97, 99, 104]⟩, .pointer (some ⟨b, 5, none⟩), .int .i64 4294967296]
theorem quo_at0 (g : Nat) (wx : World) : (Instr.index 53 (.agg (quoV g)) (.int .i64 0)).run Tryz.prog wx = .ok (.agg #[.string ⟨#[102, 117, 101, 108]⟩, .pointer (some ⟨g, 2, none⟩), .int .i64 1073741824]) wx := by kernel_rfl
theorem quo_at1 (g : Nat) (wx : World) : (Instr.index 53 (.agg (quoV g)) (.int .i64 1)).run Tryz.prog wx = .ok (.agg #[.string ⟨#[109, 101, 109, 111, 114, 121]⟩, .pointer (some ⟨g, 3, none⟩), .int .i64 1073741824]) wx := by kernel_rfl
theorem quo_at2 (g : Nat) (wx : World) : (Instr.index 53 (.agg (quoV g)) (.int .i64 2)).run Tryz.prog wx = .ok (.agg #[.string ⟨#[111, 117, 116, 112, 117, 116]⟩, .pointer (some ⟨g, 4, none⟩), .int .i64 4294967296]) wx := by kernel_rfl
theorem quo_at3 (g : Nat) (wx : World) : (Instr.index 53 (.agg (quoV g)) (.int .i64 3)).run Tryz.prog wx = .ok (.agg #[.string ⟨#[101, 97, 99, 104]⟩, .pointer (some ⟨g, 5, none⟩), .int .i64 4294967296]) wx := by kernel_rfl
set_option maxRecDepth 100000 in
set_option maxHeartbeats 400000 in
theorem quotas_any (b : Nat) (w : World) :
    Calls Tryz.prog 32 #[.pointer (some ⟨b, 0, none⟩)] w fun e w' => e = .returned (.agg (quoV b)) ∧ Below w.heap.size w w' := by
  go_enter Tryz.func32, Tryz.ntmps32
  go_wp2_with fail
  go_region
  go_wp2_with fail
  (try simp only [Exit.inBlock, Exit.then])
  refine bodyPost_ret (results_cell_row rfl _ _ w.heap.size _ (quoV b) _ _ rfl (heap_alloc_new w _) Tryz.underlying53 rfl (by kernel_rfl)) rfl ?_
  exact ⟨rfl, ((Below.refl _ _).alloc (Nat.le_refl _) _).drew⟩

namespace Pl
def okN (x most : Int) : Prop := 0 ≤ x ∧ x ≤ most
instance (x most : Int) : Decidable (okN x most) := inferInstanceAs (Decidable (_ ∧ _))
/-- What policy.Check answers of a policy: 0, or 50. -/
def polC (R W : List (List ByteArray)) (f m o e : Int) : Nat := if rightsP R = true ∧ rightsP W = true ∧ okN f 1073741824 ∧ okN m 1073741824 ∧ okN o 4294967296 ∧ okN e 4294967296 then 0 else 50
/-- The first k numbers are right. -/
def okUp (k : Nat) (f m o e : Int) : Prop := (0 < k → okN f 1073741824) ∧ (1 < k → okN m 1073741824) ∧ (2 < k → okN o 4294967296) ∧ (3 < k → okN e 4294967296)
end Pl

set_option maxRecDepth 100000 in
set_option maxHeartbeats 4000000 in
theorem check_any (ar aw : Option Addr) (cr cw : Nat) (R W : List (List ByteArray)) (f m o e : Int) (w : World) (hr : Pts w ar cr R) (hw : Pts w aw cw W) :
    Calls Tryz.prog 13 #[.agg #[.slice ar R.length cr, .slice aw W.length cw, .int .i64 f, .int .i64 m, .int .i64 o, .int .i64 e]] w fun x w' => x = .returned (.int .i64 (Pl.polC R W f m o e : Nat)) ∧ Below w.heap.size w w' := by
  have hlr := hr.len
  have hlw := hw.len
  have hr1 := hr.below ((Below.refl _ w).alloc (Nat.le_refl _) (.cells #[.slice ar R.length cr, .slice aw W.length cw, .int .i64 f, .int .i64 m, .int .i64 o, .int .i64 e] 24))
  have hw1 := hw.below ((Below.refl _ w).alloc (Nat.le_refl _) (.cells #[.slice ar R.length cr, .slice aw W.length cw, .int .i64 f, .int .i64 m, .int .i64 o, .int .i64 e] 24))
  cases e1 : Pl.rightsP R
  · have HE : Hid (Pl.polC R W f m o e = 50) := by show _ = _; unfold Pl.polC; rw [if_neg (by rw [e1]; simp)]
    go_enter Tryz.func13, Tryz.ntmps13
    go_wp2_with (go_at_call 31; refine (rightPaths_any _ _ R _ hr1).mono ?_; rw [e1]; rintro x w' ⟨rfl, rfl⟩)
    go_ret
    rw [HE.out]
    exact ⟨rfl, (Below.refl _ _).alloc (Nat.le_refl _) _⟩
  cases e2 : Pl.rightsP W
  · have HE : Hid (Pl.polC R W f m o e = 50) := by show _ = _; unfold Pl.polC; rw [if_neg (by rw [e2]; simp)]
    go_enter Tryz.func13, Tryz.ntmps13
    go_wp2_with fail
    refine (rightPaths_any _ _ R _ hr1).mono ?_; rw [e1]; rintro x w' ⟨rfl, rfl⟩
    go_wp2_with fail
    refine (rightPaths_any _ _ W _ hw1).mono ?_; rw [e2]; rintro x w' ⟨rfl, rfl⟩
    go_wp2_with fail
    go_ret
    rw [HE.out]
    exact ⟨rfl, (Below.refl _ _).alloc (Nat.le_refl _) _⟩
  go_enter Tryz.func13, Tryz.ntmps13
  go_wp2_with fail
  refine (rightPaths_any _ _ R _ hr1).mono ?_; rw [e1]; rintro x w' ⟨rfl, rfl⟩
  go_wp2_with fail
  refine (rightPaths_any _ _ W _ hw1).mono ?_; rw [e2]; rintro x w' ⟨rfl, rfl⟩
  go_wp2_with fail
  obtain ⟨w1, hw1e⟩ : ∃ w1, w1 = w.alloc (.cells #[.slice ar R.length cr, .slice aw W.length cw, .int .i64 f, .int .i64 m, .int .i64 o, .int .i64 e] 24) := ⟨_, rfl⟩
  have hB1 : Below w.heap.size w w1 := by rw [hw1e]; exact (Below.refl _ _).alloc (Nat.le_refl _) _
  have hg : w.heap.size < w1.heap.size := by rw [hw1e]; simp
  have q2 : w1.cell? ⟨w.heap.size, 2, none⟩ = some (.int .i64 f) := by rw [hw1e]; simp [go_sem]
  have q3 : w1.cell? ⟨w.heap.size, 3, none⟩ = some (.int .i64 m) := by rw [hw1e]; simp [go_sem]
  have q4 : w1.cell? ⟨w.heap.size, 4, none⟩ = some (.int .i64 o) := by rw [hw1e]; simp [go_sem]
  have q5 : w1.cell? ⟨w.heap.size, 5, none⟩ = some (.int .i64 e) := by rw [hw1e]; simp [go_sem]
  rw [← hw1e]
  refine (quotas_any w.heap.size w1).mono ?_
  rintro x w2 ⟨rfl, hb⟩
  replace q2 := (hb.cell (p := ⟨w.heap.size, 2, none⟩) hg).trans q2
  replace q3 := (hb.cell (p := ⟨w.heap.size, 3, none⟩) hg).trans q3
  replace q4 := (hb.cell (p := ⟨w.heap.size, 4, none⟩) hg).trans q4
  replace q5 := (hb.cell (p := ⟨w.heap.size, 5, none⟩) hg).trans q5
  have hg2 : w.heap.size < w2.heap.size := Nat.lt_of_lt_of_le hg hb.size
  have hB2 := hB1.trans (hb.mono hB1.size)
  clear hb hw1e hr1 hw1 hr hw
  simp only [quoV]
  generalize hgg : w.heap.size = g at *
  go_wp2_with fail
  go_loopw [4, 16] (fun _ i wr => ∃ k : Nat, k ≤ 4 ∧ i = .int .i64 k ∧ Hid (Pl.okUp k f m o e) ∧ Below w2.heap.size w2 wr) (fun _ i _ => 4 - (intOf i).toNat)
  case atStart => exact ⟨0, by omega, rfl, ⟨fun h => absurd h (by omega), fun h => absurd h (by omega), fun h => absurd h (by omega), fun h => absurd h (by omega)⟩, Below.refl _ _⟩
  case round =>
    obtain ⟨k, hk, rfl, HK, hnx⟩ := hrel
    have hsz := hnx.size
    have d2 := (hnx.cell (p := ⟨g, 2, none⟩) hg2).trans q2
    have d3 := (hnx.cell (p := ⟨g, 3, none⟩) hg2).trans q3
    have d4 := (hnx.cell (p := ⟨g, 4, none⟩) hg2).trans q4
    have d5 := (hnx.cell (p := ⟨g, 5, none⟩) hg2).trans q5
    have hgr : g < wr.heap.size := by omega
    clear q2 q3 q4 q5
    obtain rfl | rfl | rfl | rfl | rfl : k = 0 ∨ k = 1 ∨ k = 2 ∨ k = 3 ∨ k = 4 := by omega
    · have rq := quo_at0 g
      simp only [quoV] at rq
      by_cases c1 : f < 0
      · have HE : Hid (Pl.polC R W f m o e = 50) := by show _ = _; unfold Pl.polC Pl.okN; rw [if_neg (by omega)]
        go_wp2_with fail
        go_quiet (fail)
        go_wp2_with fail
        go_ret
        rw [HE.out]
        exact ⟨rfl, by rw [hgg]; exact hB2.trans ((below_drewN (hnx.alloc hsz _) _).mono (Nat.le_of_lt hg2))⟩
      have c1' : decide (f < 0) = false := by simpa using c1
      by_cases c2 : 1073741824 < f
      · have HE : Hid (Pl.polC R W f m o e = 50) := by show _ = _; unfold Pl.polC Pl.okN; rw [if_neg (by omega)]
        go_wp2_with fail
        go_quiet (fail)
        go_wp2_with fail
        go_ret
        rw [HE.out]
        exact ⟨rfl, by rw [hgg]; exact hB2.trans ((below_drewN (hnx.alloc hsz _) _).mono (Nat.le_of_lt hg2))⟩
      · have c2' : decide (1073741824 < f) = false := by simpa using c2
        have HN : Hid (Pl.okUp 1 f m o e) := by obtain ⟨h0, h1, h2, h3⟩ := HK.out; unfold Pl.okN at h0 h1 h2 h3; unfold Hid Pl.okUp Pl.okN; omega
        go_wp2_with fail
        go_quiet (fail)
        go_wp2_with fail
        go_roundw
        case rel => exact ⟨1, by omega, by go_num, HN, below_drewN (hnx.alloc hsz _) _⟩
        case measure => simp [intOf]
    · have rq := quo_at1 g
      simp only [quoV] at rq
      by_cases c1 : m < 0
      · have HE : Hid (Pl.polC R W f m o e = 50) := by show _ = _; unfold Pl.polC Pl.okN; rw [if_neg (by omega)]
        go_wp2_with fail
        go_quiet (fail)
        go_wp2_with fail
        go_ret
        rw [HE.out]
        exact ⟨rfl, by rw [hgg]; exact hB2.trans ((below_drewN (hnx.alloc hsz _) _).mono (Nat.le_of_lt hg2))⟩
      have c1' : decide (m < 0) = false := by simpa using c1
      by_cases c2 : 1073741824 < m
      · have HE : Hid (Pl.polC R W f m o e = 50) := by show _ = _; unfold Pl.polC Pl.okN; rw [if_neg (by omega)]
        go_wp2_with fail
        go_quiet (fail)
        go_wp2_with fail
        go_ret
        rw [HE.out]
        exact ⟨rfl, by rw [hgg]; exact hB2.trans ((below_drewN (hnx.alloc hsz _) _).mono (Nat.le_of_lt hg2))⟩
      · have c2' : decide (1073741824 < m) = false := by simpa using c2
        have HN : Hid (Pl.okUp 2 f m o e) := by obtain ⟨h0, h1, h2, h3⟩ := HK.out; unfold Pl.okN at h0 h1 h2 h3; unfold Hid Pl.okUp Pl.okN; omega
        go_wp2_with fail
        go_quiet (fail)
        go_wp2_with fail
        go_roundw
        case rel => exact ⟨2, by omega, by go_num, HN, below_drewN (hnx.alloc hsz _) _⟩
        case measure => simp [intOf]
    · have rq := quo_at2 g
      simp only [quoV] at rq
      by_cases c1 : o < 0
      · have HE : Hid (Pl.polC R W f m o e = 50) := by show _ = _; unfold Pl.polC Pl.okN; rw [if_neg (by omega)]
        go_wp2_with fail
        go_quiet (fail)
        go_wp2_with fail
        go_ret
        rw [HE.out]
        exact ⟨rfl, by rw [hgg]; exact hB2.trans ((below_drewN (hnx.alloc hsz _) _).mono (Nat.le_of_lt hg2))⟩
      have c1' : decide (o < 0) = false := by simpa using c1
      by_cases c2 : 4294967296 < o
      · have HE : Hid (Pl.polC R W f m o e = 50) := by show _ = _; unfold Pl.polC Pl.okN; rw [if_neg (by omega)]
        go_wp2_with fail
        go_quiet (fail)
        go_wp2_with fail
        go_ret
        rw [HE.out]
        exact ⟨rfl, by rw [hgg]; exact hB2.trans ((below_drewN (hnx.alloc hsz _) _).mono (Nat.le_of_lt hg2))⟩
      · have c2' : decide (4294967296 < o) = false := by simpa using c2
        have HN : Hid (Pl.okUp 3 f m o e) := by obtain ⟨h0, h1, h2, h3⟩ := HK.out; unfold Pl.okN at h0 h1 h2 h3; unfold Hid Pl.okUp Pl.okN; omega
        go_wp2_with fail
        go_quiet (fail)
        go_wp2_with fail
        go_roundw
        case rel => exact ⟨3, by omega, by go_num, HN, below_drewN (hnx.alloc hsz _) _⟩
        case measure => simp [intOf]
    · have rq := quo_at3 g
      simp only [quoV] at rq
      by_cases c1 : e < 0
      · have HE : Hid (Pl.polC R W f m o e = 50) := by show _ = _; unfold Pl.polC Pl.okN; rw [if_neg (by omega)]
        go_wp2_with fail
        go_quiet (fail)
        go_wp2_with fail
        go_ret
        rw [HE.out]
        exact ⟨rfl, by rw [hgg]; exact hB2.trans ((below_drewN (hnx.alloc hsz _) _).mono (Nat.le_of_lt hg2))⟩
      have c1' : decide (e < 0) = false := by simpa using c1
      by_cases c2 : 4294967296 < e
      · have HE : Hid (Pl.polC R W f m o e = 50) := by show _ = _; unfold Pl.polC Pl.okN; rw [if_neg (by omega)]
        go_wp2_with fail
        go_quiet (fail)
        go_wp2_with fail
        go_ret
        rw [HE.out]
        exact ⟨rfl, by rw [hgg]; exact hB2.trans ((below_drewN (hnx.alloc hsz _) _).mono (Nat.le_of_lt hg2))⟩
      · have c2' : decide (4294967296 < e) = false := by simpa using c2
        have HN : Hid (Pl.okUp 4 f m o e) := by obtain ⟨h0, h1, h2, h3⟩ := HK.out; unfold Pl.okN at h0 h1 h2 h3; unfold Hid Pl.okUp Pl.okN; omega
        go_wp2_with fail
        go_quiet (fail)
        go_wp2_with fail
        go_roundw
        case rel => exact ⟨4, by omega, by go_num, HN, below_drewN (hnx.alloc hsz _) _⟩
        case measure => simp [intOf]
    · have HE : Hid (Pl.polC R W f m o e = 0) := by
        obtain ⟨h0, h1, h2, h3⟩ := HK.out
        show _ = _
        unfold Pl.polC
        rw [if_pos ⟨e1, e2, h0 (by omega), h1 (by omega), h2 (by omega), h3 (by omega)⟩]
      go_wp2_with fail
      go_ret
      rw [HE.out]
      exact ⟨rfl, by rw [hgg]; exact hB2.trans (hnx.mono (Nat.le_of_lt hg2))⟩
end Go.Proofs.YtcloljkaojnipaaGreatDoor
