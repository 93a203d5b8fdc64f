/- The lines' tables in a world, and what keeps them. -/
import Derived.Test.YtpoimhkfajppmaaDoorChecked
import Derived.Test.YtpoimhkfajppmaaDoorLPlain
import Derived.Test.YtpoimhkfajppmaaDoorLShare
import Derived.Deep.AppendLies
namespace Go.Proofs.YtpoimhkfajppmaaDoor
open Go.RowKit

/-- The tables letters (block 0) and octals (block 1) hold what the program's text lays. -/
structure Tabs (w : World) : Prop where
  size : 2 ≤ w.heap.size
  lets : ∀ i, i < 14 → w.cell? ⟨0, i, none⟩ = some (.int .u8 (Ln.lets.getD i 0 : Nat))
  octs : ∀ i, i < 6 → w.cell? ⟨1, i, none⟩ = some (.int .i64 (Ln.octs.getD i 0 : Nat))

theorem Tabs.below {w w' : World} {B : Nat} (h : Tabs w) (hB : 2 ≤ B) (hb : Below B w w') : Tabs w' :=
  ⟨Nat.le_trans h.size hb.size, fun i hi => (hb.cell (p := ⟨0, i, none⟩) (by show 0 < B; omega)).trans (h.lets i hi), fun i hi => (hb.cell (p := ⟨1, i, none⟩) (by show 1 < B; omega)).trans (h.octs i hi)⟩
theorem Tabs.alloc {w : World} (h : Tabs w) (o : Obj) : Tabs (w.alloc o) := h.below h.size ((Below.refl _ _).alloc (Nat.le_refl _) o)


set_option maxRecDepth 100000 in
set_option maxHeartbeats 1000000 in
theorem oct_any (lo hi : Int) (w : World) (T : Tabs w) (hhi : 0 ≤ hi) :
    Calls Tryd.prog 43 #[.int .i64 lo, .int .i64 hi] w fun e w' => e = .returned (.bool (Ln.octB lo hi)) ∧ Below w.heap.size w w' := by
  have c0 : w.cell? ⟨1, 0, none⟩ = some (.int .i64 0) := T.octs 0 (by decide)
  have c1 : w.cell? ⟨1, 1, none⟩ = some (.int .i64 6) := T.octs 1 (by decide)
  have c2 : w.cell? ⟨1, 2, none⟩ = some (.int .i64 14) := T.octs 2 (by decide)
  have c3 : w.cell? ⟨1, 3, none⟩ = some (.int .i64 31) := T.octs 3 (by decide)
  have c4 : w.cell? ⟨1, 4, none⟩ = some (.int .i64 127) := T.octs 4 (by decide)
  have c5 : w.cell? ⟨1, 5, none⟩ = some (.int .i64 255) := T.octs 5 (by decide)
  go_enter Tryd.func43, Tryd.ntmps43
  have i0 : ∀ w, (Instr.index 84 (.agg #[.int .i64 0, .int .i64 6, .int .i64 14, .int .i64 31, .int .i64 127, .int .i64 255]) (.int .i64 0)).run Tryd.prog w = .ok (.agg #[.int .i64 0, .int .i64 6]) w := fun _ => by kernel_rfl
  have i1 : ∀ w, (Instr.index 84 (.agg #[.int .i64 0, .int .i64 6, .int .i64 14, .int .i64 31, .int .i64 127, .int .i64 255]) (.int .i64 1)).run Tryd.prog w = .ok (.agg #[.int .i64 14, .int .i64 31]) w := fun _ => by kernel_rfl
  have i2 : ∀ w, (Instr.index 84 (.agg #[.int .i64 0, .int .i64 6, .int .i64 14, .int .i64 31, .int .i64 127, .int .i64 255]) (.int .i64 2)).run Tryd.prog w = .ok (.agg #[.int .i64 127, .int .i64 255]) w := fun _ => by kernel_rfl
  go_wp2_with fail
  clear c0 c1 c2 c3 c4 c5
  go_loopw [8] (fun i wr => ∃ k : Nat, k ≤ 3 ∧ i = .int .i64 k ∧ Hid (Ln.octB lo hi = Ln.octF lo hi k) ∧ Below w.heap.size w wr) (fun i _ => 3 - (intOf i).toNat)
  case atStart => exact ⟨0, by omega, rfl, rfl, Below.refl _ _⟩
  case round =>
    obtain ⟨k, hk, rfl, HC, hnx⟩ := hrel
    have hsz := hnx.size
    rcases (show k = 0 ∨ k = 1 ∨ k = 2 ∨ k = 3 by omega) with rfl | rfl | rfl | rfl
    · by_cases p1 : lo ≤ 6
      · by_cases p2 : 0 ≤ hi
        · have HE : Hid (Ln.octB lo hi = true) := HC.out.trans (Ln.oct0' ⟨p1, p2⟩)
          go_wp2
          go_ret
          exact ⟨ret_bool HE.out.symm, hnx.alloc hsz _⟩
        · exact absurd hhi p2
      · have HE : Hid (Ln.octB lo hi = Ln.octF lo hi 1) := HC.out.trans (Ln.oct0 (fun q => p1 q.1))
        have p1' : decide (lo ≤ 6) = false := by simpa using p1
        go_wp2
        go_roundw
        case rel => exact ⟨1, by omega, rfl, HE, hnx.alloc hsz _⟩
        case measure => simp [intOf]
    · by_cases p1 : lo ≤ 31
      · by_cases p2 : 14 ≤ hi
        · have HE : Hid (Ln.octB lo hi = true) := HC.out.trans (Ln.oct1' ⟨p1, p2⟩)
          go_wp2
          go_ret
          exact ⟨ret_bool HE.out.symm, hnx.alloc hsz _⟩
        · have HE : Hid (Ln.octB lo hi = Ln.octF lo hi 2) := HC.out.trans (Ln.oct1 (fun q => p2 q.2))
          go_wp2
          go_roundw
          case rel => exact ⟨2, by omega, rfl, HE, hnx.alloc hsz _⟩
          case measure => simp [intOf]
      · have HE : Hid (Ln.octB lo hi = Ln.octF lo hi 2) := HC.out.trans (Ln.oct1 (fun q => p1 q.1))
        have p1' : decide (lo ≤ 31) = false := by simpa using p1
        go_wp2
        go_roundw
        case rel => exact ⟨2, by omega, rfl, HE, hnx.alloc hsz _⟩
        case measure => simp [intOf]
    · by_cases p1 : lo ≤ 255
      · by_cases p2 : 127 ≤ hi
        · have HE : Hid (Ln.octB lo hi = true) := HC.out.trans (Ln.oct2' ⟨p1, p2⟩)
          go_wp2
          go_ret
          exact ⟨ret_bool HE.out.symm, hnx.alloc hsz _⟩
        · have HE : Hid (Ln.octB lo hi = Ln.octF lo hi 3) := HC.out.trans (Ln.oct2 (fun q => p2 q.2))
          go_wp2
          go_roundw
          case rel => exact ⟨3, by omega, rfl, HE, hnx.alloc hsz _⟩
          case measure => simp [intOf]
      · have HE : Hid (Ln.octB lo hi = Ln.octF lo hi 3) := HC.out.trans (Ln.oct2 (fun q => p1 q.1))
        have p1' : decide (lo ≤ 255) = false := by simpa using p1
        go_wp2
        go_roundw
        case rel => exact ⟨3, by omega, rfl, HE, hnx.alloc hsz _⟩
        case measure => simp [intOf]
    · have HE : Hid (Ln.octB lo hi = false) := HC.out
      go_wp2
      go_ret
      exact ⟨ret_bool HE.out.symm, hnx⟩
end Go.Proofs.YtpoimhkfajppmaaDoor
