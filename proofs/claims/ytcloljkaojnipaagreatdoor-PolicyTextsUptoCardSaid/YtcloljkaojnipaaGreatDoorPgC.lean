/- A slice of bytes of the call's own, and the string that is made of it. What the parts of lines share with those of paths, where both are laid. The lines' tables in a world, and what keeps them. -/
import Derived.Test.YtcloljkaojnipaaGreatDoorChecked
import Derived.WalkKit
import Derived.WalkSmall
import Derived.WalkSpells
import Derived.WalkLawsBesides
import Derived.Lib.AppendStr
import Derived.Laws.IdiomStrings
import Derived.Laws.BytesArg
import Derived.Test.YtcloljkaojnipaaGreatDoorPgA
import Derived.Deep.AppendLies
import Derived.Test.YtcloljkaojnipaaGreatDoorPgQ
namespace Go.Proofs.YtcloljkaojnipaaGreatDoor
open Go.RowKit

def bcells (l : List UInt8) : List Value := l.map fun b => Value.int .u8 b.toNat
theorem bcells_append (a b : List UInt8) : bcells (a ++ b) = bcells a ++ bcells b := by simp [bcells]
theorem bcells_length (l : List UInt8) : (bcells l).length = l.length := by simp [bcells]
theorem strCells_eq (s : ByteArray) : Lib.strCells s = bcells s.data.toList := rfl

theorem Tryz.infoByte : (Tryz.prog.info? 5).map (fun i => (i.zero, i.size, i.bytes)) = some (some (.int .u8 0), 1, 1) := by kernel_rfl

/-- The string of a row of bytes that is not nil. -/
theorem conv_own {w : World} {base g cap : Nat} {l : List UInt8} (h : w.ownsRow base 5 1 (.slice (some ⟨g, 0, none⟩) l.length cap) l.length (bcells l)) :
    (convert 74 9 (.slice (some ⟨g, 0, none⟩) l.length cap)).run Tryz.prog w = .ok (.string ⟨l.toArray⟩) w := by
  refine run_convert_bytes_back w 74 9 5 ⟨g, 0, none⟩ cap l Tryz.underlying74 Tryz.underlying5 Tryz.underlying9 (fun j hj => ?_)
  have h1 := h.cellAt j (by omega)
  have e : (⟨g, 0, none⟩ : Addr).add j = ⟨g, j, none⟩ := by unfold Addr.add; split <;> simp_all
  rw [e, h1]
  simp [bcells, List.getElem?_eq_getElem hj]

end Go.Proofs.YtcloljkaojnipaaGreatDoor
namespace Go.Proofs.YtcloljkaojnipaaGreatDoor
open Go.RowKit

/-- The tables letters  and octals  hold what the program's text lays. -/
structure Tabs (w : World) : Prop where
  size : 9 ≤ w.heap.size
  lets : ∀ i, i < 14 → w.cell? ⟨1, i, none⟩ = some (.int .u8 (Ln.lets.getD i 0 : Nat))
  octs : ∀ i, i < 6 → w.cell? ⟨3, i, none⟩ = some (.int .i64 (Ln.octs.getD i 0 : Nat))

theorem Tabs.below {w w' : World} {B : Nat} (h : Tabs w) (hB : 9 ≤ B) (hb : Below B w w') : Tabs w' :=
  ⟨Nat.le_trans h.size hb.size, fun i hi => (hb.cell (p := ⟨1, i, none⟩) (by show 1 < B; omega)).trans (h.lets i hi), fun i hi => (hb.cell (p := ⟨3, i, none⟩) (by show 3 < B; omega)).trans (h.octs i hi)⟩
theorem Tabs.alloc {w : World} (h : Tabs w) (o : Obj) : Tabs (w.alloc o) := h.below h.size ((Below.refl _ _).alloc (Nat.le_refl _) o)


set_option maxRecDepth 100000 in
set_option maxHeartbeats 1000000 in
theorem oct_any (lo hi : Int) (w : World) (T : Tabs w) (hhi : 0 ≤ hi) :
    Calls Tryz.prog 121 #[.int .i64 lo, .int .i64 hi] w fun e w' => e = .returned (.bool (Ln.octB lo hi)) ∧ Below w.heap.size w w' := by
  have c0 : w.cell? ⟨3, 0, none⟩ = some (.int .i64 0) := T.octs 0 (by decide)
  have c1 : w.cell? ⟨3, 1, none⟩ = some (.int .i64 6) := T.octs 1 (by decide)
  have c2 : w.cell? ⟨3, 2, none⟩ = some (.int .i64 14) := T.octs 2 (by decide)
  have c3 : w.cell? ⟨3, 3, none⟩ = some (.int .i64 31) := T.octs 3 (by decide)
  have c4 : w.cell? ⟨3, 4, none⟩ = some (.int .i64 127) := T.octs 4 (by decide)
  have c5 : w.cell? ⟨3, 5, none⟩ = some (.int .i64 255) := T.octs 5 (by decide)
  go_enter Tryz.func121, Tryz.ntmps121
  have i0 : ∀ w, (Instr.index 158 (.agg #[.int .i64 0, .int .i64 6, .int .i64 14, .int .i64 31, .int .i64 127, .int .i64 255]) (.int .i64 0)).run Tryz.prog w = .ok (.agg #[.int .i64 0, .int .i64 6]) w := fun _ => by kernel_rfl
  have i1 : ∀ w, (Instr.index 158 (.agg #[.int .i64 0, .int .i64 6, .int .i64 14, .int .i64 31, .int .i64 127, .int .i64 255]) (.int .i64 1)).run Tryz.prog w = .ok (.agg #[.int .i64 14, .int .i64 31]) w := fun _ => by kernel_rfl
  have i2 : ∀ w, (Instr.index 158 (.agg #[.int .i64 0, .int .i64 6, .int .i64 14, .int .i64 31, .int .i64 127, .int .i64 255]) (.int .i64 2)).run Tryz.prog w = .ok (.agg #[.int .i64 127, .int .i64 255]) w := fun _ => by kernel_rfl
  go_wp2_with fail
  clear c0 c1 c2 c3 c4 c5
  go_loopw [8] (fun i wr => ∃ k : Nat, k ≤ 3 ∧ i = .int .i64 k ∧ Hid (Ln.octB lo hi = Ln.octF lo hi k) ∧ Below w.heap.size w wr) (fun i _ => 3 - (intOf i).toNat)
  case atStart => exact ⟨0, by omega, rfl, rfl, Below.refl _ _⟩
  case round =>
    obtain ⟨k, hk, rfl, HC, hnx⟩ := hrel
    have hsz := hnx.size
    rcases (show k = 0 ∨ k = 1 ∨ k = 2 ∨ k = 3 by omega) with rfl | rfl | rfl | rfl
    · by_cases p1 : lo ≤ 6
      · by_cases p2 : 0 ≤ hi
        · have HE : Hid (Ln.octB lo hi = true) := HC.out.trans (Ln.oct0' ⟨p1, p2⟩)
          go_wp2
          go_ret
          exact ⟨ret_bool HE.out.symm, hnx.alloc hsz _⟩
        · exact absurd hhi p2
      · have HE : Hid (Ln.octB lo hi = Ln.octF lo hi 1) := HC.out.trans (Ln.oct0 (fun q => p1 q.1))
        have p1' : decide (lo ≤ 6) = false := by simpa using p1
        go_wp2
        go_roundw
        case rel => exact ⟨1, by omega, rfl, HE, hnx.alloc hsz _⟩
        case measure => simp [intOf]
    · by_cases p1 : lo ≤ 31
      · by_cases p2 : 14 ≤ hi
        · have HE : Hid (Ln.octB lo hi = true) := HC.out.trans (Ln.oct1' ⟨p1, p2⟩)
          go_wp2
          go_ret
          exact ⟨ret_bool HE.out.symm, hnx.alloc hsz _⟩
        · have HE : Hid (Ln.octB lo hi = Ln.octF lo hi 2) := HC.out.trans (Ln.oct1 (fun q => p2 q.2))
          go_wp2
          go_roundw
          case rel => exact ⟨2, by omega, rfl, HE, hnx.alloc hsz _⟩
          case measure => simp [intOf]
      · have HE : Hid (Ln.octB lo hi = Ln.octF lo hi 2) := HC.out.trans (Ln.oct1 (fun q => p1 q.1))
        have p1' : decide (lo ≤ 31) = false := by simpa using p1
        go_wp2
        go_roundw
        case rel => exact ⟨2, by omega, rfl, HE, hnx.alloc hsz _⟩
        case measure => simp [intOf]
    · by_cases p1 : lo ≤ 255
      · by_cases p2 : 127 ≤ hi
        · have HE : Hid (Ln.octB lo hi = true) := HC.out.trans (Ln.oct2' ⟨p1, p2⟩)
          go_wp2
          go_ret
          exact ⟨ret_bool HE.out.symm, hnx.alloc hsz _⟩
        · have HE : Hid (Ln.octB lo hi = Ln.octF lo hi 3) := HC.out.trans (Ln.oct2 (fun q => p2 q.2))
          go_wp2
          go_roundw
          case rel => exact ⟨3, by omega, rfl, HE, hnx.alloc hsz _⟩
          case measure => simp [intOf]
      · have HE : Hid (Ln.octB lo hi = Ln.octF lo hi 3) := HC.out.trans (Ln.oct2 (fun q => p1 q.1))
        have p1' : decide (lo ≤ 255) = false := by simpa using p1
        go_wp2
        go_roundw
        case rel => exact ⟨3, by omega, rfl, HE, hnx.alloc hsz _⟩
        case measure => simp [intOf]
    · have HE : Hid (Ln.octB lo hi = false) := HC.out
      go_wp2
      go_ret
      exact ⟨ret_bool HE.out.symm, hnx⟩
end Go.Proofs.YtcloljkaojnipaaGreatDoor
