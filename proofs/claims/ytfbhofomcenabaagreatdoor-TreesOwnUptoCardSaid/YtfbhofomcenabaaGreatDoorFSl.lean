/- What is left of a slice of files as they are told, behind the first one. -/
import Derived.Test.YtfbhofomcenabaaGreatDoorFRl
namespace Go.Proofs.YtfbhofomcenabaaGreatDoor
open Go.RowKit

theorem slice_td (b off n c : Nat) (h : 1 ≤ n) (hn : n ≤ c) (wx : World) : (Instr.slice 81 (.slice (some ⟨b, off, none⟩) n c) (some (.int .i64 1)) none none).run Tryz.prog wx = .ok (.slice (some (if c = 1 then ⟨b, off, none⟩ else ⟨b, off + 3, none⟩)) (n - 1) (c - 1)) wx := by
  have h1 : (1 : Int) ≤ (n : Int) := by omega
  have h2 : (n : Int) ≤ (c : Int) := by omega
  simp [Instr.slice, Instr.sliceBounds, Instr.sliceBound, asIntOf, run_underlying Tryz.underlying81, go_sem, h1]
  split <;> rfl

end Go.Proofs.YtfbhofomcenabaaGreatDoor
