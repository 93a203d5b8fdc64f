/- What lines.common.at answers. -/
import Derived.Test.YtpoimhkfajppmaaDoorLNumB
namespace Go.Proofs.YtpoimhkfajppmaaDoor
open Go.RowKit

set_option maxRecDepth 100000 in
set_option maxHeartbeats 1000000 in
theorem at_any (wd g N cap i j p v : Nat) (w : World) (hp : i * wd = p) (hj : p + j < N) (hN : N ≤ 100000000) (_hw : wd ≤ 100000) (_hi : i ≤ 100000) (_hcap : N ≤ cap) (hc : w.cell? ⟨g, p + j, none⟩ = some (.int .u16 (v : Int))) :
    Calls Tryd.prog 19 #[.agg #[.int .i64 (wd : Int), .slice (some ⟨g, 0, none⟩) N cap], .int .i64 (i : Int), .int .i64 (j : Int)] w fun e w' => e = .returned (.int .u16 (v : Int)) ∧ w' = w.alloc (.cells #[.int .i64 (wd : Int), .slice (some ⟨g, 0, none⟩) N cap] 45) := by
  have hm : (i : Int) * (wd : Int) = (p : Int) := by rw [← hp]; simp
  have hg := World.block_lt_of_cell? w _ hc
  simp only at hg
  clear hp
  go_enter Tryd.func19, Tryd.ntmps19
  go_wp2
  go_ret
  exact ⟨rfl, rfl⟩
theorem at_at (wd g N cap i j p v : Nat) (I J : Int) (w : World) (hI : I = (i : Int)) (hJ : J = (j : Int)) (hp : i * wd = p) (hj : p + j < N) (hN : N ≤ 100000000) (hw : wd ≤ 100000) (hi : i ≤ 100000) (hcap : N ≤ cap) (hc : w.cell? ⟨g, p + j, none⟩ = some (.int .u16 (v : Int))) :
    Calls Tryd.prog 19 #[.agg #[.int .i64 (wd : Int), .slice (some ⟨g, 0, none⟩) N cap], .int .i64 I, .int .i64 J] w fun e w' => e = .returned (.int .u16 (v : Int)) ∧ w' = w.alloc (.cells #[.int .i64 (wd : Int), .slice (some ⟨g, 0, none⟩) N cap] 45) := by
  subst hI; subst hJ
  exact at_any wd g N cap i j p v w hp hj hN hw hi hcap hc
end Go.Proofs.YtpoimhkfajppmaaDoor
