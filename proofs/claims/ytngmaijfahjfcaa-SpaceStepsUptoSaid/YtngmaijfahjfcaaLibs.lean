/- bytes.Index as this program holds it is the function that the library's contract speaks of. -/
import Derived.Shelf.Lays
import Derived.Shelf.Bytes.SlIndexAt
import Derived.Test.YtngmaijfahjfcaaChecked
namespace Go.Proofs
open Go.Shelf
def Try.lays185_ren : Go.Shelf.Ren := ⟨fun | 185 => 60 | 187 => 63 | 115 => 64 | 253 => 65 | 224 => 66 | 254 => 67 | 255 => 68 | 291 => 69 | n => n, fun | 37 => 60 | 3 => 3 | 4 => 4 | 0 => 0 | 5 => 5 | 46 => 83 | 9 => 9 | 146 => 86 | 51 => 85 | n => n, fun | 1 => 0 | n => n⟩
theorem Try.lays185 : Go.Proofs.Lays.n185 Try.prog Try.lays185_ren := {
  mixed := by kernel_rfl
  f115 := Try.func64.trans (congrArg some (by kernel_rfl))
  f185 := Try.func60.trans (congrArg some (by kernel_rfl))
  f187 := Try.func63.trans (congrArg some (by kernel_rfl))
  f224 := Try.func66.trans (congrArg some (by kernel_rfl))
  f253 := Try.func65.trans (congrArg some (by kernel_rfl))
  f254 := Try.func67.trans (congrArg some (by kernel_rfl))
  f255 := Try.func68.trans (congrArg some (by kernel_rfl))
  f291 := Try.func69.trans (congrArg some (by kernel_rfl))
  t0 := Try.underlying0
  a0 := Try.isAgg0
  z0 := Try.sizeOf0
  v0 := Try.zeroValue0
  t3 := Try.underlying3
  a3 := Try.isAgg3
  z3 := Try.sizeOf3
  v3 := Try.zeroValue3
  t4 := Try.underlying4
  a4 := Try.isAgg4
  z4 := Try.sizeOf4
  v4 := Try.zeroValue4
  t5 := Try.underlying5
  a5 := Try.isAgg5
  z5 := Try.sizeOf5
  v5 := Try.zeroValue5
  t9 := Try.underlying9
  a9 := Try.isAgg9
  z9 := Try.sizeOf9
  v9 := Try.zeroValue9
  t37 := Try.underlying60
  a37 := Try.isAgg60
  z37 := Try.sizeOf60
  v37 := Try.zeroValue60
  t46 := Try.underlying83
  a46 := Try.isAgg83
  z46 := Try.sizeOf83
  v46 := Try.zeroValue83
  t51 := Try.underlying85
  a51 := Try.isAgg85
  z51 := Try.sizeOf85
  v51 := Try.zeroValue85
  t146 := Try.underlying86
  a146 := Try.isAgg86
  z146 := Try.sizeOf86
  v146 := Try.zeroValue86
  g1 := by kernel_rfl }
end Go.Proofs
