/- Proved: what slices.Insert at texts does in this program, by the kit's contract of it, laid by the kit's command in plain words. Conditions: those that the contract names. -/
import Derived.Shelf.Spec.SlicesInsert
import Derived.Shelf.Spec.SlicesInsertGrow
import Derived.Test.YtgclgmfmcgacdaaProg
namespace Go.Proofs
open Go.Shelf
def Try.ins_ren : Go.Shelf.Ren := ⟨fun | 22 => 61 | 29 => 69 | 30 => 70 | 36 => 71 | 17 => 72 | n => n, fun | 24 => 93 | 9 => 9 | 3 => 3 | 4 => 4 | 0 => 0 | n => n, fun | n => n⟩
theorem Try.ins : Go.Proofs.Lays2.n22 Try.prog Try.ins_ren := {
  mixed := by kernel_rfl
  f17 := Try.func72.trans (congrArg some (by kernel_rfl))
  f22 := Try.func61.trans (congrArg some (by kernel_rfl))
  f29 := Try.func69.trans (congrArg some (by kernel_rfl))
  f30 := Try.func70.trans (congrArg some (by kernel_rfl))
  f36 := Try.func71.trans (congrArg some (by kernel_rfl))
  t0 := Try.underlying0
  a0 := Try.isAgg0
  z0 := Try.sizeOf0
  v0 := Try.zeroValue0
  t3 := Try.underlying3
  a3 := Try.isAgg3
  z3 := Try.sizeOf3
  v3 := Try.zeroValue3
  t4 := Try.underlying4
  a4 := Try.isAgg4
  z4 := Try.sizeOf4
  v4 := Try.zeroValue4
  t9 := Try.underlying9
  a9 := Try.isAgg9
  z9 := Try.sizeOf9
  v9 := Try.zeroValue9
  t24 := Try.underlying93
  a24 := Try.isAgg93
  z24 := Try.sizeOf93
  v24 := Try.zeroValue93
  i9 := by kernel_rfl }
end Go.Proofs
