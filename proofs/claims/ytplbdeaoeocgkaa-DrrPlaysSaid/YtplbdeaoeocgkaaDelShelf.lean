/- Proved: what a function of Go's library does in this program, by the kit's contract of it, laid by the kit's command in plain words. Conditions: those that the contract names. -/
import Derived.Shelf.SlicesE.DeleteFunc
import Derived.Test.YtplbdeaoeocgkaaProg
namespace Go.Proofs
open Go.Shelf
def Try.delDr_ren : Go.Shelf.Ren := ⟨fun | 10 => 31 | 6 => 34 | n => n, fun | 22 => 54 | 23 => 63 | 25 => 76 | 3 => 3 | 4 => 4 | 0 => 0 | n => n, fun | n => n⟩
theorem Try.delDr : Go.Proofs.SlLaysH.n10 Try.prog Try.delDr_ren := {
  mixed := by kernel_rfl
  f6 := ⟨Try.f34.name, by decide, Try.func34.trans (congrArg some (by kernel_rfl))⟩
  f10 := ⟨Try.f31.name, by decide, Try.func31.trans (congrArg some (by kernel_rfl))⟩
  t0 := Try.underlying0
  a0 := Try.isAgg0
  z0 := Try.sizeOf0
  v0 := Try.zeroValue0
  t3 := Try.underlying3
  a3 := Try.isAgg3
  z3 := Try.sizeOf3
  v3 := Try.zeroValue3
  t4 := Try.underlying4
  a4 := Try.isAgg4
  z4 := Try.sizeOf4
  v4 := Try.zeroValue4
  t22 := Try.underlying54
  a22 := Try.isAgg54
  z22 := Try.sizeOf54
  v22 := Try.zeroValue54
  a23 := Try.isAgg63
  z23 := Try.sizeOf63
  t25 := Try.underlying76
  a25 := Try.isAgg76
  z25 := Try.sizeOf76
  v25 := Try.zeroValue76 }
end Go.Proofs
