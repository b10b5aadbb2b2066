/- Proved: that this program holds the library's text of sync.Mutex, under these numbers. No condition. -/
import Derived.Test.YtfppmlnafalneaaDoorProg
import Derived.Conc.MuLib
import Derived.KernelRfl
namespace Go.Proofs
abbrev Tryd.muLink : Go.Conc.Locks.MuLink := { lock := 12, unlock := 13, ilock := 17, iunlock := 18, lockSlow := 24, unlockSlow := 27, disable := 20, enable := 22, acquire := 23, relMerge := 25, cas32 := 21, add32 := 26, tMutex := 49, tIMutex := 47, tPMutex := 60, tPIMutex := 62, tPI32 := 64, tUP := 66, tNoCopy := 45, tU32 := 29 }
theorem Tryd.muLib : Go.Conc.Locks.MuLib Tryd.prog Tryd.muLink :=
  ⟨Tryd.func12, Tryd.func13, Tryd.func17, Tryd.func18, Tryd.func20, Tryd.func22, Tryd.func23, Tryd.func25, Tryd.func21, Tryd.func26,
   Tryd.underlying47, Tryd.runUnderlying47, Tryd.sizeOf47, Tryd.isAgg47, Tryd.zeroValue47, Tryd.underlying49, Tryd.runUnderlying49, Tryd.sizeOf49, Tryd.isAgg49, Tryd.zeroValue49, Tryd.underlying60, Tryd.runUnderlying60, Tryd.sizeOf60, Tryd.isAgg60, Tryd.zeroValue60, Tryd.underlying62, Tryd.runUnderlying62, Tryd.sizeOf62, Tryd.isAgg62, Tryd.zeroValue62, Tryd.underlying64, Tryd.runUnderlying64, Tryd.sizeOf64, Tryd.isAgg64, Tryd.zeroValue64, Tryd.underlying66, Tryd.runUnderlying66, Tryd.sizeOf66, Tryd.isAgg66, Tryd.zeroValue66, Tryd.underlying45, Tryd.runUnderlying45, Tryd.sizeOf45, Tryd.isAgg45, Tryd.zeroValue45, Tryd.underlying21, Tryd.runUnderlying21, Tryd.sizeOf21, Tryd.isAgg21, Tryd.zeroValue21, (by kernel_rfl)⟩
end Go.Proofs
