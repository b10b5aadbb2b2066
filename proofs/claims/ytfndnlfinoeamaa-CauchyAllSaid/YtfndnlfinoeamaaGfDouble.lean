/- Proved: what double of package gf answers for every byte. Conditions: the bounds that the theorem names. -/
import Derived.Test.YtfndnlfinoeamaaGfBase
namespace Go.Proofs.Ytfndnlfinoeamaa
open Go.ChangeShapes Go.WideShapes Go.ChangeAt Go.RowKit

set_option maxHeartbeats 400000 in
theorem double_any (a : Nat) (h : a < 256) (w : World) :
    Calls Try.prog 41 #[.int .u8 a] w fun e w' => e = .returned (.int .u8 (dbl a : Nat)) ∧ w = w' := by
  go_enter Try.func41, Try.ntmps41
  go_wp2
  go_ret
  refine ⟨ret_int ?_, rfl⟩
  rw [u8_xor _ _ (by omega) (by omega) (by omega) (by omega)]
  unfold dbl
  congr 1
end Go.Proofs.Ytfndnlfinoeamaa
