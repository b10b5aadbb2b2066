/- Proved: what Empty, with, Set and Of of package bits, and their twins of the document, answer for every string, int and slice of ints. Conditions: those that the theorems name. -/
import Derived.Test.YtgnalabblhokmaaBitHas
import Derived.Test.YtgnalabblhokmaaByt
import Derived.Test.YtgnalabblhokmaaIntA
import Derived.Test.YtgnalabblhokmaaOwn
import Derived.StillTailTactics
import Derived.IntWalk
namespace Go.Proofs.Ytgnalabblhokmaa
open Go.ChangeShapes Go.WideShapes Go.ChangeAt Go.RowKit

/-- a text comes back. -/
def GivesS (W : World) (s : ByteArray) (e : Ending) (w' : World) : Prop := e = .returned (.string s) ∧ Below W.heap.size W w'
set_option maxHeartbeats 400000 in
theorem rempty_any (w : World) : Calls Try.prog 27 #[] w (GivesS w (tx noB)) := by
  have ho := own_new w 32
  have hcv := convert_back (w.alloc (.cells (madeCells #[.int .u8 0] 32) 5)) (some ⟨w.heap.size, 0, none⟩) 32 32 _ ho.bs (by decide)
  have hmk : (Instr.makeSlice 71 (.int .i64 32) (.int .i64 32)).run Try.prog w = .ok (.slice (some ⟨w.heap.size, 0, none⟩) 32 32) (w.alloc (.cells (madeCells #[.int .u8 0] 32) 5)) := by kernel_rfl
  have HB := Lib.hid ((Below.refl w.heap.size w).alloc (Nat.le_refl _) (.cells (madeCells #[.int .u8 0] 32) 5))
  clear ho
  generalize w.alloc (.cells (madeCells #[.int .u8 0] 32) 5) = w1 at *
  go_enter Try.func27, Try.ntmps27
  go_wp2_with fail
  go_ret
  exact ⟨rfl, HB.out⟩

end Go.Proofs.Ytgnalabblhokmaa
