/- Plain lemmas on a new row of bytes of the call's own, all 0. No condition beyond those that each lemma names. -/
import Derived.Test.YtgnalabblhokmaaVecMath
import Derived.Test.YtgnalabblhokmaaVecRow
import Derived.Laws.World
import Derived.Deep.OwnRows
namespace Go.Proofs.Ytgnalabblhokmaa
open Go.ChangeShapes Go.WideShapes Go.ChangeAt Go.RowKit

/-- a new block of n zeros. -/
theorem own_new (w : World) (n : Nat) : Own (w.alloc (.cells (madeCells #[.int .u8 0] n) 5)) w.heap.size n (List.replicate n 0) := by
  have e : ∀ r, (List.replicate n 0).getD r 0 = 0 := fun r => by
    rw [List.getD_eq_getElem?_getD, List.getElem?_replicate]
    split <;> rfl
  refine ⟨by simp, fun j => by rw [e]; decide, _, heap_alloc_new w _, fun r hr => ?_⟩
  rw [e]
  simp [madeCells, hr, Nat.mod_one]
theorem rep_at (n r : Nat) : (List.replicate n 0).getD r 0 = 0 := by
  rw [List.getD_eq_getElem?_getD, List.getElem?_replicate]
  split <;> rfl
end Go.Proofs.Ytgnalabblhokmaa
