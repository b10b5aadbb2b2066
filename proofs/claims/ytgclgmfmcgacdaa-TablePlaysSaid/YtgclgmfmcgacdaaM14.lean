/- Proved: lemmas of one statement's proof, merged by program: what each part proves stands ahead of it. Conditions: those that the lemmas name. -/
import Derived.Test.YtgclgmfmcgacdaaM2
import Derived.Test.YtgclgmfmcgacdaaM3
import Derived.Laws.World
import Derived.Deep.OwnRows

/- Proved: what row of package vector answers for every row of bytes. Conditions: those that the theorems name. -/
namespace Go.Proofs.Ytgclgmfmcgacdaa
open Go.ChangeShapes Go.WideShapes Go.ChangeAt Go.RowKit

theorem Try.infoByte : (Try.prog.info? 5).map (fun i => (i.zero, i.size, i.bytes)) = some (some (.int .u8 0), 1, 1) := by kernel_rfl

/-- A row of the call's own comes back. -/
def Fresh (W : World) (n : Nat) (l : List Nat) (e : Ending) (w' : World) : Prop :=
  ∃ g, W.heap.size ≤ g ∧ e = .returned (.slice (some ⟨g, 0, none⟩) n n) ∧ Own w' g n l ∧ Below W.heap.size W w'

end Go.Proofs.Ytgclgmfmcgacdaa

/- Plain lemmas on a new row of bytes of the call's own, all 0. No condition beyond those that each lemma names. -/
namespace Go.Proofs.Ytgclgmfmcgacdaa
open Go.ChangeShapes Go.WideShapes Go.ChangeAt Go.RowKit

/-- a new block of n zeros. -/
theorem own_new (w : World) (n : Nat) : Own (w.alloc (.cells (madeCells #[.int .u8 0] n) 5)) w.heap.size n (List.replicate n 0) := by
  have e : ∀ r, (List.replicate n 0).getD r 0 = 0 := fun r => by
    rw [List.getD_eq_getElem?_getD, List.getElem?_replicate]
    split <;> rfl
  refine ⟨by simp, fun j => by rw [e]; decide, _, heap_alloc_new w _, fun r hr => ?_⟩
  rw [e]
  simp [madeCells, hr, Nat.mod_one]
theorem rep_at (n r : Nat) : (List.replicate n 0).getD r 0 = 0 := by
  rw [List.getD_eq_getElem?_getD, List.getElem?_replicate]
  split <;> rfl
end Go.Proofs.Ytgclgmfmcgacdaa
