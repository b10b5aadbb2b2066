/- Proved: lemmas of one statement's proof, merged by program: what each part proves stands ahead of it. Conditions: those that the lemmas name. -/
import Derived.Test.YtedecminaopgaaaM24
import Derived.Test.YtedecminaopgaaaM17
import Derived.Test.YtedecminaopgaaaM18
import Derived.Test.YtedecminaopgaaaM8
import Derived.StillTailTactics
import Derived.Lib.MinMax

/- Proved: what the document's New, Numbers, Held, Lacks of what a stream takes answer. Conditions: those that the theorems name. -/
namespace Go.Proofs.Ytedecminaopgaaa
open Go.ChangeShapes Go.WideShapes Go.ChangeAt Go.RowKit

theorem ri_numbers (A B : Option Addr) (n c c' : Nat) (l : List Int) (w : World) (hl : Uw w A n l) (hr : Uw w B n l) (hn : n ≤ 1000) :
    Calls Try.prog 15 #[.slice A n c, .slice B n c'] w fun e w' => e = .returned (.bool true) ∧ Below w.heap.size w w' := by
  have HS := Lib.hid (rsame15 A B n c c' l w hl hr hn)
  clear hl hr hn
  go_enter Try.func15, Try.ntmps15
  go_wp2_with fail
  refine HS.out.mono ?_; rintro e w1 ⟨rfl, g1⟩
  have G1 := Lib.hid g1
  clear g1
  go_wp2_with fail
  go_ret
  exact ⟨rfl, G1.out⟩

/-! ### Held -/
/-! ### Lacks -/
end Go.Proofs.Ytedecminaopgaaa
