/- Proved: lemmas of one statement's proof, merged by program: what each part proves stands ahead of it. Conditions: those that the lemmas name. -/
import Derived.Test.YtedecminaopgaaaM18
import Derived.Test.YtedecminaopgaaaM8
import Derived.Test.YtedecminaopgaaaM2
import Derived.Lib.Hide
import Derived.Deep.DeepCutAuto
import Derived.Lib.AppendZeros
import Derived.Test.YtedecminaopgaaaM17
import Derived.Test.YtedecminaopgaaaM15
import Derived.Deep.MidRow

/- Plain lemmas on the document's state of what a stream takes, in memory. No condition beyond those that each lemma names. -/
namespace Go.Proofs.Ytedecminaopgaaa
open Go.ChangeShapes Go.WideShapes Go.ChangeAt Go.RowKit

/-- where its slices lie. -/
structure RiP where
  oA : Option Addr
  om : Nat
  oc : Nat
  sA : Option Addr
  sm : Nat
  sc : Nat
/-! ### its operations -/
section
variable {ops : Array Oper} {rest : List Oper} {op : Oper} {a : Act} {w : World} {Q : Exit → Act → World → Prop} {c : Cf} {M : IbM} {p : RiP} {b : Nat}
end
/-! ### its parts in memory -/
end Go.Proofs.Ytedecminaopgaaa
