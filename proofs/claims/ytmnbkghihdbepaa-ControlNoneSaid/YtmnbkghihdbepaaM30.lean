/- Proved: lemmas of one statement's proof, merged by program: what each part proves stands ahead of it. Conditions: those that the lemmas name. -/
import Derived.Test.YtmnbkghihdbepaaM29

/- Proved: what the document's Put answers. Conditions: those that the theorems name. -/
namespace Go.Proofs.Ytmnbkghihdbepaa
open Go.ChangeShapes Go.WideShapes Go.ChangeAt Go.RowKit

theorem app_assoc (a b c : ByteArray) : a ++ b ++ c = a ++ (b ++ c) := ByteArray.append_assoc
end Go.Proofs.Ytmnbkghihdbepaa

/- Proved: what the document's fields answers. Conditions: those that the theorems name. -/
namespace Go.Proofs.Ytmnbkghihdbepaa
open Go.ChangeShapes Go.WideShapes Go.ChangeAt Go.RowKit

/-- A reader and a datagram come back; nothing that was there has turned. -/
def GivesRF (W : World) (s : ByteArray) (z : Int) (d : Dg) (e : Ending) (w' : World) : Prop := e = .returned (.tuple #[.agg #[.string s, .int .i64 z], d.val]) ∧ Below W.heap.size W w'
theorem At.drew {w : World} {b : Nat} {t : TypeId} {xs : List Value} (h : At w b t xs) : At w.drew b t xs := h
end Go.Proofs.Ytmnbkghihdbepaa
