/-
  No cell of these rows narrows 'for every input' (looked for: loops, veiled, ifaces, maps, wideKeys, modest, calm, conditions, laid).
  DERIVED. THE GIVEN ROWS OF THIS SEAT. 3 by the template 'for every input the law returns true; each argument reads behind the call as it read before'; 0 by the template 'total and deterministic' (their statements: YtfndnlfinoeamaaTotals.lean).
  GIVEN WITH THE SEED: the statements are not yours to turn. If you find one false, say at which input.
  Laid BY PROGRAM, IN A SANDBOX (cutbox-rows.mjs): the forced cells as the released guide's own fill.sh prints them over the translation 87b053d02f83deb5… (all of the seat's roots in one cut). By AI agents, Wed Nov 11 2026. No macro, syntax, notation, axiom, sorry.
-/
import Derived.Test.YtfndnlfinoeamaaChecked
import GoSem.Claim
import GoSem.ClaimJoined
import GoSem.ClaimMapViews
import Derived.JoinedTies
import Derived.KernelRfl
namespace Go.Proofs.Ytfndnlfinoeamaa
/- THE CELL 'sum', in the pinned program and in every row, IS THE sha256 OF THE DUMP (.gsa) THAT YtfndnlfinoeamaaProg.lean LOADS. Nothing in Lean hashes anything: it is a label: what it is worth is what the hold of that sum in a sandbox is worth. -/
noncomputable def Try.pinned : Pinned := { name := "ytfndnlfinoeamaa", sum := "87b053d02f83deb5e9dcd59a19aa6619784e3b9e88f3c94e2913a96b1a81638b", checked := Try.checked }
namespace Rows
def none {H : Type} : Left H := { results := [], args := [] }

/-- 'lightshiplaw04.CauchyRows': WHATEVER THE INPUT: true; the input reads as it did. -/
def cauchyRowsSpec : ChangeSpec := { name := "cauchyRows", fn := fun _ => fun
  | [d1, d2, d3] => { results := [.lit (.bool true)], args := [d1, d2, d3] }
  | _ => none }
def cauchyRowsRow : OpenClaim := { program := "ytfndnlfinoeamaa", sum := "87b053d02f83deb5e9dcd59a19aa6619784e3b9e88f3c94e2913a96b1a81638b", func := "lightship/lightshiplaw04.CauchyRows", spec := "cauchyRows", unfollowed := true, recurses := true, apart := false }
def CauchyRowsSaid : Prop := cauchyRowsRow.holds Try.pinned (OpenSpec.ofChange cauchyRowsSpec)

/-- ITS FALSE NEIGHBOUR: 'it returns false'. Refute it at one input. -/
def cauchyRowsWrong : ChangeSpec := { name := "cauchyRows", fn := fun _ => fun
  | [d1, d2, d3] => { results := [.lit (.bool false)], args := [d1, d2, d3] }
  | _ => none }
def CauchyRowsWrongFalsely : Prop := cauchyRowsRow.holds Try.pinned (OpenSpec.ofChange cauchyRowsWrong)

/-- 'lightshiplaw04.CauchyAll': WHATEVER THE INPUT: true; the input reads as it did. -/
def cauchyAllSpec : ChangeSpec := { name := "cauchyAll", fn := fun _ => fun
  | [d1, d2] => { results := [.lit (.bool true)], args := [d1, d2] }
  | _ => none }
def cauchyAllRow : OpenClaim := { program := "ytfndnlfinoeamaa", sum := "87b053d02f83deb5e9dcd59a19aa6619784e3b9e88f3c94e2913a96b1a81638b", func := "lightship/lightshiplaw04.CauchyAll", spec := "cauchyAll", unfollowed := true, recurses := true, apart := false }
def CauchyAllSaid : Prop := cauchyAllRow.holds Try.pinned (OpenSpec.ofChange cauchyAllSpec)

/-- ITS FALSE NEIGHBOUR: 'it returns false'. Refute it at one input. -/
def cauchyAllWrong : ChangeSpec := { name := "cauchyAll", fn := fun _ => fun
  | [d1, d2] => { results := [.lit (.bool false)], args := [d1, d2] }
  | _ => none }
def CauchyAllWrongFalsely : Prop := cauchyAllRow.holds Try.pinned (OpenSpec.ofChange cauchyAllWrong)

/-- 'lightshiplaw04.CauchyAny': WHATEVER THE INPUT: true; the input reads as it did. -/
def cauchyAnySpec : ChangeSpec := { name := "cauchyAny", fn := fun _ => fun
  | [d1, d2, d3] => { results := [.lit (.bool true)], args := [d1, d2, d3] }
  | _ => none }
def cauchyAnyRow : OpenClaim := { program := "ytfndnlfinoeamaa", sum := "87b053d02f83deb5e9dcd59a19aa6619784e3b9e88f3c94e2913a96b1a81638b", func := "lightship/lightshiplaw04.CauchyAny", spec := "cauchyAny", unfollowed := true, recurses := true, apart := false }
def CauchyAnySaid : Prop := cauchyAnyRow.holds Try.pinned (OpenSpec.ofChange cauchyAnySpec)

/-- ITS FALSE NEIGHBOUR: 'it returns false'. Refute it at one input. -/
def cauchyAnyWrong : ChangeSpec := { name := "cauchyAny", fn := fun _ => fun
  | [d1, d2, d3] => { results := [.lit (.bool false)], args := [d1, d2, d3] }
  | _ => none }
def CauchyAnyWrongFalsely : Prop := cauchyAnyRow.holds Try.pinned (OpenSpec.ofChange cauchyAnyWrong)

/- THE SECOND FORM. 'bulk': how many values and letters a reading holds, each counted each time it is reached (what is shared counts as often as it is met; a slice's spare places count too). A statement '..UptoSaid' is the law's where the arguments, and the package variables that the reading takes, are together of bulk at most 1048576: NARROWER than '..Said'. Prove '..Said' where nothing that the law and all that it calls make is longer than what came in: it says more and counts as full. Else prove '..UptoSaid'. A law counts once. -/
mutual
def uptoBulk {H : Type} : DataW H → Nat
  | .lit (.string bytes) => bytes.length + 1
  | .lit _ => 1
  | .nil => 1
  | .ptr d => uptoBulk d + 1
  | .slice elems spare => uptoBulkAll elems + uptoBulkAll spare + 1
  | .agg parts => uptoBulkAll parts + 1
  | .iface _ d => uptoBulk d + 1
  | .map entries => uptoBulkEntries entries + 1
  | .held _ => 1
def uptoBulkAll {H : Type} : List (DataW H) → Nat
  | [] => 0
  | d :: r => uptoBulk d + uptoBulkAll r
def uptoBulkEntries {H : Type} : List (Lit × DataW H) → Nat
  | [] => 0
  | x :: r => uptoBulkEntry x + uptoBulkEntries r
def uptoBulkEntry {H : Type} : Lit × DataW H → Nat
  | (.string bytes, d) => bytes.length + uptoBulk d + 1
  | (_, d) => uptoBulk d + 1
 end
def uptoSmall : (H : Type) → List (DataW H) → Bool := fun _ ds => decide (uptoBulkAll ds ≤ 1048576)
def OpenSpec.upto (s : _root_.Go.ChangeSpec) : _root_.Go.OpenSpec := { _root_.Go.OpenSpec.ofChange s with cond := some uptoSmall }

/-- 'lightshiplaw04.CauchyRows', WHERE WHAT IT READS IS OF BULK AT MOST 1048576: true; the input reads as it did. -/
def cauchyRowsUptoRow : OpenClaim := { program := "ytfndnlfinoeamaa", sum := "87b053d02f83deb5e9dcd59a19aa6619784e3b9e88f3c94e2913a96b1a81638b", func := "lightship/lightshiplaw04.CauchyRows", spec := "cauchyRows", unfollowed := true, recurses := true, apart := false, narrowed := true }
def CauchyRowsUptoSaid : Prop := cauchyRowsUptoRow.holds Try.pinned (OpenSpec.upto cauchyRowsSpec)

/-- 'lightshiplaw04.CauchyAll', WHERE WHAT IT READS IS OF BULK AT MOST 1048576: true; the input reads as it did. -/
def cauchyAllUptoRow : OpenClaim := { program := "ytfndnlfinoeamaa", sum := "87b053d02f83deb5e9dcd59a19aa6619784e3b9e88f3c94e2913a96b1a81638b", func := "lightship/lightshiplaw04.CauchyAll", spec := "cauchyAll", unfollowed := true, recurses := true, apart := false, narrowed := true }
def CauchyAllUptoSaid : Prop := cauchyAllUptoRow.holds Try.pinned (OpenSpec.upto cauchyAllSpec)

/-- 'lightshiplaw04.CauchyAny', WHERE WHAT IT READS IS OF BULK AT MOST 1048576: true; the input reads as it did. -/
def cauchyAnyUptoRow : OpenClaim := { program := "ytfndnlfinoeamaa", sum := "87b053d02f83deb5e9dcd59a19aa6619784e3b9e88f3c94e2913a96b1a81638b", func := "lightship/lightshiplaw04.CauchyAny", spec := "cauchyAny", unfollowed := true, recurses := true, apart := false, narrowed := true }
def CauchyAnyUptoSaid : Prop := cauchyAnyUptoRow.holds Try.pinned (OpenSpec.upto cauchyAnySpec)

end Rows
end Go.Proofs.Ytfndnlfinoeamaa
