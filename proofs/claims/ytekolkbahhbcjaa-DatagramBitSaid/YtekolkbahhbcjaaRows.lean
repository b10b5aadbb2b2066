/-
  No cell of these rows narrows 'for every input' (looked for: loops, veiled, ifaces, maps, wideKeys, modest, calm, conditions, laid).
  DERIVED. THE GIVEN ROWS OF THIS SEAT. 4 by the template 'for every input the law returns true; each argument reads behind the call as it read before'; 0 by the template 'total and deterministic' (their statements: YtekolkbahhbcjaaTotals.lean).
  GIVEN WITH THE SEED: the statements are not yours to turn. If you find one false, say at which input.
  Laid BY PROGRAM, IN A SANDBOX (cutbox-rows.mjs): the forced cells as the released guide's own fill.sh prints them over the translation a8168e5f9970ce6c… (all of the seat's roots in one cut). By AI agents, Wed Nov 11 2026. No macro, syntax, notation, axiom, sorry.
-/
import Derived.Test.YtekolkbahhbcjaaChecked
import GoSem.Claim
import GoSem.ClaimJoined
import GoSem.ClaimMapViews
import Derived.JoinedTies
import Derived.KernelRfl
namespace Go.Proofs.Ytekolkbahhbcjaa
/- THE CELL 'sum', in the pinned program and in every row, IS THE sha256 OF THE DUMP (.gsa) THAT YtekolkbahhbcjaaProg.lean LOADS. Nothing in Lean hashes anything: it is a label: what it is worth is what the hold of that sum in a sandbox is worth. -/
noncomputable def Try.pinned : Pinned := { name := "ytekolkbahhbcjaa", sum := "a8168e5f9970ce6c45726df75f1d7e5d717a75dd01bde111741ef85e44437235", checked := Try.checked }
namespace Rows
def none {H : Type} : Left H := { results := [], args := [] }

/-- 'lightshiplaw10.DatagramPuts': WHATEVER THE INPUT: true; the input reads as it did. -/
def datagramPutsSpec : ChangeSpec := { name := "datagramPuts", fn := fun _ => fun
  | [d] => { results := [.lit (.bool true)], args := [d] }
  | _ => none }
def datagramPutsRow : OpenClaim := { program := "ytekolkbahhbcjaa", sum := "a8168e5f9970ce6c45726df75f1d7e5d717a75dd01bde111741ef85e44437235", func := "lightship/lightshiplaw10.DatagramPuts", spec := "datagramPuts", unfollowed := true, recurses := true, apart := false }
def DatagramPutsSaid : Prop := datagramPutsRow.holds Try.pinned (OpenSpec.ofChange datagramPutsSpec)

/-- ITS FALSE NEIGHBOUR: 'it returns false'. Refute it at one input. -/
def datagramPutsWrong : ChangeSpec := { name := "datagramPuts", fn := fun _ => fun
  | [d] => { results := [.lit (.bool false)], args := [d] }
  | _ => none }
def DatagramPutsWrongFalsely : Prop := datagramPutsRow.holds Try.pinned (OpenSpec.ofChange datagramPutsWrong)

/-- 'lightshiplaw10.DatagramReads': WHATEVER THE INPUT: true; the input reads as it did. -/
def datagramReadsSpec : ChangeSpec := { name := "datagramReads", fn := fun _ => fun
  | [d] => { results := [.lit (.bool true)], args := [d] }
  | _ => none }
def datagramReadsRow : OpenClaim := { program := "ytekolkbahhbcjaa", sum := "a8168e5f9970ce6c45726df75f1d7e5d717a75dd01bde111741ef85e44437235", func := "lightship/lightshiplaw10.DatagramReads", spec := "datagramReads", unfollowed := true, recurses := true, apart := false }
def DatagramReadsSaid : Prop := datagramReadsRow.holds Try.pinned (OpenSpec.ofChange datagramReadsSpec)

/-- ITS FALSE NEIGHBOUR: 'it returns false'. Refute it at one input. -/
def datagramReadsWrong : ChangeSpec := { name := "datagramReads", fn := fun _ => fun
  | [d] => { results := [.lit (.bool false)], args := [d] }
  | _ => none }
def DatagramReadsWrongFalsely : Prop := datagramReadsRow.holds Try.pinned (OpenSpec.ofChange datagramReadsWrong)

/-- 'lightshiplaw10.DatagramBack': WHATEVER THE INPUT: true; the input reads as it did. -/
def datagramBackSpec : ChangeSpec := { name := "datagramBack", fn := fun _ => fun
  | [d1, d2] => { results := [.lit (.bool true)], args := [d1, d2] }
  | _ => none }
def datagramBackRow : OpenClaim := { program := "ytekolkbahhbcjaa", sum := "a8168e5f9970ce6c45726df75f1d7e5d717a75dd01bde111741ef85e44437235", func := "lightship/lightshiplaw10.DatagramBack", spec := "datagramBack", unfollowed := true, recurses := true, apart := false }
def DatagramBackSaid : Prop := datagramBackRow.holds Try.pinned (OpenSpec.ofChange datagramBackSpec)

/-- ITS FALSE NEIGHBOUR: 'it returns false'. Refute it at one input. -/
def datagramBackWrong : ChangeSpec := { name := "datagramBack", fn := fun _ => fun
  | [d1, d2] => { results := [.lit (.bool false)], args := [d1, d2] }
  | _ => none }
def DatagramBackWrongFalsely : Prop := datagramBackRow.holds Try.pinned (OpenSpec.ofChange datagramBackWrong)

/-- 'lightshiplaw10.DatagramBit': WHATEVER THE INPUT: true; the input reads as it did. -/
def datagramBitSpec : ChangeSpec := { name := "datagramBit", fn := fun _ => fun
  | [d1, d2] => { results := [.lit (.bool true)], args := [d1, d2] }
  | _ => none }
def datagramBitRow : OpenClaim := { program := "ytekolkbahhbcjaa", sum := "a8168e5f9970ce6c45726df75f1d7e5d717a75dd01bde111741ef85e44437235", func := "lightship/lightshiplaw10.DatagramBit", spec := "datagramBit", unfollowed := true, recurses := true, apart := false }
def DatagramBitSaid : Prop := datagramBitRow.holds Try.pinned (OpenSpec.ofChange datagramBitSpec)

/-- ITS FALSE NEIGHBOUR: 'it returns false'. Refute it at one input. -/
def datagramBitWrong : ChangeSpec := { name := "datagramBit", fn := fun _ => fun
  | [d1, d2] => { results := [.lit (.bool false)], args := [d1, d2] }
  | _ => none }
def DatagramBitWrongFalsely : Prop := datagramBitRow.holds Try.pinned (OpenSpec.ofChange datagramBitWrong)

/- THE SECOND FORM. 'bulk': how many values and letters a reading holds, each counted each time it is reached (what is shared counts as often as it is met; a slice's spare places count too). A statement '..UptoSaid' is the law's where the arguments, and the package variables that the reading takes, are together of bulk at most 1048576: NARROWER than '..Said'. Prove '..Said' where nothing that the law and all that it calls make is longer than what came in: it says more and counts as full. Else prove '..UptoSaid'. A law counts once. -/
mutual
def uptoBulk {H : Type} : DataW H → Nat
  | .lit (.string bytes) => bytes.length + 1
  | .lit _ => 1
  | .nil => 1
  | .ptr d => uptoBulk d + 1
  | .slice elems spare => uptoBulkAll elems + uptoBulkAll spare + 1
  | .agg parts => uptoBulkAll parts + 1
  | .iface _ d => uptoBulk d + 1
  | .map entries => uptoBulkEntries entries + 1
  | .held _ => 1
def uptoBulkAll {H : Type} : List (DataW H) → Nat
  | [] => 0
  | d :: r => uptoBulk d + uptoBulkAll r
def uptoBulkEntries {H : Type} : List (Lit × DataW H) → Nat
  | [] => 0
  | x :: r => uptoBulkEntry x + uptoBulkEntries r
def uptoBulkEntry {H : Type} : Lit × DataW H → Nat
  | (.string bytes, d) => bytes.length + uptoBulk d + 1
  | (_, d) => uptoBulk d + 1
 end
def uptoSmall : (H : Type) → List (DataW H) → Bool := fun _ ds => decide (uptoBulkAll ds ≤ 1048576)
def OpenSpec.upto (s : _root_.Go.ChangeSpec) : _root_.Go.OpenSpec := { _root_.Go.OpenSpec.ofChange s with cond := some uptoSmall }

/-- 'lightshiplaw10.DatagramPuts', WHERE WHAT IT READS IS OF BULK AT MOST 1048576: true; the input reads as it did. -/
def datagramPutsUptoRow : OpenClaim := { program := "ytekolkbahhbcjaa", sum := "a8168e5f9970ce6c45726df75f1d7e5d717a75dd01bde111741ef85e44437235", func := "lightship/lightshiplaw10.DatagramPuts", spec := "datagramPuts", unfollowed := true, recurses := true, apart := false, narrowed := true }
def DatagramPutsUptoSaid : Prop := datagramPutsUptoRow.holds Try.pinned (OpenSpec.upto datagramPutsSpec)

/-- 'lightshiplaw10.DatagramReads', WHERE WHAT IT READS IS OF BULK AT MOST 1048576: true; the input reads as it did. -/
def datagramReadsUptoRow : OpenClaim := { program := "ytekolkbahhbcjaa", sum := "a8168e5f9970ce6c45726df75f1d7e5d717a75dd01bde111741ef85e44437235", func := "lightship/lightshiplaw10.DatagramReads", spec := "datagramReads", unfollowed := true, recurses := true, apart := false, narrowed := true }
def DatagramReadsUptoSaid : Prop := datagramReadsUptoRow.holds Try.pinned (OpenSpec.upto datagramReadsSpec)

/-- 'lightshiplaw10.DatagramBack', WHERE WHAT IT READS IS OF BULK AT MOST 1048576: true; the input reads as it did. -/
def datagramBackUptoRow : OpenClaim := { program := "ytekolkbahhbcjaa", sum := "a8168e5f9970ce6c45726df75f1d7e5d717a75dd01bde111741ef85e44437235", func := "lightship/lightshiplaw10.DatagramBack", spec := "datagramBack", unfollowed := true, recurses := true, apart := false, narrowed := true }
def DatagramBackUptoSaid : Prop := datagramBackUptoRow.holds Try.pinned (OpenSpec.upto datagramBackSpec)

/-- 'lightshiplaw10.DatagramBit', WHERE WHAT IT READS IS OF BULK AT MOST 1048576: true; the input reads as it did. -/
def datagramBitUptoRow : OpenClaim := { program := "ytekolkbahhbcjaa", sum := "a8168e5f9970ce6c45726df75f1d7e5d717a75dd01bde111741ef85e44437235", func := "lightship/lightshiplaw10.DatagramBit", spec := "datagramBit", unfollowed := true, recurses := true, apart := false, narrowed := true }
def DatagramBitUptoSaid : Prop := datagramBitUptoRow.holds Try.pinned (OpenSpec.upto datagramBitSpec)

end Rows
end Go.Proofs.Ytekolkbahhbcjaa
