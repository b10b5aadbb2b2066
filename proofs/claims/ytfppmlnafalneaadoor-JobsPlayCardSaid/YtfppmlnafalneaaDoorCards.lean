/-
  DERIVED. GIVEN WITH THE SEED: THE CARDS: each row of YtfppmlnafalneaaDoorRows.lean that lists a variable, with what it lists TIED to the program's text (the seventh form; the later family's looks); each row that meets fmt, with fmt's text TOLD by the authors' own Lean function (tested against real Go, not proved from fmt's source: count such statements apart). THE CARD IS WHAT COUNTS. Prove the row's statement (the work); the ties are given (YtfppmlnafalneaaDoorTie.lean); close each card by the builder's one call (the guide's Derived/Test/ToyasCard.lean, 'card_holds'). Laid BY PROGRAM, IN A SANDBOX (cutbox-door.mjs). By AI agents, Wed Nov 11 2026. No macro, syntax, notation, axiom, sorry.
-/
import Derived.Test.YtfppmlnafalneaaDoorRows
import GoSem.ClaimSeven
namespace Go.Proofs.YtfppmlnafalneaaDoor
namespace Rows

/-- THE TIED CARD OF 'lightshiplaw19.JobsPlay'. -/
def jobsPlayCard : Claim7 := { stood := { row := jobsPlayRow, standIns := [], harness := (true, "64beee4148f2a9194a474bdcea9cfaf2c597188061432b84913bc5f046bc76fd"), looks := true }, kinds := [], alts := [], laidByText := true, laidKinds := [.sentinel, .sentinel], laidTests := true, laidLooks := .later }
def JobsPlayCardSaid : Prop := Claim7.holds Tryd.pinned (.plain (OpenSpec.ofChange jobsPlaySpec)) jobsPlayCard

/-- THE TIED CARD OF 'lightshiplaw19.JobsNone'. -/
def jobsNoneCard : Claim7 := { stood := { row := jobsNoneRow, standIns := [], harness := (true, "64beee4148f2a9194a474bdcea9cfaf2c597188061432b84913bc5f046bc76fd"), looks := true }, kinds := [], alts := [], laidByText := true, laidKinds := [.sentinel, .sentinel], laidTests := true, laidLooks := .later }
def JobsNoneCardSaid : Prop := Claim7.holds Tryd.pinned (.plain (OpenSpec.ofChange jobsNoneSpec)) jobsNoneCard

/-- THE SECOND FORM's CARD OF 'lightshiplaw19.JobsPlay'. -/
def jobsPlayUptoCard : Claim7 := { stood := { row := jobsPlayUptoRow, standIns := [], harness := (true, "64beee4148f2a9194a474bdcea9cfaf2c597188061432b84913bc5f046bc76fd"), looks := true }, kinds := [], alts := [], laidByText := true, laidKinds := [.sentinel, .sentinel], laidTests := true, laidLooks := .later }
def JobsPlayUptoCardSaid : Prop := Claim7.holds Tryd.pinned (.plain (OpenSpec.upto jobsPlaySpec)) jobsPlayUptoCard

/-- THE SECOND FORM's CARD OF 'lightshiplaw19.JobsNone'. -/
def jobsNoneUptoCard : Claim7 := { stood := { row := jobsNoneUptoRow, standIns := [], harness := (true, "64beee4148f2a9194a474bdcea9cfaf2c597188061432b84913bc5f046bc76fd"), looks := true }, kinds := [], alts := [], laidByText := true, laidKinds := [.sentinel, .sentinel], laidTests := true, laidLooks := .later }
def JobsNoneUptoCardSaid : Prop := Claim7.holds Tryd.pinned (.plain (OpenSpec.upto jobsNoneSpec)) jobsNoneUptoCard
end Rows
end Go.Proofs.YtfppmlnafalneaaDoor
