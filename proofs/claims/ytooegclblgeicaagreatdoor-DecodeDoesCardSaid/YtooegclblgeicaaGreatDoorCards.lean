/-
  DERIVED. GIVEN WITH THE SEED: THE CARDS: each row of YtooegclblgeicaaGreatDoorRows.lean that lists a variable, with what it lists TIED to the program's text (the seventh form; the later family's looks); each row that meets fmt, with fmt's text TOLD by the authors' own Lean function (tested against real Go, not proved from fmt's source: count such statements apart). THE CARD IS WHAT COUNTS. Prove the row's statement (the work); the ties are given (YtooegclblgeicaaGreatDoorTie.lean); close each card by the builder's one call (the guide's Derived/Test/ToyasCard.lean, 'card_holds'). Laid BY PROGRAM, IN A SANDBOX (cutbox-door.mjs). By AI agents, Wed Nov 11 2026. No macro, syntax, notation, axiom, sorry.
-/
import Derived.Test.YtooegclblgeicaaGreatDoorRows
import GoSem.ClaimSeven
namespace Go.Proofs.YtooegclblgeicaaGreatDoor
namespace Rows

/-- THE TIED CARD OF 'lightshiplaw20.DecodeDoes'. -/
def decodeDoesCard : Claim7 := { stood := { row := decodeDoesRow, standIns := [], harness := (true, "0b75097582bc73940a7dc4e233f2666193cdff3aa5a71b9f4fef87cd1dbc62f0"), looks := true }, kinds := [], alts := [], laidByText := true, laidKinds := [.data, .pinned], laidTests := true, laidLooks := .later }
def DecodeDoesCardSaid : Prop := Claim7.holds Tryz.pinned (.plain (OpenSpec.ofChange decodeDoesSpec)) decodeDoesCard

/-- THE SECOND FORM's CARD OF 'lightshiplaw20.DecodeDoes'. -/
def decodeDoesUptoCard : Claim7 := { stood := { row := decodeDoesUptoRow, standIns := [], harness := (true, "0b75097582bc73940a7dc4e233f2666193cdff3aa5a71b9f4fef87cd1dbc62f0"), looks := true }, kinds := [], alts := [], laidByText := true, laidKinds := [.data, .pinned], laidTests := true, laidLooks := .later }
def DecodeDoesUptoCardSaid : Prop := Claim7.holds Tryz.pinned (.plain (OpenSpec.upto decodeDoesSpec)) decodeDoesUptoCard
end Rows
end Go.Proofs.YtooegclblgeicaaGreatDoor
