/-
  DERIVED. GIVEN WITH THE SEED: THE CARDS: each row of YtjfhbfnagcjdmaaGreatDoorRows.lean that lists a variable, with what it lists TIED to the program's text (the seventh form; the later family's looks); each row that meets fmt, with fmt's text TOLD by the authors' own Lean function (tested against real Go, not proved from fmt's source: count such statements apart). THE CARD IS WHAT COUNTS. Prove the row's statement (the work); the ties are given (YtjfhbfnagcjdmaaGreatDoorTie.lean); close each card by the builder's one call (the guide's Derived/Test/ToyasCard.lean, 'card_holds'). Laid BY PROGRAM, IN A SANDBOX (cutbox-door.mjs). By AI agents, Wed Nov 11 2026. No macro, syntax, notation, axiom, sorry.
-/
import Derived.Test.YtjfhbfnagcjdmaaGreatDoorRows
import GoSem.ClaimSeven
namespace Go.Proofs.YtjfhbfnagcjdmaaGreatDoor
namespace Rows

/-- THE TIED CARD OF 'compositorlaw08.MarkEnds'. -/
def markEndsCard : Claim7 := { stood := { row := markEndsRow, standIns := [], harness := (true, "51feb22529c7c606092f7048f2a64071eeb6735afdeceaf52650567c589c463a"), looks := false }, kinds := [], alts := [], laidByText := true, laidKinds := [.data, .data, .pinned, .pinned], laidTests := true, laidLooks := .later }
def MarkEndsCardSaid : Prop := Claim7.holds Tryz.pinned (.plain (OpenSpec.ofChange markEndsSpec)) markEndsCard

/-- THE SECOND FORM's CARD OF 'compositorlaw08.MarkEnds'. -/
def markEndsUptoCard : Claim7 := { stood := { row := markEndsUptoRow, standIns := [], harness := (true, "51feb22529c7c606092f7048f2a64071eeb6735afdeceaf52650567c589c463a"), looks := false }, kinds := [], alts := [], laidByText := true, laidKinds := [.data, .data, .pinned, .pinned], laidTests := true, laidLooks := .later }
def MarkEndsUptoCardSaid : Prop := Claim7.holds Tryz.pinned (.plain (OpenSpec.upto markEndsSpec)) markEndsUptoCard
end Rows
end Go.Proofs.YtjfhbfnagcjdmaaGreatDoor
