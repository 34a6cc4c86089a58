/-
  DERIVED. GIVEN WITH THE SEED: THE CARDS: each row of YtklmgbkkjmfhcaaGreatDoorRows.lean that lists a variable, with what it lists TIED to the program's text (the seventh form; the later family's looks); each row that meets fmt, with fmt's text TOLD by the authors' own Lean function (tested against real Go, not proved from fmt's source: count such statements apart). THE CARD IS WHAT COUNTS. Prove the row's statement (the work); the ties are given (YtklmgbkkjmfhcaaGreatDoorTie.lean); close each card by the builder's one call (the guide's Derived/Test/ToyasCard.lean, 'card_holds'). Laid BY PROGRAM, IN A SANDBOX (cutbox-door.mjs). By AI agents, Wed Nov 11 2026. No macro, syntax, notation, axiom, sorry.
-/
import Derived.Test.YtklmgbkkjmfhcaaGreatDoorRows
import GoSem.ClaimSeven
namespace Go.Proofs.YtklmgbkkjmfhcaaGreatDoor
namespace Rows

/-- THE TIED CARD OF 'compositorlaw14.InlineShapes'. -/
def inlineShapesCard : Claim7 := { stood := { row := inlineShapesRow, standIns := [], harness := (true, "36e70678b354aaf146d99053679286593c26ac62a8c51186d78b295c9ba8e6a8"), looks := false }, kinds := [], alts := [], laidByText := true, laidKinds := [.data, .data, .pinned], laidTests := true, laidLooks := .later }
def InlineShapesCardSaid : Prop := Claim7.holds Tryz.pinned (.plain (OpenSpec.ofChange inlineShapesSpec)) inlineShapesCard

/-- THE SECOND FORM's CARD OF 'compositorlaw14.InlineShapes'. -/
def inlineShapesUptoCard : Claim7 := { stood := { row := inlineShapesUptoRow, standIns := [], harness := (true, "36e70678b354aaf146d99053679286593c26ac62a8c51186d78b295c9ba8e6a8"), looks := false }, kinds := [], alts := [], laidByText := true, laidKinds := [.data, .data, .pinned], laidTests := true, laidLooks := .later }
def InlineShapesUptoCardSaid : Prop := Claim7.holds Tryz.pinned (.plain (OpenSpec.upto inlineShapesSpec)) inlineShapesUptoCard
end Rows
end Go.Proofs.YtklmgbkkjmfhcaaGreatDoor
