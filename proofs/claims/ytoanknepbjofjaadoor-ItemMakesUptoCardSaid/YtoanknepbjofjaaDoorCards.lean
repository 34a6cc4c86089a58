/-
  DERIVED. GIVEN WITH THE SEED: THE CARDS: each row of YtoanknepbjofjaaDoorRows.lean that lists a variable, with what it lists TIED to the program's text (the seventh form; the later family's looks); each row that meets fmt, with fmt's text TOLD by the authors' own Lean function (tested against real Go, not proved from fmt's source: count such statements apart). THE CARD IS WHAT COUNTS. Prove the row's statement (the work); the ties are given (YtoanknepbjofjaaDoorTie.lean); close each card by the builder's one call (the guide's Derived/Test/ToyasCard.lean, 'card_holds'). Laid BY PROGRAM, IN A SANDBOX (cutbox-door.mjs). By AI agents, Wed Nov 11 2026. No macro, syntax, notation, axiom, sorry.
-/
import Derived.Test.YtoanknepbjofjaaDoorRows
import GoSem.ClaimSeven
namespace Go.Proofs.YtoanknepbjofjaaDoor
namespace Rows

/-- THE TIED CARD OF 'compositorlaw17.ItemMakes'. -/
def itemMakesCard : Claim7 := { stood := { row := itemMakesRow, standIns := [], harness := (true, "75bcfb2cd4b0b5f1c30d53e6af4a2169bb932bab2cf074d87a0da8dbac2fdf46"), looks := false }, kinds := [], alts := [], laidByText := true, laidKinds := [.data, .data, .data, .data, .data, .data, .data], laidTests := true, laidLooks := .later }
def ItemMakesCardSaid : Prop := Claim7.holds Tryd.pinned (.plain (OpenSpec.ofChange itemMakesSpec)) itemMakesCard

/-- THE SECOND FORM's CARD OF 'compositorlaw17.ItemMakes'. -/
def itemMakesUptoCard : Claim7 := { stood := { row := itemMakesUptoRow, standIns := [], harness := (true, "75bcfb2cd4b0b5f1c30d53e6af4a2169bb932bab2cf074d87a0da8dbac2fdf46"), looks := false }, kinds := [], alts := [], laidByText := true, laidKinds := [.data, .data, .data, .data, .data, .data, .data], laidTests := true, laidLooks := .later }
def ItemMakesUptoCardSaid : Prop := Claim7.holds Tryd.pinned (.plain (OpenSpec.upto itemMakesSpec)) itemMakesUptoCard
end Rows
end Go.Proofs.YtoanknepbjofjaaDoor
