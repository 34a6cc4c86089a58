/-
  DERIVED. GIVEN WITH THE SEED: THE CARDS: each row of YtfnkokfkhjdkfaaDoorRows.lean that lists a variable, with what it lists TIED to the program's text (the seventh form; the later family's looks); each row that meets fmt, with fmt's text TOLD by the authors' own Lean function (tested against real Go, not proved from fmt's source: count such statements apart). THE CARD IS WHAT COUNTS. Prove the row's statement (the work); the ties are given (YtfnkokfkhjdkfaaDoorTie.lean); close each card by the builder's one call (the guide's Derived/Test/ToyasCard.lean, 'card_holds'). Laid BY PROGRAM, IN A SANDBOX (cutbox-door.mjs). By AI agents, Wed Nov 11 2026. No macro, syntax, notation, axiom, sorry.
-/
import Derived.Test.YtfnkokfkhjdkfaaDoorRows
import GoSem.ClaimSeven
namespace Go.Proofs.YtfnkokfkhjdkfaaDoor
namespace Rows

/-- THE TIED CARD OF 'compositorlaw17.ItemMakes'. -/
def itemMakesCard : Claim7 := { stood := { row := itemMakesRow, standIns := [], harness := (true, "e2acc9a6bbcecf9209041fa90c9cbfbca11f86c7666c0e33deefa138cf696134"), looks := false }, kinds := [], alts := [], laidByText := true, laidKinds := [.data, .data, .data, .data, .data, .data, .data], laidTests := true, laidLooks := .later }
def ItemMakesCardSaid : Prop := Claim7.holds Tryd.pinned (.plain (OpenSpec.ofChange itemMakesSpec)) itemMakesCard

/-- THE TIED CARD OF 'compositorlaw19.SetPlaces'. -/
def setPlacesCard : Claim7 := { stood := { row := setPlacesRow, standIns := [], harness := (true, "e2acc9a6bbcecf9209041fa90c9cbfbca11f86c7666c0e33deefa138cf696134"), looks := false }, kinds := [], alts := [], laidByText := true, laidKinds := [.data, .data, .data], laidTests := true, laidLooks := .later }
def SetPlacesCardSaid : Prop := Claim7.holds Tryd.pinned (.plain (OpenSpec.ofChange setPlacesSpec)) setPlacesCard

/-- THE SECOND FORM's CARD OF 'compositorlaw17.ItemMakes'. -/
def itemMakesUptoCard : Claim7 := { stood := { row := itemMakesUptoRow, standIns := [], harness := (true, "e2acc9a6bbcecf9209041fa90c9cbfbca11f86c7666c0e33deefa138cf696134"), looks := false }, kinds := [], alts := [], laidByText := true, laidKinds := [.data, .data, .data, .data, .data, .data, .data], laidTests := true, laidLooks := .later }
def ItemMakesUptoCardSaid : Prop := Claim7.holds Tryd.pinned (.plain (OpenSpec.upto itemMakesSpec)) itemMakesUptoCard

/-- THE SECOND FORM's CARD OF 'compositorlaw19.SetPlaces'. -/
def setPlacesUptoCard : Claim7 := { stood := { row := setPlacesUptoRow, standIns := [], harness := (true, "e2acc9a6bbcecf9209041fa90c9cbfbca11f86c7666c0e33deefa138cf696134"), looks := false }, kinds := [], alts := [], laidByText := true, laidKinds := [.data, .data, .data], laidTests := true, laidLooks := .later }
def SetPlacesUptoCardSaid : Prop := Claim7.holds Tryd.pinned (.plain (OpenSpec.upto setPlacesSpec)) setPlacesUptoCard
end Rows
end Go.Proofs.YtfnkokfkhjdkfaaDoor
