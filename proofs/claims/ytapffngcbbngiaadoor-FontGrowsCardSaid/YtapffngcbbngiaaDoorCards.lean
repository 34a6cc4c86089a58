/-
  DERIVED. GIVEN WITH THE SEED: THE CARDS: each row of YtapffngcbbngiaaDoorRows.lean that lists a variable, with what it lists TIED to the program's text (the seventh form; the later family's looks); each row that meets fmt, with fmt's text TOLD by the authors' own Lean function (tested against real Go, not proved from fmt's source: count such statements apart). THE CARD IS WHAT COUNTS. Prove the row's statement (the work); the ties are given (YtapffngcbbngiaaDoorTie.lean); close each card by the builder's one call (the guide's Derived/Test/ToyasCard.lean, 'card_holds'). Laid BY PROGRAM, IN A SANDBOX (cutbox-door.mjs). By AI agents, Wed Nov 11 2026. No macro, syntax, notation, axiom, sorry.
-/
import Derived.Test.YtapffngcbbngiaaDoorRows
import GoSem.ClaimSeven
namespace Go.Proofs.YtapffngcbbngiaaDoor
namespace Rows

/-- THE TIED CARD OF 'compositorlaw05.FontTells'. -/
def fontTellsCard : Claim7 := { stood := { row := fontTellsRow, standIns := [], harness := (true, "72ad1c77c3111f8b5728bb05c178c4da08206cfa88f28c04b6972b3821040d1a"), looks := false }, kinds := [], alts := [], laidByText := true, laidKinds := [.data, .data, .data, .data, .data, .data, .data], laidTests := true, laidLooks := .later }
def FontTellsCardSaid : Prop := Claim7.holds Tryd.pinned (.plain (OpenSpec.ofChange fontTellsSpec)) fontTellsCard

/-- THE TIED CARD OF 'compositorlaw05.FontParts'. -/
def fontPartsCard : Claim7 := { stood := { row := fontPartsRow, standIns := [], harness := (true, "72ad1c77c3111f8b5728bb05c178c4da08206cfa88f28c04b6972b3821040d1a"), looks := false }, kinds := [], alts := [], laidByText := true, laidKinds := [.data, .data, .data, .data], laidTests := true, laidLooks := .later }
def FontPartsCardSaid : Prop := Claim7.holds Tryd.pinned (.plain (OpenSpec.ofChange fontPartsSpec)) fontPartsCard

/-- THE TIED CARD OF 'compositorlaw05.FontFits'. -/
def fontFitsCard : Claim7 := { stood := { row := fontFitsRow, standIns := [], harness := (true, "72ad1c77c3111f8b5728bb05c178c4da08206cfa88f28c04b6972b3821040d1a"), looks := false }, kinds := [], alts := [], laidByText := true, laidKinds := [.data, .data, .data, .data], laidTests := true, laidLooks := .later }
def FontFitsCardSaid : Prop := Claim7.holds Tryd.pinned (.plain (OpenSpec.ofChange fontFitsSpec)) fontFitsCard

/-- THE TIED CARD OF 'compositorlaw05.FontGrows'. -/
def fontGrowsCard : Claim7 := { stood := { row := fontGrowsRow, standIns := [], harness := (true, "72ad1c77c3111f8b5728bb05c178c4da08206cfa88f28c04b6972b3821040d1a"), looks := false }, kinds := [], alts := [], laidByText := true, laidKinds := [.data, .data, .data, .data], laidTests := true, laidLooks := .later }
def FontGrowsCardSaid : Prop := Claim7.holds Tryd.pinned (.plain (OpenSpec.ofChange fontGrowsSpec)) fontGrowsCard

/-- THE SECOND FORM's CARD OF 'compositorlaw05.FontTells'. -/
def fontTellsUptoCard : Claim7 := { stood := { row := fontTellsUptoRow, standIns := [], harness := (true, "72ad1c77c3111f8b5728bb05c178c4da08206cfa88f28c04b6972b3821040d1a"), looks := false }, kinds := [], alts := [], laidByText := true, laidKinds := [.data, .data, .data, .data, .data, .data, .data], laidTests := true, laidLooks := .later }
def FontTellsUptoCardSaid : Prop := Claim7.holds Tryd.pinned (.plain (OpenSpec.upto fontTellsSpec)) fontTellsUptoCard

/-- THE SECOND FORM's CARD OF 'compositorlaw05.FontParts'. -/
def fontPartsUptoCard : Claim7 := { stood := { row := fontPartsUptoRow, standIns := [], harness := (true, "72ad1c77c3111f8b5728bb05c178c4da08206cfa88f28c04b6972b3821040d1a"), looks := false }, kinds := [], alts := [], laidByText := true, laidKinds := [.data, .data, .data, .data], laidTests := true, laidLooks := .later }
def FontPartsUptoCardSaid : Prop := Claim7.holds Tryd.pinned (.plain (OpenSpec.upto fontPartsSpec)) fontPartsUptoCard

/-- THE SECOND FORM's CARD OF 'compositorlaw05.FontFits'. -/
def fontFitsUptoCard : Claim7 := { stood := { row := fontFitsUptoRow, standIns := [], harness := (true, "72ad1c77c3111f8b5728bb05c178c4da08206cfa88f28c04b6972b3821040d1a"), looks := false }, kinds := [], alts := [], laidByText := true, laidKinds := [.data, .data, .data, .data], laidTests := true, laidLooks := .later }
def FontFitsUptoCardSaid : Prop := Claim7.holds Tryd.pinned (.plain (OpenSpec.upto fontFitsSpec)) fontFitsUptoCard

/-- THE SECOND FORM's CARD OF 'compositorlaw05.FontGrows'. -/
def fontGrowsUptoCard : Claim7 := { stood := { row := fontGrowsUptoRow, standIns := [], harness := (true, "72ad1c77c3111f8b5728bb05c178c4da08206cfa88f28c04b6972b3821040d1a"), looks := false }, kinds := [], alts := [], laidByText := true, laidKinds := [.data, .data, .data, .data], laidTests := true, laidLooks := .later }
def FontGrowsUptoCardSaid : Prop := Claim7.holds Tryd.pinned (.plain (OpenSpec.upto fontGrowsSpec)) fontGrowsUptoCard
end Rows
end Go.Proofs.YtapffngcbbngiaaDoor
