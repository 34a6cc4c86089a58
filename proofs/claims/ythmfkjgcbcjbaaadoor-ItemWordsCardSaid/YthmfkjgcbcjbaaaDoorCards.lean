/-
  DERIVED. GIVEN WITH THE SEED: THE CARDS: each row of YthmfkjgcbcjbaaaDoorRows.lean that lists a variable, with what it lists TIED to the program's text (the seventh form; the later family's looks); each row that meets fmt, with fmt's text TOLD by the authors' own Lean function (tested against real Go, not proved from fmt's source: count such statements apart). THE CARD IS WHAT COUNTS. Prove the row's statement (the work); the ties are given (YthmfkjgcbcjbaaaDoorTie.lean); close each card by the builder's one call (the guide's Derived/Test/ToyasCard.lean, 'card_holds'). Laid BY PROGRAM, IN A SANDBOX (cutbox-door.mjs). By AI agents, Wed Nov 11 2026. No macro, syntax, notation, axiom, sorry.
-/
import Derived.Test.YthmfkjgcbcjbaaaDoorRows
import GoSem.ClaimSeven
namespace Go.Proofs.YthmfkjgcbcjbaaaDoor
namespace Rows

/-- THE TIED CARD OF 'compositorlaw17.ItemMakes'. -/
def itemMakesCard : Claim7 := { stood := { row := itemMakesRow, standIns := [], harness := (true, "0fed0687e4c041b3f3443ab4c2a1a04860eb79fcc08458e852036cfb40d9f6b1"), looks := false }, kinds := [], alts := [], laidByText := true, laidKinds := [.data, .data, .data, .data, .data, .data, .data], laidTests := true, laidLooks := .later }
def ItemMakesCardSaid : Prop := Claim7.holds Tryd.pinned (.plain (OpenSpec.ofChange itemMakesSpec)) itemMakesCard

/-- THE TIED CARD OF 'compositorlaw17.ItemFits'. -/
def itemFitsCard : Claim7 := { stood := { row := itemFitsRow, standIns := [], harness := (true, "0fed0687e4c041b3f3443ab4c2a1a04860eb79fcc08458e852036cfb40d9f6b1"), looks := false }, kinds := [], alts := [], laidByText := true, laidKinds := [.data, .data, .data, .data, .data, .data, .data], laidTests := true, laidLooks := .later }
def ItemFitsCardSaid : Prop := Claim7.holds Tryd.pinned (.plain (OpenSpec.ofChange itemFitsSpec)) itemFitsCard

/-- THE TIED CARD OF 'compositorlaw17.ItemGlues'. -/
def itemGluesCard : Claim7 := { stood := { row := itemGluesRow, standIns := [], harness := (true, "0fed0687e4c041b3f3443ab4c2a1a04860eb79fcc08458e852036cfb40d9f6b1"), looks := false }, kinds := [], alts := [], laidByText := true, laidKinds := [.data, .data, .data, .data], laidTests := true, laidLooks := .later }
def ItemGluesCardSaid : Prop := Claim7.holds Tryd.pinned (.plain (OpenSpec.ofChange itemGluesSpec)) itemGluesCard

/-- THE TIED CARD OF 'compositorlaw17.ItemLinks'. -/
def itemLinksCard : Claim7 := { stood := { row := itemLinksRow, standIns := [], harness := (true, "0fed0687e4c041b3f3443ab4c2a1a04860eb79fcc08458e852036cfb40d9f6b1"), looks := false }, kinds := [], alts := [], laidByText := true, laidKinds := [.data, .data, .data, .data], laidTests := true, laidLooks := .later }
def ItemLinksCardSaid : Prop := Claim7.holds Tryd.pinned (.plain (OpenSpec.ofChange itemLinksSpec)) itemLinksCard

/-- THE TIED CARD OF 'compositorlaw17.ItemWords'. -/
def itemWordsCard : Claim7 := { stood := { row := itemWordsRow, standIns := [], harness := (true, "0fed0687e4c041b3f3443ab4c2a1a04860eb79fcc08458e852036cfb40d9f6b1"), looks := false }, kinds := [], alts := [], laidByText := true, laidKinds := [.data, .data, .data, .data], laidTests := true, laidLooks := .later }
def ItemWordsCardSaid : Prop := Claim7.holds Tryd.pinned (.plain (OpenSpec.ofChange itemWordsSpec)) itemWordsCard

/-- THE SECOND FORM's CARD OF 'compositorlaw17.ItemMakes'. -/
def itemMakesUptoCard : Claim7 := { stood := { row := itemMakesUptoRow, standIns := [], harness := (true, "0fed0687e4c041b3f3443ab4c2a1a04860eb79fcc08458e852036cfb40d9f6b1"), looks := false }, kinds := [], alts := [], laidByText := true, laidKinds := [.data, .data, .data, .data, .data, .data, .data], laidTests := true, laidLooks := .later }
def ItemMakesUptoCardSaid : Prop := Claim7.holds Tryd.pinned (.plain (OpenSpec.upto itemMakesSpec)) itemMakesUptoCard

/-- THE SECOND FORM's CARD OF 'compositorlaw17.ItemFits'. -/
def itemFitsUptoCard : Claim7 := { stood := { row := itemFitsUptoRow, standIns := [], harness := (true, "0fed0687e4c041b3f3443ab4c2a1a04860eb79fcc08458e852036cfb40d9f6b1"), looks := false }, kinds := [], alts := [], laidByText := true, laidKinds := [.data, .data, .data, .data, .data, .data, .data], laidTests := true, laidLooks := .later }
def ItemFitsUptoCardSaid : Prop := Claim7.holds Tryd.pinned (.plain (OpenSpec.upto itemFitsSpec)) itemFitsUptoCard

/-- THE SECOND FORM's CARD OF 'compositorlaw17.ItemGlues'. -/
def itemGluesUptoCard : Claim7 := { stood := { row := itemGluesUptoRow, standIns := [], harness := (true, "0fed0687e4c041b3f3443ab4c2a1a04860eb79fcc08458e852036cfb40d9f6b1"), looks := false }, kinds := [], alts := [], laidByText := true, laidKinds := [.data, .data, .data, .data], laidTests := true, laidLooks := .later }
def ItemGluesUptoCardSaid : Prop := Claim7.holds Tryd.pinned (.plain (OpenSpec.upto itemGluesSpec)) itemGluesUptoCard

/-- THE SECOND FORM's CARD OF 'compositorlaw17.ItemLinks'. -/
def itemLinksUptoCard : Claim7 := { stood := { row := itemLinksUptoRow, standIns := [], harness := (true, "0fed0687e4c041b3f3443ab4c2a1a04860eb79fcc08458e852036cfb40d9f6b1"), looks := false }, kinds := [], alts := [], laidByText := true, laidKinds := [.data, .data, .data, .data], laidTests := true, laidLooks := .later }
def ItemLinksUptoCardSaid : Prop := Claim7.holds Tryd.pinned (.plain (OpenSpec.upto itemLinksSpec)) itemLinksUptoCard

/-- THE SECOND FORM's CARD OF 'compositorlaw17.ItemWords'. -/
def itemWordsUptoCard : Claim7 := { stood := { row := itemWordsUptoRow, standIns := [], harness := (true, "0fed0687e4c041b3f3443ab4c2a1a04860eb79fcc08458e852036cfb40d9f6b1"), looks := false }, kinds := [], alts := [], laidByText := true, laidKinds := [.data, .data, .data, .data], laidTests := true, laidLooks := .later }
def ItemWordsUptoCardSaid : Prop := Claim7.holds Tryd.pinned (.plain (OpenSpec.upto itemWordsSpec)) itemWordsUptoCard
end Rows
end Go.Proofs.YthmfkjgcbcjbaaaDoor
