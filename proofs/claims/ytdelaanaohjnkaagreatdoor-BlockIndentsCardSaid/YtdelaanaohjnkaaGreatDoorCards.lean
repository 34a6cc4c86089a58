/-
  DERIVED. GIVEN WITH THE SEED: THE CARDS: each row of YtdelaanaohjnkaaGreatDoorRows.lean that lists a variable, with what it lists TIED to the program's text (the seventh form; the later family's looks); each row that meets fmt, with fmt's text TOLD by the authors' own Lean function (tested against real Go, not proved from fmt's source: count such statements apart). THE CARD IS WHAT COUNTS. Prove the row's statement (the work); the ties are given (YtdelaanaohjnkaaGreatDoorTie.lean); close each card by the builder's one call (the guide's Derived/Test/ToyasCard.lean, 'card_holds'). Laid BY PROGRAM, IN A SANDBOX (cutbox-door.mjs). By AI agents, Wed Nov 11 2026. No macro, syntax, notation, axiom, sorry.
-/
import Derived.Test.YtdelaanaohjnkaaGreatDoorRows
import GoSem.ClaimSeven
namespace Go.Proofs.YtdelaanaohjnkaaGreatDoor
namespace Rows

/-- THE TIED CARD OF 'compositorlaw12.BlockShapes'. -/
def blockShapesCard : Claim7 := { stood := { row := blockShapesRow, standIns := [], harness := (true, "a2e05f1afdffc1ef4c470386b32fd4f64c25933765b761bb2daafc143ddba591"), looks := false }, kinds := [], alts := [], laidByText := true, laidKinds := [.data, .data, .pinned, .pinned], laidTests := true, laidLooks := .later }
def BlockShapesCardSaid : Prop := Claim7.holds Tryz.pinned (.plain (OpenSpec.ofChange blockShapesSpec)) blockShapesCard

/-- THE TIED CARD OF 'compositorlaw12.BlockQuotes'. -/
def blockQuotesCard : Claim7 := { stood := { row := blockQuotesRow, standIns := [], harness := (true, "a2e05f1afdffc1ef4c470386b32fd4f64c25933765b761bb2daafc143ddba591"), looks := false }, kinds := [], alts := [], laidByText := true, laidKinds := [.data, .data, .pinned, .pinned], laidTests := true, laidLooks := .later }
def BlockQuotesCardSaid : Prop := Claim7.holds Tryz.pinned (.plain (OpenSpec.ofChange blockQuotesSpec)) blockQuotesCard

/-- THE TIED CARD OF 'compositorlaw12.BlockFenced'. -/
def blockFencedCard : Claim7 := { stood := { row := blockFencedRow, standIns := [], harness := (true, "a2e05f1afdffc1ef4c470386b32fd4f64c25933765b761bb2daafc143ddba591"), looks := false }, kinds := [], alts := [], laidByText := true, laidKinds := [.data, .data, .pinned, .pinned], laidTests := true, laidLooks := .later }
def BlockFencedCardSaid : Prop := Claim7.holds Tryz.pinned (.plain (OpenSpec.ofChange blockFencedSpec)) blockFencedCard

/-- THE TIED CARD OF 'compositorlaw12.BlockIndents'. -/
def blockIndentsCard : Claim7 := { stood := { row := blockIndentsRow, standIns := [], harness := (true, "a2e05f1afdffc1ef4c470386b32fd4f64c25933765b761bb2daafc143ddba591"), looks := false }, kinds := [], alts := [], laidByText := true, laidKinds := [.data, .data, .pinned, .pinned], laidTests := true, laidLooks := .later }
def BlockIndentsCardSaid : Prop := Claim7.holds Tryz.pinned (.plain (OpenSpec.ofChange blockIndentsSpec)) blockIndentsCard

/-- THE TIED CARD OF 'compositorlaw12.BlockItems'. -/
def blockItemsCard : Claim7 := { stood := { row := blockItemsRow, standIns := [], harness := (true, "a2e05f1afdffc1ef4c470386b32fd4f64c25933765b761bb2daafc143ddba591"), looks := false }, kinds := [], alts := [], laidByText := true, laidKinds := [.data, .data, .pinned, .pinned], laidTests := true, laidLooks := .later }
def BlockItemsCardSaid : Prop := Claim7.holds Tryz.pinned (.plain (OpenSpec.ofChange blockItemsSpec)) blockItemsCard

/-- THE TIED CARD OF 'compositorlaw12.BlockDeep'. -/
def blockDeepCard : Claim7 := { stood := { row := blockDeepRow, standIns := [], harness := (true, "a2e05f1afdffc1ef4c470386b32fd4f64c25933765b761bb2daafc143ddba591"), looks := false }, kinds := [], alts := [], laidByText := true, laidKinds := [.data, .data, .pinned, .pinned], laidTests := true, laidLooks := .later }
def BlockDeepCardSaid : Prop := Claim7.holds Tryz.pinned (.plain (OpenSpec.ofChange blockDeepSpec)) blockDeepCard

/-- THE TIED CARD OF 'compositorlaw12.BlockPlain'. -/
def blockPlainCard : Claim7 := { stood := { row := blockPlainRow, standIns := [], harness := (true, "a2e05f1afdffc1ef4c470386b32fd4f64c25933765b761bb2daafc143ddba591"), looks := false }, kinds := [], alts := [], laidByText := true, laidKinds := [.data, .data, .pinned, .pinned], laidTests := true, laidLooks := .later }
def BlockPlainCardSaid : Prop := Claim7.holds Tryz.pinned (.plain (OpenSpec.ofChange blockPlainSpec)) blockPlainCard

/-- THE TIED CARD OF 'compositorlaw12.BlockHeads'. -/
def blockHeadsCard : Claim7 := { stood := { row := blockHeadsRow, standIns := [], harness := (true, "a2e05f1afdffc1ef4c470386b32fd4f64c25933765b761bb2daafc143ddba591"), looks := false }, kinds := [], alts := [], laidByText := true, laidKinds := [.data, .data, .pinned, .pinned], laidTests := true, laidLooks := .later }
def BlockHeadsCardSaid : Prop := Claim7.holds Tryz.pinned (.plain (OpenSpec.ofChange blockHeadsSpec)) blockHeadsCard

/-- THE TIED CARD OF 'compositorlaw12.BlockRefs'. -/
def blockRefsCard : Claim7 := { stood := { row := blockRefsRow, standIns := [], harness := (true, "a2e05f1afdffc1ef4c470386b32fd4f64c25933765b761bb2daafc143ddba591"), looks := false }, kinds := [], alts := [], laidByText := true, laidKinds := [.data, .data, .pinned, .pinned], laidTests := true, laidLooks := .later }
def BlockRefsCardSaid : Prop := Claim7.holds Tryz.pinned (.plain (OpenSpec.ofChange blockRefsSpec)) blockRefsCard

/-- THE SECOND FORM's CARD OF 'compositorlaw12.BlockShapes'. -/
def blockShapesUptoCard : Claim7 := { stood := { row := blockShapesUptoRow, standIns := [], harness := (true, "a2e05f1afdffc1ef4c470386b32fd4f64c25933765b761bb2daafc143ddba591"), looks := false }, kinds := [], alts := [], laidByText := true, laidKinds := [.data, .data, .pinned, .pinned], laidTests := true, laidLooks := .later }
def BlockShapesUptoCardSaid : Prop := Claim7.holds Tryz.pinned (.plain (OpenSpec.upto blockShapesSpec)) blockShapesUptoCard

/-- THE SECOND FORM's CARD OF 'compositorlaw12.BlockQuotes'. -/
def blockQuotesUptoCard : Claim7 := { stood := { row := blockQuotesUptoRow, standIns := [], harness := (true, "a2e05f1afdffc1ef4c470386b32fd4f64c25933765b761bb2daafc143ddba591"), looks := false }, kinds := [], alts := [], laidByText := true, laidKinds := [.data, .data, .pinned, .pinned], laidTests := true, laidLooks := .later }
def BlockQuotesUptoCardSaid : Prop := Claim7.holds Tryz.pinned (.plain (OpenSpec.upto blockQuotesSpec)) blockQuotesUptoCard

/-- THE SECOND FORM's CARD OF 'compositorlaw12.BlockFenced'. -/
def blockFencedUptoCard : Claim7 := { stood := { row := blockFencedUptoRow, standIns := [], harness := (true, "a2e05f1afdffc1ef4c470386b32fd4f64c25933765b761bb2daafc143ddba591"), looks := false }, kinds := [], alts := [], laidByText := true, laidKinds := [.data, .data, .pinned, .pinned], laidTests := true, laidLooks := .later }
def BlockFencedUptoCardSaid : Prop := Claim7.holds Tryz.pinned (.plain (OpenSpec.upto blockFencedSpec)) blockFencedUptoCard

/-- THE SECOND FORM's CARD OF 'compositorlaw12.BlockIndents'. -/
def blockIndentsUptoCard : Claim7 := { stood := { row := blockIndentsUptoRow, standIns := [], harness := (true, "a2e05f1afdffc1ef4c470386b32fd4f64c25933765b761bb2daafc143ddba591"), looks := false }, kinds := [], alts := [], laidByText := true, laidKinds := [.data, .data, .pinned, .pinned], laidTests := true, laidLooks := .later }
def BlockIndentsUptoCardSaid : Prop := Claim7.holds Tryz.pinned (.plain (OpenSpec.upto blockIndentsSpec)) blockIndentsUptoCard

/-- THE SECOND FORM's CARD OF 'compositorlaw12.BlockItems'. -/
def blockItemsUptoCard : Claim7 := { stood := { row := blockItemsUptoRow, standIns := [], harness := (true, "a2e05f1afdffc1ef4c470386b32fd4f64c25933765b761bb2daafc143ddba591"), looks := false }, kinds := [], alts := [], laidByText := true, laidKinds := [.data, .data, .pinned, .pinned], laidTests := true, laidLooks := .later }
def BlockItemsUptoCardSaid : Prop := Claim7.holds Tryz.pinned (.plain (OpenSpec.upto blockItemsSpec)) blockItemsUptoCard

/-- THE SECOND FORM's CARD OF 'compositorlaw12.BlockDeep'. -/
def blockDeepUptoCard : Claim7 := { stood := { row := blockDeepUptoRow, standIns := [], harness := (true, "a2e05f1afdffc1ef4c470386b32fd4f64c25933765b761bb2daafc143ddba591"), looks := false }, kinds := [], alts := [], laidByText := true, laidKinds := [.data, .data, .pinned, .pinned], laidTests := true, laidLooks := .later }
def BlockDeepUptoCardSaid : Prop := Claim7.holds Tryz.pinned (.plain (OpenSpec.upto blockDeepSpec)) blockDeepUptoCard

/-- THE SECOND FORM's CARD OF 'compositorlaw12.BlockPlain'. -/
def blockPlainUptoCard : Claim7 := { stood := { row := blockPlainUptoRow, standIns := [], harness := (true, "a2e05f1afdffc1ef4c470386b32fd4f64c25933765b761bb2daafc143ddba591"), looks := false }, kinds := [], alts := [], laidByText := true, laidKinds := [.data, .data, .pinned, .pinned], laidTests := true, laidLooks := .later }
def BlockPlainUptoCardSaid : Prop := Claim7.holds Tryz.pinned (.plain (OpenSpec.upto blockPlainSpec)) blockPlainUptoCard

/-- THE SECOND FORM's CARD OF 'compositorlaw12.BlockHeads'. -/
def blockHeadsUptoCard : Claim7 := { stood := { row := blockHeadsUptoRow, standIns := [], harness := (true, "a2e05f1afdffc1ef4c470386b32fd4f64c25933765b761bb2daafc143ddba591"), looks := false }, kinds := [], alts := [], laidByText := true, laidKinds := [.data, .data, .pinned, .pinned], laidTests := true, laidLooks := .later }
def BlockHeadsUptoCardSaid : Prop := Claim7.holds Tryz.pinned (.plain (OpenSpec.upto blockHeadsSpec)) blockHeadsUptoCard

/-- THE SECOND FORM's CARD OF 'compositorlaw12.BlockRefs'. -/
def blockRefsUptoCard : Claim7 := { stood := { row := blockRefsUptoRow, standIns := [], harness := (true, "a2e05f1afdffc1ef4c470386b32fd4f64c25933765b761bb2daafc143ddba591"), looks := false }, kinds := [], alts := [], laidByText := true, laidKinds := [.data, .data, .pinned, .pinned], laidTests := true, laidLooks := .later }
def BlockRefsUptoCardSaid : Prop := Claim7.holds Tryz.pinned (.plain (OpenSpec.upto blockRefsSpec)) blockRefsUptoCard
end Rows
end Go.Proofs.YtdelaanaohjnkaaGreatDoor
