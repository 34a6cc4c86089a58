/-
  DERIVED. GIVEN WITH THE SEED: THE CARDS: each row of YtfgpephpkibbaaaGreatDoorRows.lean that lists a variable, with what it lists TIED to the program's text (the seventh form; the later family's looks); each row that meets fmt, with fmt's text TOLD by the authors' own Lean function (tested against real Go, not proved from fmt's source: count such statements apart). THE CARD IS WHAT COUNTS. Prove the row's statement (the work); the ties are given (YtfgpephpkibbaaaGreatDoorTie.lean); close each card by the builder's one call (the guide's Derived/Test/ToyasCard.lean, 'card_holds'). Laid BY PROGRAM, IN A SANDBOX (cutbox-door.mjs). By AI agents, Wed Nov 11 2026. No macro, syntax, notation, axiom, sorry.
-/
import Derived.Test.YtfgpephpkibbaaaGreatDoorRows
import GoSem.ClaimSeven
namespace Go.Proofs.YtfgpephpkibbaaaGreatDoor
namespace Rows

/-- THE TIED CARD OF 'compositorlaw12.BlockShapes'. -/
def blockShapesCard : Claim7 := { stood := { row := blockShapesRow, standIns := [], harness := (true, "06049ac0ca951eb8fdb6241f3d43046f93a937a48cf58ba78ace51ac7c3d9974"), looks := false }, kinds := [], alts := [], laidByText := true, laidKinds := [.data, .data, .pinned, .pinned], laidTests := true, laidLooks := .later }
def BlockShapesCardSaid : Prop := Claim7.holds Tryz.pinned (.plain (OpenSpec.ofChange blockShapesSpec)) blockShapesCard

/-- THE TIED CARD OF 'compositorlaw12.BlockQuotes'. -/
def blockQuotesCard : Claim7 := { stood := { row := blockQuotesRow, standIns := [], harness := (true, "06049ac0ca951eb8fdb6241f3d43046f93a937a48cf58ba78ace51ac7c3d9974"), looks := false }, kinds := [], alts := [], laidByText := true, laidKinds := [.data, .data, .pinned, .pinned], laidTests := true, laidLooks := .later }
def BlockQuotesCardSaid : Prop := Claim7.holds Tryz.pinned (.plain (OpenSpec.ofChange blockQuotesSpec)) blockQuotesCard

/-- THE TIED CARD OF 'compositorlaw12.BlockFenced'. -/
def blockFencedCard : Claim7 := { stood := { row := blockFencedRow, standIns := [], harness := (true, "06049ac0ca951eb8fdb6241f3d43046f93a937a48cf58ba78ace51ac7c3d9974"), looks := false }, kinds := [], alts := [], laidByText := true, laidKinds := [.data, .data, .pinned, .pinned], laidTests := true, laidLooks := .later }
def BlockFencedCardSaid : Prop := Claim7.holds Tryz.pinned (.plain (OpenSpec.ofChange blockFencedSpec)) blockFencedCard

/-- THE TIED CARD OF 'compositorlaw12.BlockRefs'. -/
def blockRefsCard : Claim7 := { stood := { row := blockRefsRow, standIns := [], harness := (true, "06049ac0ca951eb8fdb6241f3d43046f93a937a48cf58ba78ace51ac7c3d9974"), looks := false }, kinds := [], alts := [], laidByText := true, laidKinds := [.data, .data, .pinned, .pinned], laidTests := true, laidLooks := .later }
def BlockRefsCardSaid : Prop := Claim7.holds Tryz.pinned (.plain (OpenSpec.ofChange blockRefsSpec)) blockRefsCard

/-- THE SECOND FORM's CARD OF 'compositorlaw12.BlockShapes'. -/
def blockShapesUptoCard : Claim7 := { stood := { row := blockShapesUptoRow, standIns := [], harness := (true, "06049ac0ca951eb8fdb6241f3d43046f93a937a48cf58ba78ace51ac7c3d9974"), looks := false }, kinds := [], alts := [], laidByText := true, laidKinds := [.data, .data, .pinned, .pinned], laidTests := true, laidLooks := .later }
def BlockShapesUptoCardSaid : Prop := Claim7.holds Tryz.pinned (.plain (OpenSpec.upto blockShapesSpec)) blockShapesUptoCard

/-- THE SECOND FORM's CARD OF 'compositorlaw12.BlockQuotes'. -/
def blockQuotesUptoCard : Claim7 := { stood := { row := blockQuotesUptoRow, standIns := [], harness := (true, "06049ac0ca951eb8fdb6241f3d43046f93a937a48cf58ba78ace51ac7c3d9974"), looks := false }, kinds := [], alts := [], laidByText := true, laidKinds := [.data, .data, .pinned, .pinned], laidTests := true, laidLooks := .later }
def BlockQuotesUptoCardSaid : Prop := Claim7.holds Tryz.pinned (.plain (OpenSpec.upto blockQuotesSpec)) blockQuotesUptoCard

/-- THE SECOND FORM's CARD OF 'compositorlaw12.BlockFenced'. -/
def blockFencedUptoCard : Claim7 := { stood := { row := blockFencedUptoRow, standIns := [], harness := (true, "06049ac0ca951eb8fdb6241f3d43046f93a937a48cf58ba78ace51ac7c3d9974"), looks := false }, kinds := [], alts := [], laidByText := true, laidKinds := [.data, .data, .pinned, .pinned], laidTests := true, laidLooks := .later }
def BlockFencedUptoCardSaid : Prop := Claim7.holds Tryz.pinned (.plain (OpenSpec.upto blockFencedSpec)) blockFencedUptoCard

/-- THE SECOND FORM's CARD OF 'compositorlaw12.BlockRefs'. -/
def blockRefsUptoCard : Claim7 := { stood := { row := blockRefsUptoRow, standIns := [], harness := (true, "06049ac0ca951eb8fdb6241f3d43046f93a937a48cf58ba78ace51ac7c3d9974"), looks := false }, kinds := [], alts := [], laidByText := true, laidKinds := [.data, .data, .pinned, .pinned], laidTests := true, laidLooks := .later }
def BlockRefsUptoCardSaid : Prop := Claim7.holds Tryz.pinned (.plain (OpenSpec.upto blockRefsSpec)) blockRefsUptoCard
end Rows
end Go.Proofs.YtfgpephpkibbaaaGreatDoor
