/-
  DERIVED. GIVEN WITH THE SEED: THE CARDS: each row of YtjfhbfnagcjdmaaDoorRows.lean that lists a variable, with what it lists TIED to the program's text (the seventh form; the later family's looks); each row that meets fmt, with fmt's text TOLD by the authors' own Lean function (tested against real Go, not proved from fmt's source: count such statements apart). THE CARD IS WHAT COUNTS. Prove the row's statement (the work); the ties are given (YtjfhbfnagcjdmaaDoorTie.lean); close each card by the builder's one call (the guide's Derived/Test/ToyasCard.lean, 'card_holds'). Laid BY PROGRAM, IN A SANDBOX (cutbox-door.mjs). By AI agents, Wed Nov 11 2026. No macro, syntax, notation, axiom, sorry.
-/
import Derived.Test.YtjfhbfnagcjdmaaDoorRows
import GoSem.ClaimSeven
namespace Go.Proofs.YtjfhbfnagcjdmaaDoor
namespace Rows

/-- THE TIED CARD OF 'compositorlaw08.MarkHeadings'. -/
def markHeadingsCard : Claim7 := { stood := { row := markHeadingsRow, standIns := [], harness := (true, "84d0a7bdbaf345fa5550ca8c4f341b0e0fc3b3310f04a0e0b1dd096c2c2d7314"), looks := false }, kinds := [], alts := [], laidByText := true, laidKinds := [.data, .data, .pinned, .pinned], laidTests := true, laidLooks := .later }
def MarkHeadingsCardSaid : Prop := Claim7.holds Tryd.pinned (.plain (OpenSpec.ofChange markHeadingsSpec)) markHeadingsCard

/-- THE TIED CARD OF 'compositorlaw08.MarkFences'. -/
def markFencesCard : Claim7 := { stood := { row := markFencesRow, standIns := [], harness := (true, "84d0a7bdbaf345fa5550ca8c4f341b0e0fc3b3310f04a0e0b1dd096c2c2d7314"), looks := false }, kinds := [], alts := [], laidByText := true, laidKinds := [.data, .data, .pinned, .pinned], laidTests := true, laidLooks := .later }
def MarkFencesCardSaid : Prop := Claim7.holds Tryd.pinned (.plain (OpenSpec.ofChange markFencesSpec)) markFencesCard

/-- THE TIED CARD OF 'compositorlaw08.MarkLists'. -/
def markListsCard : Claim7 := { stood := { row := markListsRow, standIns := [], harness := (true, "84d0a7bdbaf345fa5550ca8c4f341b0e0fc3b3310f04a0e0b1dd096c2c2d7314"), looks := false }, kinds := [], alts := [], laidByText := true, laidKinds := [.data, .data, .pinned, .pinned], laidTests := true, laidLooks := .later }
def MarkListsCardSaid : Prop := Claim7.holds Tryd.pinned (.plain (OpenSpec.ofChange markListsSpec)) markListsCard

/-- THE TIED CARD OF 'compositorlaw08.MarkRules'. -/
def markRulesCard : Claim7 := { stood := { row := markRulesRow, standIns := [], harness := (true, "84d0a7bdbaf345fa5550ca8c4f341b0e0fc3b3310f04a0e0b1dd096c2c2d7314"), looks := false }, kinds := [], alts := [], laidByText := true, laidKinds := [.data, .data, .pinned, .pinned], laidTests := true, laidLooks := .later }
def MarkRulesCardSaid : Prop := Claim7.holds Tryd.pinned (.plain (OpenSpec.ofChange markRulesSpec)) markRulesCard

/-- THE TIED CARD OF 'compositorlaw08.MarkUnders'. -/
def markUndersCard : Claim7 := { stood := { row := markUndersRow, standIns := [], harness := (true, "84d0a7bdbaf345fa5550ca8c4f341b0e0fc3b3310f04a0e0b1dd096c2c2d7314"), looks := false }, kinds := [], alts := [], laidByText := true, laidKinds := [.data, .data, .pinned, .pinned], laidTests := true, laidLooks := .later }
def MarkUndersCardSaid : Prop := Claim7.holds Tryd.pinned (.plain (OpenSpec.ofChange markUndersSpec)) markUndersCard

/-- THE SECOND FORM's CARD OF 'compositorlaw08.MarkHeadings'. -/
def markHeadingsUptoCard : Claim7 := { stood := { row := markHeadingsUptoRow, standIns := [], harness := (true, "84d0a7bdbaf345fa5550ca8c4f341b0e0fc3b3310f04a0e0b1dd096c2c2d7314"), looks := false }, kinds := [], alts := [], laidByText := true, laidKinds := [.data, .data, .pinned, .pinned], laidTests := true, laidLooks := .later }
def MarkHeadingsUptoCardSaid : Prop := Claim7.holds Tryd.pinned (.plain (OpenSpec.upto markHeadingsSpec)) markHeadingsUptoCard

/-- THE SECOND FORM's CARD OF 'compositorlaw08.MarkFences'. -/
def markFencesUptoCard : Claim7 := { stood := { row := markFencesUptoRow, standIns := [], harness := (true, "84d0a7bdbaf345fa5550ca8c4f341b0e0fc3b3310f04a0e0b1dd096c2c2d7314"), looks := false }, kinds := [], alts := [], laidByText := true, laidKinds := [.data, .data, .pinned, .pinned], laidTests := true, laidLooks := .later }
def MarkFencesUptoCardSaid : Prop := Claim7.holds Tryd.pinned (.plain (OpenSpec.upto markFencesSpec)) markFencesUptoCard

/-- THE SECOND FORM's CARD OF 'compositorlaw08.MarkLists'. -/
def markListsUptoCard : Claim7 := { stood := { row := markListsUptoRow, standIns := [], harness := (true, "84d0a7bdbaf345fa5550ca8c4f341b0e0fc3b3310f04a0e0b1dd096c2c2d7314"), looks := false }, kinds := [], alts := [], laidByText := true, laidKinds := [.data, .data, .pinned, .pinned], laidTests := true, laidLooks := .later }
def MarkListsUptoCardSaid : Prop := Claim7.holds Tryd.pinned (.plain (OpenSpec.upto markListsSpec)) markListsUptoCard

/-- THE SECOND FORM's CARD OF 'compositorlaw08.MarkRules'. -/
def markRulesUptoCard : Claim7 := { stood := { row := markRulesUptoRow, standIns := [], harness := (true, "84d0a7bdbaf345fa5550ca8c4f341b0e0fc3b3310f04a0e0b1dd096c2c2d7314"), looks := false }, kinds := [], alts := [], laidByText := true, laidKinds := [.data, .data, .pinned, .pinned], laidTests := true, laidLooks := .later }
def MarkRulesUptoCardSaid : Prop := Claim7.holds Tryd.pinned (.plain (OpenSpec.upto markRulesSpec)) markRulesUptoCard

/-- THE SECOND FORM's CARD OF 'compositorlaw08.MarkUnders'. -/
def markUndersUptoCard : Claim7 := { stood := { row := markUndersUptoRow, standIns := [], harness := (true, "84d0a7bdbaf345fa5550ca8c4f341b0e0fc3b3310f04a0e0b1dd096c2c2d7314"), looks := false }, kinds := [], alts := [], laidByText := true, laidKinds := [.data, .data, .pinned, .pinned], laidTests := true, laidLooks := .later }
def MarkUndersUptoCardSaid : Prop := Claim7.holds Tryd.pinned (.plain (OpenSpec.upto markUndersSpec)) markUndersUptoCard
end Rows
end Go.Proofs.YtjfhbfnagcjdmaaDoor
