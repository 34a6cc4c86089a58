/-
  DERIVED. GIVEN WITH THE SEED: THE CARDS: each row of YtfpfjaedoafnpaaDoorRows.lean that lists a variable, with what it lists TIED to the program's text (the seventh form; the later family's looks); each row that meets fmt, with fmt's text TOLD by the authors' own Lean function (tested against real Go, not proved from fmt's source: count such statements apart). THE CARD IS WHAT COUNTS. Prove the row's statement (the work); the ties are given (YtfpfjaedoafnpaaDoorTie.lean); close each card by the builder's one call (the guide's Derived/Test/ToyasCard.lean, 'card_holds'). Laid BY PROGRAM, IN A SANDBOX (cutbox-door.mjs). By AI agents, Wed Nov 11 2026. No macro, syntax, notation, axiom, sorry.
-/
import Derived.Test.YtfpfjaedoafnpaaDoorRows
import GoSem.ClaimSeven
namespace Go.Proofs.YtfpfjaedoafnpaaDoor
namespace Rows

/-- THE TIED CARD OF 'compositorlaw01.FixWrites'. -/
def fixWritesCard : Claim7 := { stood := { row := fixWritesRow, standIns := [], harness := (true, "99e36aa3a062ad907a701c87ac2f7cce8bd12a5d45d667cf68d584a30b727966"), looks := false }, kinds := [], alts := [], laidByText := true, laidKinds := [.data, .data, .data, .data, .pinned], laidTests := true, laidLooks := .later }
def FixWritesCardSaid : Prop := Claim7.holds Tryd.pinned (.plain (OpenSpec.ofChange fixWritesSpec)) fixWritesCard

/-- THE TIED CARD OF 'compositorlaw01.FixBack'. -/
def fixBackCard : Claim7 := { stood := { row := fixBackRow, standIns := [], harness := (true, "99e36aa3a062ad907a701c87ac2f7cce8bd12a5d45d667cf68d584a30b727966"), looks := false }, kinds := [], alts := [], laidByText := true, laidKinds := [.data, .data, .data, .data, .pinned], laidTests := true, laidLooks := .later }
def FixBackCardSaid : Prop := Claim7.holds Tryd.pinned (.plain (OpenSpec.ofChange fixBackSpec)) fixBackCard

/-- THE TIED CARD OF 'compositorlaw01.FixGrades'. -/
def fixGradesCard : Claim7 := { stood := { row := fixGradesRow, standIns := [], harness := (true, "99e36aa3a062ad907a701c87ac2f7cce8bd12a5d45d667cf68d584a30b727966"), looks := false }, kinds := [], alts := [], laidByText := true, laidKinds := [.data, .data, .data, .data, .pinned], laidTests := true, laidLooks := .later }
def FixGradesCardSaid : Prop := Claim7.holds Tryd.pinned (.plain (OpenSpec.ofChange fixGradesSpec)) fixGradesCard

/-- THE TIED CARD OF 'compositorlaw01.FixOrder'. -/
def fixOrderCard : Claim7 := { stood := { row := fixOrderRow, standIns := [], harness := (true, "99e36aa3a062ad907a701c87ac2f7cce8bd12a5d45d667cf68d584a30b727966"), looks := false }, kinds := [], alts := [], laidByText := true, laidKinds := [.data, .data, .data, .data, .pinned], laidTests := true, laidLooks := .later }
def FixOrderCardSaid : Prop := Claim7.holds Tryd.pinned (.plain (OpenSpec.ofChange fixOrderSpec)) fixOrderCard

/-- THE SECOND FORM's CARD OF 'compositorlaw01.FixWrites'. -/
def fixWritesUptoCard : Claim7 := { stood := { row := fixWritesUptoRow, standIns := [], harness := (true, "99e36aa3a062ad907a701c87ac2f7cce8bd12a5d45d667cf68d584a30b727966"), looks := false }, kinds := [], alts := [], laidByText := true, laidKinds := [.data, .data, .data, .data, .pinned], laidTests := true, laidLooks := .later }
def FixWritesUptoCardSaid : Prop := Claim7.holds Tryd.pinned (.plain (OpenSpec.upto fixWritesSpec)) fixWritesUptoCard

/-- THE SECOND FORM's CARD OF 'compositorlaw01.FixBack'. -/
def fixBackUptoCard : Claim7 := { stood := { row := fixBackUptoRow, standIns := [], harness := (true, "99e36aa3a062ad907a701c87ac2f7cce8bd12a5d45d667cf68d584a30b727966"), looks := false }, kinds := [], alts := [], laidByText := true, laidKinds := [.data, .data, .data, .data, .pinned], laidTests := true, laidLooks := .later }
def FixBackUptoCardSaid : Prop := Claim7.holds Tryd.pinned (.plain (OpenSpec.upto fixBackSpec)) fixBackUptoCard

/-- THE SECOND FORM's CARD OF 'compositorlaw01.FixGrades'. -/
def fixGradesUptoCard : Claim7 := { stood := { row := fixGradesUptoRow, standIns := [], harness := (true, "99e36aa3a062ad907a701c87ac2f7cce8bd12a5d45d667cf68d584a30b727966"), looks := false }, kinds := [], alts := [], laidByText := true, laidKinds := [.data, .data, .data, .data, .pinned], laidTests := true, laidLooks := .later }
def FixGradesUptoCardSaid : Prop := Claim7.holds Tryd.pinned (.plain (OpenSpec.upto fixGradesSpec)) fixGradesUptoCard

/-- THE SECOND FORM's CARD OF 'compositorlaw01.FixOrder'. -/
def fixOrderUptoCard : Claim7 := { stood := { row := fixOrderUptoRow, standIns := [], harness := (true, "99e36aa3a062ad907a701c87ac2f7cce8bd12a5d45d667cf68d584a30b727966"), looks := false }, kinds := [], alts := [], laidByText := true, laidKinds := [.data, .data, .data, .data, .pinned], laidTests := true, laidLooks := .later }
def FixOrderUptoCardSaid : Prop := Claim7.holds Tryd.pinned (.plain (OpenSpec.upto fixOrderSpec)) fixOrderUptoCard
end Rows
end Go.Proofs.YtfpfjaedoafnpaaDoor
