/-
  DERIVED. GIVEN WITH THE SEED: THE CARDS: each row of YtggeknhggpdpkaaDoorRows.lean that lists a variable, with what it lists TIED to the program's text (the seventh form; the later family's looks); each row that meets fmt, with fmt's text TOLD by the authors' own Lean function (tested against real Go, not proved from fmt's source: count such statements apart). THE CARD IS WHAT COUNTS. Prove the row's statement (the work); the ties are given (YtggeknhggpdpkaaDoorTie.lean); close each card by the builder's one call (the guide's Derived/Test/ToyasCard.lean, 'card_holds'). Laid BY PROGRAM, IN A SANDBOX (cutbox-door.mjs). By AI agents, Wed Nov 11 2026. No macro, syntax, notation, axiom, sorry.
-/
import Derived.Test.YtggeknhggpdpkaaDoorRows
import GoSem.ClaimSeven
namespace Go.Proofs.YtggeknhggpdpkaaDoor
namespace Rows

/-- THE TIED CARD OF 'compositorlaw11.RawOwn'. -/
def rawOwnCard : Claim7 := { stood := { row := rawOwnRow, standIns := [], harness := (true, "d4c21769285286a752876c0d1f72f90b93d3136d0ae63e5c5025dc25df8fdc24"), looks := false }, kinds := [], alts := [], laidByText := true, laidKinds := [.data, .pinned], laidTests := true, laidLooks := .later }
def RawOwnCardSaid : Prop := Claim7.holds Tryd.pinned (.plain (OpenSpec.ofChange rawOwnSpec)) rawOwnCard

/-- THE TIED CARD OF 'compositorlaw11.RawCodes'. -/
def rawCodesCard : Claim7 := { stood := { row := rawCodesRow, standIns := [], harness := (true, "d4c21769285286a752876c0d1f72f90b93d3136d0ae63e5c5025dc25df8fdc24"), looks := false }, kinds := [], alts := [], laidByText := true, laidKinds := [.data, .pinned], laidTests := true, laidLooks := .later }
def RawCodesCardSaid : Prop := Claim7.holds Tryd.pinned (.plain (OpenSpec.ofChange rawCodesSpec)) rawCodesCard

/-- THE TIED CARD OF 'compositorlaw11.RawAutos'. -/
def rawAutosCard : Claim7 := { stood := { row := rawAutosRow, standIns := [], harness := (true, "d4c21769285286a752876c0d1f72f90b93d3136d0ae63e5c5025dc25df8fdc24"), looks := false }, kinds := [], alts := [], laidByText := true, laidKinds := [.data, .pinned], laidTests := true, laidLooks := .later }
def RawAutosCardSaid : Prop := Claim7.holds Tryd.pinned (.plain (OpenSpec.ofChange rawAutosSpec)) rawAutosCard

/-- THE SECOND FORM's CARD OF 'compositorlaw11.RawOwn'. -/
def rawOwnUptoCard : Claim7 := { stood := { row := rawOwnUptoRow, standIns := [], harness := (true, "d4c21769285286a752876c0d1f72f90b93d3136d0ae63e5c5025dc25df8fdc24"), looks := false }, kinds := [], alts := [], laidByText := true, laidKinds := [.data, .pinned], laidTests := true, laidLooks := .later }
def RawOwnUptoCardSaid : Prop := Claim7.holds Tryd.pinned (.plain (OpenSpec.upto rawOwnSpec)) rawOwnUptoCard

/-- THE SECOND FORM's CARD OF 'compositorlaw11.RawCodes'. -/
def rawCodesUptoCard : Claim7 := { stood := { row := rawCodesUptoRow, standIns := [], harness := (true, "d4c21769285286a752876c0d1f72f90b93d3136d0ae63e5c5025dc25df8fdc24"), looks := false }, kinds := [], alts := [], laidByText := true, laidKinds := [.data, .pinned], laidTests := true, laidLooks := .later }
def RawCodesUptoCardSaid : Prop := Claim7.holds Tryd.pinned (.plain (OpenSpec.upto rawCodesSpec)) rawCodesUptoCard

/-- THE SECOND FORM's CARD OF 'compositorlaw11.RawAutos'. -/
def rawAutosUptoCard : Claim7 := { stood := { row := rawAutosUptoRow, standIns := [], harness := (true, "d4c21769285286a752876c0d1f72f90b93d3136d0ae63e5c5025dc25df8fdc24"), looks := false }, kinds := [], alts := [], laidByText := true, laidKinds := [.data, .pinned], laidTests := true, laidLooks := .later }
def RawAutosUptoCardSaid : Prop := Claim7.holds Tryd.pinned (.plain (OpenSpec.upto rawAutosSpec)) rawAutosUptoCard
end Rows
end Go.Proofs.YtggeknhggpdpkaaDoor
