/-
  DERIVED. GIVEN WITH THE SEED: THE CARDS: each row of YtdpjfdandeikmaaDoorRows.lean that lists a variable, with what it lists TIED to the program's text (the seventh form; the later family's looks); each row that meets fmt, with fmt's text TOLD by the authors' own Lean function (tested against real Go, not proved from fmt's source: count such statements apart). THE CARD IS WHAT COUNTS. Prove the row's statement (the work); the ties are given (YtdpjfdandeikmaaDoorTie.lean); close each card by the builder's one call (the guide's Derived/Test/ToyasCard.lean, 'card_holds'). Laid BY PROGRAM, IN A SANDBOX (cutbox-door.mjs). By AI agents, Wed Nov 11 2026. No macro, syntax, notation, axiom, sorry.
-/
import Derived.Test.YtdpjfdandeikmaaDoorRows
import GoSem.ClaimSeven
namespace Go.Proofs.YtdpjfdandeikmaaDoor
namespace Rows

/-- THE TIED CARD OF 'compositorlaw09.TargetBack'. -/
def targetBackCard : Claim7 := { stood := { row := targetBackRow, standIns := [], harness := (true, "fe188bab98261b0ff8ef5585d1a4a051e5d2d83c249b4b9c46685cc78cad7313"), looks := false }, kinds := [], alts := [], laidByText := true, laidKinds := [.data], laidTests := true, laidLooks := .later }
def TargetBackCardSaid : Prop := Claim7.holds Tryd.pinned (.plain (OpenSpec.ofChange targetBackSpec)) targetBackCard

/-- THE TIED CARD OF 'compositorlaw09.TargetPlain'. -/
def targetPlainCard : Claim7 := { stood := { row := targetPlainRow, standIns := [], harness := (true, "fe188bab98261b0ff8ef5585d1a4a051e5d2d83c249b4b9c46685cc78cad7313"), looks := false }, kinds := [], alts := [], laidByText := true, laidKinds := [.data], laidTests := true, laidLooks := .later }
def TargetPlainCardSaid : Prop := Claim7.holds Tryd.pinned (.plain (OpenSpec.ofChange targetPlainSpec)) targetPlainCard

/-- THE SECOND FORM's CARD OF 'compositorlaw09.TargetBack'. -/
def targetBackUptoCard : Claim7 := { stood := { row := targetBackUptoRow, standIns := [], harness := (true, "fe188bab98261b0ff8ef5585d1a4a051e5d2d83c249b4b9c46685cc78cad7313"), looks := false }, kinds := [], alts := [], laidByText := true, laidKinds := [.data], laidTests := true, laidLooks := .later }
def TargetBackUptoCardSaid : Prop := Claim7.holds Tryd.pinned (.plain (OpenSpec.upto targetBackSpec)) targetBackUptoCard

/-- THE SECOND FORM's CARD OF 'compositorlaw09.TargetPlain'. -/
def targetPlainUptoCard : Claim7 := { stood := { row := targetPlainUptoRow, standIns := [], harness := (true, "fe188bab98261b0ff8ef5585d1a4a051e5d2d83c249b4b9c46685cc78cad7313"), looks := false }, kinds := [], alts := [], laidByText := true, laidKinds := [.data], laidTests := true, laidLooks := .later }
def TargetPlainUptoCardSaid : Prop := Claim7.holds Tryd.pinned (.plain (OpenSpec.upto targetPlainSpec)) targetPlainUptoCard
end Rows
end Go.Proofs.YtdpjfdandeikmaaDoor
