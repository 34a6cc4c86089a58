/-
  DERIVED. GIVEN WITH THE SEED: THE CARDS: each row of YtmljngahlkhihaaDoorRows.lean that lists a variable, with what it lists TIED to the program's text (the seventh form; the later family's looks); each row that meets fmt, with fmt's text TOLD by the authors' own Lean function (tested against real Go, not proved from fmt's source: count such statements apart). THE CARD IS WHAT COUNTS. Prove the row's statement (the work); the ties are given (YtmljngahlkhihaaDoorTie.lean); close each card by the builder's one call (the guide's Derived/Test/ToyasCard.lean, 'card_holds'). Laid BY PROGRAM, IN A SANDBOX (cutbox-door.mjs). By AI agents, Wed Nov 11 2026. No macro, syntax, notation, axiom, sorry.
-/
import Derived.Test.YtmljngahlkhihaaDoorRows
import GoSem.ClaimSeven
namespace Go.Proofs.YtmljngahlkhihaaDoor
namespace Rows

/-- THE TIED CARD OF 'compositorlaw06.NamedTells'. -/
def namedTellsCard : Claim7 := { stood := { row := namedTellsRow, standIns := [], harness := (true, "1ccb0b1424402e78b3609e723c3676c9852b53b36d32b86280fd29883fd75dc8"), looks := false }, kinds := [], alts := [], laidByText := true, laidKinds := [.data], laidTests := true, laidLooks := .later }
def NamedTellsCardSaid : Prop := Claim7.holds Tryd.pinned (.plain (OpenSpec.ofChange namedTellsSpec)) namedTellsCard

/-- THE TIED CARD OF 'compositorlaw06.NamedHides'. -/
def namedHidesCard : Claim7 := { stood := { row := namedHidesRow, standIns := [], harness := (true, "1ccb0b1424402e78b3609e723c3676c9852b53b36d32b86280fd29883fd75dc8"), looks := false }, kinds := [], alts := [], laidByText := true, laidKinds := [.data], laidTests := true, laidLooks := .later }
def NamedHidesCardSaid : Prop := Claim7.holds Tryd.pinned (.plain (OpenSpec.ofChange namedHidesSpec)) namedHidesCard

/-- THE TIED CARD OF 'compositorlaw06.NamedNumbers'. -/
def namedNumbersCard : Claim7 := { stood := { row := namedNumbersRow, standIns := [], harness := (true, "1ccb0b1424402e78b3609e723c3676c9852b53b36d32b86280fd29883fd75dc8"), looks := false }, kinds := [], alts := [], laidByText := true, laidKinds := [.data], laidTests := true, laidLooks := .later }
def NamedNumbersCardSaid : Prop := Claim7.holds Tryd.pinned (.plain (OpenSpec.ofChange namedNumbersSpec)) namedNumbersCard

/-- THE TIED CARD OF 'compositorlaw06.NamedOwn'. -/
def namedOwnCard : Claim7 := { stood := { row := namedOwnRow, standIns := [], harness := (true, "1ccb0b1424402e78b3609e723c3676c9852b53b36d32b86280fd29883fd75dc8"), looks := false }, kinds := [], alts := [], laidByText := true, laidKinds := [.data], laidTests := true, laidLooks := .later }
def NamedOwnCardSaid : Prop := Claim7.holds Tryd.pinned (.plain (OpenSpec.ofChange namedOwnSpec)) namedOwnCard

/-- THE SECOND FORM's CARD OF 'compositorlaw06.NamedTells'. -/
def namedTellsUptoCard : Claim7 := { stood := { row := namedTellsUptoRow, standIns := [], harness := (true, "1ccb0b1424402e78b3609e723c3676c9852b53b36d32b86280fd29883fd75dc8"), looks := false }, kinds := [], alts := [], laidByText := true, laidKinds := [.data], laidTests := true, laidLooks := .later }
def NamedTellsUptoCardSaid : Prop := Claim7.holds Tryd.pinned (.plain (OpenSpec.upto namedTellsSpec)) namedTellsUptoCard

/-- THE SECOND FORM's CARD OF 'compositorlaw06.NamedHides'. -/
def namedHidesUptoCard : Claim7 := { stood := { row := namedHidesUptoRow, standIns := [], harness := (true, "1ccb0b1424402e78b3609e723c3676c9852b53b36d32b86280fd29883fd75dc8"), looks := false }, kinds := [], alts := [], laidByText := true, laidKinds := [.data], laidTests := true, laidLooks := .later }
def NamedHidesUptoCardSaid : Prop := Claim7.holds Tryd.pinned (.plain (OpenSpec.upto namedHidesSpec)) namedHidesUptoCard

/-- THE SECOND FORM's CARD OF 'compositorlaw06.NamedNumbers'. -/
def namedNumbersUptoCard : Claim7 := { stood := { row := namedNumbersUptoRow, standIns := [], harness := (true, "1ccb0b1424402e78b3609e723c3676c9852b53b36d32b86280fd29883fd75dc8"), looks := false }, kinds := [], alts := [], laidByText := true, laidKinds := [.data], laidTests := true, laidLooks := .later }
def NamedNumbersUptoCardSaid : Prop := Claim7.holds Tryd.pinned (.plain (OpenSpec.upto namedNumbersSpec)) namedNumbersUptoCard

/-- THE SECOND FORM's CARD OF 'compositorlaw06.NamedOwn'. -/
def namedOwnUptoCard : Claim7 := { stood := { row := namedOwnUptoRow, standIns := [], harness := (true, "1ccb0b1424402e78b3609e723c3676c9852b53b36d32b86280fd29883fd75dc8"), looks := false }, kinds := [], alts := [], laidByText := true, laidKinds := [.data], laidTests := true, laidLooks := .later }
def NamedOwnUptoCardSaid : Prop := Claim7.holds Tryd.pinned (.plain (OpenSpec.upto namedOwnSpec)) namedOwnUptoCard
end Rows
end Go.Proofs.YtmljngahlkhihaaDoor
