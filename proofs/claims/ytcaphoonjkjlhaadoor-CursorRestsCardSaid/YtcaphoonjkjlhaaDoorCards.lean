/-
  DERIVED. GIVEN WITH THE SEED: THE CARDS: each row of YtcaphoonjkjlhaaDoorRows.lean that lists a variable, with what it lists TIED to the program's text (the seventh form; the later family's looks); each row that meets fmt, with fmt's text TOLD by the authors' own Lean function (tested against real Go, not proved from fmt's source: count such statements apart). THE CARD IS WHAT COUNTS. Prove the row's statement (the work); the ties are given (YtcaphoonjkjlhaaDoorTie.lean); close each card by the builder's one call (the guide's Derived/Test/ToyasCard.lean, 'card_holds'). Laid BY PROGRAM, IN A SANDBOX (cutbox-door.mjs). By AI agents, Wed Nov 11 2026. No macro, syntax, notation, axiom, sorry.
-/
import Derived.Test.YtcaphoonjkjlhaaDoorRows
import GoSem.ClaimSeven
namespace Go.Proofs.YtcaphoonjkjlhaaDoor
namespace Rows

/-- THE TIED CARD OF 'compositorlaw07.CursorParts'. -/
def cursorPartsCard : Claim7 := { stood := { row := cursorPartsRow, standIns := [], harness := (true, "0e28781103fd61f5140010deb695b30073b217cd5b7875634c4449658c4e4f63"), looks := false }, kinds := [], alts := [], laidByText := true, laidKinds := [.data, .pinned], laidTests := true, laidLooks := .later }
def CursorPartsCardSaid : Prop := Claim7.holds Tryd.pinned (.plain (OpenSpec.ofChange cursorPartsSpec)) cursorPartsCard

/-- THE TIED CARD OF 'compositorlaw07.CursorRests'. -/
def cursorRestsCard : Claim7 := { stood := { row := cursorRestsRow, standIns := [], harness := (true, "0e28781103fd61f5140010deb695b30073b217cd5b7875634c4449658c4e4f63"), looks := false }, kinds := [], alts := [], laidByText := true, laidKinds := [.data, .pinned], laidTests := true, laidLooks := .later }
def CursorRestsCardSaid : Prop := Claim7.holds Tryd.pinned (.plain (OpenSpec.ofChange cursorRestsSpec)) cursorRestsCard

/-- THE TIED CARD OF 'compositorlaw07.CursorTabs'. -/
def cursorTabsCard : Claim7 := { stood := { row := cursorTabsRow, standIns := [], harness := (true, "0e28781103fd61f5140010deb695b30073b217cd5b7875634c4449658c4e4f63"), looks := false }, kinds := [], alts := [], laidByText := true, laidKinds := [.data, .pinned], laidTests := true, laidLooks := .later }
def CursorTabsCardSaid : Prop := Claim7.holds Tryd.pinned (.plain (OpenSpec.ofChange cursorTabsSpec)) cursorTabsCard

/-- THE SECOND FORM's CARD OF 'compositorlaw07.CursorParts'. -/
def cursorPartsUptoCard : Claim7 := { stood := { row := cursorPartsUptoRow, standIns := [], harness := (true, "0e28781103fd61f5140010deb695b30073b217cd5b7875634c4449658c4e4f63"), looks := false }, kinds := [], alts := [], laidByText := true, laidKinds := [.data, .pinned], laidTests := true, laidLooks := .later }
def CursorPartsUptoCardSaid : Prop := Claim7.holds Tryd.pinned (.plain (OpenSpec.upto cursorPartsSpec)) cursorPartsUptoCard

/-- THE SECOND FORM's CARD OF 'compositorlaw07.CursorRests'. -/
def cursorRestsUptoCard : Claim7 := { stood := { row := cursorRestsUptoRow, standIns := [], harness := (true, "0e28781103fd61f5140010deb695b30073b217cd5b7875634c4449658c4e4f63"), looks := false }, kinds := [], alts := [], laidByText := true, laidKinds := [.data, .pinned], laidTests := true, laidLooks := .later }
def CursorRestsUptoCardSaid : Prop := Claim7.holds Tryd.pinned (.plain (OpenSpec.upto cursorRestsSpec)) cursorRestsUptoCard

/-- THE SECOND FORM's CARD OF 'compositorlaw07.CursorTabs'. -/
def cursorTabsUptoCard : Claim7 := { stood := { row := cursorTabsUptoRow, standIns := [], harness := (true, "0e28781103fd61f5140010deb695b30073b217cd5b7875634c4449658c4e4f63"), looks := false }, kinds := [], alts := [], laidByText := true, laidKinds := [.data, .pinned], laidTests := true, laidLooks := .later }
def CursorTabsUptoCardSaid : Prop := Claim7.holds Tryd.pinned (.plain (OpenSpec.upto cursorTabsSpec)) cursorTabsUptoCard
end Rows
end Go.Proofs.YtcaphoonjkjlhaaDoor
