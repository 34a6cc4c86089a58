/-
  DERIVED. GIVEN WITH THE SEED: THE CARDS: each row of YtolpmdicilbpfaaGreatDoorRows.lean that lists a variable, with what it lists TIED to the program's text (the seventh form; the later family's looks); each row that meets fmt, with fmt's text TOLD by the authors' own Lean function (tested against real Go, not proved from fmt's source: count such statements apart). THE CARD IS WHAT COUNTS. Prove the row's statement (the work); the ties are given (YtolpmdicilbpfaaGreatDoorTie.lean); close each card by the builder's one call (the guide's Derived/Test/ToyasCard.lean, 'card_holds'). Laid BY PROGRAM, IN A SANDBOX (cutbox-door.mjs). By AI agents, Wed Nov 11 2026. No macro, syntax, notation, axiom, sorry.
-/
import Derived.Test.YtolpmdicilbpfaaGreatDoorRows
import GoSem.ClaimSeven
namespace Go.Proofs.YtolpmdicilbpfaaGreatDoor
namespace Rows

/-- THE TIED CARD OF 'compositorlaw14.InlineParses'. -/
def inlineParsesCard : Claim7 := { stood := { row := inlineParsesRow, standIns := [], harness := (true, "667e61ffd6392d3121e3d19b4d33e49bb6b202332ea8b5431def91c0c4b27fac"), looks := false }, kinds := [], alts := [], laidByText := true, laidKinds := [.data, .data, .pinned], laidTests := true, laidLooks := .later }
def InlineParsesCardSaid : Prop := Claim7.holds Tryz.pinned (.plain (OpenSpec.ofChange inlineParsesSpec)) inlineParsesCard

/-- THE TIED CARD OF 'compositorlaw14.InlineShapes'. -/
def inlineShapesCard : Claim7 := { stood := { row := inlineShapesRow, standIns := [], harness := (true, "667e61ffd6392d3121e3d19b4d33e49bb6b202332ea8b5431def91c0c4b27fac"), looks := false }, kinds := [], alts := [], laidByText := true, laidKinds := [.data, .data, .pinned], laidTests := true, laidLooks := .later }
def InlineShapesCardSaid : Prop := Claim7.holds Tryz.pinned (.plain (OpenSpec.ofChange inlineShapesSpec)) inlineShapesCard

/-- THE TIED CARD OF 'compositorlaw14.InlinePlain'. -/
def inlinePlainCard : Claim7 := { stood := { row := inlinePlainRow, standIns := [], harness := (true, "667e61ffd6392d3121e3d19b4d33e49bb6b202332ea8b5431def91c0c4b27fac"), looks := false }, kinds := [], alts := [], laidByText := true, laidKinds := [.data, .data, .pinned], laidTests := true, laidLooks := .later }
def InlinePlainCardSaid : Prop := Claim7.holds Tryz.pinned (.plain (OpenSpec.ofChange inlinePlainSpec)) inlinePlainCard

/-- THE TIED CARD OF 'compositorlaw14.InlineNests'. -/
def inlineNestsCard : Claim7 := { stood := { row := inlineNestsRow, standIns := [], harness := (true, "667e61ffd6392d3121e3d19b4d33e49bb6b202332ea8b5431def91c0c4b27fac"), looks := false }, kinds := [], alts := [], laidByText := true, laidKinds := [.data, .data, .pinned], laidTests := true, laidLooks := .later }
def InlineNestsCardSaid : Prop := Claim7.holds Tryz.pinned (.plain (OpenSpec.ofChange inlineNestsSpec)) inlineNestsCard

/-- THE TIED CARD OF 'compositorlaw14.InlineLinks'. -/
def inlineLinksCard : Claim7 := { stood := { row := inlineLinksRow, standIns := [], harness := (true, "667e61ffd6392d3121e3d19b4d33e49bb6b202332ea8b5431def91c0c4b27fac"), looks := false }, kinds := [], alts := [], laidByText := true, laidKinds := [.data, .data, .pinned], laidTests := true, laidLooks := .later }
def InlineLinksCardSaid : Prop := Claim7.holds Tryz.pinned (.plain (OpenSpec.ofChange inlineLinksSpec)) inlineLinksCard

/-- THE TIED CARD OF 'compositorlaw14.InlineBreaks'. -/
def inlineBreaksCard : Claim7 := { stood := { row := inlineBreaksRow, standIns := [], harness := (true, "667e61ffd6392d3121e3d19b4d33e49bb6b202332ea8b5431def91c0c4b27fac"), looks := false }, kinds := [], alts := [], laidByText := true, laidKinds := [.data, .data, .pinned], laidTests := true, laidLooks := .later }
def InlineBreaksCardSaid : Prop := Claim7.holds Tryz.pinned (.plain (OpenSpec.ofChange inlineBreaksSpec)) inlineBreaksCard

/-- THE TIED CARD OF 'compositorlaw14.InlineCodes'. -/
def inlineCodesCard : Claim7 := { stood := { row := inlineCodesRow, standIns := [], harness := (true, "667e61ffd6392d3121e3d19b4d33e49bb6b202332ea8b5431def91c0c4b27fac"), looks := false }, kinds := [], alts := [], laidByText := true, laidKinds := [.data, .data, .pinned], laidTests := true, laidLooks := .later }
def InlineCodesCardSaid : Prop := Claim7.holds Tryz.pinned (.plain (OpenSpec.ofChange inlineCodesSpec)) inlineCodesCard

/-- THE TIED CARD OF 'compositorlaw14.InlineLoose'. -/
def inlineLooseCard : Claim7 := { stood := { row := inlineLooseRow, standIns := [], harness := (true, "667e61ffd6392d3121e3d19b4d33e49bb6b202332ea8b5431def91c0c4b27fac"), looks := false }, kinds := [], alts := [], laidByText := true, laidKinds := [.data, .data, .pinned], laidTests := true, laidLooks := .later }
def InlineLooseCardSaid : Prop := Claim7.holds Tryz.pinned (.plain (OpenSpec.ofChange inlineLooseSpec)) inlineLooseCard

/-- THE SECOND FORM's CARD OF 'compositorlaw14.InlineParses'. -/
def inlineParsesUptoCard : Claim7 := { stood := { row := inlineParsesUptoRow, standIns := [], harness := (true, "667e61ffd6392d3121e3d19b4d33e49bb6b202332ea8b5431def91c0c4b27fac"), looks := false }, kinds := [], alts := [], laidByText := true, laidKinds := [.data, .data, .pinned], laidTests := true, laidLooks := .later }
def InlineParsesUptoCardSaid : Prop := Claim7.holds Tryz.pinned (.plain (OpenSpec.upto inlineParsesSpec)) inlineParsesUptoCard

/-- THE SECOND FORM's CARD OF 'compositorlaw14.InlineShapes'. -/
def inlineShapesUptoCard : Claim7 := { stood := { row := inlineShapesUptoRow, standIns := [], harness := (true, "667e61ffd6392d3121e3d19b4d33e49bb6b202332ea8b5431def91c0c4b27fac"), looks := false }, kinds := [], alts := [], laidByText := true, laidKinds := [.data, .data, .pinned], laidTests := true, laidLooks := .later }
def InlineShapesUptoCardSaid : Prop := Claim7.holds Tryz.pinned (.plain (OpenSpec.upto inlineShapesSpec)) inlineShapesUptoCard

/-- THE SECOND FORM's CARD OF 'compositorlaw14.InlinePlain'. -/
def inlinePlainUptoCard : Claim7 := { stood := { row := inlinePlainUptoRow, standIns := [], harness := (true, "667e61ffd6392d3121e3d19b4d33e49bb6b202332ea8b5431def91c0c4b27fac"), looks := false }, kinds := [], alts := [], laidByText := true, laidKinds := [.data, .data, .pinned], laidTests := true, laidLooks := .later }
def InlinePlainUptoCardSaid : Prop := Claim7.holds Tryz.pinned (.plain (OpenSpec.upto inlinePlainSpec)) inlinePlainUptoCard

/-- THE SECOND FORM's CARD OF 'compositorlaw14.InlineNests'. -/
def inlineNestsUptoCard : Claim7 := { stood := { row := inlineNestsUptoRow, standIns := [], harness := (true, "667e61ffd6392d3121e3d19b4d33e49bb6b202332ea8b5431def91c0c4b27fac"), looks := false }, kinds := [], alts := [], laidByText := true, laidKinds := [.data, .data, .pinned], laidTests := true, laidLooks := .later }
def InlineNestsUptoCardSaid : Prop := Claim7.holds Tryz.pinned (.plain (OpenSpec.upto inlineNestsSpec)) inlineNestsUptoCard

/-- THE SECOND FORM's CARD OF 'compositorlaw14.InlineLinks'. -/
def inlineLinksUptoCard : Claim7 := { stood := { row := inlineLinksUptoRow, standIns := [], harness := (true, "667e61ffd6392d3121e3d19b4d33e49bb6b202332ea8b5431def91c0c4b27fac"), looks := false }, kinds := [], alts := [], laidByText := true, laidKinds := [.data, .data, .pinned], laidTests := true, laidLooks := .later }
def InlineLinksUptoCardSaid : Prop := Claim7.holds Tryz.pinned (.plain (OpenSpec.upto inlineLinksSpec)) inlineLinksUptoCard

/-- THE SECOND FORM's CARD OF 'compositorlaw14.InlineBreaks'. -/
def inlineBreaksUptoCard : Claim7 := { stood := { row := inlineBreaksUptoRow, standIns := [], harness := (true, "667e61ffd6392d3121e3d19b4d33e49bb6b202332ea8b5431def91c0c4b27fac"), looks := false }, kinds := [], alts := [], laidByText := true, laidKinds := [.data, .data, .pinned], laidTests := true, laidLooks := .later }
def InlineBreaksUptoCardSaid : Prop := Claim7.holds Tryz.pinned (.plain (OpenSpec.upto inlineBreaksSpec)) inlineBreaksUptoCard

/-- THE SECOND FORM's CARD OF 'compositorlaw14.InlineCodes'. -/
def inlineCodesUptoCard : Claim7 := { stood := { row := inlineCodesUptoRow, standIns := [], harness := (true, "667e61ffd6392d3121e3d19b4d33e49bb6b202332ea8b5431def91c0c4b27fac"), looks := false }, kinds := [], alts := [], laidByText := true, laidKinds := [.data, .data, .pinned], laidTests := true, laidLooks := .later }
def InlineCodesUptoCardSaid : Prop := Claim7.holds Tryz.pinned (.plain (OpenSpec.upto inlineCodesSpec)) inlineCodesUptoCard

/-- THE SECOND FORM's CARD OF 'compositorlaw14.InlineLoose'. -/
def inlineLooseUptoCard : Claim7 := { stood := { row := inlineLooseUptoRow, standIns := [], harness := (true, "667e61ffd6392d3121e3d19b4d33e49bb6b202332ea8b5431def91c0c4b27fac"), looks := false }, kinds := [], alts := [], laidByText := true, laidKinds := [.data, .data, .pinned], laidTests := true, laidLooks := .later }
def InlineLooseUptoCardSaid : Prop := Claim7.holds Tryz.pinned (.plain (OpenSpec.upto inlineLooseSpec)) inlineLooseUptoCard
end Rows
end Go.Proofs.YtolpmdicilbpfaaGreatDoor
