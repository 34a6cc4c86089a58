/-
  DERIVED. GIVEN WITH THE SEED: THE CARDS: each row of YtonajkcdkihchaaDoorRows.lean that lists a variable, with what it lists TIED to the program's text (the seventh form; the later family's looks); each row that meets fmt, with fmt's text TOLD by the authors' own Lean function (tested against real Go, not proved from fmt's source: count such statements apart). THE CARD IS WHAT COUNTS. Prove the row's statement (the work); the ties are given (YtonajkcdkihchaaDoorTie.lean); close each card by the builder's one call (the guide's Derived/Test/ToyasCard.lean, 'card_holds'). Laid BY PROGRAM, IN A SANDBOX (cutbox-door.mjs). By AI agents, Wed Nov 11 2026. No macro, syntax, notation, axiom, sorry.
-/
import Derived.Test.YtonajkcdkihchaaDoorRows
import GoSem.ClaimSeven
namespace Go.Proofs.YtonajkcdkihchaaDoor
namespace Rows

/-- THE TIED CARD OF 'compositorlaw10.LabelNormal'. -/
def labelNormalCard : Claim7 := { stood := { row := labelNormalRow, standIns := [], harness := (true, "998140c74f6961aeaaa6eb03e42d8809585955bd479016faea2393d93a2c91fa"), looks := false }, kinds := [], alts := [], laidByText := true, laidKinds := [.data], laidTests := true, laidLooks := .later }
def LabelNormalCardSaid : Prop := Claim7.holds Tryd.pinned (.plain (OpenSpec.ofChange labelNormalSpec)) labelNormalCard

/-- THE TIED CARD OF 'compositorlaw10.LabelBack'. -/
def labelBackCard : Claim7 := { stood := { row := labelBackRow, standIns := [], harness := (true, "998140c74f6961aeaaa6eb03e42d8809585955bd479016faea2393d93a2c91fa"), looks := false }, kinds := [], alts := [], laidByText := true, laidKinds := [.data], laidTests := true, laidLooks := .later }
def LabelBackCardSaid : Prop := Claim7.holds Tryd.pinned (.plain (OpenSpec.ofChange labelBackSpec)) labelBackCard

/-- THE SECOND FORM's CARD OF 'compositorlaw10.LabelNormal'. -/
def labelNormalUptoCard : Claim7 := { stood := { row := labelNormalUptoRow, standIns := [], harness := (true, "998140c74f6961aeaaa6eb03e42d8809585955bd479016faea2393d93a2c91fa"), looks := false }, kinds := [], alts := [], laidByText := true, laidKinds := [.data], laidTests := true, laidLooks := .later }
def LabelNormalUptoCardSaid : Prop := Claim7.holds Tryd.pinned (.plain (OpenSpec.upto labelNormalSpec)) labelNormalUptoCard

/-- THE SECOND FORM's CARD OF 'compositorlaw10.LabelBack'. -/
def labelBackUptoCard : Claim7 := { stood := { row := labelBackUptoRow, standIns := [], harness := (true, "998140c74f6961aeaaa6eb03e42d8809585955bd479016faea2393d93a2c91fa"), looks := false }, kinds := [], alts := [], laidByText := true, laidKinds := [.data], laidTests := true, laidLooks := .later }
def LabelBackUptoCardSaid : Prop := Claim7.holds Tryd.pinned (.plain (OpenSpec.upto labelBackSpec)) labelBackUptoCard
end Rows
end Go.Proofs.YtonajkcdkihchaaDoor
