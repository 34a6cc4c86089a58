/-
  DERIVED. GIVEN WITH THE SEED: THE PROGRAM's TIES (one call each: nine closed facts by the kernel) AND EACH ROW's TIE, after the 31st guide's Derived/Test/Toyas{Tie, Card}.lean. No idea stands in it: it is a product of the set-up. Laid BY PROGRAM, IN A SANDBOX (cutbox-door.mjs). By AI agents, Wed Nov 11 2026. No macro, syntax, notation, axiom, sorry.
-/
import Derived.Test.YtfnkokfkhjdkfaaDoorRows
import Derived.LaidByTextLater
import Derived.SevenTiedAt
import Derived.LaidSub
import Derived.LaidOnce
namespace Go.Proofs.YtfnkokfkhjdkfaaDoor
open Go
set_option maxRecDepth 100000
theorem seatTie1 : Tryd.prog.laidByTextLater [("compositor/compositorref05.plain", Rows.laid_compositor_compositorref05_plain), ("compositor/compositorref05.bold", Rows.laid_compositor_compositorref05_bold), ("compositor/compositorref05.latin", Rows.laid_compositor_compositorref05_latin), ("compositor/font.plainWidths", Rows.laid_compositor_font_plainWidths), ("compositor/font.boldWidths", Rows.laid_compositor_font_boldWidths), ("compositor/font.highWidths", Rows.laid_compositor_font_highWidths), ("compositor/code.oddRunes", Rows.laid_compositor_code_oddRunes)] [.data, .data, .data, .data, .data, .data, .data] true :=
  Program.laidByTextLater_by_one 44 8 97 (by kernel_rfl) (by kernel_rfl) (by kernel_rfl) (by kernel_rfl) (by kernel_rfl) (by kernel_rfl) (fun _ _ => by kernel_rfl)
theorem seatTie2 : Tryd.prog.laidByTextLater [("compositor/compositorref05.plain", Rows.laid_compositor_compositorref05_plain), ("compositor/compositorref05.bold", Rows.laid_compositor_compositorref05_bold), ("compositor/compositorref05.latin", Rows.laid_compositor_compositorref05_latin)] [.data, .data, .data] true :=
  Program.laidByTextLater_by_one 44 8 97 (by kernel_rfl) (by kernel_rfl) (by kernel_rfl) (by kernel_rfl) (by kernel_rfl) (by kernel_rfl) (fun _ _ => by kernel_rfl)
theorem noOwnUnsafe : Tryd.pinned.checked.prog.headLifts.contains "ownunsafe" = false := by kernel_rfl
theorem tie : Tryd.prog.laidByTextLater [("compositor/compositorref05.plain", Rows.laid_compositor_compositorref05_plain), ("compositor/compositorref05.bold", Rows.laid_compositor_compositorref05_bold), ("compositor/compositorref05.latin", Rows.laid_compositor_compositorref05_latin), ("compositor/font.plainWidths", Rows.laid_compositor_font_plainWidths), ("compositor/font.boldWidths", Rows.laid_compositor_font_boldWidths), ("compositor/font.highWidths", Rows.laid_compositor_font_highWidths), ("compositor/code.oddRunes", Rows.laid_compositor_code_oddRunes)] [.data, .data, .data, .data, .data, .data, .data] true :=
  Program.laidByTextLater.sub seatTie1 ["compositor/compositorref05.plain", "compositor/compositorref05.bold", "compositor/compositorref05.latin", "compositor/font.plainWidths", "compositor/font.boldWidths", "compositor/font.highWidths", "compositor/code.oddRunes"] (by kernel_rfl) (by kernel_rfl)
theorem itemMakes_row_tie : Rows.itemMakesRow.laidByTextAt .later Tryd.pinned [.data, .data, .data, .data, .data, .data, .data] true :=
  OpenClaim.laidByTextAt_later rfl rfl tie noOwnUnsafe
theorem tie2 : Tryd.prog.laidByTextLater [("compositor/compositorref05.plain", Rows.laid_compositor_compositorref05_plain), ("compositor/compositorref05.bold", Rows.laid_compositor_compositorref05_bold), ("compositor/compositorref05.latin", Rows.laid_compositor_compositorref05_latin)] [.data, .data, .data] true :=
  Program.laidByTextLater.sub seatTie2 ["compositor/compositorref05.plain", "compositor/compositorref05.bold", "compositor/compositorref05.latin"] (by kernel_rfl) (by kernel_rfl)
theorem setPlaces_row_tie : Rows.setPlacesRow.laidByTextAt .later Tryd.pinned [.data, .data, .data] true :=
  OpenClaim.laidByTextAt_later rfl rfl tie2 noOwnUnsafe
theorem itemMakesUpto_row_tie : Rows.itemMakesUptoRow.laidByTextAt .later Tryd.pinned [.data, .data, .data, .data, .data, .data, .data] true :=
  OpenClaim.laidByTextAt_later rfl rfl tie noOwnUnsafe
theorem setPlacesUpto_row_tie : Rows.setPlacesUptoRow.laidByTextAt .later Tryd.pinned [.data, .data, .data] true :=
  OpenClaim.laidByTextAt_later rfl rfl tie2 noOwnUnsafe
end Go.Proofs.YtfnkokfkhjdkfaaDoor
