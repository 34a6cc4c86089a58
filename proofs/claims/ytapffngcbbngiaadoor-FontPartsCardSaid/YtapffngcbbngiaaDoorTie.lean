/-
  DERIVED. GIVEN WITH THE SEED: THE PROGRAM's TIES (one call each: nine closed facts by the kernel) AND EACH ROW's TIE, after the 31st guide's Derived/Test/Toyas{Tie, Card}.lean. No idea stands in it: it is a product of the set-up. Laid BY PROGRAM, IN A SANDBOX (cutbox-door.mjs). By AI agents, Wed Nov 11 2026. No macro, syntax, notation, axiom, sorry.
-/
import Derived.Test.YtapffngcbbngiaaDoorRows
import Derived.LaidByTextLater
import Derived.SevenTiedAt
import Derived.LaidSub
import Derived.LaidOnce
namespace Go.Proofs.YtapffngcbbngiaaDoor
open Go
set_option maxRecDepth 100000
theorem seatTie1 : Tryd.prog.laidByTextLater [("compositor/compositorref05.plain", Rows.laid_compositor_compositorref05_plain), ("compositor/compositorref05.bold", Rows.laid_compositor_compositorref05_bold), ("compositor/compositorref05.latin", Rows.laid_compositor_compositorref05_latin), ("compositor/font.plainWidths", Rows.laid_compositor_font_plainWidths), ("compositor/font.boldWidths", Rows.laid_compositor_font_boldWidths), ("compositor/font.highWidths", Rows.laid_compositor_font_highWidths), ("compositor/font.names", Rows.laid_compositor_font_names)] [.data, .data, .data, .data, .data, .data, .data] true :=
  Program.laidByTextLater_by_one 44 8 97 (by kernel_rfl) (by kernel_rfl) (by kernel_rfl) (by kernel_rfl) (by kernel_rfl) (by kernel_rfl) (fun _ _ => by kernel_rfl)
theorem seatTie2 : Tryd.prog.laidByTextLater [("compositor/font.plainWidths", Rows.laid_compositor_font_plainWidths), ("compositor/font.boldWidths", Rows.laid_compositor_font_boldWidths), ("compositor/font.highWidths", Rows.laid_compositor_font_highWidths), ("compositor/font.names", Rows.laid_compositor_font_names)] [.data, .data, .data, .data] true :=
  Program.laidByTextLater_by_one 44 8 97 (by kernel_rfl) (by kernel_rfl) (by kernel_rfl) (by kernel_rfl) (by kernel_rfl) (by kernel_rfl) (fun _ _ => by kernel_rfl)
theorem noOwnUnsafe : Tryd.pinned.checked.prog.headLifts.contains "ownunsafe" = false := by kernel_rfl
theorem tie : Tryd.prog.laidByTextLater [("compositor/compositorref05.plain", Rows.laid_compositor_compositorref05_plain), ("compositor/compositorref05.bold", Rows.laid_compositor_compositorref05_bold), ("compositor/compositorref05.latin", Rows.laid_compositor_compositorref05_latin), ("compositor/font.plainWidths", Rows.laid_compositor_font_plainWidths), ("compositor/font.boldWidths", Rows.laid_compositor_font_boldWidths), ("compositor/font.highWidths", Rows.laid_compositor_font_highWidths), ("compositor/font.names", Rows.laid_compositor_font_names)] [.data, .data, .data, .data, .data, .data, .data] true :=
  Program.laidByTextLater.sub seatTie1 ["compositor/compositorref05.plain", "compositor/compositorref05.bold", "compositor/compositorref05.latin", "compositor/font.plainWidths", "compositor/font.boldWidths", "compositor/font.highWidths", "compositor/font.names"] (by kernel_rfl) (by kernel_rfl)
theorem fontTells_row_tie : Rows.fontTellsRow.laidByTextAt .later Tryd.pinned [.data, .data, .data, .data, .data, .data, .data] true :=
  OpenClaim.laidByTextAt_later rfl rfl tie noOwnUnsafe
theorem tie2 : Tryd.prog.laidByTextLater [("compositor/font.plainWidths", Rows.laid_compositor_font_plainWidths), ("compositor/font.boldWidths", Rows.laid_compositor_font_boldWidths), ("compositor/font.highWidths", Rows.laid_compositor_font_highWidths), ("compositor/font.names", Rows.laid_compositor_font_names)] [.data, .data, .data, .data] true :=
  Program.laidByTextLater.sub seatTie2 ["compositor/font.plainWidths", "compositor/font.boldWidths", "compositor/font.highWidths", "compositor/font.names"] (by kernel_rfl) (by kernel_rfl)
theorem fontParts_row_tie : Rows.fontPartsRow.laidByTextAt .later Tryd.pinned [.data, .data, .data, .data] true :=
  OpenClaim.laidByTextAt_later rfl rfl tie2 noOwnUnsafe
theorem fontFits_row_tie : Rows.fontFitsRow.laidByTextAt .later Tryd.pinned [.data, .data, .data, .data] true :=
  OpenClaim.laidByTextAt_later rfl rfl tie2 noOwnUnsafe
theorem fontGrows_row_tie : Rows.fontGrowsRow.laidByTextAt .later Tryd.pinned [.data, .data, .data, .data] true :=
  OpenClaim.laidByTextAt_later rfl rfl tie2 noOwnUnsafe
theorem fontTellsUpto_row_tie : Rows.fontTellsUptoRow.laidByTextAt .later Tryd.pinned [.data, .data, .data, .data, .data, .data, .data] true :=
  OpenClaim.laidByTextAt_later rfl rfl tie noOwnUnsafe
theorem fontPartsUpto_row_tie : Rows.fontPartsUptoRow.laidByTextAt .later Tryd.pinned [.data, .data, .data, .data] true :=
  OpenClaim.laidByTextAt_later rfl rfl tie2 noOwnUnsafe
theorem fontFitsUpto_row_tie : Rows.fontFitsUptoRow.laidByTextAt .later Tryd.pinned [.data, .data, .data, .data] true :=
  OpenClaim.laidByTextAt_later rfl rfl tie2 noOwnUnsafe
theorem fontGrowsUpto_row_tie : Rows.fontGrowsUptoRow.laidByTextAt .later Tryd.pinned [.data, .data, .data, .data] true :=
  OpenClaim.laidByTextAt_later rfl rfl tie2 noOwnUnsafe
end Go.Proofs.YtapffngcbbngiaaDoor
