/-
  Contracts of lowWidth, Width, Advance, Ascent, Descent, Name, of the package: they read the tables.
-/
import Derived.Test.YthmfkjgcbcjbaaaDoorFnt
import Derived.Test.YthmfkjgcbcjbaaaDoorTab
namespace Go.Proofs.YthmfkjgcbcjbaaaDoor
open Go.RowKit Go.Lib

/-- The tables of the package's are as the text lays them. -/
structure Fnt (w : World) : Prop where
  plain : Lib.TabIs Tryd.prog w "compositor/font.plainWidths" .u16 plainTab
  bold : Lib.TabIs Tryd.prog w "compositor/font.boldWidths" .u16 boldTab
  high : Lib.TabIs Tryd.prog w "compositor/font.highWidths" .u16 latinTab
theorem Fnt.keep {w w' : World} (h : Fnt w) (k : Keeps w w') : Fnt w' := ⟨tab_keep h.plain k, tab_keep h.bold k, tab_keep h.high k⟩
theorem gPlain : Tryd.prog.globalNamed "compositor/font.plainWidths" = some 5 := by kernel_rfl
theorem gBold : Tryd.prog.globalNamed "compositor/font.boldWidths" = some 4 := by kernel_rfl
theorem gHigh : Tryd.prog.globalNamed "compositor/font.highWidths" = some 3 := by kernel_rfl
theorem Fnt.plain_cell {w : World} (h : Fnt w) (k : Nat) (hk : k < 95) : w.cell? ⟨5, k, none⟩ = some (.int .u16 (plainTab.getD k 0)) := h.plain.cell gPlain k hk
theorem Fnt.bold_cell {w : World} (h : Fnt w) (k : Nat) (hk : k < 95) : w.cell? ⟨4, k, none⟩ = some (.int .u16 (boldTab.getD k 0)) := h.bold.cell gBold k hk
theorem Fnt.high_cell {w : World} (h : Fnt w) (k : Nat) (hk : k < 96) : w.cell? ⟨3, k, none⟩ = some (.int .u16 (latinTab.getD k 0)) := h.high.cell gHigh k hk

set_option maxRecDepth 100000 in
theorem lowWidth_bold (f : Int) (k : Nat) (w : World) (hF : Fnt w) (hf : f = 1 ∨ f = 3) (hk : k < 95) :
    Calls Tryd.prog 62 #[.int .i64 f, .int .i64 k] w fun e w' => e = .returned (.int .i64 (boldTab.getD k 0)) ∧ w = w' := by
  have hc := hF.bold_cell k hk
  obtain ⟨z0, z1⟩ := bold_range k hk
  generalize boldTab.getD k 0 = z at *
  clear hF
  rcases hf with rfl | rfl
  all_goals
    go_enter Tryd.func62, Tryd.ntmps62
    go_wp2
    go_ret
    exact ⟨rfl, rfl⟩
set_option maxRecDepth 100000 in
theorem lowWidth_plain (f : Int) (k : Nat) (w : World) (hF : Fnt w) (hf : ¬ (f = 1 ∨ f = 3)) (hk : k < 95) :
    Calls Tryd.prog 62 #[.int .i64 f, .int .i64 k] w fun e w' => e = .returned (.int .i64 (plainTab.getD k 0)) ∧ w = w' := by
  have hc := hF.plain_cell k hk
  obtain ⟨z0, z1⟩ := plain_range k hk
  generalize plainTab.getD k 0 = z at *
  have t1 : (f == 1) = false := beq_eq_false_iff_ne.2 (by omega)
  have t2 : (f == 3) = false := beq_eq_false_iff_ne.2 (by omega)
  clear hF hf
  go_enter Tryd.func62, Tryd.ntmps62
  go_wp2
  go_ret
  exact ⟨rfl, rfl⟩
end Go.Proofs.YthmfkjgcbcjbaaaDoor
