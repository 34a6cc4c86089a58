/-
  Texts of the proof, one behind the other: Mxl.
-/
import Derived.Test.YtfgpephpkibbaaaGreatDoorQ8
import Derived.Test.YtfgpephpkibbaaaGreatDoorQ1
/-
  internal/bytealg.MaxLen holds some number.
-/
namespace Go.Proofs.YtfgpephpkibbaaaGreatDoor
open Go.RowKit Go.Lib

/-- internal/bytealg.MaxLen holds some number. -/
def Mxl (w : World) : Prop := ∃ m : Int, w.cell? ⟨0, 0, none⟩ = some (.int .i64 m)
theorem Mxl.of {w : World} (h : w.ShapedOpen Tryz.prog) : Mxl w := Tryz.laysM143.s1_3 w h
theorem cell_lt {w : World} {b i : Nat} {v : Value} (h : w.cell? ⟨b, i, none⟩ = some v) : b < w.heap.size := by
  refine Decidable.byContradiction fun k => ?_
  have e : w.heap[b]? = none := Array.getElem?_eq_none (by omega)
  simp [World.cell?, e] at h
theorem Mxl.keep {w w' : World} (h : Mxl w) (k : Keeps w w') : Mxl w' := by
  obtain ⟨m, hm⟩ := h
  exact ⟨m, by rw [k.cell (cell_lt hm)]; exact hm⟩
end Go.Proofs.YtfgpephpkibbaaaGreatDoor

