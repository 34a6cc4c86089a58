/-
  Texts of the proof, one behind the other: Pre.
-/
import Derived.Test.YtfnkokfkhjdkfaaDoorM1
import Derived.Test.YtfnkokfkhjdkfaaDoorM8
import Derived.Lib.LaidTab
import Derived.Lib.AppendIntMem
/-
  Small helpers of every walk over this seat: endings, frames of worlds.
-/
namespace Go.Proofs.YtfnkokfkhjdkfaaDoor
open Go.RowKit Go.Shelf Go.Lib

theorem Keeps.grow_on {a b : World} (h : Keeps a b) (k : Nat) (os : Array Obj) : Keeps a (Go.Sort.grow (b.drewN k) os) := Keeps.trans h (below_grow _ _ (Nat.le_refl _) _ _)
theorem Keeps.of_grow {w w' : World} (h : ∃ k os, w' = Go.Sort.grow (w.drewN k) os) : Keeps w w' := by
  obtain ⟨k, os, rfl⟩ := h
  exact below_grow _ _ (Nat.le_refl _) _ _
theorem Keeps.tab {w w' : World} {name : String} {k : IntKind} {zs : List Int} (h : Keeps w w') (t : TabIs Tryd.prog w name k zs) : TabIs Tryd.prog w' name k zs := tabBelow_of_tabIs t _ h
end Go.Proofs.YtfnkokfkhjdkfaaDoor

