/-
  Texts of the proof, one behind the other: Cln.
-/
import Derived.Test.YtfgpephpkibbaaaGreatDoorQ8
import Derived.Test.YtfgpephpkibbaaaGreatDoorQ1
import Derived.LoopTactic
/-
  Contract of strings.Clone, for texts of at most 100,000 bytes.
-/
namespace Go.Proofs.YtfgpephpkibbaaaGreatDoor
open Go.RowKit Go.Lib

set_option maxRecDepth 100000 in
theorem clone_any (s : ByteArray) (w : World) (hs : s.size ≤ 100000) :
    Calls Tryz.prog 27 #[.string s] w fun e w' => e = .returned (.string s) ∧ Keeps w w' := by
  have CL := Lib.hid (Tryz.stringslite_Clone s w (by omega))
  go_enter Tryz.func27, Tryz.ntmps27
  go_wp2_with fail
  refine CL.out.mono ?_
  rintro e w1 ⟨rfl, b1⟩
  go_wp2_with fail
  go_ret
  exact ⟨rfl, b1⟩
end Go.Proofs.YtfgpephpkibbaaaGreatDoor

