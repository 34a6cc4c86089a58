/-
  strings.Builder where the cut's copyCheck ends in a refused place: a builder that has been used (its own address lies in it).
-/
import Derived.Test.YthmfkjgcbcjbaaaDoorShelf
import Derived.Test.YthmfkjgcbcjbaaaDoorWlk
import Derived.BigCall
namespace Go.Proofs.YthmfkjgcbcjbaaaDoor
open Go.RowKit Go.Lib

/-- A BUILDER OF THE CALL'S OWN AT BLOCK b, used, with the bytes l. -/
abbrev Bld (B b : Nat) (l : List UInt8) (w : World) : Prop := BuilderAtF 94 5 B b (.pointer (some ⟨b, 0, none⟩)) (byteCells l) w
theorem sizeBld : (Tryd.prog.info? 94).map (·.size) = some 2 := by kernel_rfl
theorem infoB8 : (Tryd.prog.info? 5).map (fun i => (i.zero, i.size, i.bytes)) = some (some (.int .u8 0), 1, 1) := by kernel_rfl
set_option maxRecDepth 100000 in
theorem copyCheck_used (b : Nat) (w : World) (h0 : w.cell? ⟨b, 0, none⟩ = some (.pointer (some ⟨b, 0, none⟩))) :
    Calls Tryd.prog 68 #[.pointer (some ⟨b, 0, none⟩)] w fun e w' => e = .returned (.tuple #[]) ∧ w = w' := by
  obtain ⟨j, hj, _⟩ := Option.map_eq_some_iff.1 sizeBld
  go_enter Tryd.func68, Tryd.ntmps68
  go_wp2
  rw [Lib.run_neq_ptr_same w _ Tryd.underlying92 hj]
  go_wp2
  go_end0
  exact ⟨rfl, rfl⟩
end Go.Proofs.YthmfkjgcbcjbaaaDoor
