/-
  Small helpers of every walk over this seat: endings, frames of worlds.
-/
import Derived.Test.YtfpfjaedoafnpaaDoorShelf
import Derived.Test.YtfpfjaedoafnpaaDoorChecked
import Derived.WalkKit
import Derived.WalkSpells
import Derived.WalkLawsBesides
import Derived.IntWalk
import Derived.Lib.Hide
import Derived.BigQuiet
import Derived.Deep.QuietTactic
import Derived.Below
import Derived.Lib.LaidTab
import Derived.Lib.AppendIntMem
import Derived.Deep.Draws
import Derived.Lib.IndexBytes
namespace Go.Proofs.YtfpfjaedoafnpaaDoor
open Go.RowKit Go.Shelf Go.Lib

theorem ret_bool {a b : Bool} (h : a = b) : Ending.returned (.bool a) = .returned (.bool b) := by rw [h]
theorem ret_int {k : IntKind} {a b : Int} (h : a = b) : Ending.returned (.int k a) = .returned (.int k b) := by rw [h]
theorem ret_str {a b : List UInt8} (h : a = b) : Ending.returned (.string ⟨a.toArray⟩) = .returned (.string ⟨b.toArray⟩) := by rw [h]

/-- What a call may do to the world: new blocks, draws; all that was there is as it was. -/
def Keeps (w w' : World) : Prop := Below w.heap.size w w'
theorem Keeps.refl (w : World) : Keeps w w := Below.refl _ _
theorem Keeps.trans {a b c : World} (h : Keeps a b) (k : Keeps b c) : Keeps a c := Below.trans h (Below.mono k h.size)
theorem Keeps.drewN {a b : World} (h : Keeps a b) (n : Nat) : Keeps a (b.drewN n) := ⟨h.os, h.tape, h.output, h.size, h.block⟩
theorem Keeps.drew {a b : World} (h : Keeps a b) : Keeps a b.drew := ⟨h.os, h.tape, h.output, h.size, h.block⟩
theorem Keeps.alloc {a b : World} (h : Keeps a b) (o : Obj) : Keeps a (b.alloc o) := Below.alloc h h.size o
theorem Keeps.grow_on {a b : World} (h : Keeps a b) (k : Nat) (os : Array Obj) : Keeps a (Go.Sort.grow (b.drewN k) os) := Keeps.trans h (below_grow _ _ (Nat.le_refl _) _ _)
theorem Keeps.of_grow {w w' : World} (h : ∃ k os, w' = Go.Sort.grow (w.drewN k) os) : Keeps w w' := by
  obtain ⟨k, os, rfl⟩ := h
  exact below_grow _ _ (Nat.le_refl _) _ _
theorem Keeps.tab {w w' : World} {name : String} {k : IntKind} {zs : List Int} (h : Keeps w w') (t : TabIs Tryd.prog w name k zs) : TabIs Tryd.prog w' name k zs := tabBelow_of_tabIs t _ h
theorem ret_bytes {a b : ByteArray} (h : a = b) : Ending.returned (.string a) = .returned (.string b) := by rw [h]
theorem bytes_eq {a b : ByteArray} (h : a.data.toList = b.data.toList) : a = b := ByteArray.ext (Array.ext' h)
/-- A text's head and tail, as lists. -/
theorem ext_take (s : ByteArray) (k : Nat) : s.extract 0 k = ⟨(s.data.toList.take k).toArray⟩ := bytes_eq (by rw [Lib.extract_data, List.drop_zero, Nat.sub_zero])
theorem ext_drop (s : ByteArray) (k : Nat) : s.extract k s.size = ⟨(s.data.toList.drop k).toArray⟩ := bytes_eq (by rw [Lib.extract_to_end])
theorem bytes_app (a b : ByteArray) : (a ++ b).data.toList = a.data.toList ++ b.data.toList := by simp
theorem ret_two {a b c d : Int} (h : a = b) (k : c = d) : Ending.returned (.tuple #[.int .i64 a, .int .i64 c]) = .returned (.tuple #[.int .i64 b, .int .i64 d]) := by rw [h, k]
end Go.Proofs.YtfpfjaedoafnpaaDoor
