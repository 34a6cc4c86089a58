/-
  Two blocks just made; a row of one's own that is written; by no layer.
-/
import Derived.Test.YtjkkinccehfmoaaRow
namespace Go.Proofs.Ytjkkinccehfmoaa
open Go.RowKit Go.Lib

theorem blk_two (w : World) (o : Obj) (t : TypeId) (cs : Array Value) : Blk ((w.alloc o).alloc (.cells cs t)) (w.heap.size + 1) t cs := by
  have := Blk.new (w.alloc o) t cs
  rwa [show (w.alloc o).heap.size = w.heap.size + 1 by simp] at this
theorem blk_three (w : World) (o o2 : Obj) (t : TypeId) (cs : Array Value) : Blk (((w.alloc o).alloc o2).alloc (.cells cs t)) (w.heap.size + 2) t cs := by
  have := Blk.new ((w.alloc o).alloc o2) t cs
  rwa [show ((w.alloc o).alloc o2).heap.size = w.heap.size + 2 by simp] at this
theorem keeps_two (w : World) (o o2 : Obj) : Keeps w ((w.alloc o).alloc o2) := ((Keeps.refl w).alloc o).alloc o2
theorem blk_old (w : World) (o : Obj) (t : TypeId) (cs : Array Value) : Blk ((w.alloc (.cells cs t)).alloc o) w.heap.size t cs := (Blk.new w t cs).alloc o
theorem keeps_row {W W1 : World} {g : Nat} {cs : Array Value} (h : Keeps W W1) (hg : W.heap.size ≤ g) : Keeps W (W1.setRow g cs) :=
  ⟨h.os, h.tape, h.output, by have := h.size; unfold World.setRow; simpa using this, fun b hb => (setRow_other W1 g b cs (by omega)).trans (h.block b hb)⟩
end Go.Proofs.Ytjkkinccehfmoaa
