/-
  Blocks that are known whole: their cells, what a store makes of them; by no layer.
-/
import Derived.Test.YtcaphoonjkjlhaaDoorBas
import Derived.Laws.Rows
import Derived.Laws.NewBlocks
import Derived.OneCell
namespace Go.Proofs.YtcaphoonjkjlhaaDoor
open Go.RowKit Go.Lib

/-- Block b is cs, of type t, and may be written. -/
def Blk (W : World) (b : Nat) (t : TypeId) (cs : Array Value) : Prop := W.heap[b]? = some (.cells cs t (0, 0))
theorem Blk.cell {W : World} {b : Nat} {t : TypeId} {cs : Array Value} (h : Blk W b t cs) (i : Nat) {v : Value} (hv : cs[i]? = some v) : W.cell? ⟨b, i, none⟩ = some v := by
  unfold Blk at h
  simp [World.cell?, h, hv]
theorem Blk.free {W : World} {b : Nat} {t : TypeId} {cs : Array Value} (h : Blk W b t cs) (i : Nat) : W.frozen? ⟨b, i, none⟩ = false := by
  unfold Blk at h
  simp [World.frozen?, h]
theorem Blk.lt {W : World} {b : Nat} {t : TypeId} {cs : Array Value} (h : Blk W b t cs) : b < W.heap.size := lt_of_block h
theorem Blk.new (W : World) (t : TypeId) (cs : Array Value) : Blk (W.alloc (.cells cs t)) W.heap.size t cs := heap_alloc_new W _
theorem Blk.alloc {W : World} {b : Nat} {t : TypeId} {cs : Array Value} (h : Blk W b t cs) (o : Obj) : Blk (W.alloc o) b t cs := by
  unfold Blk
  rw [Below.heap_alloc W o b h.lt]
  exact h
theorem Blk.keep {W W' : World} {b : Nat} {t : TypeId} {cs : Array Value} (h : Blk W b t cs) (k : Keeps W W') : Blk W' b t cs := by
  unfold Blk
  rw [k.block b h.lt]
  exact h
theorem Blk.drewN {W : World} {b : Nat} {t : TypeId} {cs : Array Value} (h : Blk W b t cs) (n : Nat) : Blk (W.drewN n) b t cs := h
theorem Blk.drew {W : World} {b : Nat} {t : TypeId} {cs : Array Value} (h : Blk W b t cs) : Blk W.drew b t cs := h
theorem Blk.set {W : World} {b : Nat} {t : TypeId} {cs ds : Array Value} (h : Blk W b t cs) (i : Nat) (v : Value) (hd : cs.setIfInBounds i v = ds) : Blk (W.setCell ⟨b, i, none⟩ v) b t ds := by
  subst hd
  exact heap_setCell_same W b i cs t v h
theorem Blk.other {W : World} {b : Nat} {t : TypeId} {cs : Array Value} (h : Blk W b t cs) {g : Nat} (hg : b ≠ g) (i : Nat) (v : Value) : Blk (W.setCell ⟨g, i, none⟩ v) b t cs := by
  unfold Blk
  rw [heap_setCell_other W ⟨g, i, none⟩ b v hg]
  exact h
/-- Writing into a block that the call made leaves all that was there. -/
theorem Keeps.set {a b : World} (h : Keeps a b) {g : Nat} (hg : a.heap.size ≤ g) (i : Nat) (v : Value) : Keeps a (b.setCell ⟨g, i, none⟩ v) := Below.setCell h hg v
theorem Keeps.cell {a b : World} (h : Keeps a b) {p i : Nat} (hp : p < a.heap.size) : b.cell? ⟨p, i, none⟩ = a.cell? ⟨p, i, none⟩ := Below.cell (p := ⟨p, i, none⟩) h hp
end Go.Proofs.YtcaphoonjkjlhaaDoor
