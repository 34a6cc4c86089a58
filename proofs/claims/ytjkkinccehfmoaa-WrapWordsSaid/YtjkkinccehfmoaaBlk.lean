/-
  Blocks that are known whole: their cells, what a store makes of them; by no layer.
-/
import Derived.Test.YtjkkinccehfmoaaBas
import Derived.Laws.Rows
import Derived.Laws.NewBlocks
import Derived.OneCell
namespace Go.Proofs.Ytjkkinccehfmoaa
open Go.RowKit Go.Lib

/-- Block b is cs, of type t, and may be written. -/
def Blk (W : World) (b : Nat) (t : TypeId) (cs : Array Value) : Prop := W.heap[b]? = some (.cells cs t (0, 0))
theorem Blk.cell {W : World} {b : Nat} {t : TypeId} {cs : Array Value} (h : Blk W b t cs) (i : Nat) {v : Value} (hv : cs[i]? = some v) : W.cell? ⟨b, i, none⟩ = some v := by
  unfold Blk at h
  simp [World.cell?, h, hv]
theorem Blk.free {W : World} {b : Nat} {t : TypeId} {cs : Array Value} (h : Blk W b t cs) (i : Nat) : W.frozen? ⟨b, i, none⟩ = false := by
  unfold Blk at h
  simp [World.frozen?, h]
theorem Blk.lt {W : World} {b : Nat} {t : TypeId} {cs : Array Value} (h : Blk W b t cs) : b < W.heap.size := lt_of_block h
theorem Blk.new (W : World) (t : TypeId) (cs : Array Value) : Blk (W.alloc (.cells cs t)) W.heap.size t cs := heap_alloc_new W _
theorem Blk.alloc {W : World} {b : Nat} {t : TypeId} {cs : Array Value} (h : Blk W b t cs) (o : Obj) : Blk (W.alloc o) b t cs := by
  unfold Blk
  rw [Below.heap_alloc W o b h.lt]
  exact h
theorem Blk.keep {W W' : World} {b : Nat} {t : TypeId} {cs : Array Value} (h : Blk W b t cs) (k : Keeps W W') : Blk W' b t cs := by
  unfold Blk
  rw [k.block b h.lt]
  exact h
theorem Blk.drewN {W : World} {b : Nat} {t : TypeId} {cs : Array Value} (h : Blk W b t cs) (n : Nat) : Blk (W.drewN n) b t cs := h
theorem Blk.drew {W : World} {b : Nat} {t : TypeId} {cs : Array Value} (h : Blk W b t cs) : Blk W.drew b t cs := h
theorem Blk.set {W : World} {b : Nat} {t : TypeId} {cs ds : Array Value} (h : Blk W b t cs) (i : Nat) (v : Value) (hd : cs.setIfInBounds i v = ds) : Blk (W.setCell ⟨b, i, none⟩ v) b t ds := by
  subst hd
  exact heap_setCell_same W b i cs t v h
theorem Blk.other {W : World} {b : Nat} {t : TypeId} {cs : Array Value} (h : Blk W b t cs) {g : Nat} (hg : b ≠ g) (i : Nat) (v : Value) : Blk (W.setCell ⟨g, i, none⟩ v) b t cs := by
  unfold Blk
  rw [heap_setCell_other W ⟨g, i, none⟩ b v hg]
  exact h
/-- Writing into a block that the call made leaves all that was there. -/
theorem Keeps.set {a b : World} (h : Keeps a b) {g : Nat} (hg : a.heap.size ≤ g) (i : Nat) (v : Value) : Keeps a (b.setCell ⟨g, i, none⟩ v) := Below.setCell h hg v
theorem Keeps.cell {a b : World} (h : Keeps a b) {p i : Nat} (hp : p < a.heap.size) : b.cell? ⟨p, i, none⟩ = a.cell? ⟨p, i, none⟩ := Below.cell (p := ⟨p, i, none⟩) h hp
/-- A result that lies in a block, as it is told. -/
theorem ret_blk {fn : Func} {R : Ending → World → Prop} {a : Act} {w : World} {p : Tmp} {ty : TypeId} {g : Nat} {cs : Array Value} {fs : Array Field} (hres : fn.results = #[.cell p ty]) (hp : a.tmps.getD p undef = .pointer (some ⟨g, 0, none⟩)) (hd : a.defers = [])
    (hb : Blk w g ty cs) (hu : Try.prog.underlying ty = some (.struct fs)) (hi : (Try.prog.info? ty).map (·.size) = some cs.size) (hR : R (.returned (.agg cs)) w) : bodyPost Try.prog fn R .ret a w :=
  bodyPost_ret (results_cell_row hres a.tmps w g ty cs (0, 0) (.struct fs) hp hb hu rfl hi) hd hR
/-- .. and a second result beside it. -/
theorem ret_blk2 {fn : Func} {R : Ending → World → Prop} {a : Act} {w : World} {p u : Tmp} {ty : TypeId} {g : Nat} {cs : Array Value} {fs : Array Field} {v : Value} (hres : fn.results = #[.cell p ty, .tmp u]) (hp : a.tmps.getD p undef = .pointer (some ⟨g, 0, none⟩)) (hv : a.tmps.getD u undef = v) (hd : a.defers = [])
    (hb : Blk w g ty cs) (hu : Try.prog.underlying ty = some (.struct fs)) (hi : (Try.prog.info? ty).map (·.size) = some cs.size) (hR : R (.returned (.tuple #[.agg cs, v])) w) : bodyPost Try.prog fn R .ret a w :=
  bodyPost_ret (by
    have hp' : a.tmps[p]?.getD undef = .pointer (some ⟨g, 0, none⟩) := by simpa using hp
    have hv' : a.tmps[u]?.getD undef = v := by simpa using hv
    have hb' : w.heap[g]? = some (.cells cs ty (0, 0)) := hb
    simp [results, hres, hp', hv', asAddr, run_loadVar_row w g ty ty cs (0, 0) (.struct fs) hb' hu rfl hi]) hd hR
end Go.Proofs.Ytjkkinccehfmoaa
