/-
  Texts of the proof, one behind the other: Blk, Cls.
-/
import Derived.Test.YtfgpephpkibbaaaGreatDoorQ8
import Derived.Laws.Rows
import Derived.Laws.NewBlocks
import Derived.OneCell
import Derived.BigQuiet
/-
  Blocks that are known whole: their cells, what a store makes of them; by no layer.
-/
namespace Go.Proofs.YtfgpephpkibbaaaGreatDoor
open Go.RowKit Go.Lib

/-- Block b is cs, of type t, and may be written. -/
def Blk (W : World) (b : Nat) (t : TypeId) (cs : Array Value) : Prop := W.heap[b]? = some (.cells cs t (0, 0))
theorem Blk.cell {W : World} {b : Nat} {t : TypeId} {cs : Array Value} (h : Blk W b t cs) (i : Nat) {v : Value} (hv : cs[i]? = some v) : W.cell? ⟨b, i, none⟩ = some v := by
  unfold Blk at h
  simp [World.cell?, h, hv]
theorem Blk.free {W : World} {b : Nat} {t : TypeId} {cs : Array Value} (h : Blk W b t cs) (i : Nat) : W.frozen? ⟨b, i, none⟩ = false := by
  unfold Blk at h
  simp [World.frozen?, h]
theorem Blk.lt {W : World} {b : Nat} {t : TypeId} {cs : Array Value} (h : Blk W b t cs) : b < W.heap.size := lt_of_block h
theorem Blk.new (W : World) (t : TypeId) (cs : Array Value) : Blk (W.alloc (.cells cs t)) W.heap.size t cs := heap_alloc_new W _
theorem Blk.alloc {W : World} {b : Nat} {t : TypeId} {cs : Array Value} (h : Blk W b t cs) (o : Obj) : Blk (W.alloc o) b t cs := by
  unfold Blk
  rw [Below.heap_alloc W o b h.lt]
  exact h
theorem Blk.keep {W W' : World} {b : Nat} {t : TypeId} {cs : Array Value} (h : Blk W b t cs) (k : Keeps W W') : Blk W' b t cs := by
  unfold Blk
  rw [k.block b h.lt]
  exact h
theorem Blk.drewN {W : World} {b : Nat} {t : TypeId} {cs : Array Value} (h : Blk W b t cs) (n : Nat) : Blk (W.drewN n) b t cs := h
theorem Blk.drew {W : World} {b : Nat} {t : TypeId} {cs : Array Value} (h : Blk W b t cs) : Blk W.drew b t cs := h
theorem Blk.set {W : World} {b : Nat} {t : TypeId} {cs ds : Array Value} (h : Blk W b t cs) (i : Nat) (v : Value) (hd : cs.setIfInBounds i v = ds) : Blk (W.setCell ⟨b, i, none⟩ v) b t ds := by
  subst hd
  exact heap_setCell_same W b i cs t v h
theorem Blk.other {W : World} {b : Nat} {t : TypeId} {cs : Array Value} (h : Blk W b t cs) {g : Nat} (hg : b ≠ g) (i : Nat) (v : Value) : Blk (W.setCell ⟨g, i, none⟩ v) b t cs := by
  unfold Blk
  rw [heap_setCell_other W ⟨g, i, none⟩ b v hg]
  exact h
/-- Writing into a block that the call made leaves all that was there. -/
theorem Keeps.set {a b : World} (h : Keeps a b) {g : Nat} (hg : a.heap.size ≤ g) (i : Nat) (v : Value) : Keeps a (b.setCell ⟨g, i, none⟩ v) := Below.setCell h hg v
theorem Keeps.cell {a b : World} (h : Keeps a b) {p i : Nat} (hp : p < a.heap.size) : b.cell? ⟨p, i, none⟩ = a.cell? ⟨p, i, none⟩ := Below.cell (p := ⟨p, i, none⟩) h hp
/-- A result that lies in a block, as it is told. -/
theorem ret_blk {fn : Func} {R : Ending → World → Prop} {a : Act} {w : World} {p : Tmp} {ty : TypeId} {g : Nat} {cs : Array Value} {fs : Array Field} (hres : fn.results = #[.cell p ty]) (hp : a.tmps.getD p undef = .pointer (some ⟨g, 0, none⟩)) (hd : a.defers = [])
    (hb : Blk w g ty cs) (hu : Tryz.prog.underlying ty = some (.struct fs)) (hi : (Tryz.prog.info? ty).map (·.size) = some cs.size) (hR : R (.returned (.agg cs)) w) : bodyPost Tryz.prog fn R .ret a w :=
  bodyPost_ret (results_cell_row hres a.tmps w g ty cs (0, 0) (.struct fs) hp hb hu rfl hi) hd hR
/-- .. and a second result beside it. -/
theorem ret_blk2 {fn : Func} {R : Ending → World → Prop} {a : Act} {w : World} {p u : Tmp} {ty : TypeId} {g : Nat} {cs : Array Value} {fs : Array Field} {v : Value} (hres : fn.results = #[.cell p ty, .tmp u]) (hp : a.tmps.getD p undef = .pointer (some ⟨g, 0, none⟩)) (hv : a.tmps.getD u undef = v) (hd : a.defers = [])
    (hb : Blk w g ty cs) (hu : Tryz.prog.underlying ty = some (.struct fs)) (hi : (Tryz.prog.info? ty).map (·.size) = some cs.size) (hR : R (.returned (.tuple #[.agg cs, v])) w) : bodyPost Tryz.prog fn R .ret a w :=
  bodyPost_ret (by
    have hp' : a.tmps[p]?.getD undef = .pointer (some ⟨g, 0, none⟩) := by simpa using hp
    have hv' : a.tmps[u]?.getD undef = v := by simpa using hv
    have hb' : w.heap[g]? = some (.cells cs ty (0, 0)) := hb
    simp [results, hres, hp', hv', asAddr, run_loadVar_row w g ty ty cs (0, 0) (.struct fs) hb' hu rfl hi]) hd hR
end Go.Proofs.YtfgpephpkibbaaaGreatDoor

/-
  A region that draws its order and only reads, beside calls that make new memory: one walk of the text's order, over the worlds of a class; by no layer.
-/
namespace Go.Proofs.YtfgpephpkibbaaaGreatDoor
open Go.RowKit Go.Lib

/-- A world of which S is true. -/
structure InS (S : World → Prop) where
  w : World
  ok : S w
theorem wp_region_class {P : Program} {id : Nat} {Q : Exit → Act → World → Prop} {a : Act} {w : World} {l : List Oper} (S : World → Prop) (hm : P.follows .mixedOrders = true) (hB : Region.lexB .any l.toArray = true) (hS : S w.drew)
    (h : wpQuiet P l.toArray (fun w' => ∃ x : InS S, w' = x.w) (fun a' => ∀ w', (∃ x : InS S, w' = x.w) → Q .normal a' w') l a) : (Code.region id l.toArray true).wp P Q a w :=
  wp_region_quiet (C := fun w' => ∃ x : InS S, w' = x.w) hm hB ⟨⟨_, hS⟩, rfl⟩ (by simpa using h)
theorem class_call {P : Program} {f : FuncId} {args : Array Value} {v : Value} {S : World → Prop} {u : InS S} (hk : ∀ b, S u.w → Keeps u.w b → S b) (h : Calls P f args u.w fun e w' => e = .returned v ∧ Keeps u.w w') :
    Calls P f args u.w fun e w'' => e = .returned v ∧ ∃ y : InS S, w'' = y.w :=
  h.mono fun _ w' ⟨he, k⟩ => ⟨he, ⟨w', hk w' u.ok k⟩, rfl⟩
theorem class_same {P : Program} {f : FuncId} {args : Array Value} {v : Value} {S : World → Prop} {u : InS S} (h : Calls P f args u.w fun e w' => e = .returned v ∧ u.w = w') :
    Calls P f args u.w fun e w'' => e = .returned v ∧ ∃ y : InS S, w'' = y.w :=
  h.mono fun _ _ ⟨he, k⟩ => ⟨he, u, k.symm⟩
/-- These cells hold these values, and only new memory has been made since W. -/
structure CellsK (L : List (Addr × Value)) (W w : World) : Prop where
  cells : ∀ q ∈ L, w.cell? q.1 = some q.2
  since : Keeps W w
theorem CellsK.keep {L : List (Addr × Value)} {W a b : World} (h : CellsK L W a) (k : Keeps a b) : CellsK L W b :=
  ⟨fun q hq => by
    have e := h.cells q hq
    rw [Below.cell (p := q.1) k (World.block_lt_of_cell? a _ e)]
    exact e, h.since.trans k⟩
theorem CellsK.start {L : List (Addr × Value)} {w : World} (h : ∀ q ∈ L, w.cell? q.1 = some q.2) : CellsK L w w.drew := ⟨h, (Keeps.refl _).drew⟩
theorem cells_nil (w : World) : ∀ q ∈ ([] : List (Addr × Value)), w.cell? q.1 = some q.2 := fun q h => by cases h
theorem cells_cons {w : World} {a : Addr} {v : Value} {L : List (Addr × Value)} (h : w.cell? a = some v) (hL : ∀ q ∈ L, w.cell? q.1 = some q.2) : ∀ q ∈ (a, v) :: L, w.cell? q.1 = some q.2 := fun q hq => by
  rcases List.mem_cons.1 hq with rfl | hq
  · exact h
  · exact hL q hq
end Go.Proofs.YtfgpephpkibbaaaGreatDoor

