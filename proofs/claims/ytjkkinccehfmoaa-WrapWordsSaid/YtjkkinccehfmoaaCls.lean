/-
  A region that draws its order and only reads, beside calls that make new memory: one walk of the text's order, over the worlds of a class; by no layer.
-/
import Derived.Test.YtjkkinccehfmoaaBlk
import Derived.BigQuiet
namespace Go.Proofs.Ytjkkinccehfmoaa
open Go.RowKit Go.Lib

/-- A world of which S is true. -/
structure InS (S : World → Prop) where
  w : World
  ok : S w
theorem wp_region_class {P : Program} {id : Nat} {Q : Exit → Act → World → Prop} {a : Act} {w : World} {l : List Oper} (S : World → Prop) (hm : P.follows .mixedOrders = true) (hB : Region.lexB .any l.toArray = true) (hS : S w.drew)
    (h : wpQuiet P l.toArray (fun w' => ∃ x : InS S, w' = x.w) (fun a' => ∀ w', (∃ x : InS S, w' = x.w) → Q .normal a' w') l a) : (Code.region id l.toArray true).wp P Q a w :=
  wp_region_quiet (C := fun w' => ∃ x : InS S, w' = x.w) hm hB ⟨⟨_, hS⟩, rfl⟩ (by simpa using h)
theorem class_call {P : Program} {f : FuncId} {args : Array Value} {v : Value} {S : World → Prop} {u : InS S} (hk : ∀ b, S u.w → Keeps u.w b → S b) (h : Calls P f args u.w fun e w' => e = .returned v ∧ Keeps u.w w') :
    Calls P f args u.w fun e w'' => e = .returned v ∧ ∃ y : InS S, w'' = y.w :=
  h.mono fun _ w' ⟨he, k⟩ => ⟨he, ⟨w', hk w' u.ok k⟩, rfl⟩
theorem class_same {P : Program} {f : FuncId} {args : Array Value} {v : Value} {S : World → Prop} {u : InS S} (h : Calls P f args u.w fun e w' => e = .returned v ∧ u.w = w') :
    Calls P f args u.w fun e w'' => e = .returned v ∧ ∃ y : InS S, w'' = y.w :=
  h.mono fun _ _ ⟨he, k⟩ => ⟨he, u, k.symm⟩
/-- These cells hold these values, and only new memory has been made since W. -/
structure CellsK (L : List (Addr × Value)) (W w : World) : Prop where
  cells : ∀ q ∈ L, w.cell? q.1 = some q.2
  since : Keeps W w
theorem CellsK.keep {L : List (Addr × Value)} {W a b : World} (h : CellsK L W a) (k : Keeps a b) : CellsK L W b :=
  ⟨fun q hq => by
    have e := h.cells q hq
    rw [Below.cell (p := q.1) k (World.block_lt_of_cell? a _ e)]
    exact e, h.since.trans k⟩
theorem CellsK.start {L : List (Addr × Value)} {w : World} (h : ∀ q ∈ L, w.cell? q.1 = some q.2) : CellsK L w w.drew := ⟨h, (Keeps.refl _).drew⟩
theorem cells_nil (w : World) : ∀ q ∈ ([] : List (Addr × Value)), w.cell? q.1 = some q.2 := fun q h => by cases h
theorem cells_cons {w : World} {a : Addr} {v : Value} {L : List (Addr × Value)} (h : w.cell? a = some v) (hL : ∀ q ∈ L, w.cell? q.1 = some q.2) : ∀ q ∈ (a, v) :: L, w.cell? q.1 = some q.2 := fun q hq => by
  rcases List.mem_cons.1 hq with rfl | hq
  · exact h
  · exact hL q hq
end Go.Proofs.Ytjkkinccehfmoaa
