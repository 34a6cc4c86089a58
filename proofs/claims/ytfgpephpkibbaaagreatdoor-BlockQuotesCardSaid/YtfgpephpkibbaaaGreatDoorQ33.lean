/-
  Texts of the proof, one behind the other: Chg.
-/
import Derived.Test.YtfgpephpkibbaaaGreatDoorQ11
import Derived.Test.YtfgpephpkibbaaaGreatDoorQ18
import Derived.Test.YtfgpephpkibbaaaGreatDoorQ19
import Derived.Test.YtfgpephpkibbaaaGreatDoorQ12
/-
  Who owns which piece of memory, what a call may turn of it; the tables that the program reads lie elsewhere.
-/
namespace Go.Proofs.YtfgpephpkibbaaaGreatDoor
open Go.RowKit Go.Lib

/-- What a call may do: new memory, and what the parser owns. -/
structure Chg (W : World) (O : Nat → Option Nat) (W' : World) (O' : Nat → Option Nat) : Prop where
  os : W'.os = W.os
  tape : W'.tape = W.tape
  output : W'.output = W.output
  size : W.heap.size ≤ W'.heap.size
  own : ∀ b, b < W.heap.size → O' b = O b
  block : ∀ b, b < W.heap.size → O b = none → W'.heap[b]? = W.heap[b]?
theorem Chg.refl (W : World) (O : Nat → Option Nat) : Chg W O W O := ⟨rfl, rfl, rfl, Nat.le_refl _, fun _ _ => rfl, fun _ _ _ => rfl⟩
theorem Chg.trans {a b c : World} {O P Q : Nat → Option Nat} (h : Chg a O b P) (k : Chg b P c Q) : Chg a O c Q :=
  ⟨k.os.trans h.os, k.tape.trans h.tape, k.output.trans h.output, Nat.le_trans h.size k.size, fun i hi => (k.own i (Nat.lt_of_lt_of_le hi h.size)).trans (h.own i hi),
    fun i hi h0 => (k.block i (Nat.lt_of_lt_of_le hi h.size) (by rw [h.own i hi]; exact h0)).trans (h.block i hi h0)⟩
theorem Chg.keeps {W W' : World} (O : Nat → Option Nat) (k : Keeps W W') : Chg W O W' O := ⟨k.os, k.tape, k.output, k.size, fun _ _ => rfl, fun b hb _ => k.block b hb⟩
/-- A block that isn't the parser's stays. -/
theorem Chg.blk {W W' : World} {O O' : Nat → Option Nat} (h : Chg W O W' O') {b : Nat} {t : TypeId} {cs : Array Value} (hb : Blk W b t cs) (h0 : O b = none) : Blk W' b t cs := by
  unfold Blk
  rw [h.block b hb.lt h0]
  exact hb
/-- The tables that the program reads lie where the parser owns nothing. -/
def EnvM (W : World) (O : Nat → Option Nat) : Prop := ∃ W0, Lis W0 ∧ Mxl W0 ∧ Keeps W0 W ∧ ∀ b, O b ≠ none → W0.heap.size ≤ b
theorem EnvM.chg {W W' : World} {O O' : Nat → Option Nat} (h : EnvM W O) (c : Chg W O W' O') : EnvM W' O' := by
  obtain ⟨W0, h1, h2, h3, h4⟩ := h
  have hs := h3.size
  refine ⟨W0, h1, h2, ⟨c.os.trans h3.os, c.tape.trans h3.tape, c.output.trans h3.output, Nat.le_trans hs c.size, fun b hb => ?_⟩, fun b hb => ?_⟩
  · have h0 : O b = none := by
      cases e : O b with
      | none => rfl
      | some x => have := h4 b (by rw [e]; simp); omega
    exact (c.block b (by omega) h0).trans (h3.block b hb)
  · by_cases hl : b < W.heap.size
    · rw [c.own b hl] at hb
      exact h4 b hb
    · omega
theorem EnvM.lis {W : World} {O : Nat → Option Nat} (h : EnvM W O) : Lis W := by
  obtain ⟨W0, h1, _, h3, _⟩ := h
  exact h1.keep h3
theorem EnvM.mxl {W : World} {O : Nat → Option Nat} (h : EnvM W O) : Mxl W := by
  obtain ⟨W0, _, h2, h3, _⟩ := h
  exact h2.keep h3
def upd {α : Type} (f : Nat → α) (i : Nat) (a : α) : Nat → α := fun j => if j = i then a else f j
theorem upd_at {α : Type} (f : Nat → α) (i : Nat) (a : α) : upd f i a i = a := by unfold upd; rw [if_pos rfl]
theorem upd_ne {α : Type} (f : Nat → α) {i j : Nat} (a : α) (h : j ≠ i) : upd f i a j = f j := by unfold upd; rw [if_neg h]
end Go.Proofs.YtfgpephpkibbaaaGreatDoor

