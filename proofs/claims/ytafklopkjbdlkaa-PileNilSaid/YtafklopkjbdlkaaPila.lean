/-
  Piles in memory: what it is that a struct's one field owns a row of values, and what an operation on one pile leaves of another.
-/
import Derived.Test.YtafklopkjbdlkaaChecked
import Derived.WalkKit
import Derived.WalkSpells
import Derived.WalkLawsBesides
import Derived.IntWalk
import Derived.RangeFuncBox
import Derived.RangeFuncLeaves
import Derived.Maps.AppendAt
import Derived.OwnWalk
import Derived.OneCell
import Derived.Laws.OwnMore
import Derived.Laws.AppendOwnNone
import Derived.Deep.QuietTactic
import Derived.Deep.DeepCutAuto
import Derived.Deep.CutBlock
import Derived.BigQuiet
import Derived.Lib.Hide
import Derived.Lib.SliceRun
import Derived.Lib.SmallJoins
namespace Go.Proofs.Ytafklopkjbdlkaa
open Go.RowKit Go.Lib

theorem ret_bool {a b : Bool} (h : a = b) : Ending.returned (.bool a) = .returned (.bool b) := by rw [h]

/-- BLOCK B IS A STRUCT OF TYPE t: ONE FIELD, THE SLICE v, WHICH OWNS vs (of type e). -/
structure Pil (n₀ : Nat) (t e : TypeId) (W : World) (B : Nat) (v : Value) (vs : List Value) : Prop where
  box : Boxed W B t v
  low : n₀ ≤ B
  row : W.ownsRow n₀ e 1 v vs.length vs

/-- WHAT AN OPERATION ON THE PILE AT B MAY DO: its own two blocks turn; its row stays where it was, or is a new block. -/
structure Moved (w w' : World) (B : Nat) (v v' : Value) : Prop where
  os : w'.os = w.os
  tape : w'.tape = w.tape
  output : w'.output = w.output
  size : w.heap.size ≤ w'.heap.size
  block : ∀ k, k < w.heap.size → k ≠ B → some k ≠ v.ownBlock → w'.heap[k]? = w.heap[k]?
  lies : v'.ownBlock = v.ownBlock ∨ ∃ g, v'.ownBlock = some g ∧ w.heap.size ≤ g

theorem Moved.refl (w : World) (B : Nat) (v : Value) : Moved w w B v v := ⟨rfl, rfl, rfl, Nat.le_refl _, fun _ _ _ _ => rfl, .inl rfl⟩
theorem Moved.trans {a b c : World} {B : Nat} {u v x : Value} (h : Moved a b B u v) (k : Moved b c B v x) : Moved a c B u x :=
  ⟨k.os.trans h.os, k.tape.trans h.tape, k.output.trans h.output, Nat.le_trans h.size k.size, fun i hi hB hu => (k.block i (Nat.lt_of_lt_of_le hi h.size) hB (by
    rcases h.lies with e | ⟨g, e, hg⟩
    · rw [e]; exact hu
    · rw [e]; intro e'; cases e'; omega)).trans (h.block i hi hB hu), by
    rcases k.lies with e | ⟨g, e, hg⟩
    · rw [e]; exact h.lies
    · exact .inr ⟨g, e, Nat.le_trans h.size hg⟩⟩

theorem own_lt {n₀ : Nat} {e : TypeId} {W : World} {v : Value} {n : Nat} {vs : List Value} (h : W.ownsRow n₀ e 1 v n vs) : ∀ g, v.ownBlock = some g → n₀ ≤ g ∧ g < W.heap.size := h.lt

theorem Moved.below {n₀ n : Nat} {e : TypeId} {w w' : World} {B : Nat} {v v' : Value} {vs : List Value} (h : Moved w w' B v v') (hB : n₀ ≤ B) (hr : w.ownsRow n₀ e 1 v n vs) (hn : n₀ ≤ w.heap.size) : Below n₀ w w' :=
  ⟨h.os, h.tape, h.output, h.size, fun k hk => h.block k (by omega) (by omega) (fun e' => by have := (hr.lt k e'.symm).1; omega)⟩

/-- TWO PILES LIE APART. -/
structure Apart (B : Nat) (v : Value) (C : Nat) (u : Value) : Prop where
  boxes : B ≠ C
  left : some B ≠ u.ownBlock
  right : some C ≠ v.ownBlock
  rows : ∀ g, v.ownBlock = some g → u.ownBlock ≠ some g

theorem Apart.symm {B C : Nat} {v u : Value} (h : Apart B v C u) : Apart C u B v := ⟨h.boxes.symm, h.right, h.left, fun g hg e => h.rows g e hg⟩

/-- ANOTHER PILE, WHICH LIES APART, IS AS IT WAS. -/
theorem Pil.other {m₀ : Nat} {t' e' : TypeId} {w w' : World} {B C : Nat} {v v' u : Value} {us : List Value} (h : Moved w w' B v v') (k : Pil m₀ t' e' w C u us) (ap : Apart B v C u) : Pil m₀ t' e' w' C u us := by
  refine ⟨(h.block C k.box.lt ap.boxes.symm ap.right).trans k.box, k.low, ?_⟩
  refine ⟨k.row.1, ?_⟩
  rcases k.row.2 with hn | ⟨g, cap, cur, rfl, hb, hgg, rest⟩
  · exact .inl hn
  · refine .inr ⟨g, cap, cur, rfl, hb, ?_, rest⟩
    rw [h.block g (Array.getElem?_eq_some_iff.1 hgg).1 (fun e => ap.left (by rw [e]; rfl)) (fun e => ap.rows g e.symm rfl)]
    exact hgg

/-- .. AND THEY LIE APART STILL. -/
theorem Apart.moved {m₀ : Nat} {t' e' : TypeId} {w w' : World} {B C : Nat} {v v' u : Value} {us : List Value} (h : Moved w w' B v v') (k : Pil m₀ t' e' w C u us) (ap : Apart B v C u) : Apart B v' C u := by
  have hu : ∀ g, u.ownBlock = some g → g < w.heap.size := fun g hg => (k.row.lt g hg).2
  rcases h.lies with e | ⟨g, e, hg⟩
  · exact ⟨ap.boxes, ap.left, by rw [e]; exact ap.right, fun g hg => ap.rows g (by rw [← e]; exact hg)⟩
  · refine ⟨ap.boxes, ap.left, ?_, ?_⟩
    · rw [e]; intro e'; have := k.box.lt; cases e'; omega
    · intro g' hg' e'
      rw [e] at hg'
      cases hg'
      have := hu _ e'
      omega

/-- A pile is as it was wherever all that lay lies as it lay. -/
theorem Pil.keep {n₀ : Nat} {t e : TypeId} {w w' : World} {B : Nat} {v : Value} {vs : List Value} (k : Pil n₀ t e w B v vs) (h : Below w.heap.size w w') : Pil n₀ t e w' B v vs := by
  refine ⟨(h.block B k.box.lt).trans k.box, k.low, k.row.1, ?_⟩
  rcases k.row.2 with hn | ⟨g, cap, cur, rfl, hb, hgg, rest⟩
  · exact .inl hn
  · exact .inr ⟨g, cap, cur, rfl, hb, (h.block g (Array.getElem?_eq_some_iff.1 hgg).1).trans hgg, rest⟩
theorem Moved.of_below {w w' w2 : World} {B : Nat} {v v' : Value} (h : Below w.heap.size w w') (k : Moved w' w2 B v v') : Moved w w2 B v v' :=
  ⟨k.os.trans h.os, k.tape.trans h.tape, k.output.trans h.output, Nat.le_trans h.size k.size, fun i hi hB hu => (k.block i (Nat.lt_of_lt_of_le hi h.size) hB hu).trans (h.block i hi), by
    rcases k.lies with e | ⟨g, e, hg⟩
    · exact .inl e
    · exact .inr ⟨g, e, Nat.le_trans h.size hg⟩⟩

/-- The slice value: nil, or a row's head. -/
theorem Pil.forms {n₀ : Nat} {t e : TypeId} {w : World} {B : Nat} {v : Value} {vs : List Value} (k : Pil n₀ t e w B v vs) : (v = .slice none 0 0 ∧ vs = []) ∨ ∃ g cap, v = .slice (some ⟨g, 0, none⟩) vs.length cap ∧ vs.length ≤ cap ∧ cap ≤ maxLen := by
  rcases k.row.2 with ⟨rfl, h0⟩ | ⟨g, cap, cur, rfl, _, _, hn, hm, _⟩
  · exact .inl ⟨rfl, List.length_eq_zero_iff.1 h0⟩
  · exact .inr ⟨g, cap, rfl, hn, hm⟩

/-- A NEW PILE. -/
theorem Pil.new (w : World) (t e : TypeId) {n₀ : Nat} (h : n₀ ≤ w.heap.size) : Pil n₀ t e (w.alloc (.cells #[.slice none 0 0] t)) w.heap.size (.slice none 0 0) [] :=
  ⟨Boxed.new w t _, h, World.ownsRow_nil _ _ _ _⟩
theorem Apart.new {B C : Nat} {u : Value} (h : C < B) (hu : ∀ g, u.ownBlock = some g → g < B) : Apart B (.slice none 0 0) C u :=
  ⟨by omega, fun e => by have := hu B e.symm; omega, by simp [Value.ownBlock], by simp [Value.ownBlock]⟩

/-- Storing the new row's head into the box. -/
theorem Pil.stored {n₀ : Nat} {t e : TypeId} {w w1 : World} {B : Nat} {v v' : Value} {vs us : List Value} (hte : t ≠ e) (k : Pil n₀ t e w B v vs) (hown : w1.ownsRow n₀ e 1 v' us.length us) (hg : w.grownBy w1 v.ownBlock)
    (hl : v'.ownBlock = v.ownBlock ∨ ∃ g, v'.ownBlock = some g ∧ w.heap.size ≤ g) :
    Boxed w1 B t v ∧ Pil n₀ t e (w1.setCell ⟨B, 0, none⟩ v') B v' us ∧ Moved w (w1.setCell ⟨B, 0, none⟩ v') B v v' := by
  have b1 : Boxed w1 B t v := k.box.kept hg (k.box.not_row hte k.row)
  refine ⟨b1, ⟨b1.set v', k.low, hown.kept (grownBy_setCell' w1 B v') (.inr (b1.not_row hte hown).symm)⟩, hg.os, hg.tape, hg.output, ?_, ?_, hl⟩
  · exact Nat.le_trans hg.size (KeepsWalks.setCell w1 _ v').size
  · intro i hi hB hu
    rw [Below.heap_setCell _ _ _ _ hB]
    exact hg.block i hi hu

theorem setCells_row (b : Nat) {e : TypeId} {fz : Nat × Nat} : ∀ (zs : List Value) (o : Nat) (w : World) (cur : Array Value), w.heap[b]? = some (.cells cur e fz) →
    ∃ cur' : Array Value, (w.setCells b o zs).heap[b]? = some (.cells cur' e fz) ∧ cur'.size = cur.size ∧ ∀ j, j < o → cur'[j]? = cur[j]?
  | [], _, _, cur, h => ⟨cur, h, rfl, fun _ _ => rfl⟩
  | z :: zs, o, w, cur, h => by
    have hlt := (Array.getElem?_eq_some_iff.1 h).1
    have h' : w.heap[b] = .cells cur e fz := by simpa [Array.getElem?_eq_getElem hlt] using h
    have h1 : (w.setCell ⟨b, o, none⟩ z).heap[b]? = some (.cells (cur.setIfInBounds o z) e fz) := by
      show (w.heap.modify b _)[b]? = _
      rw [Array.getElem?_eq_getElem (by simpa using hlt), Array.getElem_modify_self, h']
      rfl
    obtain ⟨cur', e1, e2, e3⟩ := setCells_row b zs (o + 1) _ _ h1
    refine ⟨cur', e1, by rw [e2]; simp, fun j hj => ?_⟩
    rw [e3 j (by omega), Array.getElem?_setIfInBounds_ne (by omega)]

theorem setCells_grown (b : Nat) : ∀ (zs : List Value) (o : Nat) (w : World), w.grownBy (w.setCells b o zs) (some b)
  | [], _, w => ⟨rfl, rfl, rfl, Nat.le_refl _, fun _ _ _ => rfl⟩
  | z :: zs, o, w => by
    have h := setCells_grown b zs (o + 1) (w.setCell ⟨b, o, none⟩ z)
    refine ⟨h.os, h.tape, h.output, Nat.le_trans (by simp [World.setCell]) h.size, fun i hi hne => ?_⟩
    exact (h.block i (by simpa [World.setCell] using hi) hne).trans (Below.heap_setCell _ _ _ _ (fun e => hne (by rw [e])))

/-- CUT: what stood from k on is overwritten, the first k are owned as they were. -/
theorem row_cut {n₀ : Nat} {e : TypeId} {w : World} {g n cap k : Nat} {vs zs : List Value} (h : w.ownsRow n₀ e 1 (.slice (some ⟨g, 0, none⟩) n cap) n vs) (hk : k ≤ n) :
    (w.setCells g k zs).ownsRow n₀ e 1 (.slice (some ⟨g, 0, none⟩) k cap) k (vs.take k) ∧ w.grownBy (w.setCells g k zs) (some g) := by
  obtain ⟨h0, h1⟩ := h
  rcases h1 with ⟨h1, _⟩ | ⟨g', cap', cur, h1, hb, hg, hn, hm, hs, ht⟩
  · cases h1
  · simp only [Value.slice.injEq, Option.some.injEq, Addr.mk.injEq, and_true, true_and] at h1
    obtain ⟨rfl, rfl⟩ := h1
    obtain ⟨cur', e1, e2, e3⟩ := setCells_row g zs k w cur hg
    refine ⟨⟨by rw [List.length_take]; omega, .inr ⟨g, cap, cur', rfl, hb, e1, by omega, hm, by rw [e2]; exact hs, ?_⟩⟩, ?_⟩
    · rw [← ht, List.take_take]
      apply List.ext_getElem?
      intro j
      rw [List.getElem?_take, List.getElem?_take]
      have : min k (n * 1) = k := by omega
      rw [this, Nat.mul_one]
      split
      · next hj => simpa using e3 j hj
      · rfl
    · exact setCells_grown g zs k w
end Go.Proofs.Ytafklopkjbdlkaa
