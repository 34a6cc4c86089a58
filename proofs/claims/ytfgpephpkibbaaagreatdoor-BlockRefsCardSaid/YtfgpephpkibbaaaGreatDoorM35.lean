/-
  Texts of the proof, one behind the other: Bky.
-/
import Derived.Test.YtfgpephpkibbaaaGreatDoorM33
/-
  Blank ends and tight lists, a step at a time. No program in sight.
-/
namespace Go.Proofs.YtfgpephpkibbaaaGreatDoor
open Go Go.Lib

/-- A place in the list, or none. -/
def Plq (l : List Nd) (i : Int) : Prop := i = -1 ∨ (0 ≤ i ∧ i < l.length)
theorem Wf.lastQ {l : List Nd} {t : Nat} (h : Wf l t) {i : Nat} (hi : i < l.length) : Plq l (gN l i).last := by
  rcases h.last i hi with e | e
  · exact .inl e
  · exact .inr (by omega)
theorem Wf.aheadQ {l : List Nd} {t : Nat} (h : Wf l t) {i : Nat} (hi : i < l.length) : Plq l (gN l i).ahead := by
  rcases h.ahead i hi with e | e
  · exact .inl e
  · have hu : -1 ≤ (gN l i).up := by
      rcases Nat.eq_zero_or_pos i with h0 | h0
      · rw [h0, h.up0]; omega
      · have := h.up i h0 hi; omega
    exact .inr (by omega)
theorem ends_none (n : Nat) (l : List Nd) : endsGo n l (-1) = false := by
  cases n with
  | zero => rfl
  | succ n => unfold endsGo; rw [if_pos rfl]
theorem ends_fuel {l : List Nd} {t : Nat} (h : Wf l t) : ∀ (n m : Nat) (i : Int), Plq l i → (l.length : Int) - i ≤ n → (l.length : Int) - i ≤ m → endsGo n l i = endsGo m l i
  | 0, m, i, hq, hn, hm => by
    rcases hq with e | e
    · rw [e, ends_none, ends_none]
    · omega
  | n + 1, 0, i, hq, hn, hm => by
    rcases hq with e | e
    · rw [e, ends_none, ends_none]
    · omega
  | n + 1, m + 1, i, hq, hn, hm => by
    rcases hq with e | e
    · rw [e, ends_none, ends_none]
    · have u : ∀ k, endsGo (k + 1) l i = if (gN l i.toNat).be then true else if (gN l i.toNat).kind ≠ 3 ∧ (gN l i.toNat).kind ≠ 4 then false else endsGo k l (gN l i.toNat).last := fun k => by rw [endsGo, if_neg (by omega)]
      rw [u, u]
      split
      · rfl
      · split
        · rfl
        · have hl := h.lastQ (i := i.toNat) (by omega)
          rcases hl with e1 | e1
          · rw [e1, ends_none, ends_none]
          · have := h.last i.toNat (by omega)
            exact ends_fuel h n m _ (.inr e1) (by omega) (by omega)
theorem ends_step {l : List Nd} {t : Nat} (h : Wf l t) {i : Nat} (hi : i < l.length) : endsM l i = if (gN l i).be then true else if (gN l i).kind ≠ 3 ∧ (gN l i).kind ≠ 4 then false else endsM l (gN l i).last := by
  unfold endsM
  obtain ⟨m, hm⟩ : ∃ m, l.length = m + 1 := ⟨l.length - 1, by omega⟩
  have e : endsGo l.length l i = endsGo (m + 1) l i := by rw [hm]
  rw [e]
  have u : endsGo (m + 1) l i = if (i : Int) = -1 then false else if (gN l (i : Int).toNat).be then true else if (gN l (i : Int).toNat).kind ≠ 3 ∧ (gN l (i : Int).toNat).kind ≠ 4 then false else endsGo m l (gN l (i : Int).toNat).last := by rw [endsGo]
  rw [u, if_neg (by omega), Int.toNat_natCast]
  split
  · rfl
  · split
    · rfl
    · rcases h.last i hi with e1 | e1
      · rw [e1, ends_none, ends_none]
      · exact ends_fuel h _ _ _ (.inr (by omega)) (by omega) (by omega)
theorem tk_none (n : Nat) (l : List Nd) (a : Int) : tkGo n l a (-1) = true := by
  cases n with
  | zero => rfl
  | succ n => unfold tkGo; rw [if_pos rfl]
theorem tk_fuel {l : List Nd} {t : Nat} (h : Wf l t) (a : Int) : ∀ (n m : Nat) (i : Int), Plq l i → i < n → i < m → tkGo n l a i = tkGo m l a i
  | 0, m, i, hq, hn, hm => by
    rcases hq with e | e
    · rw [e, tk_none, tk_none]
    · omega
  | n + 1, 0, i, hq, hn, hm => by
    rcases hq with e | e
    · rw [e, tk_none, tk_none]
    · omega
  | n + 1, m + 1, i, hq, hn, hm => by
    rcases hq with e | e
    · rw [e, tk_none, tk_none]
    · have u : ∀ k, tkGo (k + 1) l a i = if i ≠ a ∧ endsM l i = true then false else tkGo k l a (gN l i.toNat).ahead := fun k => by rw [tkGo, if_neg (by omega)]
      rw [u, u]
      split
      · rfl
      · have hl := h.aheadQ (i := i.toNat) (by omega)
        rcases hl with e1 | e1
        · rw [e1, tk_none, tk_none]
        · have := h.ahead i.toNat (by omega)
          exact tk_fuel h a n m _ (.inr e1) (by omega) (by omega)
theorem tk_step {l : List Nd} {t : Nat} (h : Wf l t) (a : Int) {i : Nat} (hi : i < l.length) : tkGo l.length l a i = if (i : Int) ≠ a ∧ endsM l i = true then false else tkGo l.length l a (gN l i).ahead := by
  obtain ⟨m, hm⟩ : ∃ m, l.length = m + 1 := ⟨l.length - 1, by omega⟩
  have e : tkGo l.length l a i = tkGo (m + 1) l a i := by rw [hm]
  rw [e]
  have u : tkGo (m + 1) l a i = if (i : Int) = -1 then true else if (i : Int) ≠ a ∧ endsM l i = true then false else tkGo m l a (gN l (i : Int).toNat).ahead := by rw [tkGo]
  rw [u, if_neg (by omega), Int.toNat_natCast]
  split
  · rfl
  · rcases h.aheadQ hi with e1 | e1
    · rw [e1, tk_none, tk_none]
    · have := h.ahead i hi
      exact tk_fuel h a _ _ _ (.inr e1) (by omega) (by omega)
theorem ti_none (n : Nat) (l : List Nd) (a : Int) : tiGo n l a (-1) = true := by
  cases n with
  | zero => rfl
  | succ n => unfold tiGo; rw [if_pos rfl]
theorem ti_fuel {l : List Nd} {t : Nat} (h : Wf l t) (a : Int) : ∀ (n m : Nat) (i : Int), Plq l i → i < n → i < m → tiGo n l a i = tiGo m l a i
  | 0, m, i, hq, hn, hm => by
    rcases hq with e | e
    · rw [e, ti_none, ti_none]
    · omega
  | n + 1, 0, i, hq, hn, hm => by
    rcases hq with e | e
    · rw [e, ti_none, ti_none]
    · omega
  | n + 1, m + 1, i, hq, hn, hm => by
    rcases hq with e | e
    · rw [e, ti_none, ti_none]
    · have u : ∀ k, tiGo (k + 1) l a i = if i ≠ a ∧ endsM l i = true then false else if tkM l (gN l i.toNat).last = false then false else tiGo k l a (gN l i.toNat).ahead := fun k => by rw [tiGo, if_neg (by omega)]
      rw [u, u]
      split
      · rfl
      · split
        · rfl
        · have hl := h.aheadQ (i := i.toNat) (by omega)
          rcases hl with e1 | e1
          · rw [e1, ti_none, ti_none]
          · have := h.ahead i.toNat (by omega)
            exact ti_fuel h a n m _ (.inr e1) (by omega) (by omega)
theorem ti_step {l : List Nd} {t : Nat} (h : Wf l t) (a : Int) {i : Nat} (hi : i < l.length) : tiGo l.length l a i = if (i : Int) ≠ a ∧ endsM l i = true then false else if tkM l (gN l i).last = false then false else tiGo l.length l a (gN l i).ahead := by
  obtain ⟨m, hm⟩ : ∃ m, l.length = m + 1 := ⟨l.length - 1, by omega⟩
  have e : tiGo l.length l a i = tiGo (m + 1) l a i := by rw [hm]
  rw [e]
  have u : tiGo (m + 1) l a i = if (i : Int) = -1 then true else if (i : Int) ≠ a ∧ endsM l i = true then false else if tkM l (gN l (i : Int).toNat).last = false then false else tiGo m l a (gN l (i : Int).toNat).ahead := by rw [tiGo]
  rw [u, if_neg (by omega), Int.toNat_natCast]
  split
  · rfl
  · split
    · rfl
    · rcases h.aheadQ hi with e1 | e1
      · rw [e1, ti_none, ti_none]
      · have := h.ahead i hi
        exact ti_fuel h a _ _ _ (.inr e1) (by omega) (by omega)
end Go.Proofs.YtfgpephpkibbaaaGreatDoor

