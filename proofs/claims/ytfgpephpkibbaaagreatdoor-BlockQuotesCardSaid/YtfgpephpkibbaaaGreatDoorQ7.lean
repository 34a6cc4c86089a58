/-
  Texts of the proof, one behind the other: Ats.
-/
import Derived.Test.YtfgpephpkibbaaaGreatDoorChecked
import Derived.ProofKit
import Derived.OpenShut
import Derived.ChangeMaps5
import Derived.Carry
import Derived.Deep.Strs
/-
  Arguments out of their readings: a slice of texts.
-/
namespace Go.Proofs.YtfgpephpkibbaaaGreatDoor
open Go.ChangeShapes Go.WideShapes Go.ChangeAt Go.RowKit Go.ChangeMaps

/-- A slice of texts: its texts, cell by cell. -/
theorem open_texts {P : Program} {H : Type} {enc : TypeId × Value → H} {W : World} {sp : Nat → Bool} {held : Bool} {t e : TypeId} {a : Option Addr} {len cap : Nat} {d : DataW H} {ps : List MemPlace}
    (ht : P.underlying t = some (.slice e)) (he : P.underlying e = some .string) (hc : P.cellsOf e = 1) (h : DataW.Trod enc P W 0 sp held t (.slice a len cap) d ps) :
    ∃ xs : List ByteArray, xs.length = len ∧ (∀ x ∈ xs, x.size ≤ maxLen) ∧ (0 < len → ∃ b off, a = some ⟨b, off, none⟩ ∧ ∀ k, k < len → W.cell? ⟨b, off + k, none⟩ = some (.string (xs.getD k ⟨#[]⟩))) ∧ len ≤ maxLen := by
  obtain ⟨fuel, hf⟩ := h
  rcases Go.Deep.open_strs ht he hc hf with ⟨hcs, _⟩ | ⟨a', len', cap', m, Sx, hcs, _, hl, hm, hmm, _, hx⟩
  · simp [Value.cells] at hcs
    obtain ⟨rfl, rfl, rfl⟩ := hcs
    exact ⟨[], rfl, by simp, fun k => absurd k (by decide), Nat.zero_le _⟩
  · simp [Value.cells] at hcs
    obtain ⟨rfl, rfl, rfl⟩ := hcs
    have hlz : len ≤ m := by rw [hmm]; split <;> omega
    obtain ⟨b, off, spot⟩ := a'
    refine ⟨(List.range len).map Sx, by simp, fun x h => ?_, fun h0 => ?_, by omega⟩
    · obtain ⟨i, hi, rfl⟩ := List.mem_map.1 h
      exact (hx i (by have := List.mem_range.1 hi; omega)).2
    · have hspot : spot = none := by simpa [Addr.add] using World.cell?_spot (hx 0 (by omega)).1
      subst hspot
      refine ⟨b, off, rfl, fun k hk => ?_⟩
      have h1 := (hx k (by omega)).1
      rw [Addr.add_lit] at h1
      rw [h1, List.getD_eq_getElem?_getD, List.getElem?_map, List.getElem?_range hk]; rfl
end Go.Proofs.YtfgpephpkibbaaaGreatDoor

