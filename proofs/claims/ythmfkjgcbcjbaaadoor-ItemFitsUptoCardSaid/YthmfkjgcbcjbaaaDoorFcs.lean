/-
  What Cut tells, as a plain function on lists.
-/
import Derived.Test.YthmfkjgcbcjbaaaDoorFntc
namespace Go.Proofs.YthmfkjgcbcjbaaaDoor
open Go.RowKit Go.Lib

theorem cutGo_spec (f size width : Int) : ∀ (u : Int) (l : List UInt8), (cutGo f size width u l = 0 ∨ u + runL f size (l.take (cutGo f size width u l)) ≤ width) ∧ (cutGo f size width u l < l.length → width < u + runL f size (l.take (cutGo f size width u l + 1)))
  | u, [] => ⟨.inl rfl, fun h => by simp [cutGo] at h⟩
  | u, b :: l => by
    by_cases h : width < u + advL f size b.toNat
    · have e : cutGo f size width u (b :: l) = 0 := by unfold cutGo; rw [if_pos h]
      rw [e]
      exact ⟨.inl rfl, fun _ => by simp [runL]; exact h⟩
    · have e : cutGo f size width u (b :: l) = cutGo f size width (u + advL f size b.toNat) l + 1 := by
        conv => lhs; unfold cutGo
        rw [if_neg h]; omega
      obtain ⟨h1, h2⟩ := cutGo_spec f size width (u + advL f size b.toNat) l
      rw [e, List.take_succ_cons, List.take_succ_cons]
      simp only [runL, List.length_cons]
      refine ⟨.inr ?_, fun h3 => by have := h2 (by omega); omega⟩
      rcases h1 with h1 | h1
      · rw [h1, List.take_zero]; simp only [runL]; omega
      · omega
/-- What is cut off has room, and one more hasn't. -/
theorem cut_spec {f size width : Int} (hs : 0 ≤ size) (l : List UInt8) : cutL f size width l ≤ l.length ∧ (l ≠ [] → 0 < cutL f size width l) ∧ (cutL f size width l ≤ 1 ∨ runL f size (l.take (cutL f size width l)) ≤ width) ∧
    (cutL f size width l < l.length → width < runL f size (l.take (cutL f size width l + 1))) := by
  obtain ⟨h1, h2⟩ := cutGo_spec f size width 0 l
  have h3 := cutGo_le f size width 0 l
  unfold cutL
  by_cases hl : l = []
  · subst hl; simp
  · have hp := List.length_pos_iff.2 hl
    rw [if_neg hl]
    by_cases h0 : cutGo f size width 0 l = 0
    · rw [h0] at h2
      have e : max 1 (cutGo f size width 0 l) = 1 := by omega
      rw [e]
      refine ⟨by omega, fun _ => by omega, .inl (by omega), fun _ => ?_⟩
      have a := h2 (by omega)
      have b := run_take_le (f := f) hs l 1 2 (by omega)
      have e1 : runL f size (l.take (0 + 1)) = runL f size (l.take 1) := rfl
      have e2 : runL f size (l.take (1 + 1)) = runL f size (l.take 2) := rfl
      omega
    · have e : max 1 (cutGo f size width 0 l) = cutGo f size width 0 l := by omega
      rw [e]
      refine ⟨h3, fun _ => by omega, .inr (by rcases h1 with h1 | h1 <;> omega), fun h => by have := h2 h; omega⟩
end Go.Proofs.YthmfkjgcbcjbaaaDoor
