/-
  Items in memory, as they are read.
-/
import Derived.Test.YtjkkinccehfmoaaItb
namespace Go.Proofs.Ytjkkinccehfmoaa
open Go.RowKit Go.Lib Go.Maps

/-- The slice v holds the items l, as they are read. -/
def IsAt (W : World) (l : List It) (v : Value) : Prop := ∃ A cap, v = .slice A l.length cap ∧ l.length ≤ cap ∧ cap ≤ maxLen ∧ (0 < l.length → ∃ g o, A = some ⟨g, o, none⟩ ∧ ∀ i (h : i < l.length), W.rangeAt g (o + i * 9) (itC l[i]))
theorem IsAt.keep {W W' : World} {l : List It} {v : Value} (h : IsAt W l v) (k : Keeps W W') : IsAt W' l v := by
  obtain ⟨A, cap, h1, h2, h3, h4⟩ := h
  refine ⟨A, cap, h1, h2, h3, fun h0 => ?_⟩
  obtain ⟨g, o, e, hc⟩ := h4 h0
  exact ⟨g, o, e, fun i hi => range_same (hc i hi) (k.block g (range_lt (hc i hi) (by rw [itC_len]; decide)))⟩
end Go.Proofs.Ytjkkinccehfmoaa
