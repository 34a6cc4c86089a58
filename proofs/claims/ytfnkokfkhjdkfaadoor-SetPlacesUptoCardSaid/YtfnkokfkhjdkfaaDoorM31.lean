/-
  Texts of the proof, one behind the other: Sit.
-/
import Derived.Test.YtfnkokfkhjdkfaaDoorM30
import Derived.Test.YtfnkokfkhjdkfaaDoorM16
/-
  Items put behind others, in a row that a call owns.
-/
namespace Go.Proofs.YtfnkokfkhjdkfaaDoor
open Go.RowKit Go.Lib Go.Maps

/-- One item is made and put behind the others. -/
theorem its_made {w0 W : World} {u : Value} {its : List It} (hr : ItsAt w0.heap.size W u its) (hk : Keeps w0 W) (x : It) (hlen : its.length ≤ 1000000) :
    ∃ A8 c8 w8, (Builtin.append_ #[27, 27] 27 #[u, .slice (some ⟨W.heap.size, 0, none⟩) 1 1]).run Tryd.prog (W.alloc (.cells #[.int .i64 x.kind, .int .i64 x.width, .int .i64 x.grow, .int .i64 x.shrink, .int .i64 x.cost, .string ⟨x.codes.toArray⟩, .int .i64 x.font, .int .i64 x.size, .int .i64 x.link] 42)) = .ok (.slice A8 (its.length + 1) c8) w8 ∧
      ItsAt w0.heap.size w8 (.slice A8 (its.length + 1) c8) (its ++ [x]) ∧ Keeps w0 w8 ∧
      (∀ k, k < W.heap.size → some k ≠ u.ownBlock → w8.heap[k]? = W.heap[k]?) ∧
      (∀ k, k < W.heap.size → u.ownBlock ≠ some k → (Value.slice A8 (its.length + 1) c8).ownBlock ≠ some k) := by
  obtain ⟨i0, hi0, hz0, hz1, hz2⟩ := info_parts infoIt
  have hn := hk.size
  have KA : Keeps W (W.alloc (.cells (itC x).toArray 42)) := (Keeps.refl _).alloc _
  have hrow := row_below hr KA
  obtain ⟨v8, w8, ra, o8, g8, _, l8⟩ := run_append_own_at (P := Tryd.prog) (W.alloc (.cells (itC x).toArray 42)) w0.heap.size 27 27 42 i0 (.agg zeroIt) 9 80 Tryd.underlying27 hi0 hz0 hz1 hz2 rfl (by decide) _ _ _ hrow ⟨W.heap.size, 0, none⟩ 1 1 (itC x) rfl (cells_new W (itC x) 42) (itC_one x) (by simp only [maxLen]; omega) (by omega) (Nat.le_trans hn KA.size)
  obtain ⟨A8, c8, e8, _⟩ := row_form o8
  subst e8
  refine ⟨A8, c8, w8, ra, ?_, Below.grown (hk.trans KA) g8 (Nat.le_trans hn KA.size) (fun i hi => (hrow.lt i hi).1), fun k hk hb => ?_, fun k hk hb e => ?_⟩
  · unfold ItsAt
    rw [List.length_append, List.length_singleton, itR_app, show itR [x] = itC x from List.append_nil _]
    exact o8
  · rw [g8.block k (Nat.lt_of_lt_of_le hk KA.size) hb, KA.block k hk]
  · rcases l8 with q | q
    · exact hb (q.symm.trans e)
    · rw [q] at e
      injection e with e
      have hs := KA.size
      omega
end Go.Proofs.YtfnkokfkhjdkfaaDoor

