/-
  Texts of the proof, one behind the other: Srow.
-/
import Derived.Test.YtfgpephpkibbaaaGreatDoorQ8
import Derived.Maps.AppendAt
import Derived.OwnWalk
import Derived.OneCell
import Derived.Laws.OwnMore
import Derived.Laws.AppendOwnNone
import Derived.Lib.SmallJoins
/-
  Lists of texts in memory: a slice of strings that the call owns.
-/
namespace Go.Proofs.YtfgpephpkibbaaaGreatDoor
open Go.RowKit Go.Lib

theorem infoTx : (Tryz.prog.info? 9).map (fun i => (i.zero, i.size, i.bytes)) = some (some (.string ⟨#[]⟩), 1, 16) := by kernel_rfl
/-- The slice v is the call's own, and holds the texts xs. -/
abbrev Texts (n₀ : Nat) (W : World) (v : Value) (xs : List ByteArray) : Prop := W.ownsRow n₀ 9 1 v xs.length (xs.map Value.string)
theorem txs_keep {W W' : World} {n₀ n : Nat} {e : TypeId} {v : Value} {vs : List Value} (h : W.ownsRow n₀ e 1 v n vs) (b : Below W.heap.size W W') : W'.ownsRow n₀ e 1 v n vs := by
  refine ⟨h.1, ?_⟩
  rcases h.2 with hn | ⟨g, cap, cur, rfl, hb, hgg, rest⟩
  · exact .inl hn
  · exact .inr ⟨g, cap, cur, rfl, hb, (b.block g (Array.getElem?_eq_some_iff.1 hgg).1).trans hgg, rest⟩
theorem txs_heap {W W' : World} {n₀ n : Nat} {e : TypeId} {v : Value} {vs : List Value} (h : W.ownsRow n₀ e 1 v n vs) (b : W'.heap = W.heap) : W'.ownsRow n₀ e 1 v n vs := by
  unfold World.ownsRow at *
  rw [b]
  exact h
theorem txs_form {W : World} {n₀ : Nat} {e : TypeId} {v : Value} {n : Nat} {vs : List Value} (h : W.ownsRow n₀ e 1 v n vs) : ∃ ao cap, v = .slice ao n cap ∧ n ≤ cap ∧ cap ≤ maxLen := by
  rcases h.2 with ⟨rfl, h0⟩ | ⟨g, cap, cur, rfl, _, _, hn, hm, _⟩
  · exact ⟨none, 0, by rw [h0], by omega, by simp [maxLen]⟩
  · exact ⟨_, cap, rfl, hn, hm⟩
theorem own_succ {W : World} {n₀ : Nat} {e : TypeId} {v : Value} {n : Nat} {vs : List Value} (h : W.ownsRow n₀ e 1 v (n + 1) vs) : ∃ g cap, v = .slice (some ⟨g, 0, none⟩) (n + 1) cap := by
  rcases Go.Joins.ownsRow_forms h with ⟨_, e⟩ | h
  · omega
  · exact h
theorem txs_cell {W : World} {n₀ n : Nat} {e : TypeId} {ao : Option Addr} {cap : Nat} {zs : List ByteArray} (h : W.ownsRow n₀ e 1 (.slice ao n cap) n (zs.map Value.string)) (hn : 0 < n) :
    n ≤ cap ∧ n₀ ≤ cap + n₀ ∧ ∃ g, ao = some ⟨g, 0, none⟩ ∧ ∀ k, k < n → W.cell? ⟨g, k, none⟩ = some (.string (zs.getD k ⟨#[]⟩)) := by
  rcases h.2 with ⟨_, h0⟩ | ⟨g, c, cur, hv, _, _, hc, _⟩
  · omega
  · cases hv
    refine ⟨hc, by omega, g, rfl, fun k hk => ?_⟩
    have hl : zs.length = n := by have := h.1; simpa using this
    rw [h.cellAt k (by omega), List.getElem?_map, List.getElem?_eq_getElem (by omega)]
    simp [List.getD, List.getElem?_eq_getElem (show k < zs.length by omega)]
/-- What an append to an owned row leaves of an iterator. -/
theorem iter_grown {W W' : World} {n₀ n : Nat} {e : TypeId} {v : Value} {vs : List Value} (h : W.ownsRow n₀ e 1 v n vs) (g : W.grownBy W' v.ownBlock) {k : Nat} {s : ByteArray} {p : Nat} (hk : W.heap[k]? = some (.stringIter s p)) : W'.heap[k]? = some (.stringIter s p) := by
  rw [g.block k (iter_lt hk) ?_]
  · exact hk
  · intro e1
    rcases h.2 with ⟨rfl, _⟩ | ⟨g', cap, cur, rfl, _, hgg, _⟩
    · simp [Value.ownBlock] at e1
    · simp [Value.ownBlock] at e1
      subst e1
      rw [hk] at hgg
      cases hgg
theorem keepsR_grown {w W W' : World} {n : Nat} {e : TypeId} {v : Value} {vs : List Value} (h : W.ownsRow w.heap.size e 1 v n vs) (k : Keeps w W) (g : W.grownBy W' v.ownBlock) : Keeps w W' :=
  Below.grown k g k.size (fun i hi => (h.lt i hi).1)
theorem own_iterAt {W : World} {n₀ n : Nat} {e : TypeId} {v : Value} {vs : List Value} (h : W.ownsRow n₀ e 1 v n vs) {k : Nat} {s : ByteArray} {p : Nat} (hk : W.heap[k]? = some (.stringIter s p)) (p' : Nat) : (W.iterAt k s p').ownsRow n₀ e 1 v n vs := by
  refine ⟨h.1, ?_⟩
  rcases h.2 with hn | ⟨g, cap, cur, rfl, hb, hgg, rest⟩
  · exact .inl hn
  · refine .inr ⟨g, cap, cur, rfl, hb, ?_, rest⟩
    rw [iterAt_other _ _ _ _ _ (fun e => by rw [e, hk] at hgg; cases hgg)]
    exact hgg
end Go.Proofs.YtfgpephpkibbaaaGreatDoor

