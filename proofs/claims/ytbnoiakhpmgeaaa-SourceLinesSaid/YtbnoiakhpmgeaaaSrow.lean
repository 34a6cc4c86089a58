/-
  Lists of texts in memory: a slice of strings that the call owns; same tells that two alike lists are the same.
-/
import Derived.Test.YtbnoiakhpmgeaaaSrcp
import Derived.Maps.AppendAt
import Derived.OwnWalk
import Derived.OneCell
import Derived.Laws.OwnMore
import Derived.Laws.AppendOwnNone
import Derived.Lib.SmallJoins
namespace Go.Proofs.Ytbnoiakhpmgeaaa
open Go.RowKit Go.Lib

theorem infoS : (Try.prog.info? 9).map (fun i => (i.zero, i.size, i.bytes)) = some (some (.string ⟨#[]⟩), 1, 16) := by kernel_rfl
/-- The slice v is the call's own, and holds the texts xs. -/
abbrev Texts (n₀ : Nat) (W : World) (v : Value) (xs : List ByteArray) : Prop := W.ownsRow n₀ 9 1 v xs.length (xs.map Value.string)
theorem own_keep {W W' : World} {n₀ n : Nat} {e : TypeId} {v : Value} {vs : List Value} (h : W.ownsRow n₀ e 1 v n vs) (b : Below W.heap.size W W') : W'.ownsRow n₀ e 1 v n vs := by
  refine ⟨h.1, ?_⟩
  rcases h.2 with hn | ⟨g, cap, cur, rfl, hb, hgg, rest⟩
  · exact .inl hn
  · exact .inr ⟨g, cap, cur, rfl, hb, (b.block g (Array.getElem?_eq_some_iff.1 hgg).1).trans hgg, rest⟩
theorem own_heap {W W' : World} {n₀ n : Nat} {e : TypeId} {v : Value} {vs : List Value} (h : W.ownsRow n₀ e 1 v n vs) (b : W'.heap = W.heap) : W'.ownsRow n₀ e 1 v n vs := by
  unfold World.ownsRow at *
  rw [b]
  exact h
theorem own_form {W : World} {n₀ : Nat} {e : TypeId} {v : Value} {n : Nat} {vs : List Value} (h : W.ownsRow n₀ e 1 v n vs) : ∃ ao cap, v = .slice ao n cap ∧ n ≤ cap ∧ cap ≤ maxLen := by
  rcases h.2 with ⟨rfl, h0⟩ | ⟨g, cap, cur, rfl, _, _, hn, hm, _⟩
  · exact ⟨none, 0, by rw [h0], by omega, by simp [maxLen]⟩
  · exact ⟨_, cap, rfl, hn, hm⟩
theorem own_succ {W : World} {n₀ : Nat} {e : TypeId} {v : Value} {n : Nat} {vs : List Value} (h : W.ownsRow n₀ e 1 v (n + 1) vs) : ∃ g cap, v = .slice (some ⟨g, 0, none⟩) (n + 1) cap := by
  rcases Go.Joins.ownsRow_forms h with ⟨_, e⟩ | h
  · omega
  · exact h
theorem own_cell {W : World} {n₀ n : Nat} {e : TypeId} {ao : Option Addr} {cap : Nat} {zs : List ByteArray} (h : W.ownsRow n₀ e 1 (.slice ao n cap) n (zs.map Value.string)) (hn : 0 < n) :
    n ≤ cap ∧ n₀ ≤ cap + n₀ ∧ ∃ g, ao = some ⟨g, 0, none⟩ ∧ ∀ k, k < n → W.cell? ⟨g, k, none⟩ = some (.string (zs.getD k ⟨#[]⟩)) := by
  rcases h.2 with ⟨_, h0⟩ | ⟨g, c, cur, hv, _, _, hc, _⟩
  · omega
  · cases hv
    refine ⟨hc, by omega, g, rfl, fun k hk => ?_⟩
    have hl : zs.length = n := by have := h.1; simpa using this
    rw [h.cellAt k (by omega), List.getElem?_map, List.getElem?_eq_getElem (by omega)]
    simp [List.getD, List.getElem?_eq_getElem (show k < zs.length by omega)]
/-- What an append to an owned row leaves of an iterator. -/
theorem iter_grown {W W' : World} {n₀ n : Nat} {e : TypeId} {v : Value} {vs : List Value} (h : W.ownsRow n₀ e 1 v n vs) (g : W.grownBy W' v.ownBlock) {k : Nat} {s : ByteArray} {p : Nat} (hk : W.heap[k]? = some (.stringIter s p)) : W'.heap[k]? = some (.stringIter s p) := by
  rw [g.block k (iter_lt hk) ?_]
  · exact hk
  · intro e1
    rcases h.2 with ⟨rfl, _⟩ | ⟨g', cap, cur, rfl, _, hgg, _⟩
    · simp [Value.ownBlock] at e1
    · simp [Value.ownBlock] at e1
      subst e1
      rw [hk] at hgg
      cases hgg
theorem keeps_grown {w W W' : World} {n : Nat} {e : TypeId} {v : Value} {vs : List Value} (h : W.ownsRow w.heap.size e 1 v n vs) (k : Keeps w W) (g : W.grownBy W' v.ownBlock) : Keeps w W' :=
  Below.grown k g k.size (fun i hi => (h.lt i hi).1)
theorem own_iterAt {W : World} {n₀ n : Nat} {e : TypeId} {v : Value} {vs : List Value} (h : W.ownsRow n₀ e 1 v n vs) {k : Nat} {s : ByteArray} {p : Nat} (hk : W.heap[k]? = some (.stringIter s p)) (p' : Nat) : (W.iterAt k s p').ownsRow n₀ e 1 v n vs := by
  refine ⟨h.1, ?_⟩
  rcases h.2 with hn | ⟨g, cap, cur, rfl, hb, hgg, rest⟩
  · exact .inl hn
  · refine .inr ⟨g, cap, cur, rfl, hb, ?_, rest⟩
    rw [iterAt_other _ _ _ _ _ (fun e => by rw [e, hk] at hgg; cases hgg)]
    exact hgg

set_option maxHeartbeats 800000 in
/-- TWO ALIKE LISTS ARE THE SAME. -/
theorem same_any (n₀ m₀ : Nat) (v u : Value) (xs : List ByteArray) (w : World) (h1 : Texts n₀ w v xs) (h2 : Texts m₀ w u xs) (hl : xs.length ≤ 100000) :
    Calls Try.prog 11 #[v, u] w fun e w' => e = .returned (.bool true) ∧ Keeps w w' := by
  obtain ⟨n, hn0⟩ : ∃ n, xs.length = n := ⟨_, rfl⟩
  unfold Texts at h1 h2
  rw [hn0] at h1 h2 hl
  obtain ⟨a, ca, rfl, ca1, ca2⟩ := own_form h1
  obtain ⟨b, cb, rfl, cb1, cb2⟩ := own_form h2
  have H1 := Lib.hid h1
  have H2 := Lib.hid h2
  unfold maxLen at ca2 cb2
  clear h1 h2 hn0
  go_enter Try.func11, Try.ntmps11
  go_wp2_with fail
  go_loopw [5] (fun i wx => ∃ j : Nat, j ≤ n ∧ i = .int .i64 (j : Int) ∧ Hid (wx.heap = w.heap) ∧ Hid (Keeps w wx)) (fun i _ => n - (RowKit.intOf i).toNat)
  case atStart => exact ⟨0, Nat.zero_le _, rfl, Lib.hid rfl, Lib.hid (Keeps.refl w)⟩
  case round =>
    obtain ⟨j, hj, rfl, HH, HK⟩ := hrel
    by_cases c : j < n
    · obtain ⟨_, _, ga, rfl, ka⟩ := own_cell (own_heap H1.out HH.out) (by omega)
      obtain ⟨_, _, gb, rfl, kb⟩ := own_cell (own_heap H2.out HH.out) (by omega)
      have e1 := ka j c
      have e2 := kb j c
      clear ka kb
      generalize xs.getD j ⟨#[]⟩ = x at *
      go_wp2_with fail
      go_quiet (fail)
      go_wp2_with fail
      go_roundw
      case rel => exact ⟨j + 1, by omega, by go_num, HH, HK.out.drewN _⟩
      case measure => simp [RowKit.intOf]; omega
    · go_wp2_with fail
      go_ret
      exact ⟨rfl, HK.out⟩
end Go.Proofs.Ytbnoiakhpmgeaaa
