/-
  The law's awake: the document's examples.
-/
import Derived.Test.YthmfkjgcbcjbaaaDoorItw
namespace Go.Proofs.YthmfkjgcbcjbaaaDoor
open Go.RowKit Go.Lib Go.Maps

/-- A span's cells. -/
def stC : St → Value → List Value
  | .mk k t d ti _, v => [.int .i64 k, .string ⟨t.toArray⟩, .string ⟨d.toArray⟩, .string ⟨ti.toArray⟩, v]
def stR (L : List (St × Value)) : List Value := L.flatMap fun x => stC x.1 x.2
theorem stC_len (s : St) (v : Value) : (stC s v).length = 5 := by cases s; rfl
theorem stR_len (L : List (St × Value)) : (stR L).length = L.length * 5 := by
  unfold stR
  induction L with
  | nil => rfl
  | cons x L ih => rw [List.flatMap_cons, List.length_append, ih, stC_len, List.length_cons]; omega
theorem stR_at : ∀ (L : List (St × Value)) (i : Nat) (hi : i < L.length) (j : Nat), j < 5 → (stR L)[i * 5 + j]? = (stC L[i].1 L[i].2)[j]?
  | x :: L, 0, _, j, hj => by
    show (stC x.1 x.2 ++ stR L)[0 * 5 + j]? = (stC x.1 x.2)[j]?
    rw [List.getElem?_append_left (by rw [stC_len]; omega), Nat.zero_mul, Nat.zero_add]
  | x :: L, i + 1, hi, j, hj => by
    have hi' : i < L.length := by simpa using hi
    show (stC x.1 x.2 ++ stR L)[(i + 1) * 5 + j]? = (stC (L[i]'hi').1 (L[i]'hi').2)[j]?
    rw [List.getElem?_append_right (by rw [stC_len]; omega), stC_len, ← stR_at L i hi' j hj]
    congr 1
    omega
/-- A row of spans at a block's head. -/
theorem StAt.row {W : World} {L : List (St × Value)} {g cap : Nat} (hc : ∀ j u, (stR L)[j]? = some u → W.cell? ⟨g, j, none⟩ = some u) (h1 : L.length ≤ cap) (h2 : cap ≤ maxLen) (hk : ∀ x ∈ L, StAt W x.1.kids x.2) : StAt W (L.map Prod.fst) (.slice (some ⟨g, 0, none⟩) L.length cap) := by
  refine .mk L _ cap h1 h2 (fun _ => ⟨g, 0, rfl, fun i hi k t d ti ks e => ?_⟩) hk
  have hx : ∀ j, j < 5 → ∀ u, (stC L[i].1 L[i].2)[j]? = some u → W.cell? ⟨g, 0 + i * 5 + j, none⟩ = some u := fun j hj u hu => by
    rw [Nat.zero_add]
    exact hc _ _ (by rw [stR_at L i hi j hj]; exact hu)
  rw [e] at hx
  exact ⟨hx 0 (by decide) _ rfl, hx 1 (by decide) _ rfl, hx 2 (by decide) _ rfl, hx 3 (by decide) _ rfl, hx 4 (by decide) _ rfl⟩
theorem StAt.blk {W : World} {L : List (St × Value)} {g : Nat} (h : Blk W g 39 (stR L).toArray) (h2 : L.length ≤ maxLen) (hk : ∀ x ∈ L, StAt W x.1.kids x.2) : StAt W (L.map Prod.fst) (.slice (some ⟨g, 0, none⟩) L.length L.length) :=
  StAt.row (fun j u hu => h.cell j (by simpa using hu)) (Nat.le_refl _) h2 hk
theorem StAt.own {n₀ : Nat} {W : World} {L : List (St × Value)} {v : Value} (h : W.ownsRow n₀ 39 5 v L.length (stR L)) (hk : ∀ x ∈ L, StAt W x.1.kids x.2) : StAt W (L.map Prod.fst) v := by
  rcases h.2 with ⟨rfl, h0⟩ | ⟨g, cap, cur, rfl, _, _, h1, h2, _⟩
  · have : L = [] := List.eq_nil_of_length_eq_zero h0
    subst this
    exact StAt.nil W
  · refine StAt.row (fun j u hu => ?_) h1 h2 hk
    have hj := (List.getElem?_eq_some_iff.1 hu).1
    rw [stR_len] at hj
    rw [h.cellAt j hj]
    exact hu
/-! ### The examples -/
def awSp : List St := [.mk 1 [97, 98, 32, 32, 99] [] [] [], .mk 7 [] [] [] [.mk 1 [100] [] [] []]]
def awIt : List It := [⟨1, 11120, 0, 0, 0, [97, 98], 0, 10000, 0⟩, ⟨2, 2780, 1390, 926, 0, [], 0, 0, 0⟩, ⟨1, 5000, 0, 0, 0, [99], 0, 10000, 0⟩, ⟨1, 5560, 0, 0, 0, [100], 0, 10000, 4⟩]
theorem aw_make : makeL awSp 0 10000 4 = (awIt, 5) := by kernel_rfl
def awBx : List It := [⟨1, 24000, 0, 0, 0, [97, 98, 99, 100], 4, 10000, 0⟩]
def awCut : List It := [⟨1, 12000, 0, 0, 0, [97, 98], 4, 10000, 0⟩, ⟨3, 0, 0, 0, 0, [], 0, 0, 0⟩, ⟨1, 12000, 0, 0, 0, [99, 100], 4, 10000, 0⟩]
theorem aw_split : (splitL 13000 awBx ([], 13000)).1 = awCut := by kernel_rfl
theorem aw_box : runL 4 10000 [97, 98, 99, 100] = 24000 := by kernel_rfl
end Go.Proofs.YthmfkjgcbcjbaaaDoor
