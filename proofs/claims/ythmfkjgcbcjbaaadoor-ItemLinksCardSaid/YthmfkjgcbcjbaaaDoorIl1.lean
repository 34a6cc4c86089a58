/-
  Links one behind the other: their items, as plain lists. No program in sight.
-/
import Derived.Test.YthmfkjgcbcjbaaaDoorItp
namespace Go.Proofs.YthmfkjgcbcjbaaaDoor
open Go Go.Lib

def lkA : St := .mk 7 [] [] [] [.mk 1 [120] [] [] []]
def lkB : St := .mk 1 [32, 121, 32] [] [] []
/-- So many links, a word behind each. -/
def lkL : Nat → List St
  | 0 => []
  | k + 1 => lkL k ++ [lkA, lkB]
theorem lkL_len : ∀ k, (lkL k).length = 2 * k
  | 0 => rfl
  | k + 1 => by rw [lkL, List.length_append, lkL_len k]; simp; omega
def lkS : Sty := ⟨0, 0, false⟩
def lkQ (nx : Int) : List It := [itBox 10000 { lkS with link := nx } [120], itGlue 10000 lkS, itBox 10000 lkS [121], itGlue 10000 lkS]
def lkQs (nx : Int) : Nat → List It
  | 0 => []
  | k + 1 => lkQs nx k ++ lkQ (nx + k)
theorem ends_snoc (k : Int) (l : List It) (x : It) : endsK k (l ++ [x]) = (x.kind == k) := by unfold endsK; rw [List.getLast?_append]; rfl
theorem spns_cat (sz : Int) : ∀ (a b : List St) (s : Sty) (p : List It × Int), spnsP sz (a ++ b) s p = spnsP sz b s (spnsP sz a s p)
  | [], b, s, p => rfl
  | x :: a, b, s, p => by
    rw [List.cons_append, spnsP, spnsP, spns_cat sz a b s]
theorem c120 : codesL [120] = [120] := by kernel_rfl
theorem c121 : codesL [121] = [121] := by kernel_rfl
theorem lk_pair (its : List It) (nx : Int) : spnsP 10000 [lkA, lkB] lkS (its, nx) = (its ++ lkQ nx, nx + 1) := by
  have hx : txtP 10000 { lkS with link := nx } [] [120] its = its ++ [itBox 10000 { lkS with link := nx } [120]] := by
    rw [txtP, if_neg (by unfold blankB; decide), txtP, wordP, if_neg (by simp)]
    simp only [List.nil_append]
    rw [c120]
  have hg : ∀ (l : List It) (s : Sty) (c : List UInt8), glueP 10000 lkS (l ++ [itBox 10000 s c]) = l ++ [itBox 10000 s c] ++ [itGlue 10000 lkS] := fun l s c => by
    unfold glueP
    rw [if_pos (by rw [ends_snoc]; rfl)]
  have hy : ∀ l : List It, txtP 10000 lkS [] [32, 121, 32] (l ++ [itBox 10000 { lkS with link := nx } [120]]) = l ++ lkQ nx := fun l => by
    rw [txtP, if_pos (by unfold blankB; decide), wordP, if_pos rfl, hg, txtP, if_neg (by unfold blankB; decide), txtP, if_pos (by unfold blankB; decide), wordP, if_neg (by simp)]
    simp only [List.nil_append]
    rw [c121, hg, txtP, wordP, if_pos rfl]
    simp [lkQ]
  unfold lkA lkB
  rw [spnsP, spnP, if_neg (by decide), if_neg (by decide), if_neg (by decide), if_neg (by decide), if_neg (by decide), if_neg (by decide), if_pos rfl, if_neg (by decide), spnsP, spnP, if_pos rfl, spnsP, spnsP, spnP, if_pos rfl, spnsP]
  simp only
  rw [hx, hy]
theorem lk_all (nx : Int) : ∀ k : Nat, spnsP 10000 (lkL k) lkS ([], nx) = (lkQs nx k, nx + k)
  | 0 => by rw [lkL, spnsP, lkQs]; simp
  | k + 1 => by
    rw [lkL, spns_cat, lk_all nx k, lk_pair, lkQs]
    simp
    omega
/-- The number that the next link is to have; none: one has another. -/
def wantL : Int → List It → Option Int
  | w, [] => some w
  | w, x :: l => if x.codes = [120] then (if x.link = w then wantL (w + 1) l else none) else if x.link = 0 then wantL w l else none
theorem want_app : ∀ (a b : List It) (w : Int), wantL w (a ++ b) = (wantL w a).bind fun w' => wantL w' b
  | [], b, w => rfl
  | x :: a, b, w => by
    rw [List.cons_append, wantL, wantL]
    split
    · split
      · exact want_app a b (w + 1)
      · rfl
    · split
      · exact want_app a b w
      · rfl
theorem want_quad (nx : Int) : wantL nx (lkQ nx) = some (nx + 1) := by
  simp [lkQ, wantL, itBox, itGlue, lkS]
theorem want_all (nx : Int) : ∀ k : Nat, wantL nx (lkQs nx k) = some (nx + k)
  | 0 => by rw [lkQs, wantL]; simp
  | k + 1 => by
    rw [lkQs, want_app, want_all nx k]
    show wantL (nx + k) (lkQ (nx + k)) = _
    rw [want_quad]
    congr 1
    omega
theorem want_drop (nx : Int) (k : Nat) : wantL nx (dropG (lkQs nx k)) = some (nx + k) := by
  cases k with
  | zero => simp [lkQs, dropG, endsK, wantL]
  | succ k =>
    have e : lkQs nx (k + 1) = (lkQs nx k ++ [itBox 10000 { lkS with link := nx + k } [120], itGlue 10000 lkS, itBox 10000 lkS [121]]) ++ [itGlue 10000 lkS] := by rw [lkQs, lkQ]; simp
    have h := want_all nx (k + 1)
    rw [e, want_app] at h
    rw [e]
    unfold dropG
    rw [if_pos (by rw [ends_snoc]; rfl), List.dropLast_concat]
    generalize wantL nx (lkQs nx k ++ [itBox 10000 { lkS with link := nx + k } [120], itGlue 10000 lkS, itBox 10000 lkS [121]]) = o at *
    cases o with
    | none => cases h
    | some w =>
      have : wantL w [itGlue 10000 lkS] = some w := by simp [wantL, itGlue]
      exact this.symm.trans h
theorem lk_make (nx : Int) (k : Nat) : makeL (lkL k) 0 10000 nx = (dropG (lkQs nx k), nx + k) := by
  unfold makeL
  rw [show (⟨0, 0, false⟩ : Sty) = lkS from rfl, lk_all]
theorem lk_wL : ∀ k, wL (lkL k) = 34 * k
  | 0 => rfl
  | k + 1 => by
    have cat : ∀ a b : List St, wL (a ++ b) = wL a + wL b := by
      intro a b
      induction a with
      | nil => simp [wL]
      | cons x a ih => rw [List.cons_append, wL, wL, ih]; omega
    rw [lkL, cat, lk_wL k]
    have : wL [lkA, lkB] = 34 := by decide
    omega
end Go.Proofs.YthmfkjgcbcjbaaaDoor
