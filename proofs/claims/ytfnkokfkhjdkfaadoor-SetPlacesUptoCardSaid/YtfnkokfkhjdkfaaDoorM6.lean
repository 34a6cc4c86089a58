/-
  Texts of the proof, one behind the other: Arr2.
-/
import Derived.Test.YtfnkokfkhjdkfaaDoorChecked
import Derived.ProofKit
import Derived.OpenShut
/-
  An array of integers that comes in by value: what it is, and that it reads so again.
-/
namespace Go.Proofs.YtfnkokfkhjdkfaaDoor
open Go.ChangeShapes Go.WideShapes Go.ChangeAt Go.RowKit

theorem open_int_array {H : Type} {enc : TypeId × Value → H} {P : Program} {W : World} {b0 base n : Nat} {sp : Nat → Bool} {held : Bool} {t e : TypeId} {k : IntKind} {v : Value} {d : DataW H} {ps : List MemPlace}
    (ht : P.underlying t = some (.array n e)) (he : P.underlying e = some (.int k)) (hce : P.cellsOf e = 1) (hct : P.cellsOf t = n)
    (hval : Value.okWide P W .any b0 t v) (hd : DataW.Trod enc P W base sp held t v d ps) :
    ∃ zs : List Int, zs.length = n ∧ v = .agg (zs.map (Value.int k)).toArray ∧ d = .agg (zs.map fun z => .lit (.int k z)) ∧ ps = [] ∧ ∀ z ∈ zs, (Lit.int k z).wf = true := by
  obtain ⟨cs, rfl, hsz, _⟩ : ∃ cs, v = .agg cs ∧ cs.size = P.cellsOf t ∧ Row.okWide P W .any b0 t cs := by
    simpa [Value.okWide, ht] using hval
  obtain ⟨fuel, hf⟩ := hd
  obtain ⟨xs, m, _, hx, hl, hn, hel⟩ := DataW.trod_array ht hf
  obtain ⟨l⟩ := cs
  have hc : (Value.agg ⟨l⟩).cells.toList = l := rfl
  have hll : l.length = n := by simpa [hct] using hsz
  have key : ∀ j, j ≤ n → ∃ zs : List Int, zs.length = j ∧ l.take j = zs.map (Value.int k) ∧ xs.take j = zs.map (fun z => (DataW.lit (.int k z), [])) ∧ ∀ z ∈ zs, (Lit.int k z).wf = true := by
    intro j
    induction j with
    | zero => exact fun _ => ⟨[], rfl, by simp, by simp, by simp⟩
    | succ j ih =>
      intro hj
      obtain ⟨zs, z1, z2, z3, z4⟩ := ih (by omega)
      have h := hel j (by omega)
      rw [hce, Nat.mul_one, List.getElem?_eq_getElem (by omega)] at h
      obtain ⟨z, e1, e2, e3⟩ := DataW.trod_int he h
      have e1' : (l.drop j).take 1 = [Value.int k z] := e1
      have e4 : l[j]'(by omega) = Value.int k z := by
        have := congrArg (·[0]?) e1'
        simp only [List.getElem?_take, List.getElem?_drop, Nat.add_zero] at this
        rw [if_pos (by omega), List.getElem?_eq_getElem (by omega)] at this
        simpa using this
      refine ⟨zs ++ [z], by simp [z1], ?_, ?_, ?_⟩
      · rw [List.take_succ_eq_append_getElem (by omega), z2, e4]; simp
      · rw [List.take_succ_eq_append_getElem (by omega), z3, e2]; simp
      · intro y hy
        rw [List.mem_append, List.mem_singleton] at hy
        rcases hy with hy | rfl
        · exact z4 y hy
        · exact e3
  obtain ⟨zs, z1, z2, z3, z4⟩ := key n (Nat.le_refl _)
  rw [List.take_of_length_le (by omega)] at z2 z3
  subst z2 z3
  simp only [Prod.mk.injEq] at hx
  refine ⟨zs, z1, rfl, ?_, ?_, z4⟩
  · rw [hx.1, List.map_map]; rfl
  · rw [hx.2]; simp
theorem list_of2 {α : Type} (l : List α) (h : l.length = 2) : ∃ a b, l = [a, b] := by
  match l, h with
  | [a, b], _ => exact ⟨a, b, rfl⟩
theorem list_of3 {α : Type} (l : List α) (h : l.length = 3) : ∃ a b c, l = [a, b, c] := by
  match l, h with
  | [a, b, c], _ => exact ⟨a, b, c, rfl⟩
theorem list_of4 {α : Type} (l : List α) (h : l.length = 4) : ∃ a b c d, l = [a, b, c, d] := by
  match l, h with
  | [a, b, c, d], _ => exact ⟨a, b, c, d, rfl⟩
end Go.Proofs.YtfnkokfkhjdkfaaDoor

