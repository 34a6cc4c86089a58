/-
  An array of Bools that comes in by value: what it is.
-/
import Derived.Test.YtjfbemoageeobaaChecked
import Derived.ProofKit
import Derived.OpenShut
namespace Go.Proofs.Ytjfbemoageeobaa
open Go.ChangeShapes Go.WideShapes Go.ChangeAt Go.RowKit

theorem open_bool_array {H : Type} {enc : TypeId × Value → H} {P : Program} {W : World} {b0 base n : Nat} {sp : Nat → Bool} {held : Bool} {t e : TypeId} {v : Value} {d : DataW H} {ps : List MemPlace}
    (ht : P.underlying t = some (.array n e)) (he : P.underlying e = some .bool) (hce : P.cellsOf e = 1) (hct : P.cellsOf t = n)
    (hval : Value.okWide P W .any b0 t v) (hd : DataW.Trod enc P W base sp held t v d ps) :
    ∃ zs : List Bool, zs.length = n ∧ v = .agg (zs.map Value.bool).toArray ∧ d = .agg (zs.map fun z => .lit (.bool z)) ∧ ps = [] := by
  obtain ⟨cs, rfl, hsz, _⟩ : ∃ cs, v = .agg cs ∧ cs.size = P.cellsOf t ∧ Row.okWide P W .any b0 t cs := by
    simpa [Value.okWide, ht] using hval
  obtain ⟨fuel, hf⟩ := hd
  obtain ⟨xs, m, _, hx, hl, hn, hel⟩ := DataW.trod_array ht hf
  obtain ⟨l⟩ := cs
  have hc : (Value.agg ⟨l⟩).cells.toList = l := rfl
  have hll : l.length = n := by simpa [hct] using hsz
  have key : ∀ j, j ≤ n → ∃ zs : List Bool, zs.length = j ∧ l.take j = zs.map Value.bool ∧ xs.take j = zs.map (fun z => (DataW.lit (.bool z), [])) := by
    intro j
    induction j with
    | zero => exact fun _ => ⟨[], rfl, by simp, by simp⟩
    | succ j ih =>
      intro hj
      obtain ⟨zs, z1, z2, z3⟩ := ih (by omega)
      have h := hel j (by omega)
      rw [hce, Nat.mul_one, List.getElem?_eq_getElem (by omega)] at h
      obtain ⟨z, e1, e2⟩ := DataW.trod_bool he h
      have e1' : (l.drop j).take 1 = [Value.bool z] := e1
      have e4 : l[j]'(by omega) = Value.bool z := by
        have := congrArg (·[0]?) e1'
        simp only [List.getElem?_take, List.getElem?_drop, Nat.add_zero] at this
        rw [if_pos (by omega), List.getElem?_eq_getElem (by omega)] at this
        simpa using this
      refine ⟨zs ++ [z], by simp [z1], ?_, ?_⟩
      · rw [List.take_succ_eq_append_getElem (by omega), z2, e4]; simp
      · rw [List.take_succ_eq_append_getElem (by omega), z3, e2]; simp
  obtain ⟨zs, z1, z2, z3⟩ := key n (Nat.le_refl _)
  rw [List.take_of_length_le (by omega)] at z2 z3
  subst z2 z3
  simp only [Prod.mk.injEq] at hx
  refine ⟨zs, z1, rfl, ?_, ?_⟩
  · rw [hx.1, List.map_map]; rfl
  · rw [hx.2]; simp
    rintro a b (⟨_, _, e⟩ | ⟨_, _, e⟩) <;> exact e
end Go.Proofs.Ytjfbemoageeobaa
