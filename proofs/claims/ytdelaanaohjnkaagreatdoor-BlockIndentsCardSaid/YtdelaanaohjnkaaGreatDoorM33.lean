/-
  Texts of the proof, one behind the other: BkG.
-/
import Derived.Test.YtdelaanaohjnkaaGreatDoorM32
/-
  What endBlank leaves: the list's form, its texts, its kinds. No program in sight.
-/
namespace Go.Proofs.YtdelaanaohjnkaaGreatDoor
open Go Go.Lib

theorem tx_be (l : List Nd) (i : Nat) (b : Bool) : txN (l.set i { gN l i with be := b }) = txN l := by
  by_cases hj : i < l.length
  · exact Nat.add_right_cancel (tx_set l i { gN l i with be := b } hj)
  · rw [tx_out (by omega)]
theorem eb_keep : ∀ (n : Nat) (l : List Nd) (j : Int) (b : Bool) {t : Nat}, Wf l t → Wf (ebGo n l j b) t ∧ (ebGo n l j b).length = l.length ∧ txN (ebGo n l j b) = txN l ∧ (∀ i, (gN (ebGo n l j b) i).kind = (gN l i).kind) ∧ ∀ i, (gN (ebGo n l j b) i).up = (gN l i).up
  | 0, _, _, _, _, h => ⟨h, rfl, rfl, fun _ => rfl, fun _ => rfl⟩
  | n + 1, l, j, b, t, h => by
    unfold ebGo
    split
    · exact ⟨h, rfl, rfl, fun _ => rfl, fun _ => rfl⟩
    · obtain ⟨r1, r2, r3, r4, r5⟩ := eb_keep n (l.set j.toNat { gN l j.toNat with be := b }) (gN l j.toNat).up b (h.be _ b)
      refine ⟨r1, by rw [r2, List.length_set], ?_, fun i => ?_, fun i => ?_⟩
      · rw [r3]
        exact tx_be l _ b
      · rw [r4, gN_set]
        split
        · next e => rw [e.1]
        · rfl
      · rw [r5, gN_set]
        split
        · next e => rw [e.1]
        · rfl
theorem endBlank_keep {s : St} {t : Nat} (h : Wf s.list t) (i : Nat) : Wf (endBlankM s i).list t ∧ (endBlankM s i).list.length = s.list.length ∧ phi (endBlankM s i) = phi s ∧ (∀ j, ((endBlankM s i).nd j).kind = (s.nd j).kind) ∧ (endBlankM s i).tip = s.tip ∧ (endBlankM s i).line = s.line ∧ (endBlankM s i).deep = s.deep ∧ (endBlankM s i).known = s.known := by
  have h0 : Wf (ebLast s i) t ∧ (ebLast s i).length = s.list.length ∧ txN (ebLast s i) = txN s.list ∧ ∀ j, (gN (ebLast s i) j).kind = (gN s.list j).kind := by
    unfold ebLast
    split
    · refine ⟨h.be _ true, List.length_set, ?_, fun j => ?_⟩
      · exact tx_be s.list _ true
      · rw [gN_set]
        split
        · next e => rw [e.1]; rfl
        · rfl
    · exact ⟨h, rfl, rfl, fun _ => rfl⟩
  obtain ⟨a1, a2, a3, a4⟩ := h0
  obtain ⟨r1, r2, r3, r4, _⟩ := eb_keep s.list.length (ebLast s i) i (decide (s.line.next = []) && !fullB s i) a1
  refine ⟨r1, r2.trans a2, ?_, fun j => (r4 j).trans (a4 j), rfl, rfl, rfl, rfl⟩
  unfold phi endBlankM
  dsimp only
  rw [r3, a3]
end Go.Proofs.YtdelaanaohjnkaaGreatDoor

