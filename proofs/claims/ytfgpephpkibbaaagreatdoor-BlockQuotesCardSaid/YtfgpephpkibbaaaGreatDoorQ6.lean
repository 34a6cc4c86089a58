/-
  Texts of the proof, one behind the other: Beq.
-/
import Derived.KernelRfl
/-
  Comparisons of numbers, told ahead; by no layer.
-/
namespace Go.Proofs.YtfgpephpkibbaaaGreatDoor
open Go

theorem beqT {x y : Int} (h : x = y) : (x == y) = true := beq_iff_eq.2 h
theorem beqF {x y : Int} (h : ¬ x = y) : (x == y) = false := beq_eq_false_iff_ne.2 h
end Go.Proofs.YtfgpephpkibbaaaGreatDoor

