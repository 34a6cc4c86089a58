/-
  Contract of Sign, of the document's answer of layer 6.
-/
import Derived.Test.YtggeknhggpdpkaaGreatDoorSgn
namespace Go.Proofs.YtggeknhggpdpkaaGreatDoor
open Go.RowKit Go.Lib

set_option maxRecDepth 100000 in
theorem rsign_go (x : Int) (w : World) (h0 : 0 ≤ x) (h1 : x < 256) :
    Calls Tryz.prog 29 #[.int .u8 x] w fun e w' => e = .returned (.bool (decide ((33 ≤ x ∧ x ≤ 47) ∨ (58 ≤ x ∧ x ≤ 64) ∨ (91 ≤ x ∧ x ≤ 96) ∨ (123 ≤ x ∧ x ≤ 126)))) ∧ w = w' := by
  have hw : ((33 ≤ x ∧ x ≤ 47) ∨ (58 ≤ x ∧ x ≤ 64) ∨ (91 ≤ x ∧ x ≤ 96) ∨ (123 ≤ x ∧ x ≤ 126)) ∨ (x < 33 ∨ (47 < x ∧ x < 58) ∨ (64 < x ∧ x < 91) ∨ (96 < x ∧ x < 123) ∨ 126 < x) := by omega
  rcases hw with hw | hw
  · rw [decide_eq_true hw]
    rcases hw with ⟨a, b⟩ | ⟨a, b⟩ | ⟨a, b⟩ | ⟨a, b⟩
    all_goals
      go_enter Tryz.func29, Tryz.ntmps29
      go_wp2
      go_ret
      exact ⟨ret_bool (by first | rfl | (simp; omega)), rfl⟩
  · rw [decide_eq_false (by omega)]
    rcases hw with a | ⟨a, b⟩ | ⟨a, b⟩ | ⟨a, b⟩ | a
    all_goals
      go_enter Tryz.func29, Tryz.ntmps29
      go_wp2
      go_ret
      exact ⟨ret_bool (by first | rfl | (simp; omega)), rfl⟩
theorem rsign_any (b : UInt8) (w : World) :
    Calls Tryz.prog 29 #[.int .u8 (b.toNat : Nat)] w fun e w' => e = .returned (.bool (signB b)) ∧ w = w' := by
  have hb := b.toNat_lt
  rw [signB_int]
  exact rsign_go _ w (by omega) (by omega)
end Go.Proofs.YtggeknhggpdpkaaGreatDoor
