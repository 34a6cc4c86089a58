/-
  Contracts of isOwnCode, of the package.
-/
import Derived.Test.YthmfkjgcbcjbaaaDoorCodt
import Derived.Test.YthmfkjgcbcjbaaaDoorChecked
import Derived.WalkKit
import Derived.WalkSpells
import Derived.WalkLawsBesides
import Derived.IntWalk
import Derived.Lib.Hide
import Derived.BigQuiet
import Derived.Deep.QuietTactic
import Derived.Deep.Draws
import Derived.Below
import Derived.Lib.LaidTab
import Derived.Deep.WholeRow
import Derived.LoopTactic
namespace Go.Proofs.YthmfkjgcbcjbaaaDoor
open Go.RowKit Go.Lib

theorem ret_b {a b : Bool} (h : a = b) : Ending.returned (.bool a) = .returned (.bool b) := by rw [h]
theorem own_lo {r : Int} (h : r < 32) : ownC r = false := by rw [Bool.eq_false_iff]; intro e; rw [own_iff] at e; omega
theorem own_in1 {r : Int} (h : 32 ≤ r) (h2 : r ≤ 126) : ownC r = true := by rw [own_iff]; omega
theorem own_mid {r : Int} (h : 126 < r) (h2 : r < 160) : ownC r = false := by rw [Bool.eq_false_iff]; intro e; rw [own_iff] at e; omega
theorem own_in2 {r : Int} (h : 160 ≤ r) (h2 : r ≤ 255) : ownC r = true := by rw [own_iff]; omega
theorem own_hi {r : Int} (h : 255 < r) : ownC r = false := by rw [Bool.eq_false_iff]; intro e; rw [own_iff] at e; omega

theorem isOwn_any (r : Int) (w : World) :
    Calls Tryd.prog 70 #[.int .i32 r] w fun e w' => e = .returned (.bool (ownC r)) ∧ w = w' := by
  by_cases c1 : 32 ≤ r
  · by_cases c2 : r ≤ 126
    · rw [own_in1 c1 c2]
      go_enter Tryd.func70, Tryd.ntmps70
      go_wp2
      go_ret
      exact ⟨rfl, rfl⟩
    · by_cases c3 : 160 ≤ r
      · by_cases c4 : r ≤ 255
        · rw [own_in2 c3 c4]
          go_enter Tryd.func70, Tryd.ntmps70
          go_wp2
          go_ret
          exact ⟨rfl, rfl⟩
        · rw [own_hi (by omega)]
          go_enter Tryd.func70, Tryd.ntmps70
          go_wp2
          go_ret
          exact ⟨rfl, rfl⟩
      · rw [own_mid (by omega) (by omega)]
        go_enter Tryd.func70, Tryd.ntmps70
        go_wp2
        go_ret
        exact ⟨rfl, rfl⟩
  · rw [own_lo (by omega)]
    go_enter Tryd.func70, Tryd.ntmps70
    go_wp2
    go_ret
    exact ⟨rfl, rfl⟩
end Go.Proofs.YthmfkjgcbcjbaaaDoor
