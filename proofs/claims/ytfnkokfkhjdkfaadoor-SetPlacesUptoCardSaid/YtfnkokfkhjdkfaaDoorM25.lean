/-
  Texts of the proof, one behind the other: Fxs, Fixa.
-/
import Derived.Test.YtfnkokfkhjdkfaaDoorM21
import Derived.Test.YtfnkokfkhjdkfaaDoorM3
/-
  Contracts of the small functions of package fix: size, for every argument.
-/
namespace Go.Proofs.YtfnkokfkhjdkfaaDoor
open Go.RowKit Go.Shelf Go.Lib

theorem size_any (n : Int) (w : World) (h1 : -9223372036854775808 ≤ n) (h2 : n ≤ 9223372036854775807) :
    Calls Tryd.prog 88 #[.int .i64 n] w fun e w' => e = .returned (.int .u64 n.natAbs) ∧ w = w' := by
  by_cases h : n < 0
  · go_enter Tryd.func88, Tryd.ntmps88
    go_wp2
    go_ret
    exact ⟨ret_int (by rw [IntKind.wrap_u64, IntKind.wrap_u64]; omega), rfl⟩
  · go_enter Tryd.func88, Tryd.ntmps88
    go_wp2
    go_ret
    exact ⟨ret_int (by omega), rfl⟩
end Go.Proofs.YtfnkokfkhjdkfaaDoor

/-
  Contracts of the small functions of package fix: hasRoom, size, within, portion (up to Div64's contract), each for every argument.
-/
namespace Go.Proofs.YtfnkokfkhjdkfaaDoor
open Go.RowKit Go.Shelf Go.Lib

/-- Is the number within 2^62, both ways? -/
def room (n : Int) : Bool := decide (-4611686018427387904 ≤ n ∧ n ≤ 4611686018427387904)
theorem room_yes {n : Int} (h : room n = true) : -4611686018427387904 ≤ n ∧ n ≤ 4611686018427387904 := of_decide_eq_true h
theorem room_no {n : Int} (h : room n = false) : ¬ (-4611686018427387904 ≤ n ∧ n ≤ 4611686018427387904) := of_decide_eq_false h
theorem room_mk {n : Int} (h : -4611686018427387904 ≤ n ∧ n ≤ 4611686018427387904) : room n = true := decide_eq_true h
theorem room_mk_no {n : Int} (h : ¬ (-4611686018427387904 ≤ n ∧ n ≤ 4611686018427387904)) : room n = false := decide_eq_false h

theorem hasRoom_any (n : Int) (w : World) : Calls Tryd.prog 86 #[.int .i64 n] w fun e w' => e = .returned (.bool (room n)) ∧ w = w' := by
  by_cases h : -4611686018427387904 ≤ n
  · by_cases h' : n ≤ 4611686018427387904
    · have H := Lib.hid (room_mk ⟨h, h'⟩)
      go_enter Tryd.func86, Tryd.ntmps86
      go_wp2
      go_ret
      exact ⟨ret_bool H.out.symm, rfl⟩
    · have H := Lib.hid (room_mk_no (n := n) (by omega))
      go_enter Tryd.func86, Tryd.ntmps86
      go_wp2
      go_ret
      exact ⟨ret_bool H.out.symm, rfl⟩
  · have H := Lib.hid (room_mk_no (n := n) (by omega))
    go_enter Tryd.func86, Tryd.ntmps86
    go_wp2
    go_ret
    exact ⟨ret_bool H.out.symm, rfl⟩

end Go.Proofs.YtfnkokfkhjdkfaaDoor

