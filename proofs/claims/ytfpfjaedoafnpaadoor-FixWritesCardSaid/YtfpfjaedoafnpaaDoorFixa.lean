/-
  Contracts of the small functions of package fix: hasRoom, size, within, portion (up to Div64's contract), each for every argument.
-/
import Derived.Test.YtfpfjaedoafnpaaDoorPre
namespace Go.Proofs.YtfpfjaedoafnpaaDoor
open Go.RowKit Go.Shelf Go.Lib

/-- Is the number within 2^62, both ways? -/
def room (n : Int) : Bool := decide (-4611686018427387904 ≤ n ∧ n ≤ 4611686018427387904)
theorem room_yes {n : Int} (h : room n = true) : -4611686018427387904 ≤ n ∧ n ≤ 4611686018427387904 := of_decide_eq_true h
theorem room_no {n : Int} (h : room n = false) : ¬ (-4611686018427387904 ≤ n ∧ n ≤ 4611686018427387904) := of_decide_eq_false h
theorem room_mk {n : Int} (h : -4611686018427387904 ≤ n ∧ n ≤ 4611686018427387904) : room n = true := decide_eq_true h
theorem room_mk_no {n : Int} (h : ¬ (-4611686018427387904 ≤ n ∧ n ≤ 4611686018427387904)) : room n = false := decide_eq_false h

theorem hasRoom_any (n : Int) (w : World) : Calls Tryd.prog 28 #[.int .i64 n] w fun e w' => e = .returned (.bool (room n)) ∧ w = w' := by
  by_cases h : -4611686018427387904 ≤ n
  · by_cases h' : n ≤ 4611686018427387904
    · have H := Lib.hid (room_mk ⟨h, h'⟩)
      go_enter Tryd.func28, Tryd.ntmps28
      go_wp2
      go_ret
      exact ⟨ret_bool H.out.symm, rfl⟩
    · have H := Lib.hid (room_mk_no (n := n) (by omega))
      go_enter Tryd.func28, Tryd.ntmps28
      go_wp2
      go_ret
      exact ⟨ret_bool H.out.symm, rfl⟩
  · have H := Lib.hid (room_mk_no (n := n) (by omega))
    go_enter Tryd.func28, Tryd.ntmps28
    go_wp2
    go_ret
    exact ⟨ret_bool H.out.symm, rfl⟩

theorem size_any (n : Int) (w : World) (h1 : -9223372036854775808 ≤ n) (h2 : n ≤ 9223372036854775807) :
    Calls Tryd.prog 25 #[.int .i64 n] w fun e w' => e = .returned (.int .u64 n.natAbs) ∧ w = w' := by
  by_cases h : n < 0
  · go_enter Tryd.func25, Tryd.ntmps25
    go_wp2
    go_ret
    exact ⟨ret_int (by rw [IntKind.wrap_u64, IntKind.wrap_u64]; omega), rfl⟩
  · go_enter Tryd.func25, Tryd.ntmps25
    go_wp2
    go_ret
    exact ⟨ret_int (by omega), rfl⟩

def clamp (n a b : Int) : Int := if n < a then a else if b < n then b else n
theorem within_any (n a b : Int) (w : World) :
    Calls Tryd.prog 29 #[.int .i64 n, .int .i64 a, .int .i64 b] w fun e w' => e = .returned (.int .i64 (clamp n a b)) ∧ w = w' := by
  by_cases h : n < a
  · have H := Lib.hid (show clamp n a b = a by unfold clamp; rw [if_pos h])
    go_enter Tryd.func29, Tryd.ntmps29
    go_wp2
    go_ret
    exact ⟨ret_int H.out.symm, rfl⟩
  · by_cases h2 : b < n
    · have H := Lib.hid (show clamp n a b = b by unfold clamp; rw [if_neg h, if_pos h2])
      go_enter Tryd.func29, Tryd.ntmps29
      go_wp2
      go_ret
      exact ⟨ret_int H.out.symm, rfl⟩
    · have H := Lib.hid (show clamp n a b = n by unfold clamp; rw [if_neg h, if_neg h2])
      go_enter Tryd.func29, Tryd.ntmps29
      go_wp2
      go_ret
      exact ⟨ret_int H.out.symm, rfl⟩
end Go.Proofs.YtfpfjaedoafnpaaDoor
