/-
  The contract of package fix's portion, for every argument.
-/
import Derived.Test.YtjkkinccehfmoaaFxs
import Derived.Test.YtjkkinccehfmoaaDivw
namespace Go.Proofs.Ytjkkinccehfmoaa
open Go.RowKit Go.Shelf Go.Lib

theorem portion_no (a b c : Nat) (w : World) (ha : a < 18446744073709551616) (hb : b < 18446744073709551616) (h : c ≤ a * b / 18446744073709551616) :
    Calls Try.prog 33 #[.int .u64 a, .int .u64 b, .int .u64 c] w fun e w' => e = .returned (.tuple #[.int .u64 0, .int .u64 0, .bool false]) ∧ Keeps w w' := by
  have C := Lib.hid (fun W => Try.bits_Mul64 a b ha hb W)
  have t : decide ((c : Int) ≤ ((a * b / 18446744073709551616 : Nat) : Int)) = true := decide_eq_true (by omega)
  generalize a * b / 18446744073709551616 = x at *
  generalize a * b % 18446744073709551616 = y at *
  go_enter Try.func33, Try.ntmps33
  go_wp2_with fail
  refine (C.out _).mono ?_
  rintro e w' ⟨rfl, rfl⟩
  go_wp2_with fail
  go_ret3
  exact ⟨rfl, Keeps.refl _⟩

theorem portion_yes (a b c : Nat) (w : World) (ha : a < 18446744073709551616) (hb : b < 18446744073709551616) (hc : c < 18446744073709551616) (h : a * b / 18446744073709551616 < c) :
    Calls Try.prog 33 #[.int .u64 a, .int .u64 b, .int .u64 c] w fun e w' => e = .returned (.tuple #[.int .u64 ((a * b / c : Nat) : Int), .int .u64 ((a * b % c : Nat) : Int), .bool true]) ∧ Keeps w w' := by
  have C := Lib.hid (fun W => Try.bits_Mul64 a b ha hb W)
  have t : decide (c ≤ a * b / 18446744073709551616) = false := decide_eq_false (by omega)
  have hd := fun W => div64_all (a * b / 18446744073709551616) (a * b % 18446744073709551616) c W h (Nat.mod_lt _ (by omega)) hc
  have e : a * b / 18446744073709551616 * 18446744073709551616 + a * b % 18446744073709551616 = a * b := by
    rw [Nat.mul_comm (a * b / 18446744073709551616)]; exact Nat.div_add_mod _ _
  rw [e] at hd
  have D := Lib.hid hd
  clear hd e h
  generalize a * b / 18446744073709551616 = x at *
  generalize a * b % 18446744073709551616 = y at *
  generalize a * b / c = q at *
  generalize a * b % c = r at *
  go_enter Try.func33, Try.ntmps33
  go_wp2_with fail
  refine (C.out _).mono ?_
  rintro e w' ⟨rfl, rfl⟩
  go_wp2_with fail
  refine (D.out _).mono ?_
  rintro e w1 ⟨rfl, hk⟩
  go_wp2_with fail
  go_ret3
  exact ⟨rfl, hk⟩
end Go.Proofs.Ytjkkinccehfmoaa
