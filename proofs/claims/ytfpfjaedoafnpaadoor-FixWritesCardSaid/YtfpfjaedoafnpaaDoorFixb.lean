/-
  Contracts of package fix's Add, Scale, Badness and Demerits, each for every argument.
-/
import Derived.Test.YtfpfjaedoafnpaaDoorFixa
import Derived.Test.YtfpfjaedoafnpaaDoorDivw
namespace Go.Proofs.YtfpfjaedoafnpaaDoor
open Go.RowKit Go.Shelf Go.Lib

theorem portion_no (a b c : Nat) (w : World) (ha : a < 18446744073709551616) (hb : b < 18446744073709551616) (h : c ≤ a * b / 18446744073709551616) :
    Calls Tryd.prog 27 #[.int .u64 a, .int .u64 b, .int .u64 c] w fun e w' => e = .returned (.tuple #[.int .u64 0, .int .u64 0, .bool false]) ∧ Keeps w w' := by
  have C := Lib.hid (fun W => Tryd.bits_Mul64 a b ha hb W)
  have t : decide ((c : Int) ≤ ((a * b / 18446744073709551616 : Nat) : Int)) = true := decide_eq_true (by omega)
  generalize a * b / 18446744073709551616 = x at *
  generalize a * b % 18446744073709551616 = y at *
  go_enter Tryd.func27, Tryd.ntmps27
  go_wp2_with fail
  refine (C.out _).mono ?_
  rintro e w' ⟨rfl, rfl⟩
  go_wp2_with fail
  go_ret3
  exact ⟨rfl, Keeps.refl _⟩

theorem portion_yes (a b c : Nat) (w : World) (ha : a < 18446744073709551616) (hb : b < 18446744073709551616) (hc : c < 18446744073709551616) (h : a * b / 18446744073709551616 < c) :
    Calls Tryd.prog 27 #[.int .u64 a, .int .u64 b, .int .u64 c] w fun e w' => e = .returned (.tuple #[.int .u64 ((a * b / c : Nat) : Int), .int .u64 ((a * b % c : Nat) : Int), .bool true]) ∧ Keeps w w' := by
  have C := Lib.hid (fun W => Tryd.bits_Mul64 a b ha hb W)
  have t : decide (c ≤ a * b / 18446744073709551616) = false := decide_eq_false (by omega)
  have hd := fun W => div64_all (a * b / 18446744073709551616) (a * b % 18446744073709551616) c W h (Nat.mod_lt _ (by omega)) hc
  have e : a * b / 18446744073709551616 * 18446744073709551616 + a * b % 18446744073709551616 = a * b := by
    rw [Nat.mul_comm (a * b / 18446744073709551616)]; exact Nat.div_add_mod _ _
  rw [e] at hd
  have D := Lib.hid hd
  clear hd e h
  generalize a * b / 18446744073709551616 = x at *
  generalize a * b % 18446744073709551616 = y at *
  generalize a * b / c = q at *
  generalize a * b % c = r at *
  go_enter Tryd.func27, Tryd.ntmps27
  go_wp2_with fail
  refine (C.out _).mono ?_
  rintro e w' ⟨rfl, rfl⟩
  go_wp2_with fail
  refine (D.out _).mono ?_
  rintro e w1 ⟨rfl, hk⟩
  go_wp2_with fail
  go_ret3
  exact ⟨rfl, hk⟩

theorem add_yes (a b : Int) (w : World) (ha : room a = true) (hb : room b = true) (hs : room (a + b) = true) :
    Calls Tryd.prog 15 #[.int .i64 a, .int .i64 b] w fun e w' => e = .returned (.tuple #[.int .i64 (a + b), .int .i64 0]) ∧ w = w' := by
  obtain ⟨a1, a2⟩ := room_yes ha
  obtain ⟨b1, b2⟩ := room_yes hb
  obtain ⟨c1, c2⟩ := room_yes hs
  go_enter Tryd.func15, Tryd.ntmps15
  go_wp2_with (go_at_call 28; refine (hasRoom_any _ _).mono ?_; rintro e w' ⟨rfl, rfl⟩)
  go_ret2
  exact ⟨rfl, rfl⟩

theorem add_no (a b : Int) (w : World) (h : (room a && room b && room (a + b)) = false) (ha : -9223372036854775808 ≤ a) (ha' : a ≤ 9223372036854775807) (hb : -9223372036854775808 ≤ b) (hb' : b ≤ 9223372036854775807) :
    Calls Tryd.prog 15 #[.int .i64 a, .int .i64 b] w fun e w' => e = .returned (.tuple #[.int .i64 0, .int .i64 4]) ∧ w = w' := by
  cases h1 : room a with
  | false =>
    have n1 := Lib.hid (room_no h1)
    go_enter Tryd.func15, Tryd.ntmps15
    go_wp2_with (go_at_call 28; refine (hasRoom_any _ _).mono ?_; rintro e w' ⟨rfl, rfl⟩)
    go_ret2
    exact ⟨rfl, rfl⟩
  | true =>
    cases h2 : room b with
    | false =>
      go_enter Tryd.func15, Tryd.ntmps15
      go_wp2_with (go_at_call 28; refine (hasRoom_any _ _).mono ?_; rintro e w' ⟨rfl, rfl⟩)
      go_ret2
      exact ⟨rfl, rfl⟩
    | true =>
      obtain ⟨a1, a2⟩ := room_yes h1
      obtain ⟨b1, b2⟩ := room_yes h2
      rw [h1, h2, Bool.true_and, Bool.true_and] at h
      have hw : room (wrap64 (a + b)) = false := by
        rw [← IntWalk.i64_left, IntKind.wrap_i64]
        have := room_no h
        exact room_mk_no (by omega)
      clear h
      go_enter Tryd.func15, Tryd.ntmps15
      go_wp2_with (go_at_call 28; refine (hasRoom_any _ _).mono ?_; rintro e w' ⟨rfl, rfl⟩)
      go_ret2
      exact ⟨rfl, rfl⟩

/-- a times b by c has room, and so have a, b and c, and c is above 0. -/
def sclOk (a b c : Int) : Bool := room a && room b && room c && decide (0 < c) && room (a * b / c)

/-- Division down, out of the division of the numbers without their signs. -/
theorem down_same (a b c : Int) (hc : 0 < c) (h : (a < 0) = (b < 0)) : a * b / c = ((a.natAbs * b.natAbs / c.natAbs : Nat) : Int) := by
  have e : a * b = ((a.natAbs * b.natAbs : Nat) : Int) := by
    rw [Int.natCast_mul]
    by_cases h1 : a < 0
    · have h2 : b < 0 := by rw [← h]; exact h1
      rw [Int.ofNat_natAbs_of_nonpos (by omega), Int.ofNat_natAbs_of_nonpos (by omega), Int.neg_mul_neg]
    · have h2 : ¬ b < 0 := by rw [← h]; exact h1
      rw [Int.natAbs_of_nonneg (by omega), Int.natAbs_of_nonneg (by omega)]
  rw [e, Int.natCast_ediv, Int.natAbs_of_nonneg (by omega)]
theorem down_other (a b c : Int) (hc : 0 < c) (h : (a < 0) ≠ (b < 0)) :
    a * b / c = if a.natAbs * b.natAbs % c.natAbs = 0 then -((a.natAbs * b.natAbs / c.natAbs : Nat) : Int) else -((a.natAbs * b.natAbs / c.natAbs : Nat) : Int) - 1 := by
  have e : a * b = -((a.natAbs * b.natAbs : Nat) : Int) := by
    rw [Int.natCast_mul]
    by_cases h1 : a < 0
    · have h2 : ¬ b < 0 := fun k => h (by simp [h1, k])
      rw [Int.ofNat_natAbs_of_nonpos (by omega), Int.natAbs_of_nonneg (by omega), Int.neg_mul, Int.neg_neg]
    · have h2 : b < 0 := by
        by_cases k : b < 0
        · exact k
        · exact absurd (by simp [h1, k]) h
      rw [Int.natAbs_of_nonneg (by omega), Int.ofNat_natAbs_of_nonpos (by omega), Int.mul_neg, Int.neg_neg]
  rw [e]
  obtain ⟨n, rfl⟩ := Int.eq_ofNat_of_zero_le (Int.le_of_lt hc)
  rw [Int.natAbs_natCast]
  generalize a.natAbs * b.natAbs = x
  have hd := Nat.div_add_mod x n
  have hm := Nat.mod_lt x (show 0 < n by omega)
  generalize x / n = q at *
  generalize x % n = r at *
  split
  · subst_vars
    rw [Nat.add_zero, Int.natCast_mul, ← Int.mul_neg, Int.mul_ediv_cancel_left _ (by omega)]
  · rw [← hd]
    have : -((n * q + r : Nat) : Int) = (n : Int) * (-(q : Int) - 1) + ((n : Int) - r) := by
      rw [Int.mul_sub, Int.mul_neg, Int.natCast_add, Int.natCast_mul]; omega
    rw [this, Int.mul_add_ediv_left _ _ (by omega), Int.ediv_eq_zero_of_lt (by omega) (by omega)]
    omega
end Go.Proofs.YtfpfjaedoafnpaaDoor
