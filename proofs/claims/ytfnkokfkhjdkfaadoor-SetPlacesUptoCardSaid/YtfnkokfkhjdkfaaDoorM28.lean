/-
  Texts of the proof, one behind the other: Fxp, Fixb, Fixc, Sra.
-/
import Derived.Test.YtfnkokfkhjdkfaaDoorM25
import Derived.Test.YtfnkokfkhjdkfaaDoorM27
import Derived.Test.YtfnkokfkhjdkfaaDoorM21
import Derived.Test.YtfnkokfkhjdkfaaDoorM3
/-
  The contract of package fix's portion, for every argument.
-/
namespace Go.Proofs.YtfnkokfkhjdkfaaDoor
open Go.RowKit Go.Shelf Go.Lib

theorem portion_no (a b c : Nat) (w : World) (ha : a < 18446744073709551616) (hb : b < 18446744073709551616) (h : c ≤ a * b / 18446744073709551616) :
    Calls Tryd.prog 87 #[.int .u64 a, .int .u64 b, .int .u64 c] w fun e w' => e = .returned (.tuple #[.int .u64 0, .int .u64 0, .bool false]) ∧ Keeps w w' := by
  have C := Lib.hid (fun W => Tryd.bits_Mul64 a b ha hb W)
  have t : decide ((c : Int) ≤ ((a * b / 18446744073709551616 : Nat) : Int)) = true := decide_eq_true (by omega)
  generalize a * b / 18446744073709551616 = x at *
  generalize a * b % 18446744073709551616 = y at *
  go_enter Tryd.func87, Tryd.ntmps87
  go_wp2_with fail
  refine (C.out _).mono ?_
  rintro e w' ⟨rfl, rfl⟩
  go_wp2_with fail
  go_ret3
  exact ⟨rfl, Keeps.refl _⟩

theorem portion_yes (a b c : Nat) (w : World) (ha : a < 18446744073709551616) (hb : b < 18446744073709551616) (hc : c < 18446744073709551616) (h : a * b / 18446744073709551616 < c) :
    Calls Tryd.prog 87 #[.int .u64 a, .int .u64 b, .int .u64 c] w fun e w' => e = .returned (.tuple #[.int .u64 ((a * b / c : Nat) : Int), .int .u64 ((a * b % c : Nat) : Int), .bool true]) ∧ Keeps w w' := by
  have C := Lib.hid (fun W => Tryd.bits_Mul64 a b ha hb W)
  have t : decide (c ≤ a * b / 18446744073709551616) = false := decide_eq_false (by omega)
  have hd := fun W => div64_all (a * b / 18446744073709551616) (a * b % 18446744073709551616) c W h (Nat.mod_lt _ (by omega)) hc
  have e : a * b / 18446744073709551616 * 18446744073709551616 + a * b % 18446744073709551616 = a * b := by
    rw [Nat.mul_comm (a * b / 18446744073709551616)]; exact Nat.div_add_mod _ _
  rw [e] at hd
  have D := Lib.hid hd
  clear hd e h
  generalize a * b / 18446744073709551616 = x at *
  generalize a * b % 18446744073709551616 = y at *
  generalize a * b / c = q at *
  generalize a * b % c = r at *
  go_enter Tryd.func87, Tryd.ntmps87
  go_wp2_with fail
  refine (C.out _).mono ?_
  rintro e w' ⟨rfl, rfl⟩
  go_wp2_with fail
  refine (D.out _).mono ?_
  rintro e w1 ⟨rfl, hk⟩
  go_wp2_with fail
  go_ret3
  exact ⟨rfl, hk⟩
end Go.Proofs.YtfnkokfkhjdkfaaDoor

/-
  What Scale tells, as plain numbers.
-/
namespace Go.Proofs.YtfnkokfkhjdkfaaDoor
open Go.RowKit Go.Shelf Go.Lib

/-- a times b by c has room, and so have a, b and c, and c is above 0. -/
def sclOk (a b c : Int) : Bool := room a && room b && room c && decide (0 < c) && room (a * b / c)

/-- Division down, out of the division of the numbers without their signs. -/
theorem down_same (a b c : Int) (hc : 0 < c) (h : (a < 0) = (b < 0)) : a * b / c = ((a.natAbs * b.natAbs / c.natAbs : Nat) : Int) := by
  have e : a * b = ((a.natAbs * b.natAbs : Nat) : Int) := by
    rw [Int.natCast_mul]
    by_cases h1 : a < 0
    · have h2 : b < 0 := by rw [← h]; exact h1
      rw [Int.ofNat_natAbs_of_nonpos (by omega), Int.ofNat_natAbs_of_nonpos (by omega), Int.neg_mul_neg]
    · have h2 : ¬ b < 0 := by rw [← h]; exact h1
      rw [Int.natAbs_of_nonneg (by omega), Int.natAbs_of_nonneg (by omega)]
  rw [e, Int.natCast_ediv, Int.natAbs_of_nonneg (by omega)]
theorem down_other (a b c : Int) (hc : 0 < c) (h : (a < 0) ≠ (b < 0)) :
    a * b / c = if a.natAbs * b.natAbs % c.natAbs = 0 then -((a.natAbs * b.natAbs / c.natAbs : Nat) : Int) else -((a.natAbs * b.natAbs / c.natAbs : Nat) : Int) - 1 := by
  have e : a * b = -((a.natAbs * b.natAbs : Nat) : Int) := by
    rw [Int.natCast_mul]
    by_cases h1 : a < 0
    · have h2 : ¬ b < 0 := fun k => h (by simp [h1, k])
      rw [Int.ofNat_natAbs_of_nonpos (by omega), Int.natAbs_of_nonneg (by omega), Int.neg_mul, Int.neg_neg]
    · have h2 : b < 0 := by
        by_cases k : b < 0
        · exact k
        · exact absurd (by simp [h1, k]) h
      rw [Int.natAbs_of_nonneg (by omega), Int.ofNat_natAbs_of_nonpos (by omega), Int.mul_neg, Int.neg_neg]
  rw [e]
  obtain ⟨n, rfl⟩ := Int.eq_ofNat_of_zero_le (Int.le_of_lt hc)
  rw [Int.natAbs_natCast]
  generalize a.natAbs * b.natAbs = x
  have hd := Nat.div_add_mod x n
  have hm := Nat.mod_lt x (show 0 < n by omega)
  generalize x / n = q at *
  generalize x % n = r at *
  split
  · subst_vars
    rw [Nat.add_zero, Int.natCast_mul, ← Int.mul_neg, Int.mul_ediv_cancel_left _ (by omega)]
  · rw [← hd]
    have : -((n * q + r : Nat) : Int) = (n : Int) * (-(q : Int) - 1) + ((n : Int) - r) := by
      rw [Int.mul_sub, Int.mul_neg, Int.natCast_add, Int.natCast_mul]; omega
    rw [this, Int.mul_add_ediv_left _ _ (by omega), Int.ediv_eq_zero_of_lt (by omega) (by omega)]
    omega
end Go.Proofs.YtfnkokfkhjdkfaaDoor

/-
  The contract of package fix's Scale, for every argument.
-/
namespace Go.Proofs.YtfnkokfkhjdkfaaDoor
open Go.RowKit Go.Shelf Go.Lib
set_option pp.maxSteps 1000000
set_option pp.deepTerms true

def scl (a b c : Int) : Int := if sclOk a b c = true then a * b / c else 0
def sclE (a b c : Int) : Int := if sclOk a b c = true then 0 else 4
theorem scl_yes {a b c : Int} (h : sclOk a b c = true) : scl a b c = a * b / c ∧ sclE a b c = 0 := by unfold scl sclE; rw [if_pos h, if_pos h]; exact ⟨rfl, rfl⟩
theorem scl_no {a b c : Int} (h : sclOk a b c = false) : scl a b c = 0 ∧ sclE a b c = 4 := by unfold scl sclE; rw [h]; exact ⟨rfl, rfl⟩

theorem scale_err {a b c : Int} (h : sclOk a b c = false) : Ending.returned (.tuple #[.int .i64 0, .int .i64 4]) = .returned (.tuple #[.int .i64 (scl a b c), .int .i64 (sclE a b c)]) := by rw [(scl_no h).1, (scl_no h).2]
theorem scale_ok {a b c n : Int} (h : sclOk a b c = true) (hn : a * b / c = n) : Ending.returned (.tuple #[.int .i64 n, .int .i64 0]) = .returned (.tuple #[.int .i64 (scl a b c), .int .i64 (sclE a b c)]) := by rw [(scl_yes h).1, (scl_yes h).2, hn]

theorem scl_a {a b c : Int} (h : room a = false) : sclOk a b c = false := by unfold sclOk; rw [h]; rfl
theorem scl_b {a b c : Int} (h : room b = false) : sclOk a b c = false := by unfold sclOk; rw [h]; simp
theorem scl_c {a b c : Int} (h : room c = false) : sclOk a b c = false := by unfold sclOk; rw [h]; simp
theorem scl_0 {a b c : Int} (h : ¬ 0 < c) : sclOk a b c = false := by unfold sclOk; rw [decide_eq_false h]; simp
theorem scl_q {a b c : Int} (h : room (a * b / c) = false) : sclOk a b c = false := by unfold sclOk; rw [h]; simp
theorem scl_in {a b c : Int} (h1 : room a = true) (h2 : room b = true) (h3 : room c = true) (h4 : 0 < c) (h5 : room (a * b / c) = true) : sclOk a b c = true := by unfold sclOk; rw [h1, h2, h3, h5, decide_eq_true h4]; rfl

/-- How far the exact quotient lies from the one of the numbers without their signs. -/
theorem quo_far (a b c : Int) (hc : 0 < c) : ((a < 0) = (b < 0) ∧ a * b / c = ((a.natAbs * b.natAbs / c.natAbs : Nat) : Int)) ∨
    (¬ (a < 0) = (b < 0) ∧ a.natAbs * b.natAbs % c.natAbs = 0 ∧ a * b / c = -((a.natAbs * b.natAbs / c.natAbs : Nat) : Int)) ∨
    (¬ (a < 0) = (b < 0) ∧ 0 < a.natAbs * b.natAbs % c.natAbs ∧ a * b / c = -((a.natAbs * b.natAbs / c.natAbs : Nat) : Int) - 1) := by
  by_cases h : (a < 0) = (b < 0)
  · exact .inl ⟨h, down_same a b c hc h⟩
  · have e := down_other a b c hc h
    by_cases hr : a.natAbs * b.natAbs % c.natAbs = 0
    · rw [if_pos hr] at e; exact .inr (.inl ⟨h, hr, e⟩)
    · rw [if_neg hr] at e; exact .inr (.inr ⟨h, Nat.pos_of_ne_zero hr, e⟩)

/-- Scale where the quotient of the words is past a word. -/
theorem scale_past (a b c : Int) (w : World) (h1 : room a = true) (h2 : room b = true) (h3 : room c = true) (h4 : 0 < c) (hp : c.natAbs ≤ a.natAbs * b.natAbs / 18446744073709551616) :
    Calls Tryd.prog 79 #[.int .i64 a, .int .i64 b, .int .i64 c] w fun e w' => e = .returned (.tuple #[.int .i64 0, .int .i64 4]) ∧ Keeps w w' := by
  obtain ⟨a1, a2⟩ := room_yes h1
  obtain ⟨b1, b2⟩ := room_yes h2
  obtain ⟨c1, c2⟩ := room_yes h3
  have d1 : decide (c ≤ 0) = false := decide_eq_false (by omega)
  have SA := Lib.hid (fun W => size_any a W (by omega) (by omega))
  have SB := Lib.hid (fun W => size_any b W (by omega) (by omega))
  have ec : (c.natAbs : Int) = c := Int.natAbs_of_nonneg (by omega)
  have P := Lib.hid (fun W => portion_no a.natAbs b.natAbs c.natAbs W (by omega) (by omega) hp)
  rw [ec] at P
  clear hp ec
  generalize a.natAbs = x at *
  generalize b.natAbs = y at *
  go_enter Tryd.func79, Tryd.ntmps79
  go_wp2_with (go_at_call 86; refine (hasRoom_any _ _).mono ?_; rintro e w' ⟨rfl, rfl⟩)
  refine (SA.out _).mono ?_
  rintro e w' ⟨rfl, rfl⟩
  go_wp2_with fail
  refine (SB.out _).mono ?_
  rintro e w' ⟨rfl, rfl⟩
  go_wp2_with fail
  refine (P.out _).mono ?_
  rintro e w1 ⟨rfl, hk⟩
  go_wp2_with (go_at_call 86; refine (hasRoom_any _ _).mono ?_; rintro e w' ⟨rfl, rfl⟩)
  go_ret2
  exact ⟨rfl, hk⟩

/-- Scale where it isn't, and has no room. -/
theorem scale_big (a b c : Int) (w : World) (h1 : room a = true) (h2 : room b = true) (h3 : room c = true) (h4 : 0 < c) (hp : a.natAbs * b.natAbs / 18446744073709551616 < c.natAbs)
    (hq : 4611686018427387904 < a.natAbs * b.natAbs / c.natAbs) :
    Calls Tryd.prog 79 #[.int .i64 a, .int .i64 b, .int .i64 c] w fun e w' => e = .returned (.tuple #[.int .i64 0, .int .i64 4]) ∧ Keeps w w' := by
  obtain ⟨a1, a2⟩ := room_yes h1
  obtain ⟨b1, b2⟩ := room_yes h2
  obtain ⟨c1, c2⟩ := room_yes h3
  have d1 : decide (c ≤ 0) = false := decide_eq_false (by omega)
  have SA := Lib.hid (fun W => size_any a W (by omega) (by omega))
  have SB := Lib.hid (fun W => size_any b W (by omega) (by omega))
  have ec : (c.natAbs : Int) = c := Int.natAbs_of_nonneg (by omega)
  have P := Lib.hid (fun W => portion_yes a.natAbs b.natAbs c.natAbs W (by omega) (by omega) (by omega) hp)
  rw [ec] at P
  clear hp ec
  generalize a.natAbs * b.natAbs / c.natAbs = q at *
  generalize a.natAbs * b.natAbs % c.natAbs = r at *
  generalize a.natAbs = x at *
  generalize b.natAbs = y at *
  have t : decide ((4611686018427387904 : Int) < (q : Int)) = true := decide_eq_true (by omega)
  obtain ⟨Q, HQ⟩ : ∃ Q : Int, Hid ((q : Int) = Q) := ⟨_, rfl⟩
  rw [HQ.out] at P t
  clear hq
  go_enter Tryd.func79, Tryd.ntmps79
  go_wp2_with (go_at_call 86; refine (hasRoom_any _ _).mono ?_; rintro e w' ⟨rfl, rfl⟩)
  refine (SA.out _).mono ?_
  rintro e w' ⟨rfl, rfl⟩
  go_wp2_with fail
  refine (SB.out _).mono ?_
  rintro e w' ⟨rfl, rfl⟩
  go_wp2_with fail
  refine (P.out _).mono ?_
  rintro e w1 ⟨rfl, hk⟩
  go_wp2_with (go_at_call 86; refine (hasRoom_any _ _).mono ?_; rintro e w' ⟨rfl, rfl⟩)
  go_ret2
  exact ⟨rfl, hk⟩

/-- Where the quotient has room: what comes of it by the signs. -/
theorem scale_near (a b c n : Int) (w : World) (h1 : room a = true) (h2 : room b = true) (h3 : room c = true) (h4 : 0 < c) (hp : a.natAbs * b.natAbs / 18446744073709551616 < c.natAbs)
    (hq : a.natAbs * b.natAbs / c.natAbs ≤ 4611686018427387904)
    (hn : ((a < 0) = (b < 0) ∧ n = ((a.natAbs * b.natAbs / c.natAbs : Nat) : Int)) ∨ (¬ (a < 0) = (b < 0) ∧ a.natAbs * b.natAbs % c.natAbs = 0 ∧ n = -((a.natAbs * b.natAbs / c.natAbs : Nat) : Int)) ∨
      (¬ (a < 0) = (b < 0) ∧ 0 < a.natAbs * b.natAbs % c.natAbs ∧ n = -((a.natAbs * b.natAbs / c.natAbs : Nat) : Int) - 1)) :
    Calls Tryd.prog 79 #[.int .i64 a, .int .i64 b, .int .i64 c] w fun e w' => e = .returned (.tuple #[.int .i64 (if room n then n else 0), .int .i64 (if room n then 0 else 4)]) ∧ Keeps w w' := by
  obtain ⟨a1, a2⟩ := room_yes h1
  obtain ⟨b1, b2⟩ := room_yes h2
  obtain ⟨c1, c2⟩ := room_yes h3
  have d1 : decide (c ≤ 0) = false := decide_eq_false (by omega)
  have SA := Lib.hid (fun W => size_any a W (by omega) (by omega))
  have SB := Lib.hid (fun W => size_any b W (by omega) (by omega))
  have ec : (c.natAbs : Int) = c := Int.natAbs_of_nonneg (by omega)
  have P := Lib.hid (fun W => portion_yes a.natAbs b.natAbs c.natAbs W (by omega) (by omega) (by omega) hp)
  rw [ec] at P
  clear hp ec
  generalize a.natAbs * b.natAbs / c.natAbs = q at *
  generalize a.natAbs * b.natAbs % c.natAbs = r at *
  generalize a.natAbs = x at *
  generalize b.natAbs = y at *
  obtain ⟨Q, HQ⟩ : ∃ Q : Int, Hid ((q : Int) = Q) := ⟨_, rfl⟩
  rw [HQ.out] at P hn
  have q0 : 0 ≤ Q := by have := HQ.out; omega
  have q1 : Q ≤ 4611686018427387904 := by have := HQ.out; omega
  clear hq
  have t : decide ((4611686018427387904 : Int) < Q) = false := decide_eq_false (by omega)
  rcases hn with ⟨hs, hn⟩ | ⟨hs, hr, hn⟩ | ⟨hs, hr, hn⟩
  · subst hn
    have hroom : room n = true := room_mk ⟨by omega, by omega⟩
    rw [if_pos hroom, if_pos hroom]
    by_cases g : a < 0
    · have g' : b < 0 := by rw [← hs]; exact g
      clear hs
      have t3 : decide (a < 0) = true := decide_eq_true g
      have t4 : decide (b < 0) = true := decide_eq_true g'
      go_enter Tryd.func79, Tryd.ntmps79
      go_wp2_with (go_at_call 86; refine (hasRoom_any _ _).mono ?_; rintro e w' ⟨rfl, rfl⟩)
      refine (SA.out _).mono ?_
      rintro e w' ⟨rfl, rfl⟩
      go_wp2_with fail
      refine (SB.out _).mono ?_
      rintro e w' ⟨rfl, rfl⟩
      go_wp2_with fail
      refine (P.out _).mono ?_
      rintro e w1 ⟨rfl, hk⟩
      go_wp2_with (go_at_call 86; refine (hasRoom_any _ _).mono ?_; rintro e w' ⟨rfl, rfl⟩)
      go_ret2
      exact ⟨rfl, hk⟩
    · have g' : ¬ b < 0 := by rw [← hs]; exact g
      clear hs
      have t3 : decide (a < 0) = false := decide_eq_false g
      have t4 : decide (b < 0) = false := decide_eq_false g'
      go_enter Tryd.func79, Tryd.ntmps79
      go_wp2_with (go_at_call 86; refine (hasRoom_any _ _).mono ?_; rintro e w' ⟨rfl, rfl⟩)
      refine (SA.out _).mono ?_
      rintro e w' ⟨rfl, rfl⟩
      go_wp2_with fail
      refine (SB.out _).mono ?_
      rintro e w' ⟨rfl, rfl⟩
      go_wp2_with fail
      refine (P.out _).mono ?_
      rintro e w1 ⟨rfl, hk⟩
      go_wp2_with (go_at_call 86; refine (hasRoom_any _ _).mono ?_; rintro e w' ⟨rfl, rfl⟩)
      go_ret2
      exact ⟨rfl, hk⟩
  · subst hr
    have hroom : room n = true := room_mk ⟨by omega, by omega⟩
    rw [if_pos hroom, if_pos hroom]
    subst hn
    by_cases g : a < 0
    · have g' : ¬ b < 0 := fun k => hs (by simp [g, k])
      clear hs
      have t3 : decide (a < 0) = true := decide_eq_true g
      have t4 : decide (b < 0) = false := decide_eq_false g'
      go_enter Tryd.func79, Tryd.ntmps79
      go_wp2_with (go_at_call 86; refine (hasRoom_any _ _).mono ?_; rintro e w' ⟨rfl, rfl⟩)
      refine (SA.out _).mono ?_
      rintro e w' ⟨rfl, rfl⟩
      go_wp2_with fail
      refine (SB.out _).mono ?_
      rintro e w' ⟨rfl, rfl⟩
      go_wp2_with fail
      refine (P.out _).mono ?_
      rintro e w1 ⟨rfl, hk⟩
      go_wp2_with (go_at_call 86; refine (hasRoom_any _ _).mono ?_; rintro e w' ⟨rfl, rfl⟩)
      go_ret2
      exact ⟨rfl, hk⟩
    · have g' : b < 0 := by
        by_cases k : b < 0
        · exact k
        · exact absurd (by simp [g, k]) hs
      clear hs
      have t3 : decide (a < 0) = false := decide_eq_false g
      have t4 : decide (b < 0) = true := decide_eq_true g'
      go_enter Tryd.func79, Tryd.ntmps79
      go_wp2_with (go_at_call 86; refine (hasRoom_any _ _).mono ?_; rintro e w' ⟨rfl, rfl⟩)
      refine (SA.out _).mono ?_
      rintro e w' ⟨rfl, rfl⟩
      go_wp2_with fail
      refine (SB.out _).mono ?_
      rintro e w' ⟨rfl, rfl⟩
      go_wp2_with fail
      refine (P.out _).mono ?_
      rintro e w1 ⟨rfl, hk⟩
      go_wp2_with (go_at_call 86; refine (hasRoom_any _ _).mono ?_; rintro e w' ⟨rfl, rfl⟩)
      go_ret2
      exact ⟨rfl, hk⟩
  · have t2 : decide (0 < r) = true := decide_eq_true hr
    subst hn
    cases hroom : room (-Q - 1) with
    | true =>
      by_cases g : a < 0
      · have g' : ¬ b < 0 := fun k => hs (by simp [g, k])
        clear hs
        have t3 : decide (a < 0) = true := decide_eq_true g
        have t4 : decide (b < 0) = false := decide_eq_false g'
        go_enter Tryd.func79, Tryd.ntmps79
        go_wp2_with (go_at_call 86; refine (hasRoom_any _ _).mono ?_; rintro e w' ⟨rfl, rfl⟩)
        refine (SA.out _).mono ?_
        rintro e w' ⟨rfl, rfl⟩
        go_wp2_with fail
        refine (SB.out _).mono ?_
        rintro e w' ⟨rfl, rfl⟩
        go_wp2_with fail
        refine (P.out _).mono ?_
        rintro e w1 ⟨rfl, hk⟩
        go_wp2_with (go_at_call 86; refine (hasRoom_any _ _).mono ?_; rintro e w' ⟨rfl, rfl⟩)
        go_ret2
        exact ⟨rfl, hk⟩
      · have g' : b < 0 := by
          by_cases k : b < 0
          · exact k
          · exact absurd (by simp [g, k]) hs
        clear hs
        have t3 : decide (a < 0) = false := decide_eq_false g
        have t4 : decide (b < 0) = true := decide_eq_true g'
        go_enter Tryd.func79, Tryd.ntmps79
        go_wp2_with (go_at_call 86; refine (hasRoom_any _ _).mono ?_; rintro e w' ⟨rfl, rfl⟩)
        refine (SA.out _).mono ?_
        rintro e w' ⟨rfl, rfl⟩
        go_wp2_with fail
        refine (SB.out _).mono ?_
        rintro e w' ⟨rfl, rfl⟩
        go_wp2_with fail
        refine (P.out _).mono ?_
        rintro e w1 ⟨rfl, hk⟩
        go_wp2_with (go_at_call 86; refine (hasRoom_any _ _).mono ?_; rintro e w' ⟨rfl, rfl⟩)
        go_ret2
        exact ⟨rfl, hk⟩
    | false =>
      by_cases g : a < 0
      · have g' : ¬ b < 0 := fun k => hs (by simp [g, k])
        clear hs
        have t3 : decide (a < 0) = true := decide_eq_true g
        have t4 : decide (b < 0) = false := decide_eq_false g'
        go_enter Tryd.func79, Tryd.ntmps79
        go_wp2_with (go_at_call 86; refine (hasRoom_any _ _).mono ?_; rintro e w' ⟨rfl, rfl⟩)
        refine (SA.out _).mono ?_
        rintro e w' ⟨rfl, rfl⟩
        go_wp2_with fail
        refine (SB.out _).mono ?_
        rintro e w' ⟨rfl, rfl⟩
        go_wp2_with fail
        refine (P.out _).mono ?_
        rintro e w1 ⟨rfl, hk⟩
        go_wp2_with (go_at_call 86; refine (hasRoom_any _ _).mono ?_; rintro e w' ⟨rfl, rfl⟩)
        go_ret2
        exact ⟨rfl, hk⟩
      · have g' : b < 0 := by
          by_cases k : b < 0
          · exact k
          · exact absurd (by simp [g, k]) hs
        clear hs
        have t3 : decide (a < 0) = false := decide_eq_false g
        have t4 : decide (b < 0) = true := decide_eq_true g'
        go_enter Tryd.func79, Tryd.ntmps79
        go_wp2_with (go_at_call 86; refine (hasRoom_any _ _).mono ?_; rintro e w' ⟨rfl, rfl⟩)
        refine (SA.out _).mono ?_
        rintro e w' ⟨rfl, rfl⟩
        go_wp2_with fail
        refine (SB.out _).mono ?_
        rintro e w' ⟨rfl, rfl⟩
        go_wp2_with fail
        refine (P.out _).mono ?_
        rintro e w1 ⟨rfl, hk⟩
        go_wp2_with (go_at_call 86; refine (hasRoom_any _ _).mono ?_; rintro e w' ⟨rfl, rfl⟩)
        go_ret2
        exact ⟨rfl, hk⟩

set_option maxHeartbeats 400000 in
theorem scale_any (a b c : Int) (w : World) :
    Calls Tryd.prog 79 #[.int .i64 a, .int .i64 b, .int .i64 c] w fun e w' => e = .returned (.tuple #[.int .i64 (scl a b c), .int .i64 (sclE a b c)]) ∧ Keeps w w' := by
  cases h1 : room a with
  | false =>
    have E := Lib.hid (scale_err (scl_a (b := b) (c := c) h1))
    go_enter Tryd.func79, Tryd.ntmps79
    go_wp2_with (go_at_call 86; refine (hasRoom_any _ _).mono ?_; rintro e w' ⟨rfl, rfl⟩)
    go_ret2
    exact ⟨E.out, Keeps.refl _⟩
  | true =>
    cases h2 : room b with
    | false =>
      have E := Lib.hid (scale_err (scl_b (a := a) (c := c) h2))
      go_enter Tryd.func79, Tryd.ntmps79
      go_wp2_with (go_at_call 86; refine (hasRoom_any _ _).mono ?_; rintro e w' ⟨rfl, rfl⟩)
      go_ret2
      exact ⟨E.out, Keeps.refl _⟩
    | true =>
      cases h3 : room c with
      | false =>
        have E := Lib.hid (scale_err (scl_c (a := a) (b := b) h3))
        go_enter Tryd.func79, Tryd.ntmps79
        go_wp2_with (go_at_call 86; refine (hasRoom_any _ _).mono ?_; rintro e w' ⟨rfl, rfl⟩)
        go_ret2
        exact ⟨E.out, Keeps.refl _⟩
      | true =>
        by_cases h4 : 0 < c
        · have far := quo_far a b c h4
          by_cases hp : c.natAbs ≤ a.natAbs * b.natAbs / 18446744073709551616
          · refine (scale_past a b c w h1 h2 h3 h4 hp).mono fun e w' ⟨he, hk⟩ => ⟨he.trans (scale_err (scl_q (room_mk_no ?_))), hk⟩
            have hq : 18446744073709551616 ≤ a.natAbs * b.natAbs / c.natAbs := by
              rw [Nat.le_div_iff_mul_le (by omega), Nat.mul_comm]
              exact (Nat.le_div_iff_mul_le (by omega)).1 hp
            generalize a.natAbs * b.natAbs / c.natAbs = q at *
            generalize a * b / c = n at *
            omega
          · by_cases hq : 4611686018427387904 < a.natAbs * b.natAbs / c.natAbs
            · refine (scale_big a b c w h1 h2 h3 h4 (by omega) hq).mono fun e w' ⟨he, hk⟩ => ⟨he.trans (scale_err (scl_q (room_mk_no ?_))), hk⟩
              generalize a.natAbs * b.natAbs / c.natAbs = q at *
              generalize a * b / c = n at *
              omega
            · refine (scale_near a b c (a * b / c) w h1 h2 h3 h4 (by omega) (by omega) far).mono fun e w' ⟨he, hk⟩ => ⟨he.trans ?_, hk⟩
              cases h5 : room (a * b / c) with
              | true => exact scale_ok (scl_in h1 h2 h3 h4 h5) rfl
              | false => exact scale_err (scl_q h5)
        · have E := Lib.hid (scale_err (scl_0 (a := a) (b := b) h4))
          have d1 : decide (c ≤ 0) = true := decide_eq_true (by omega)
          go_enter Tryd.func79, Tryd.ntmps79
          go_wp2_with (go_at_call 86; refine (hasRoom_any _ _).mono ?_; rintro e w' ⟨rfl, rfl⟩)
          go_ret2
          exact ⟨E.out, Keeps.refl _⟩
end Go.Proofs.YtfnkokfkhjdkfaaDoor

/-
  Contracts of the document's Badness and Demerits, for what lines ask.
-/
namespace Go.Proofs.YtfnkokfkhjdkfaaDoor
open Go.RowKit Go.Shelf Go.Lib

set_option maxRecDepth 100000 in
set_option maxHeartbeats 4000000 in
theorem rbad_any (t s : Int) (w : World) (ht : 0 ≤ t) (ht' : t ≤ 4611686018427387904) (hs' : s ≤ 9223372036854775807) :
    Calls Tryd.prog 46 #[.int .i64 t, .int .i64 s] w fun e w' => e = .returned (.int .i64 (bad t s)) ∧ Keeps w w' := by
  have m1 : max t (-t) = t := by omega
  have m2 : (if t < -t then -t else t) = t := by rw [if_neg (by omega)]
  by_cases h0 : t = 0
  · subst h0
    have E := Lib.hid (bad_0 s)
    go_enter Tryd.func46, Tryd.ntmps46
    go_wp2
    go_ret
    exact ⟨ret_int E.out.symm, Keeps.refl _⟩
  · have e0 : (t == 0) = false := beq_eq_false_iff_ne.2 h0
    have d0 : decide (t < 0) = false := decide_eq_false (by omega)
    by_cases hs : s ≤ 0
    · have E := Lib.hid (bad_s h0 hs)
      have d1 : decide (s ≤ 0) = true := decide_eq_true hs
      go_enter Tryd.func46, Tryd.ntmps46
      go_wp2
      go_ret
      exact ⟨ret_int E.out.symm, Keeps.refl _⟩
    · have d1 : decide (s ≤ 0) = false := decide_eq_false hs
      have hm : ¬ t = -9223372036854775808 := by omega
      have es : (s.natAbs : Int) = s := Int.natAbs_of_nonneg (by omega)
      have et : (t.natAbs : Int) = t := Int.natAbs_of_nonneg (by omega)
      have MU := Lib.hid (fun W => Tryd.bits_Mul64 297 t.natAbs (by omega) (by omega) W)
      by_cases hp : s.natAbs ≤ 297 * t.natAbs / 18446744073709551616
      · have hr : 1290 < badR t s := by
          unfold badR
          have hq : 18446744073709551616 ≤ 297 * t.natAbs / s.natAbs := by
            rw [Nat.le_div_iff_mul_le (by omega), Nat.mul_comm]
            exact (Nat.le_div_iff_mul_le (by omega)).1 hp
          omega
        have E := Lib.hid (bad_far h0 hr)
        have t1 : decide (s ≤ ((297 * t.natAbs / 18446744073709551616 : Nat) : Int)) = true := decide_eq_true (by omega)
        rw [et] at MU
        clear hr hp hm h0
        generalize 297 * t.natAbs / 18446744073709551616 = x at *
        generalize 297 * t.natAbs % 18446744073709551616 = y at *
        clear es et
        go_enter Tryd.func46, Tryd.ntmps46
        go_wp2_with fail
        refine (MU.out _).mono ?_
        rintro e w' ⟨rfl, rfl⟩
        go_wp2_with fail
        go_ret
        exact ⟨ret_int E.out.symm, Keeps.refl _⟩
      · have hd := fun W => div64_all (297 * t.natAbs / 18446744073709551616) (297 * t.natAbs % 18446744073709551616) s.natAbs W (by omega) (Nat.mod_lt _ (by omega)) (by omega)
        have e : 297 * t.natAbs / 18446744073709551616 * 18446744073709551616 + 297 * t.natAbs % 18446744073709551616 = 297 * t.natAbs := by
          rw [Nat.mul_comm (297 * t.natAbs / 18446744073709551616)]; exact Nat.div_add_mod _ _
        rw [e] at hd
        have eR : 297 * t.natAbs / s.natAbs = badR t s := rfl
        rw [eR, es] at hd
        have D := Lib.hid hd
        have t1 : decide (s ≤ ((297 * t.natAbs / 18446744073709551616 : Nat) : Int)) = false := decide_eq_false (by omega)
        rw [et] at MU
        clear hd e eR
        by_cases hr : 1290 < badR t s
        · have E := Lib.hid (bad_far h0 hr)
          clear hp hm h0
          generalize 297 * t.natAbs % s.natAbs = z at *
          generalize 297 * t.natAbs / 18446744073709551616 = x at *
          generalize 297 * t.natAbs % 18446744073709551616 = y at *
          clear es et
          generalize badR t s = r at *
          have t2 : decide (1290 < (r : Int)) = true := decide_eq_true (by omega)
          go_enter Tryd.func46, Tryd.ntmps46
          go_wp2_with fail
          refine (MU.out _).mono ?_
          rintro e w' ⟨rfl, rfl⟩
          go_wp2_with fail
          refine (D.out _).mono ?_
          rintro e w1 ⟨rfl, hk⟩
          go_wp2_with fail
          go_ret
          exact ⟨ret_int E.out.symm, hk⟩
        · have E := Lib.hid (bad_near h0 hs hm hr)
          clear hp hm h0
          generalize 297 * t.natAbs % s.natAbs = z at *
          generalize 297 * t.natAbs / 18446744073709551616 = x at *
          generalize 297 * t.natAbs % 18446744073709551616 = y at *
          clear es et
          generalize badR t s = r at *
          obtain ⟨c1, c2, c3, c4⟩ := cube_in r (by omega) (by omega)
          have t2 : decide (1290 < r) = false := decide_eq_false (by omega)
          go_enter Tryd.func46, Tryd.ntmps46
          go_wp2_with fail
          refine (MU.out _).mono ?_
          rintro e w' ⟨rfl, rfl⟩
          go_wp2_with fail
          refine (D.out _).mono ?_
          rintro e w1 ⟨rfl, hk⟩
          go_wp2_with fail
          go_ret
          exact ⟨ret_int E.out.symm, hk⟩

set_option maxRecDepth 100000 in
set_option maxHeartbeats 4000000 in
theorem rdem_any (b c : Int) (w : World) : Calls Tryd.prog 47 #[.int .i64 b, .int .i64 c] w fun e w' => e = .returned (.int .i64 (dem b c)) ∧ w = w' := by
  obtain ⟨b0, b1⟩ := clamp_bd b 0 10000 (by omega)
  obtain ⟨c0, c1⟩ := clamp_bd c (-10000) 10000 (by omega)
  obtain ⟨s0, s1⟩ := sq_bd (10 + clamp b 0 10000) 10010 (by omega) (by omega)
  obtain ⟨s2, s3⟩ := sq_bd (clamp c (-10000) 10000) 10000 (by omega) (by omega)
  have e : dem b c = if clamp c (-10000) 10000 = -10000 then (10 + clamp b 0 10000) * (10 + clamp b 0 10000) else if clamp c (-10000) 10000 < 0 then (10 + clamp b 0 10000) * (10 + clamp b 0 10000) - clamp c (-10000) 10000 * clamp c (-10000) 10000 else (10 + clamp b 0 10000) * (10 + clamp b 0 10000) + clamp c (-10000) 10000 * clamp c (-10000) 10000 := rfl
  obtain ⟨B1, hB1, hB2⟩ : ∃ B1, min b 10000 = B1 ∧ max 0 B1 = clamp b 0 10000 := ⟨_, rfl, by unfold clamp; split <;> (try split) <;> omega⟩
  obtain ⟨C1, hC1, hC2⟩ : ∃ C1, min c 10000 = C1 ∧ max (-10000) C1 = clamp c (-10000) 10000 := ⟨_, rfl, by unfold clamp; split <;> (try split) <;> omega⟩
  have hB3 : (if b < 10000 then b else 10000) = B1 := by omega
  have hC3 : (if c < 10000 then c else 10000) = C1 := by omega
  have hB4 : (if 0 < B1 then B1 else 0) = clamp b 0 10000 := by omega
  have hC4 : (if -10000 < C1 then C1 else -10000) = clamp c (-10000) 10000 := by omega
  have hB5 : (if 10000 < b then 10000 else b) = B1 := by omega
  have hC5 : (if 10000 < c then 10000 else c) = C1 := by omega
  have hB6 : (if B1 < 0 then 0 else B1) = clamp b 0 10000 := by omega
  have hC6 : (if C1 < -10000 then -10000 else C1) = clamp c (-10000) 10000 := by omega
  generalize clamp c (-10000) 10000 = C at *
  generalize clamp b 0 10000 = B at *
  by_cases h : C ≤ -10000
  · have t1 : decide (C ≤ -10000) = true := decide_eq_true h
    rw [if_pos (by omega)] at e
    have E := Lib.hid e
    have HH := Lib.hid h
    clear e h
    go_enter Tryd.func47, Tryd.ntmps47
    go_wp2_with fail
    go_ret
    exact ⟨ret_int E.out.symm, rfl⟩
  · have t1 : decide (C ≤ -10000) = false := decide_eq_false h
    rw [if_neg (by omega)] at e
    by_cases k : C < 0
    · rw [if_pos k] at e
      have t2 : decide (C < 0) = true := decide_eq_true k
      have E := Lib.hid e
      clear e h
      go_enter Tryd.func47, Tryd.ntmps47
      go_wp2_with fail
      go_ret
      exact ⟨ret_int E.out.symm, rfl⟩
    · rw [if_neg k] at e
      have t2 : decide (C < 0) = false := decide_eq_false k
      have E := Lib.hid e
      clear e h
      go_enter Tryd.func47, Tryd.ntmps47
      go_wp2_with fail
      go_ret
      exact ⟨ret_int E.out.symm, rfl⟩
end Go.Proofs.YtfnkokfkhjdkfaaDoor

