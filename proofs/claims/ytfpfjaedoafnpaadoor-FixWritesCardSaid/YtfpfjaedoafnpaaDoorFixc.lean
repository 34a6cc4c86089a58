/-
  The contract of package fix's Scale, for every argument.
-/
import Derived.Test.YtfpfjaedoafnpaaDoorFixb
namespace Go.Proofs.YtfpfjaedoafnpaaDoor
open Go.RowKit Go.Shelf Go.Lib
set_option pp.maxSteps 1000000
set_option pp.deepTerms true

def scl (a b c : Int) : Int := if sclOk a b c = true then a * b / c else 0
def sclE (a b c : Int) : Int := if sclOk a b c = true then 0 else 4
theorem scl_yes {a b c : Int} (h : sclOk a b c = true) : scl a b c = a * b / c ∧ sclE a b c = 0 := by unfold scl sclE; rw [if_pos h, if_pos h]; exact ⟨rfl, rfl⟩
theorem scl_no {a b c : Int} (h : sclOk a b c = false) : scl a b c = 0 ∧ sclE a b c = 4 := by unfold scl sclE; rw [h]; exact ⟨rfl, rfl⟩

theorem scale_err {a b c : Int} (h : sclOk a b c = false) : Ending.returned (.tuple #[.int .i64 0, .int .i64 4]) = .returned (.tuple #[.int .i64 (scl a b c), .int .i64 (sclE a b c)]) := by rw [(scl_no h).1, (scl_no h).2]
theorem scale_ok {a b c n : Int} (h : sclOk a b c = true) (hn : a * b / c = n) : Ending.returned (.tuple #[.int .i64 n, .int .i64 0]) = .returned (.tuple #[.int .i64 (scl a b c), .int .i64 (sclE a b c)]) := by rw [(scl_yes h).1, (scl_yes h).2, hn]

theorem scl_a {a b c : Int} (h : room a = false) : sclOk a b c = false := by unfold sclOk; rw [h]; rfl
theorem scl_b {a b c : Int} (h : room b = false) : sclOk a b c = false := by unfold sclOk; rw [h]; simp
theorem scl_c {a b c : Int} (h : room c = false) : sclOk a b c = false := by unfold sclOk; rw [h]; simp
theorem scl_0 {a b c : Int} (h : ¬ 0 < c) : sclOk a b c = false := by unfold sclOk; rw [decide_eq_false h]; simp
theorem scl_q {a b c : Int} (h : room (a * b / c) = false) : sclOk a b c = false := by unfold sclOk; rw [h]; simp
theorem scl_in {a b c : Int} (h1 : room a = true) (h2 : room b = true) (h3 : room c = true) (h4 : 0 < c) (h5 : room (a * b / c) = true) : sclOk a b c = true := by unfold sclOk; rw [h1, h2, h3, h5, decide_eq_true h4]; rfl

/-- How far the exact quotient lies from the one of the numbers without their signs. -/
theorem quo_far (a b c : Int) (hc : 0 < c) : ((a < 0) = (b < 0) ∧ a * b / c = ((a.natAbs * b.natAbs / c.natAbs : Nat) : Int)) ∨
    (¬ (a < 0) = (b < 0) ∧ a.natAbs * b.natAbs % c.natAbs = 0 ∧ a * b / c = -((a.natAbs * b.natAbs / c.natAbs : Nat) : Int)) ∨
    (¬ (a < 0) = (b < 0) ∧ 0 < a.natAbs * b.natAbs % c.natAbs ∧ a * b / c = -((a.natAbs * b.natAbs / c.natAbs : Nat) : Int) - 1) := by
  by_cases h : (a < 0) = (b < 0)
  · exact .inl ⟨h, down_same a b c hc h⟩
  · have e := down_other a b c hc h
    by_cases hr : a.natAbs * b.natAbs % c.natAbs = 0
    · rw [if_pos hr] at e; exact .inr (.inl ⟨h, hr, e⟩)
    · rw [if_neg hr] at e; exact .inr (.inr ⟨h, Nat.pos_of_ne_zero hr, e⟩)

/-- Scale where the quotient of the words is past a word. -/
theorem scale_past (a b c : Int) (w : World) (h1 : room a = true) (h2 : room b = true) (h3 : room c = true) (h4 : 0 < c) (hp : c.natAbs ≤ a.natAbs * b.natAbs / 18446744073709551616) :
    Calls Tryd.prog 16 #[.int .i64 a, .int .i64 b, .int .i64 c] w fun e w' => e = .returned (.tuple #[.int .i64 0, .int .i64 4]) ∧ Keeps w w' := by
  obtain ⟨a1, a2⟩ := room_yes h1
  obtain ⟨b1, b2⟩ := room_yes h2
  obtain ⟨c1, c2⟩ := room_yes h3
  have d1 : decide (c ≤ 0) = false := decide_eq_false (by omega)
  have SA := Lib.hid (fun W => size_any a W (by omega) (by omega))
  have SB := Lib.hid (fun W => size_any b W (by omega) (by omega))
  have ec : (c.natAbs : Int) = c := Int.natAbs_of_nonneg (by omega)
  have P := Lib.hid (fun W => portion_no a.natAbs b.natAbs c.natAbs W (by omega) (by omega) hp)
  rw [ec] at P
  clear hp ec
  generalize a.natAbs = x at *
  generalize b.natAbs = y at *
  go_enter Tryd.func16, Tryd.ntmps16
  go_wp2_with (go_at_call 28; refine (hasRoom_any _ _).mono ?_; rintro e w' ⟨rfl, rfl⟩)
  refine (SA.out _).mono ?_
  rintro e w' ⟨rfl, rfl⟩
  go_wp2_with fail
  refine (SB.out _).mono ?_
  rintro e w' ⟨rfl, rfl⟩
  go_wp2_with fail
  refine (P.out _).mono ?_
  rintro e w1 ⟨rfl, hk⟩
  go_wp2_with (go_at_call 28; refine (hasRoom_any _ _).mono ?_; rintro e w' ⟨rfl, rfl⟩)
  go_ret2
  exact ⟨rfl, hk⟩

/-- Scale where it isn't, and has no room. -/
theorem scale_big (a b c : Int) (w : World) (h1 : room a = true) (h2 : room b = true) (h3 : room c = true) (h4 : 0 < c) (hp : a.natAbs * b.natAbs / 18446744073709551616 < c.natAbs)
    (hq : 4611686018427387904 < a.natAbs * b.natAbs / c.natAbs) :
    Calls Tryd.prog 16 #[.int .i64 a, .int .i64 b, .int .i64 c] w fun e w' => e = .returned (.tuple #[.int .i64 0, .int .i64 4]) ∧ Keeps w w' := by
  obtain ⟨a1, a2⟩ := room_yes h1
  obtain ⟨b1, b2⟩ := room_yes h2
  obtain ⟨c1, c2⟩ := room_yes h3
  have d1 : decide (c ≤ 0) = false := decide_eq_false (by omega)
  have SA := Lib.hid (fun W => size_any a W (by omega) (by omega))
  have SB := Lib.hid (fun W => size_any b W (by omega) (by omega))
  have ec : (c.natAbs : Int) = c := Int.natAbs_of_nonneg (by omega)
  have P := Lib.hid (fun W => portion_yes a.natAbs b.natAbs c.natAbs W (by omega) (by omega) (by omega) hp)
  rw [ec] at P
  clear hp ec
  generalize a.natAbs * b.natAbs / c.natAbs = q at *
  generalize a.natAbs * b.natAbs % c.natAbs = r at *
  generalize a.natAbs = x at *
  generalize b.natAbs = y at *
  have t : decide ((4611686018427387904 : Int) < (q : Int)) = true := decide_eq_true (by omega)
  obtain ⟨Q, HQ⟩ : ∃ Q : Int, Hid ((q : Int) = Q) := ⟨_, rfl⟩
  rw [HQ.out] at P t
  clear hq
  go_enter Tryd.func16, Tryd.ntmps16
  go_wp2_with (go_at_call 28; refine (hasRoom_any _ _).mono ?_; rintro e w' ⟨rfl, rfl⟩)
  refine (SA.out _).mono ?_
  rintro e w' ⟨rfl, rfl⟩
  go_wp2_with fail
  refine (SB.out _).mono ?_
  rintro e w' ⟨rfl, rfl⟩
  go_wp2_with fail
  refine (P.out _).mono ?_
  rintro e w1 ⟨rfl, hk⟩
  go_wp2_with (go_at_call 28; refine (hasRoom_any _ _).mono ?_; rintro e w' ⟨rfl, rfl⟩)
  go_ret2
  exact ⟨rfl, hk⟩

/-- Where the quotient has room: what comes of it by the signs. -/
theorem scale_near (a b c n : Int) (w : World) (h1 : room a = true) (h2 : room b = true) (h3 : room c = true) (h4 : 0 < c) (hp : a.natAbs * b.natAbs / 18446744073709551616 < c.natAbs)
    (hq : a.natAbs * b.natAbs / c.natAbs ≤ 4611686018427387904)
    (hn : ((a < 0) = (b < 0) ∧ n = ((a.natAbs * b.natAbs / c.natAbs : Nat) : Int)) ∨ (¬ (a < 0) = (b < 0) ∧ a.natAbs * b.natAbs % c.natAbs = 0 ∧ n = -((a.natAbs * b.natAbs / c.natAbs : Nat) : Int)) ∨
      (¬ (a < 0) = (b < 0) ∧ 0 < a.natAbs * b.natAbs % c.natAbs ∧ n = -((a.natAbs * b.natAbs / c.natAbs : Nat) : Int) - 1)) :
    Calls Tryd.prog 16 #[.int .i64 a, .int .i64 b, .int .i64 c] w fun e w' => e = .returned (.tuple #[.int .i64 (if room n then n else 0), .int .i64 (if room n then 0 else 4)]) ∧ Keeps w w' := by
  obtain ⟨a1, a2⟩ := room_yes h1
  obtain ⟨b1, b2⟩ := room_yes h2
  obtain ⟨c1, c2⟩ := room_yes h3
  have d1 : decide (c ≤ 0) = false := decide_eq_false (by omega)
  have SA := Lib.hid (fun W => size_any a W (by omega) (by omega))
  have SB := Lib.hid (fun W => size_any b W (by omega) (by omega))
  have ec : (c.natAbs : Int) = c := Int.natAbs_of_nonneg (by omega)
  have P := Lib.hid (fun W => portion_yes a.natAbs b.natAbs c.natAbs W (by omega) (by omega) (by omega) hp)
  rw [ec] at P
  clear hp ec
  generalize a.natAbs * b.natAbs / c.natAbs = q at *
  generalize a.natAbs * b.natAbs % c.natAbs = r at *
  generalize a.natAbs = x at *
  generalize b.natAbs = y at *
  obtain ⟨Q, HQ⟩ : ∃ Q : Int, Hid ((q : Int) = Q) := ⟨_, rfl⟩
  rw [HQ.out] at P hn
  have q0 : 0 ≤ Q := by have := HQ.out; omega
  have q1 : Q ≤ 4611686018427387904 := by have := HQ.out; omega
  clear hq
  have t : decide ((4611686018427387904 : Int) < Q) = false := decide_eq_false (by omega)
  rcases hn with ⟨hs, hn⟩ | ⟨hs, hr, hn⟩ | ⟨hs, hr, hn⟩
  · subst hn
    have hroom : room n = true := room_mk ⟨by omega, by omega⟩
    rw [if_pos hroom, if_pos hroom]
    by_cases g : a < 0
    · have g' : b < 0 := by rw [← hs]; exact g
      clear hs
      have t3 : decide (a < 0) = true := decide_eq_true g
      have t4 : decide (b < 0) = true := decide_eq_true g'
      go_enter Tryd.func16, Tryd.ntmps16
      go_wp2_with (go_at_call 28; refine (hasRoom_any _ _).mono ?_; rintro e w' ⟨rfl, rfl⟩)
      refine (SA.out _).mono ?_
      rintro e w' ⟨rfl, rfl⟩
      go_wp2_with fail
      refine (SB.out _).mono ?_
      rintro e w' ⟨rfl, rfl⟩
      go_wp2_with fail
      refine (P.out _).mono ?_
      rintro e w1 ⟨rfl, hk⟩
      go_wp2_with (go_at_call 28; refine (hasRoom_any _ _).mono ?_; rintro e w' ⟨rfl, rfl⟩)
      go_ret2
      exact ⟨rfl, hk⟩
    · have g' : ¬ b < 0 := by rw [← hs]; exact g
      clear hs
      have t3 : decide (a < 0) = false := decide_eq_false g
      have t4 : decide (b < 0) = false := decide_eq_false g'
      go_enter Tryd.func16, Tryd.ntmps16
      go_wp2_with (go_at_call 28; refine (hasRoom_any _ _).mono ?_; rintro e w' ⟨rfl, rfl⟩)
      refine (SA.out _).mono ?_
      rintro e w' ⟨rfl, rfl⟩
      go_wp2_with fail
      refine (SB.out _).mono ?_
      rintro e w' ⟨rfl, rfl⟩
      go_wp2_with fail
      refine (P.out _).mono ?_
      rintro e w1 ⟨rfl, hk⟩
      go_wp2_with (go_at_call 28; refine (hasRoom_any _ _).mono ?_; rintro e w' ⟨rfl, rfl⟩)
      go_ret2
      exact ⟨rfl, hk⟩
  · subst hr
    have hroom : room n = true := room_mk ⟨by omega, by omega⟩
    rw [if_pos hroom, if_pos hroom]
    subst hn
    by_cases g : a < 0
    · have g' : ¬ b < 0 := fun k => hs (by simp [g, k])
      clear hs
      have t3 : decide (a < 0) = true := decide_eq_true g
      have t4 : decide (b < 0) = false := decide_eq_false g'
      go_enter Tryd.func16, Tryd.ntmps16
      go_wp2_with (go_at_call 28; refine (hasRoom_any _ _).mono ?_; rintro e w' ⟨rfl, rfl⟩)
      refine (SA.out _).mono ?_
      rintro e w' ⟨rfl, rfl⟩
      go_wp2_with fail
      refine (SB.out _).mono ?_
      rintro e w' ⟨rfl, rfl⟩
      go_wp2_with fail
      refine (P.out _).mono ?_
      rintro e w1 ⟨rfl, hk⟩
      go_wp2_with (go_at_call 28; refine (hasRoom_any _ _).mono ?_; rintro e w' ⟨rfl, rfl⟩)
      go_ret2
      exact ⟨rfl, hk⟩
    · have g' : b < 0 := by
        by_cases k : b < 0
        · exact k
        · exact absurd (by simp [g, k]) hs
      clear hs
      have t3 : decide (a < 0) = false := decide_eq_false g
      have t4 : decide (b < 0) = true := decide_eq_true g'
      go_enter Tryd.func16, Tryd.ntmps16
      go_wp2_with (go_at_call 28; refine (hasRoom_any _ _).mono ?_; rintro e w' ⟨rfl, rfl⟩)
      refine (SA.out _).mono ?_
      rintro e w' ⟨rfl, rfl⟩
      go_wp2_with fail
      refine (SB.out _).mono ?_
      rintro e w' ⟨rfl, rfl⟩
      go_wp2_with fail
      refine (P.out _).mono ?_
      rintro e w1 ⟨rfl, hk⟩
      go_wp2_with (go_at_call 28; refine (hasRoom_any _ _).mono ?_; rintro e w' ⟨rfl, rfl⟩)
      go_ret2
      exact ⟨rfl, hk⟩
  · have t2 : decide (0 < r) = true := decide_eq_true hr
    subst hn
    cases hroom : room (-Q - 1) with
    | true =>
      by_cases g : a < 0
      · have g' : ¬ b < 0 := fun k => hs (by simp [g, k])
        clear hs
        have t3 : decide (a < 0) = true := decide_eq_true g
        have t4 : decide (b < 0) = false := decide_eq_false g'
        go_enter Tryd.func16, Tryd.ntmps16
        go_wp2_with (go_at_call 28; refine (hasRoom_any _ _).mono ?_; rintro e w' ⟨rfl, rfl⟩)
        refine (SA.out _).mono ?_
        rintro e w' ⟨rfl, rfl⟩
        go_wp2_with fail
        refine (SB.out _).mono ?_
        rintro e w' ⟨rfl, rfl⟩
        go_wp2_with fail
        refine (P.out _).mono ?_
        rintro e w1 ⟨rfl, hk⟩
        go_wp2_with (go_at_call 28; refine (hasRoom_any _ _).mono ?_; rintro e w' ⟨rfl, rfl⟩)
        go_ret2
        exact ⟨rfl, hk⟩
      · have g' : b < 0 := by
          by_cases k : b < 0
          · exact k
          · exact absurd (by simp [g, k]) hs
        clear hs
        have t3 : decide (a < 0) = false := decide_eq_false g
        have t4 : decide (b < 0) = true := decide_eq_true g'
        go_enter Tryd.func16, Tryd.ntmps16
        go_wp2_with (go_at_call 28; refine (hasRoom_any _ _).mono ?_; rintro e w' ⟨rfl, rfl⟩)
        refine (SA.out _).mono ?_
        rintro e w' ⟨rfl, rfl⟩
        go_wp2_with fail
        refine (SB.out _).mono ?_
        rintro e w' ⟨rfl, rfl⟩
        go_wp2_with fail
        refine (P.out _).mono ?_
        rintro e w1 ⟨rfl, hk⟩
        go_wp2_with (go_at_call 28; refine (hasRoom_any _ _).mono ?_; rintro e w' ⟨rfl, rfl⟩)
        go_ret2
        exact ⟨rfl, hk⟩
    | false =>
      by_cases g : a < 0
      · have g' : ¬ b < 0 := fun k => hs (by simp [g, k])
        clear hs
        have t3 : decide (a < 0) = true := decide_eq_true g
        have t4 : decide (b < 0) = false := decide_eq_false g'
        go_enter Tryd.func16, Tryd.ntmps16
        go_wp2_with (go_at_call 28; refine (hasRoom_any _ _).mono ?_; rintro e w' ⟨rfl, rfl⟩)
        refine (SA.out _).mono ?_
        rintro e w' ⟨rfl, rfl⟩
        go_wp2_with fail
        refine (SB.out _).mono ?_
        rintro e w' ⟨rfl, rfl⟩
        go_wp2_with fail
        refine (P.out _).mono ?_
        rintro e w1 ⟨rfl, hk⟩
        go_wp2_with (go_at_call 28; refine (hasRoom_any _ _).mono ?_; rintro e w' ⟨rfl, rfl⟩)
        go_ret2
        exact ⟨rfl, hk⟩
      · have g' : b < 0 := by
          by_cases k : b < 0
          · exact k
          · exact absurd (by simp [g, k]) hs
        clear hs
        have t3 : decide (a < 0) = false := decide_eq_false g
        have t4 : decide (b < 0) = true := decide_eq_true g'
        go_enter Tryd.func16, Tryd.ntmps16
        go_wp2_with (go_at_call 28; refine (hasRoom_any _ _).mono ?_; rintro e w' ⟨rfl, rfl⟩)
        refine (SA.out _).mono ?_
        rintro e w' ⟨rfl, rfl⟩
        go_wp2_with fail
        refine (SB.out _).mono ?_
        rintro e w' ⟨rfl, rfl⟩
        go_wp2_with fail
        refine (P.out _).mono ?_
        rintro e w1 ⟨rfl, hk⟩
        go_wp2_with (go_at_call 28; refine (hasRoom_any _ _).mono ?_; rintro e w' ⟨rfl, rfl⟩)
        go_ret2
        exact ⟨rfl, hk⟩

set_option maxHeartbeats 400000 in
theorem scale_any (a b c : Int) (w : World) :
    Calls Tryd.prog 16 #[.int .i64 a, .int .i64 b, .int .i64 c] w fun e w' => e = .returned (.tuple #[.int .i64 (scl a b c), .int .i64 (sclE a b c)]) ∧ Keeps w w' := by
  cases h1 : room a with
  | false =>
    have E := Lib.hid (scale_err (scl_a (b := b) (c := c) h1))
    go_enter Tryd.func16, Tryd.ntmps16
    go_wp2_with (go_at_call 28; refine (hasRoom_any _ _).mono ?_; rintro e w' ⟨rfl, rfl⟩)
    go_ret2
    exact ⟨E.out, Keeps.refl _⟩
  | true =>
    cases h2 : room b with
    | false =>
      have E := Lib.hid (scale_err (scl_b (a := a) (c := c) h2))
      go_enter Tryd.func16, Tryd.ntmps16
      go_wp2_with (go_at_call 28; refine (hasRoom_any _ _).mono ?_; rintro e w' ⟨rfl, rfl⟩)
      go_ret2
      exact ⟨E.out, Keeps.refl _⟩
    | true =>
      cases h3 : room c with
      | false =>
        have E := Lib.hid (scale_err (scl_c (a := a) (b := b) h3))
        go_enter Tryd.func16, Tryd.ntmps16
        go_wp2_with (go_at_call 28; refine (hasRoom_any _ _).mono ?_; rintro e w' ⟨rfl, rfl⟩)
        go_ret2
        exact ⟨E.out, Keeps.refl _⟩
      | true =>
        by_cases h4 : 0 < c
        · have far := quo_far a b c h4
          by_cases hp : c.natAbs ≤ a.natAbs * b.natAbs / 18446744073709551616
          · refine (scale_past a b c w h1 h2 h3 h4 hp).mono fun e w' ⟨he, hk⟩ => ⟨he.trans (scale_err (scl_q (room_mk_no ?_))), hk⟩
            have hq : 18446744073709551616 ≤ a.natAbs * b.natAbs / c.natAbs := by
              rw [Nat.le_div_iff_mul_le (by omega), Nat.mul_comm]
              exact (Nat.le_div_iff_mul_le (by omega)).1 hp
            generalize a.natAbs * b.natAbs / c.natAbs = q at *
            generalize a * b / c = n at *
            omega
          · by_cases hq : 4611686018427387904 < a.natAbs * b.natAbs / c.natAbs
            · refine (scale_big a b c w h1 h2 h3 h4 (by omega) hq).mono fun e w' ⟨he, hk⟩ => ⟨he.trans (scale_err (scl_q (room_mk_no ?_))), hk⟩
              generalize a.natAbs * b.natAbs / c.natAbs = q at *
              generalize a * b / c = n at *
              omega
            · refine (scale_near a b c (a * b / c) w h1 h2 h3 h4 (by omega) (by omega) far).mono fun e w' ⟨he, hk⟩ => ⟨he.trans ?_, hk⟩
              cases h5 : room (a * b / c) with
              | true => exact scale_ok (scl_in h1 h2 h3 h4 h5) rfl
              | false => exact scale_err (scl_q h5)
        · have E := Lib.hid (scale_err (scl_0 (a := a) (b := b) h4))
          have d1 : decide (c ≤ 0) = true := decide_eq_true (by omega)
          go_enter Tryd.func16, Tryd.ntmps16
          go_wp2_with (go_at_call 28; refine (hasRoom_any _ _).mono ?_; rintro e w' ⟨rfl, rfl⟩)
          go_ret2
          exact ⟨E.out, Keeps.refl _⟩
end Go.Proofs.YtfpfjaedoafnpaaDoor
