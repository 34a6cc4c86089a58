/-
  Contracts of package fix's Badness and Demerits, for every argument.
-/
import Derived.Test.YtfpfjaedoafnpaaDoorFixc
namespace Go.Proofs.YtfpfjaedoafnpaaDoor
open Go.RowKit Go.Shelf Go.Lib

/-- The r of Badness's promise. -/
def badR (t s : Int) : Nat := 297 * t.natAbs / s.natAbs
def badV (r : Int) : Int := (r * r * r + 131072) / 262144
def bad (t s : Int) : Int := if t = 0 then 0 else if s ≤ 0 then 10000 else if t = -9223372036854775808 then 10000 else if 1290 < badR t s then 10000 else badV (badR t s)
theorem bad_0 (s : Int) : bad 0 s = 0 := by unfold bad; rw [if_pos rfl]
theorem bad_s {t s : Int} (h : ¬ t = 0) (hs : s ≤ 0) : bad t s = 10000 := by unfold bad; rw [if_neg h, if_pos hs]
theorem bad_m {t s : Int} (h : t = -9223372036854775808) : bad t s = 10000 := by
  unfold bad; rw [if_neg (by omega)]
  by_cases hs : s ≤ 0
  · rw [if_pos hs]
  · rw [if_neg hs, if_pos h]
theorem bad_far {t s : Int} (h : ¬ t = 0) (hr : 1290 < badR t s) : bad t s = 10000 := by
  unfold bad; rw [if_neg h]
  by_cases hs : s ≤ 0
  · rw [if_pos hs]
  · rw [if_neg hs]
    by_cases hm : t = -9223372036854775808
    · rw [if_pos hm]
    · rw [if_neg hm, if_pos hr]
theorem bad_near {t s : Int} (h : ¬ t = 0) (hs : ¬ s ≤ 0) (hm : ¬ t = -9223372036854775808) (hr : ¬ 1290 < badR t s) : bad t s = badV (badR t s) := by
  unfold bad; rw [if_neg h, if_neg hs, if_neg hm, if_neg hr]
theorem cube_in (r : Int) (h0 : 0 ≤ r) (h1 : r ≤ 1290) : 0 ≤ r * r ∧ r * r ≤ 1664100 ∧ 0 ≤ r * r * r ∧ r * r * r ≤ 2146689000 := by
  have a := Int.mul_le_mul h1 h1 h0 (by omega)
  have b := Int.mul_nonneg h0 h0
  have c := Int.mul_le_mul a h1 h0 (by omega)
  exact ⟨b, by omega, Int.mul_nonneg b h0, by omega⟩

set_option maxHeartbeats 400000 in
theorem badness_any (t s : Int) (w : World) (ht : -9223372036854775808 ≤ t) (ht' : t ≤ 9223372036854775807) (hs' : s ≤ 9223372036854775807) :
    Calls Tryd.prog 14 #[.int .i64 t, .int .i64 s] w fun e w' => e = .returned (.int .i64 (bad t s)) ∧ Keeps w w' := by
  by_cases h0 : t = 0
  · subst h0
    have E := Lib.hid (bad_0 s)
    go_enter Tryd.func14, Tryd.ntmps14
    go_wp2
    go_ret
    exact ⟨ret_int E.out.symm, Keeps.refl _⟩
  · have e0 : (t == 0) = false := beq_eq_false_iff_ne.2 h0
    by_cases hs : s ≤ 0
    · have E := Lib.hid (bad_s h0 hs)
      go_enter Tryd.func14, Tryd.ntmps14
      go_wp2
      go_ret
      exact ⟨ret_int E.out.symm, Keeps.refl _⟩
    · have d1 : decide (s ≤ 0) = false := decide_eq_false hs
      by_cases hm : t = -9223372036854775808
      · have E := Lib.hid (bad_m (s := s) hm)
        have e1 : (t == -9223372036854775808) = true := beq_iff_eq.2 hm
        have HM := Lib.hid hm
        clear hm
        go_enter Tryd.func14, Tryd.ntmps14
        go_wp2
        go_ret
        exact ⟨ret_int E.out.symm, Keeps.refl _⟩
      · have e1 : (t == -9223372036854775808) = false := beq_eq_false_iff_ne.2 hm
        have SA := Lib.hid (fun W => size_any t W ht ht')
        have es : (s.natAbs : Int) = s := Int.natAbs_of_nonneg (by omega)
        by_cases hp : s.natAbs ≤ 297 * t.natAbs / 18446744073709551616
        · have P := Lib.hid (fun W => portion_no 297 t.natAbs s.natAbs W (by omega) (by omega) hp)
          have hr : 1290 < badR t s := by
            unfold badR
            have hq : 18446744073709551616 ≤ 297 * t.natAbs / s.natAbs := by
              rw [Nat.le_div_iff_mul_le (by omega), Nat.mul_comm]
              exact (Nat.le_div_iff_mul_le (by omega)).1 hp
            omega
          have E := Lib.hid (bad_far h0 hr)
          rw [es] at P
          clear hp hr es hm h0
          generalize t.natAbs = x at *
          go_enter Tryd.func14, Tryd.ntmps14
          go_wp2_with fail
          refine (SA.out _).mono ?_
          rintro e w' ⟨rfl, rfl⟩
          go_wp2_with fail
          refine (P.out _).mono ?_
          rintro e w1 ⟨rfl, hk⟩
          go_wp2_with fail
          go_ret
          exact ⟨ret_int E.out.symm, hk⟩
        · have P := Lib.hid (fun W => portion_yes 297 t.natAbs s.natAbs W (by omega) (by omega) (by omega) (by omega))
          have eR : 297 * t.natAbs / s.natAbs = badR t s := rfl
          rw [es, eR] at P
          by_cases hr : 1290 < badR t s
          · have E := Lib.hid (bad_far h0 hr)
            clear es eR hp hm h0
            generalize 297 * t.natAbs % s.natAbs = z at *
            generalize t.natAbs = x at *
            generalize badR t s = r at *
            have t2 : decide (1290 < (r : Int)) = true := decide_eq_true (by omega)
            go_enter Tryd.func14, Tryd.ntmps14
            go_wp2_with fail
            refine (SA.out _).mono ?_
            rintro e w' ⟨rfl, rfl⟩
            go_wp2_with fail
            refine (P.out _).mono ?_
            rintro e w1 ⟨rfl, hk⟩
            go_wp2_with fail
            go_ret
            exact ⟨ret_int E.out.symm, hk⟩
          · have E := Lib.hid (bad_near h0 hs hm hr)
            clear es eR hp hm h0
            generalize 297 * t.natAbs % s.natAbs = z at *
            generalize t.natAbs = x at *
            generalize badR t s = r at *
            obtain ⟨c1, c2, c3, c4⟩ := cube_in r (by omega) (by omega)
            have t2 : decide (1290 < r) = false := decide_eq_false (by omega)
            go_enter Tryd.func14, Tryd.ntmps14
            go_wp2_with fail
            refine (SA.out _).mono ?_
            rintro e w' ⟨rfl, rfl⟩
            go_wp2_with fail
            refine (P.out _).mono ?_
            rintro e w1 ⟨rfl, hk⟩
            go_wp2_with fail
            go_ret
            exact ⟨ret_int E.out.symm, hk⟩

def demB (b : Int) : Int := 10 + clamp b 0 10000
def dem (b c : Int) : Int := if clamp c (-10000) 10000 = -10000 then demB b * demB b else if clamp c (-10000) 10000 < 0 then demB b * demB b - clamp c (-10000) 10000 * clamp c (-10000) 10000 else demB b * demB b + clamp c (-10000) 10000 * clamp c (-10000) 10000
theorem clamp_bd (n a b : Int) (h : a ≤ b) : a ≤ clamp n a b ∧ clamp n a b ≤ b := by unfold clamp; split <;> (try split) <;> omega
theorem sq_bd (x m : Int) (h0 : -m ≤ x) (h1 : x ≤ m) : 0 ≤ x * x ∧ x * x ≤ m * m := by
  refine ⟨by rcases Int.le_total 0 x with h | h; exact Int.mul_nonneg h h; exact Int.mul_nonneg_of_nonpos_of_nonpos h h, ?_⟩
  rcases Int.le_total 0 x with h | h
  · exact Int.mul_le_mul h1 h1 h (by omega)
  · have := Int.mul_le_mul (show -x ≤ m by omega) (show -x ≤ m by omega) (by omega) (by omega)
    rwa [Int.neg_mul_neg] at this

set_option maxHeartbeats 400000 in
theorem demerits_any (b c : Int) (w : World) : Calls Tryd.prog 17 #[.int .i64 b, .int .i64 c] w fun e w' => e = .returned (.int .i64 (dem b c)) ∧ w = w' := by
  have WB := Lib.hid (fun W => within_any b 0 10000 W)
  have WC := Lib.hid (fun W => within_any c (-10000) 10000 W)
  obtain ⟨b0, b1⟩ := clamp_bd b 0 10000 (by omega)
  obtain ⟨c0, c1⟩ := clamp_bd c (-10000) 10000 (by omega)
  obtain ⟨s0, s1⟩ := sq_bd (10 + clamp b 0 10000) 10010 (by omega) (by omega)
  obtain ⟨s2, s3⟩ := sq_bd (clamp c (-10000) 10000) 10000 (by omega) (by omega)
  have e : dem b c = if clamp c (-10000) 10000 = -10000 then (10 + clamp b 0 10000) * (10 + clamp b 0 10000) else if clamp c (-10000) 10000 < 0 then (10 + clamp b 0 10000) * (10 + clamp b 0 10000) - clamp c (-10000) 10000 * clamp c (-10000) 10000 else (10 + clamp b 0 10000) * (10 + clamp b 0 10000) + clamp c (-10000) 10000 * clamp c (-10000) 10000 := rfl
  generalize clamp c (-10000) 10000 = C at *
  generalize clamp b 0 10000 = B at *
  by_cases h : C = -10000
  · have t1 : (C == -10000) = true := beq_iff_eq.2 h
    rw [if_pos h] at e
    have E := Lib.hid e
    have HH := Lib.hid h
    clear e h
    go_enter Tryd.func17, Tryd.ntmps17
    go_wp2_with fail
    refine (WB.out _).mono ?_
    rintro e w' ⟨rfl, rfl⟩
    go_wp2_with fail
    refine (WC.out _).mono ?_
    rintro e w' ⟨rfl, rfl⟩
    go_wp2_with fail
    go_ret
    exact ⟨ret_int E.out.symm, rfl⟩
  · have t1 : (C == -10000) = false := beq_eq_false_iff_ne.2 h
    rw [if_neg h] at e
    by_cases k : C < 0
    · rw [if_pos k] at e
      have E := Lib.hid e
      clear e h
      go_enter Tryd.func17, Tryd.ntmps17
      go_wp2_with fail
      refine (WB.out _).mono ?_
      rintro e w' ⟨rfl, rfl⟩
      go_wp2_with fail
      refine (WC.out _).mono ?_
      rintro e w' ⟨rfl, rfl⟩
      go_wp2_with fail
      go_ret
      exact ⟨ret_int E.out.symm, rfl⟩
    · rw [if_neg k] at e
      have E := Lib.hid e
      clear e h
      go_enter Tryd.func17, Tryd.ntmps17
      go_wp2_with fail
      refine (WB.out _).mono ?_
      rintro e w' ⟨rfl, rfl⟩
      go_wp2_with fail
      refine (WC.out _).mono ?_
      rintro e w' ⟨rfl, rfl⟩
      go_wp2_with fail
      go_ret
      exact ⟨ret_int E.out.symm, rfl⟩
end Go.Proofs.YtfpfjaedoafnpaaDoor
