/-
  Contracts of package fix's Badness and Demerits, for every argument.
-/
import Derived.Test.YtjkkinccehfmoaaFxp
namespace Go.Proofs.Ytjkkinccehfmoaa
open Go.RowKit Go.Shelf Go.Lib

set_option maxHeartbeats 400000 in
theorem badness_any (t s : Int) (w : World) (ht : -9223372036854775808 ≤ t) (ht' : t ≤ 9223372036854775807) (hs' : s ≤ 9223372036854775807) :
    Calls Try.prog 30 #[.int .i64 t, .int .i64 s] w fun e w' => e = .returned (.int .i64 (bad t s)) ∧ Keeps w w' := by
  by_cases h0 : t = 0
  · subst h0
    have E := Lib.hid (bad_0 s)
    go_enter Try.func30, Try.ntmps30
    go_wp2
    go_ret
    exact ⟨ret_int E.out.symm, Keeps.refl _⟩
  · have e0 : (t == 0) = false := beq_eq_false_iff_ne.2 h0
    by_cases hs : s ≤ 0
    · have E := Lib.hid (bad_s h0 hs)
      go_enter Try.func30, Try.ntmps30
      go_wp2
      go_ret
      exact ⟨ret_int E.out.symm, Keeps.refl _⟩
    · have d1 : decide (s ≤ 0) = false := decide_eq_false hs
      by_cases hm : t = -9223372036854775808
      · have E := Lib.hid (bad_m (s := s) hm)
        have e1 : (t == -9223372036854775808) = true := beq_iff_eq.2 hm
        have HM := Lib.hid hm
        clear hm
        go_enter Try.func30, Try.ntmps30
        go_wp2
        go_ret
        exact ⟨ret_int E.out.symm, Keeps.refl _⟩
      · have e1 : (t == -9223372036854775808) = false := beq_eq_false_iff_ne.2 hm
        have SA := Lib.hid (fun W => size_any t W ht ht')
        have es : (s.natAbs : Int) = s := Int.natAbs_of_nonneg (by omega)
        by_cases hp : s.natAbs ≤ 297 * t.natAbs / 18446744073709551616
        · have P := Lib.hid (fun W => portion_no 297 t.natAbs s.natAbs W (by omega) (by omega) hp)
          have hr : 1290 < badR t s := by
            unfold badR
            have hq : 18446744073709551616 ≤ 297 * t.natAbs / s.natAbs := by
              rw [Nat.le_div_iff_mul_le (by omega), Nat.mul_comm]
              exact (Nat.le_div_iff_mul_le (by omega)).1 hp
            omega
          have E := Lib.hid (bad_far h0 hr)
          rw [es] at P
          clear hp hr es hm h0
          generalize t.natAbs = x at *
          go_enter Try.func30, Try.ntmps30
          go_wp2_with fail
          refine (SA.out _).mono ?_
          rintro e w' ⟨rfl, rfl⟩
          go_wp2_with fail
          refine (P.out _).mono ?_
          rintro e w1 ⟨rfl, hk⟩
          go_wp2_with fail
          go_ret
          exact ⟨ret_int E.out.symm, hk⟩
        · have P := Lib.hid (fun W => portion_yes 297 t.natAbs s.natAbs W (by omega) (by omega) (by omega) (by omega))
          have eR : 297 * t.natAbs / s.natAbs = badR t s := rfl
          rw [es, eR] at P
          by_cases hr : 1290 < badR t s
          · have E := Lib.hid (bad_far h0 hr)
            clear es eR hp hm h0
            generalize 297 * t.natAbs % s.natAbs = z at *
            generalize t.natAbs = x at *
            generalize badR t s = r at *
            have t2 : decide (1290 < (r : Int)) = true := decide_eq_true (by omega)
            go_enter Try.func30, Try.ntmps30
            go_wp2_with fail
            refine (SA.out _).mono ?_
            rintro e w' ⟨rfl, rfl⟩
            go_wp2_with fail
            refine (P.out _).mono ?_
            rintro e w1 ⟨rfl, hk⟩
            go_wp2_with fail
            go_ret
            exact ⟨ret_int E.out.symm, hk⟩
          · have E := Lib.hid (bad_near h0 hs hm hr)
            clear es eR hp hm h0
            generalize 297 * t.natAbs % s.natAbs = z at *
            generalize t.natAbs = x at *
            generalize badR t s = r at *
            obtain ⟨c1, c2, c3, c4⟩ := cube_in r (by omega) (by omega)
            have t2 : decide (1290 < r) = false := decide_eq_false (by omega)
            go_enter Try.func30, Try.ntmps30
            go_wp2_with fail
            refine (SA.out _).mono ?_
            rintro e w' ⟨rfl, rfl⟩
            go_wp2_with fail
            refine (P.out _).mono ?_
            rintro e w1 ⟨rfl, hk⟩
            go_wp2_with fail
            go_ret
            exact ⟨ret_int E.out.symm, hk⟩

set_option maxHeartbeats 400000 in
theorem demerits_any (b c : Int) (w : World) : Calls Try.prog 28 #[.int .i64 b, .int .i64 c] w fun e w' => e = .returned (.int .i64 (dem b c)) ∧ w = w' := by
  have WB := Lib.hid (fun W => within_any b 0 10000 W)
  have WC := Lib.hid (fun W => within_any c (-10000) 10000 W)
  obtain ⟨b0, b1⟩ := clamp_bd b 0 10000 (by omega)
  obtain ⟨c0, c1⟩ := clamp_bd c (-10000) 10000 (by omega)
  obtain ⟨s0, s1⟩ := sq_bd (10 + clamp b 0 10000) 10010 (by omega) (by omega)
  obtain ⟨s2, s3⟩ := sq_bd (clamp c (-10000) 10000) 10000 (by omega) (by omega)
  have e : dem b c = if clamp c (-10000) 10000 = -10000 then (10 + clamp b 0 10000) * (10 + clamp b 0 10000) else if clamp c (-10000) 10000 < 0 then (10 + clamp b 0 10000) * (10 + clamp b 0 10000) - clamp c (-10000) 10000 * clamp c (-10000) 10000 else (10 + clamp b 0 10000) * (10 + clamp b 0 10000) + clamp c (-10000) 10000 * clamp c (-10000) 10000 := rfl
  generalize clamp c (-10000) 10000 = C at *
  generalize clamp b 0 10000 = B at *
  by_cases h : C = -10000
  · have t1 : (C == -10000) = true := beq_iff_eq.2 h
    rw [if_pos h] at e
    have E := Lib.hid e
    have HH := Lib.hid h
    clear e h
    go_enter Try.func28, Try.ntmps28
    go_wp2_with fail
    refine (WB.out _).mono ?_
    rintro e w' ⟨rfl, rfl⟩
    go_wp2_with fail
    refine (WC.out _).mono ?_
    rintro e w' ⟨rfl, rfl⟩
    go_wp2_with fail
    go_ret
    exact ⟨ret_int E.out.symm, rfl⟩
  · have t1 : (C == -10000) = false := beq_eq_false_iff_ne.2 h
    rw [if_neg h] at e
    by_cases k : C < 0
    · rw [if_pos k] at e
      have E := Lib.hid e
      clear e h
      go_enter Try.func28, Try.ntmps28
      go_wp2_with fail
      refine (WB.out _).mono ?_
      rintro e w' ⟨rfl, rfl⟩
      go_wp2_with fail
      refine (WC.out _).mono ?_
      rintro e w' ⟨rfl, rfl⟩
      go_wp2_with fail
      go_ret
      exact ⟨ret_int E.out.symm, rfl⟩
    · rw [if_neg k] at e
      have E := Lib.hid e
      clear e h
      go_enter Try.func28, Try.ntmps28
      go_wp2_with fail
      refine (WB.out _).mono ?_
      rintro e w' ⟨rfl, rfl⟩
      go_wp2_with fail
      refine (WC.out _).mono ?_
      rintro e w' ⟨rfl, rfl⟩
      go_wp2_with fail
      go_ret
      exact ⟨ret_int E.out.symm, rfl⟩
end Go.Proofs.Ytjkkinccehfmoaa
