/-
  FixGrades returns true for any three numbers, in every world that holds strconv's table.
-/
import Derived.Test.YtfpfjaedoafnpaaDoorAwake1
namespace Go.Proofs.YtfpfjaedoafnpaaDoor
open Go.RowKit Go.Shelf Go.Lib

theorem badV_mono (r q : Nat) (h : r ≤ q) : badV r ≤ badV q := by
  unfold badV
  have a := Nat.mul_le_mul (Nat.mul_le_mul h h) h
  have e1 : ((r * r * r : Nat) : Int) = (r : Int) * r * r := rfl
  have e2 : ((q * q * q : Nat) : Int) = (q : Int) * q * q := rfl
  rw [← e1, ← e2]
  generalize r * r * r = x at *
  generalize q * q * q = y at *
  omega
theorem badV_top (r : Nat) (h : r ≤ 1290) : 0 ≤ badV r ∧ badV r ≤ 10000 := by
  unfold badV
  obtain ⟨_, _, c3, c4⟩ := cube_in r (by omega) (by omega)
  generalize (r : Int) * r * r = x at *
  omega

theorem bad_range (t s : Int) : 0 ≤ bad t s ∧ bad t s ≤ 10000 := by
  unfold bad
  split
  · omega
  · split
    · omega
    · split
      · omega
      · split
        · omega
        · exact badV_top _ (by omega)
theorem badR_t (t s m : Int) (h : 0 ≤ t) (hm : 0 ≤ m) : badR t s ≤ badR (t + m) s := by
  unfold badR
  exact Nat.div_le_div_right (by omega)
theorem badR_s (t s m : Int) (h : 0 < s) (hm : 0 ≤ m) : badR t (s + m) ≤ badR t s := by
  unfold badR
  exact Nat.div_le_div_left (by omega) (by omega)
theorem bad_more (t s m : Int) (ht : 0 ≤ t) (hm : 0 ≤ m) (hb : t + m ≤ 9223372036854775807) : bad t s ≤ bad (t + m) s := by
  obtain ⟨a1, a2⟩ := bad_range (t + m) s
  by_cases h0 : t = 0
  · subst h0; rw [bad_0]; exact a1
  · by_cases hs : s ≤ 0
    · rw [bad_s h0 hs, bad_s (by omega) hs]; exact Int.le_refl _
    · have hr := badR_t t s m ht hm
      by_cases k : 1290 < badR (t + m) s
      · rw [bad_far (by omega) k]; exact (bad_range t s).2
      · rw [bad_near h0 hs (by omega) (by omega), bad_near (by omega) hs (by omega) k]
        exact badV_mono _ _ hr
theorem bad_room (t s m : Int) (ht : 0 ≤ t) (hm : 0 ≤ m) : bad t (s + m) ≤ bad t s := by
  obtain ⟨a1, a2⟩ := bad_range t (s + m)
  by_cases h0 : t = 0
  · subst h0; rw [bad_0, bad_0]; exact Int.le_refl _
  · by_cases hs : s ≤ 0
    · rw [bad_s h0 hs]; exact a2
    · have hr := badR_s t s m (by omega) hm
      by_cases k : 1290 < badR t s
      · rw [bad_far h0 k]; exact a2
      · rw [bad_near h0 (by omega) (by omega) (by omega), bad_near h0 hs (by omega) k]
        exact badV_mono _ _ hr
theorem bad_sign (t s : Int) (h : t ≤ 9223372036854775807) (h0 : 0 ≤ t) : bad (-t) s = bad t s := by
  have e : badR (-t) s = badR t s := by unfold badR; rw [Int.natAbs_neg]
  by_cases k : t = 0
  · subst k; rfl
  · unfold bad
    rw [e, if_neg (show ¬ -t = 0 by omega), if_neg k, if_neg (show ¬ -t = -9223372036854775808 by omega), if_neg (show ¬ t = -9223372036854775808 by omega)]

set_option maxHeartbeats 1000000 in
theorem grades_any (x y z : Int) (w : World) (hx : 0 ≤ x ∧ x ≤ 4294967295) (hy : 0 ≤ y ∧ y ≤ 4294967295) (hz : 0 ≤ z ∧ z ≤ 4294967295) (ht : Tab w) :
    Calls Tryd.prog 5 #[.agg #[.int .u32 x, .int .u32 y, .int .u32 z]] w fun e w' => e = .returned (.bool true) ∧ Keeps w w' := by
  obtain ⟨x0, x1⟩ := hx
  obtain ⟨y0, y1⟩ := hy
  obtain ⟨z0, z1⟩ := hz
  have m0 : 0 ≤ z % 100000 := by omega
  have m1 : z % 100000 ≤ 99999 := by omega
  have AW := Lib.hid (fun W t => awake_any W t)
  have B1 := Lib.hid (fun W => badness_any x y W (by omega) (by omega) (by omega))
  have B2 := Lib.hid (fun W => badness_any 0 y W (by omega) (by omega) (by omega))
  rw [bad_0] at B2
  have B3 := Lib.hid (fun W => badness_any (x + z % 100000) y W (by omega) (by omega) (by omega))
  have B4 := Lib.hid (fun W => badness_any x (y + z % 100000) W (by omega) (by omega) (by omega))
  have B5 := Lib.hid (fun W => badness_any (-x) y W (by omega) (by omega) (by omega))
  rw [bad_sign x y (by omega) x0] at B5
  have c3 := bad_more x y (z % 100000) x0 m0 (by omega)
  have c4 := bad_room x y (z % 100000) x0 m0
  obtain ⟨c1, c2⟩ := bad_range x y
  generalize bad (x + z % 100000) y = b3 at *
  generalize bad x (y + z % 100000) = b4 at *
  generalize bad x y = b at *
  by_cases hx : x = 0
  · have tx : (x == 0) = true := beq_iff_eq.2 hx
    have HX := Lib.hid hx
    clear hx
    go_enter Tryd.func5, Tryd.ntmps5
    go_wp2_with fail
    go_quiet (fail)
    have k0 := (Keeps.alloc (Keeps.refl w) (.cells #[.int .u32 x, .int .u32 y, .int .u32 z] 29)).drewN nq
    have t0 := ht.keep k0
    go_wp2_with fail
    refine (B1.out _).mono ?_
    rintro e w1 ⟨rfl, k1⟩
    have t1 := t0.keep k1
    go_wp2_with fail
    refine (AW.out _ t1).mono ?_
    rintro e w2 ⟨rfl, k2⟩
    go_wp2_with fail
    refine (B2.out _).mono ?_
    rintro e w3 ⟨rfl, k3⟩
    go_wp2_with fail
    refine (B3.out _).mono ?_
    rintro e w4 ⟨rfl, k4⟩
    go_wp2_with fail
    refine (B4.out _).mono ?_
    rintro e w5 ⟨rfl, k5⟩
    go_wp2_with fail
    refine (B5.out _).mono ?_
    rintro e w6 ⟨rfl, k6⟩
    go_wp2_with fail
    go_ret
    exact ⟨rfl, (((((k0.trans k1).trans k2).trans k3).trans k4).trans k5).trans k6⟩
  · have tx : (x == 0) = false := beq_eq_false_iff_ne.2 hx
    have B6 := Lib.hid (fun W => badness_any x 0 W (by omega) (by omega) (by omega))
    rw [bad_s hx (Int.le_refl 0)] at B6
    clear hx
    go_enter Tryd.func5, Tryd.ntmps5
    go_wp2_with fail
    go_quiet (fail)
    have k0 := (Keeps.alloc (Keeps.refl w) (.cells #[.int .u32 x, .int .u32 y, .int .u32 z] 29)).drewN nq
    have t0 := ht.keep k0
    go_wp2_with fail
    refine (B1.out _).mono ?_
    rintro e w1 ⟨rfl, k1⟩
    have t1 := t0.keep k1
    go_wp2_with fail
    refine (AW.out _ t1).mono ?_
    rintro e w2 ⟨rfl, k2⟩
    go_wp2_with fail
    refine (B2.out _).mono ?_
    rintro e w3 ⟨rfl, k3⟩
    go_wp2_with fail
    refine (B3.out _).mono ?_
    rintro e w4 ⟨rfl, k4⟩
    go_wp2_with fail
    refine (B4.out _).mono ?_
    rintro e w5 ⟨rfl, k5⟩
    go_wp2_with fail
    refine (B5.out _).mono ?_
    rintro e w6 ⟨rfl, k6⟩
    go_wp2_with fail
    refine (B6.out _).mono ?_
    rintro e w7 ⟨rfl, k7⟩
    go_wp2_with fail
    go_ret
    exact ⟨rfl, ((((((k0.trans k1).trans k2).trans k3).trans k4).trans k5).trans k6).trans k7⟩
end Go.Proofs.YtfpfjaedoafnpaaDoor
