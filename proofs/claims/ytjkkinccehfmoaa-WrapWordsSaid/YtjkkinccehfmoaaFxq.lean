/-
  Badness and Demerits, as plain numbers. No program in sight.
-/
import Derived.KernelRfl
namespace Go.Proofs.Ytjkkinccehfmoaa
open Go

def clamp (n a b : Int) : Int := if n < a then a else if b < n then b else n
/-- The r of Badness's promise. -/
def badR (t s : Int) : Nat := 297 * t.natAbs / s.natAbs
def badV (r : Int) : Int := (r * r * r + 131072) / 262144
def bad (t s : Int) : Int := if t = 0 then 0 else if s ≤ 0 then 10000 else if t = -9223372036854775808 then 10000 else if 1290 < badR t s then 10000 else badV (badR t s)
theorem bad_0 (s : Int) : bad 0 s = 0 := by unfold bad; rw [if_pos rfl]
theorem bad_s {t s : Int} (h : ¬ t = 0) (hs : s ≤ 0) : bad t s = 10000 := by unfold bad; rw [if_neg h, if_pos hs]
theorem bad_m {t s : Int} (h : t = -9223372036854775808) : bad t s = 10000 := by
  unfold bad; rw [if_neg (by omega)]
  by_cases hs : s ≤ 0
  · rw [if_pos hs]
  · rw [if_neg hs, if_pos h]
theorem bad_far {t s : Int} (h : ¬ t = 0) (hr : 1290 < badR t s) : bad t s = 10000 := by
  unfold bad; rw [if_neg h]
  by_cases hs : s ≤ 0
  · rw [if_pos hs]
  · rw [if_neg hs]
    by_cases hm : t = -9223372036854775808
    · rw [if_pos hm]
    · rw [if_neg hm, if_pos hr]
theorem bad_near {t s : Int} (h : ¬ t = 0) (hs : ¬ s ≤ 0) (hm : ¬ t = -9223372036854775808) (hr : ¬ 1290 < badR t s) : bad t s = badV (badR t s) := by
  unfold bad; rw [if_neg h, if_neg hs, if_neg hm, if_neg hr]
theorem cube_in (r : Int) (h0 : 0 ≤ r) (h1 : r ≤ 1290) : 0 ≤ r * r ∧ r * r ≤ 1664100 ∧ 0 ≤ r * r * r ∧ r * r * r ≤ 2146689000 := by
  have a := Int.mul_le_mul h1 h1 h0 (by omega)
  have b := Int.mul_nonneg h0 h0
  have c := Int.mul_le_mul a h1 h0 (by omega)
  exact ⟨b, by omega, Int.mul_nonneg b h0, by omega⟩

def demB (b : Int) : Int := 10 + clamp b 0 10000
def dem (b c : Int) : Int := if clamp c (-10000) 10000 = -10000 then demB b * demB b else if clamp c (-10000) 10000 < 0 then demB b * demB b - clamp c (-10000) 10000 * clamp c (-10000) 10000 else demB b * demB b + clamp c (-10000) 10000 * clamp c (-10000) 10000
theorem clamp_bd (n a b : Int) (h : a ≤ b) : a ≤ clamp n a b ∧ clamp n a b ≤ b := by unfold clamp; split <;> (try split) <;> omega
theorem sq_bd (x m : Int) (h0 : -m ≤ x) (h1 : x ≤ m) : 0 ≤ x * x ∧ x * x ≤ m * m := by
  refine ⟨by rcases Int.le_total 0 x with h | h; exact Int.mul_nonneg h h; exact Int.mul_nonneg_of_nonpos_of_nonpos h h, ?_⟩
  rcases Int.le_total 0 x with h | h
  · exact Int.mul_le_mul h1 h1 h (by omega)
  · have := Int.mul_le_mul (show -x ≤ m by omega) (show -x ≤ m by omega) (by omega) (by omega)
    rwa [Int.neg_mul_neg] at this
end Go.Proofs.Ytjkkinccehfmoaa
