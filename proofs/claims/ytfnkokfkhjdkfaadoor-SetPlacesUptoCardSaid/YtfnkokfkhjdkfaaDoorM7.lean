/-
  Texts of the proof, one behind the other: Divm.
-/
import Derived.PlainAid
import Derived.Laws.Bits64b
import Derived.Below
import Derived.RowKit
import Derived.IntWalk
import Derived.Lib.BitFns
import Derived.Lib.ItoaNum
/-
  Plain arithmetic of a division of two words by one, by halves of words: no program in sight.
-/
namespace Go.Proofs.YtfnkokfkhjdkfaaDoor
open Go

/-- One digit of the quotient: q is the right digit or above it, r is what is left over of u. -/
structure Dig (d1 d0 u v q r : Nat) : Prop where
  sum : q * d1 + r = u
  low : (u * 4294967296 + v) / (d1 * 4294967296 + d0) ≤ q

theorem dig_start (d1 d0 u v : Nat) (h1 : 0 < d1) (hv : v < 4294967296) : Dig d1 d0 u v (u / d1) (u - u / d1 * d1) := by
  have e : u / d1 * d1 ≤ u := Nat.div_mul_le_self u d1
  refine ⟨by omega, ?_⟩
  have hd : 0 < d1 * 4294967296 + d0 := by omega
  rw [Nat.div_le_iff_le_mul_add_pred hd]
  have h := Nat.div_add_mod u d1
  have hm := Nat.mod_lt u h1
  generalize u / d1 = q at *
  generalize u % d1 = r at *
  subst h
  have k : (d1 * 4294967296 + d0) * q = d1 * q * 4294967296 + d0 * q := by
    rw [Nat.add_mul, Nat.mul_right_comm]
  rw [k]
  have : (d1 * q + r) * 4294967296 = d1 * q * 4294967296 + r * 4294967296 := Nat.add_mul _ _ _
  rw [this]
  have : 0 ≤ d0 * q := Nat.zero_le _
  omega

/-- The test that says yes: the digit is above the right one. -/
theorem dig_high (d1 d0 u v q r : Nat) (h : Dig d1 d0 u v q r) (hu : u < d1 * 4294967296 + d0) (hv : v < 4294967296)
    (t : 4294967296 ≤ q ∨ 4294967296 * r + v < q * d0) : (u * 4294967296 + v) / (d1 * 4294967296 + d0) < q := by
  have hd : 0 < d1 * 4294967296 + d0 := Nat.lt_of_le_of_lt (Nat.zero_le _) hu
  rw [Nat.div_lt_iff_lt_mul hd]
  rcases t with t | t
  · have := Nat.mul_le_mul_right (d1 * 4294967296 + d0) t
    omega
  · have e := h.sum
    subst e
    rw [Nat.mul_add, Nat.add_mul, ← Nat.mul_assoc]
    generalize q * d1 = a at *
    generalize q * d0 = b at *
    omega

theorem dig_next (d1 d0 u v q r : Nat) (h : Dig d1 d0 u v q r) (hu : u < d1 * 4294967296 + d0) (hv : v < 4294967296)
    (t : 4294967296 ≤ q ∨ 4294967296 * r + v < q * d0) : 1 ≤ q ∧ Dig d1 d0 u v (q - 1) (r + d1) := by
  have hh := dig_high d1 d0 u v q r h hu hv t
  have e := h.sum
  generalize hD : (u * 4294967296 + v) / (d1 * 4294967296 + d0) = D at *
  have hk : 1 ≤ q := by clear e; omega
  refine ⟨hk, ?_, by rw [hD]; clear e; omega⟩
  clear hh hD t hu
  obtain ⟨k, rfl⟩ : ∃ k, q = k + 1 := ⟨q - 1, by omega⟩
  rw [Nat.add_sub_cancel]
  rw [Nat.add_mul] at e
  omega

/-- The test that says no: the digit is the right one. -/
theorem dig_stop (d1 d0 u v q r : Nat) (h1 : 0 < d1) (h : Dig d1 d0 u v q r)
    (t : ¬ 4294967296 * r + v < q * d0) : (u * 4294967296 + v) / (d1 * 4294967296 + d0) = q := by
  refine Nat.le_antisymm h.low ?_
  have hd : 0 < d1 * 4294967296 + d0 := by omega
  rw [Nat.le_div_iff_mul_le hd]
  have e := h.sum
  subst e
  rw [Nat.mul_add, Nat.add_mul, ← Nat.mul_assoc]
  generalize q * d1 = a at *
  generalize q * d0 = b at *
  omega

/-- What is left over has grown past half a word: the digit is the right one. -/
theorem dig_break (d1 d0 u v q r : Nat) (h1 : 0 < d1) (h : Dig d1 d0 u v q r) (hu : u < d1 * 4294967296 + d0) (h0 : d0 < 4294967296)
    (t : 4294967296 ≤ r) : q < 4294967296 ∧ (u * 4294967296 + v) / (d1 * 4294967296 + d0) = q := by
  have e := h.sum
  have hq : q < 4294967296 := by
    rcases Nat.lt_or_ge q 4294967296 with c | c
    · exact c
    · have := Nat.mul_le_mul_right d1 c
      omega
  refine ⟨hq, dig_stop d1 d0 u v q r h1 h ?_⟩
  have := Nat.mul_le_mul (Nat.le_of_lt_succ (show q < 4294967295 + 1 by omega)) (Nat.le_of_lt_succ (show d0 < 4294967295 + 1 by omega))
  omega

/-- The bounds that keep every word in its place. -/
theorem dig_small (d1 d0 u v q r : Nat) (h2 : 2147483648 ≤ d1) (h : Dig d1 d0 u v q r) (hu : u < d1 * 4294967296 + d0) (h0 : d0 < 4294967296) : q ≤ 4294967298 := by
  have e := h.sum
  rcases Nat.lt_or_ge q 4294967299 with c | c
  · omega
  · have := Nat.mul_le_mul_right d1 c
    omega

theorem two_aux (A u0 y B q r : Nat) (hy : 0 < y) (h : y * q + r = A) : q * B + (r * B + u0) / y = (A * B + u0) / y ∧ (r * B + u0) % y = (A * B + u0) % y := by
  have e : A * B + u0 = y * (q * B) + (r * B + u0) := by
    rw [← h, Nat.add_mul, Nat.mul_assoc, Nat.add_assoc]
  rw [e, Nat.mul_add_div hy, Nat.mul_add_mod]
  exact ⟨rfl, rfl⟩

/-- The two digits, put together. -/
theorem two_digits (a u1 u0 y : Nat) (hy : 0 < y) :
    (a * 4294967296 + u1) / y * 4294967296 + ((a * 4294967296 + u1) % y * 4294967296 + u0) / y = ((a * 4294967296 + u1) * 4294967296 + u0) / y ∧
    ((a * 4294967296 + u1) % y * 4294967296 + u0) % y = ((a * 4294967296 + u1) * 4294967296 + u0) % y :=
  two_aux _ u0 y 4294967296 _ _ hy (Nat.div_add_mod _ _)

/-- Both sides moved by the same power: the quotient stays, the rest moves. -/
theorem moved (n y p : Nat) (hp : 0 < p) : n * p / (y * p) = n / y ∧ n * p % (y * p) / p = n % y := by
  refine ⟨Nat.mul_div_mul_right _ _ hp, ?_⟩
  rw [Nat.mul_mod_mul_right, Nat.mul_div_cancel _ hp]

/-- What the words hold once both are moved by s. -/
theorem moved_words (hi lo y s : Nat) (hs : s < 64) (hhi : hi < y) (hlo : lo < 18446744073709551616) (hd : y * 2 ^ s < 18446744073709551616) :
    hi * 2 ^ s < 18446744073709551616 ∧ (hi * 2 ^ s) ||| (lo / 2 ^ (64 - s)) = hi * 2 ^ s + lo / 2 ^ (64 - s) ∧
    (hi * 18446744073709551616 + lo) * 2 ^ s = (hi * 2 ^ s + lo / 2 ^ (64 - s)) * 18446744073709551616 + lo * 2 ^ s % 18446744073709551616 ∧
    hi * 2 ^ s + lo / 2 ^ (64 - s) < y * 2 ^ s := by
  have hp : 0 < 2 ^ s := Nat.pow_pos (by omega)
  have e64 : 2 ^ (64 - s) * 2 ^ s = 18446744073709551616 := by
    rw [← Nat.pow_add, show 64 - s + s = 64 by omega]
  have hq : lo * 2 ^ s / 18446744073709551616 = lo / 2 ^ (64 - s) := by
    rw [← e64]; exact Nat.mul_div_mul_right _ _ hp
  have hlt : lo / 2 ^ (64 - s) < 2 ^ s := by
    rw [Nat.div_lt_iff_lt_mul (Nat.pow_pos (by omega)), Nat.mul_comm, e64]; exact hlo
  have h1 : hi * 2 ^ s + 2 ^ s ≤ y * 2 ^ s := by
    have := Nat.mul_le_mul_right (2 ^ s) hhi
    rw [Nat.succ_mul] at this
    exact this
  have hdm := Nat.div_add_mod (lo * 2 ^ s) 18446744073709551616
  rw [hq] at hdm
  refine ⟨by omega, ?_, ?_, by omega⟩
  · rw [Nat.mul_comm hi, Nat.two_pow_add_eq_or_of_lt hlt]
  · rw [Nat.add_mul, Nat.add_mul, Nat.mul_right_comm hi]
    clear hq h1 hlt hd
    generalize lo * 2 ^ s % 18446744073709551616 = c at *
    generalize hi * 2 ^ s = a
    generalize lo / 2 ^ (64 - s) = b at *
    generalize lo * 2 ^ s = d at *
    omega

/-- How far the divisor is moved: its highest bit comes to stand first. -/
theorem moved_first (y : Nat) (h0 : 0 < y) (hy : y < 18446744073709551616) : ∃ s : Nat, s < 64 ∧ 64 - (Lib.bitLen y : Int) = s ∧ 9223372036854775808 ≤ y * 2 ^ s ∧ y * 2 ^ s < 18446744073709551616 := by
  obtain ⟨a, b, c⟩ := Lib.bitLenAux_bounds 64 y (by omega) (by omega)
  have hl : Lib.bitLenAux 64 y ≤ 64 := by
    rcases Nat.lt_or_ge 64 (Lib.bitLenAux 64 y) with h | h
    · have h3 : 2 ^ 64 ≤ 2 ^ (Lib.bitLenAux 64 y - 1) := Nat.pow_le_pow_right (by omega) (by omega)
      omega
    · exact h
  have e : Lib.bitLen y = Lib.bitLenAux 64 y := rfl
  rw [e]
  generalize Lib.bitLenAux 64 y = l at *
  refine ⟨64 - l, by omega, by omega, ?_, ?_⟩
  · have := Nat.mul_le_mul_right (2 ^ (64 - l)) b
    rw [← Nat.pow_add, show l - 1 + (64 - l) = 63 by omega] at this
    omega
  · have := Nat.mul_lt_mul_of_pos_right c (Nat.pow_pos (show 0 < 2 by omega) : 0 < 2 ^ (64 - l))
    rw [← Nat.pow_add, show l + (64 - l) = 64 by omega] at this
    omega

/-- A digit over the integers, as a walk holds it. -/
def DigI (d1 d0 u v : Nat) (q r : Int) : Prop := ∃ qn rn : Nat, q = qn ∧ r = rn ∧ Dig d1 d0 u v qn rn ∧ rn < 4294967296
theorem digi_start (d1 d0 u v : Nat) (h1 : 0 < d1) (h2 : d1 < 4294967296) (hv : v < 4294967296) : DigI d1 d0 u v ((u : Int) / (d1 : Int)) ((u : Int) - (u : Int) / (d1 : Int) * (d1 : Int)) := by
  have i1 : u / d1 * d1 ≤ u := Nat.div_mul_le_self u d1
  refine ⟨u / d1, u - u / d1 * d1, rfl, by rw [Int.ofNat_sub i1]; rfl, dig_start d1 d0 u v h1 hv, ?_⟩
  have hm := Nat.mod_lt u h1
  have he := Nat.div_add_mod u d1
  rw [Nat.mul_comm] at he
  generalize u / d1 * d1 = x at *
  omega
theorem digi_bd {d1 d0 u v : Nat} {q r : Int} (h : DigI d1 d0 u v q r) (h2 : 2147483648 ≤ d1) (hu : u < d1 * 4294967296 + d0) (h0 : d0 < 4294967296) : 0 ≤ q ∧ q ≤ 4294967298 ∧ 0 ≤ r ∧ r ≤ 4294967295 := by
  obtain ⟨qn, rn, rfl, rfl, hd, hr⟩ := h
  have := dig_small d1 d0 u v qn rn h2 hd hu h0
  exact ⟨by omega, by omega, by omega, by omega⟩
theorem digi_next {d1 d0 u v : Nat} {q r : Int} (h : DigI d1 d0 u v q r) (hu : u < d1 * 4294967296 + d0) (hv : v < 4294967296)
    (t : 4294967296 ≤ q ∨ 4294967296 * r + v < q * d0) : 1 ≤ q ∧ (¬ 4294967296 ≤ r + d1 → DigI d1 d0 u v (q - 1) (r + d1)) ∧
    (0 < d1 → d0 < 4294967296 → 4294967296 ≤ r + d1 → q - 1 < 4294967296 ∧ q - 1 = (((u * 4294967296 + v) / (d1 * 4294967296 + d0) : Nat) : Int)) := by
  obtain ⟨qn, rn, rfl, rfl, hd, hr⟩ := h
  obtain ⟨a, b⟩ := dig_next d1 d0 u v qn rn hd hu hv (t.imp (fun h => by omega) (fun h => by
    have e : ((qn * d0 : Nat) : Int) = (qn : Int) * (d0 : Int) := rfl
    rw [← e] at h
    generalize qn * d0 = z at *
    omega))
  refine ⟨by omega, fun t => ⟨qn - 1, rn + d1, by omega, by omega, b, by omega⟩, fun h1 h0 t => ?_⟩
  obtain ⟨c, d⟩ := dig_break d1 d0 u v (qn - 1) (rn + d1) h1 b hu h0 (by omega)
  rw [d]
  exact ⟨by omega, by omega⟩
theorem digi_stop {d1 d0 u v : Nat} {q r : Int} (h : DigI d1 d0 u v q r) (h1 : 0 < d1) (t : ¬ 4294967296 * r + v < q * d0) : q = (((u * 4294967296 + v) / (d1 * 4294967296 + d0) : Nat) : Int) := by
  obtain ⟨qn, rn, rfl, rfl, hd, hr⟩ := h
  rw [dig_stop d1 d0 u v qn rn h1 hd (fun h => t (by
    have e : ((qn * d0 : Nat) : Int) = (qn : Int) * (d0 : Int) := rfl
    rw [← e]
    generalize qn * d0 = z at *
    omega))]
theorem mul_bd (q : Int) (d0 : Nat) (h0 : 0 ≤ q) (hq : ¬ 4294967296 ≤ q) (hd : d0 < 4294967296) : IntKind.u64.wrap (q * (d0 : Int)) = q * (d0 : Int) := by
  obtain ⟨n, rfl⟩ := Int.eq_ofNat_of_zero_le h0
  have h := Nat.mul_le_mul (show n ≤ 4294967295 by omega) (show d0 ≤ 4294967295 by omega)
  have e : ((n * d0 : Nat) : Int) = (n : Int) * (d0 : Int) := rfl
  rw [← e]
  generalize n * d0 = z at *
  exact IntWalk.u64_in _ ⟨by omega, by omega⟩
theorem quo_in (u d : Nat) (hu : u < 18446744073709551616) : IntKind.u64.wrap ((u : Int) / (d : Int)) = (u : Int) / (d : Int) := by
  have hq : u / d ≤ u := Nat.div_le_self u d
  have e : (u : Int) / (d : Int) = ((u / d : Nat) : Int) := rfl
  rw [e]
  generalize u / d = q at *
  exact IntWalk.u64_in _ ⟨by omega, by omega⟩
theorem quo_mul_in (u d : Nat) (hu : u < 18446744073709551616) : IntKind.u64.wrap ((u : Int) / (d : Int) * (d : Int)) = (u : Int) / (d : Int) * (d : Int) ∧
    IntKind.u64.wrap ((u : Int) - (u : Int) / (d : Int) * (d : Int)) = (u : Int) - (u : Int) / (d : Int) * (d : Int) := by
  have i1 : u / d * d ≤ u := Nat.div_mul_le_self u d
  have e : (u : Int) / (d : Int) * (d : Int) = ((u / d * d : Nat) : Int) := rfl
  rw [e]
  generalize u / d * d = q at *
  exact ⟨IntWalk.u64_in _ ⟨by omega, by omega⟩, IntWalk.u64_in _ ⟨by omega, by omega⟩⟩
/-- The rest of the first digit, as the words reckon it. -/
theorem rest_word (u v d : Nat) (q : Int) (hd0 : 0 < d) (hd : d < 18446744073709551616) (hq : q = ((u * 4294967296 + v) / d : Nat)) :
    IntKind.u64.wrap (IntKind.u64.wrap (IntKind.u64.wrap ((u : Int) * 4294967296) + (v : Int)) - IntKind.u64.wrap (q * (d : Int))) = (((u * 4294967296 + v) % d : Nat) : Int) := by
  have h := Nat.div_add_mod (u * 4294967296 + v) d
  have hm := Nat.mod_lt (u * 4294967296 + v) hd0
  rw [Nat.mul_comm] at h
  subst hq
  have e : (((u * 4294967296 + v) / d : Nat) : Int) * (d : Int) = (((u * 4294967296 + v) / d * d : Nat) : Int) := rfl
  rw [e]
  generalize (u * 4294967296 + v) / d * d = x at *
  generalize (u * 4294967296 + v) % d = y at *
  simp only [IntKind.wrap_u64]
  omega

theorem mask32 (a : Nat) (ha : a < 18446744073709551616) : bits .and .u64 (a : Int) 4294967295 = ((a % 4294967296 : Nat) : Int) := by
  have h := bits_and_u64_nat a 4294967295 ha (by omega)
  have e : a &&& 4294967295 = a % 4294967296 := Nat.and_two_pow_sub_one_eq_mod a 32
  rw [e] at h
  exact h
theorem first_words (hi lo y s : Nat) (w : World) (hs : s < 64) (hhi : hi < y) (hlo : lo < 18446744073709551616) (h1 : 9223372036854775808 ≤ y * 2 ^ s) (h2 : y * 2 ^ s < 18446744073709551616) :
    ∃ d1 d0 u v1 v0 : Nat, 2147483648 ≤ d1 ∧ d1 < 4294967296 ∧ d0 < 4294967296 ∧ u < d1 * 4294967296 + d0 ∧ v1 < 4294967296 ∧ v0 < 4294967296 ∧
      RowKit.Hid ((hi * 18446744073709551616 + lo) * 2 ^ s = (u * 4294967296 + v1) * 4294967296 + v0) ∧ RowKit.Hid (y * 2 ^ s = d1 * 4294967296 + d0) ∧
      Value.int .u64 (IntKind.u64.wrap ((y : Int) * 2 ^ s)) = .int .u64 ((d1 * 4294967296 + d0 : Nat) : Int) ∧ Value.int .u64 (s : Int) = .int .u64 s ∧
      Value.int .u64 (IntKind.u64.wrap ((y : Int) * 2 ^ s) / 4294967296) = .int .u64 d1 ∧ Value.int .u64 (bits .and .u64 (IntKind.u64.wrap ((y : Int) * 2 ^ s)) 4294967295) = .int .u64 d0 ∧
      Value.int .u64 (bits .or .u64 (IntKind.u64.wrap ((hi : Int) * 2 ^ s)) ((lo : Int) / 2 ^ (64 - s))) = .int .u64 u ∧
      Value.int .u64 (IntKind.u64.wrap ((lo : Int) * 2 ^ s) / 4294967296) = .int .u64 v1 ∧ Value.int .u64 (bits .and .u64 (IntKind.u64.wrap ((lo : Int) * 2 ^ s)) 4294967295) = .int .u64 v0 ∧ w = w := by
  obtain ⟨g1, g2, g3, g4⟩ := moved_words hi lo y s hs hhi hlo h2
  have cy : (y : Int) * 2 ^ s = ((y * 2 ^ s : Nat) : Int) := by rw [Int.natCast_mul, Int.natCast_pow]; rfl
  have ch : (hi : Int) * 2 ^ s = ((hi * 2 ^ s : Nat) : Int) := by rw [Int.natCast_mul, Int.natCast_pow]; rfl
  have cl : (lo : Int) * 2 ^ s = ((lo * 2 ^ s : Nat) : Int) := by rw [Int.natCast_mul, Int.natCast_pow]; rfl
  have cd : (lo : Int) / 2 ^ (64 - s) = ((lo / 2 ^ (64 - s) : Nat) : Int) := by rw [Int.natCast_ediv, Int.natCast_pow]; rfl
  have hdl : lo / 2 ^ (64 - s) ≤ lo := Nat.div_le_self _ _
  rw [cy, ch, cl, cd]
  generalize hA : lo * 2 ^ s = A at *
  generalize y * 2 ^ s = Y at *
  generalize hi * 2 ^ s = H at *
  generalize lo / 2 ^ (64 - s) = L at *
  generalize (hi * 18446744073709551616 + lo) * 2 ^ s = U at *
  have wY : IntKind.u64.wrap (Y : Int) = Y := IntWalk.u64_in _ ⟨by omega, by omega⟩
  have wH : IntKind.u64.wrap (H : Int) = H := IntWalk.u64_in _ ⟨by omega, by omega⟩
  have wA : IntKind.u64.wrap (A : Int) = ((A % 18446744073709551616 : Nat) : Int) := by rw [IntKind.wrap_u64]; omega
  rw [wY, wH, wA, mask32 Y (by omega), mask32 _ (Nat.mod_lt A (by omega)), bits_or_u64_nat H L (by omega) (by omega), g2]
  refine ⟨Y / 4294967296, Y % 4294967296, H + L, A % 18446744073709551616 / 4294967296, A % 18446744073709551616 % 4294967296, by omega, by omega, by omega, by omega, by omega, by omega, ?_, ?_, ?_, rfl, ?_, rfl, rfl, ?_, rfl, rfl⟩
  · rw [g3]
    generalize A % 18446744073709551616 = B at *
    clear g2 g3 hA
    show _ = _
    omega
  · show Y = _
    omega
  · exact congrArg (Value.int .u64) (by omega)
  · exact congrArg (Value.int .u64) (by omega)
  · exact congrArg (Value.int .u64) (by omega)

theorem last_words (N y s d1 d0 u v1 v0 u2 : Nat) (q q0 : Int) (k1 : 0 < d1) (k2 : d1 < 4294967296) (k3 : d0 < 4294967296)
    (HU : N * 2 ^ s = (u * 4294967296 + v1) * 4294967296 + v0) (HD : y * 2 ^ s = d1 * 4294967296 + d0)
    (hq : q = (((u * 4294967296 + v1) / (d1 * 4294967296 + d0) : Nat) : Int)) (h2 : u2 = (u * 4294967296 + v1) % (d1 * 4294967296 + d0)) (hq0 : q0 = (((u2 * 4294967296 + v0) / (d1 * 4294967296 + d0) : Nat) : Int)) :
    q * 4294967296 + q0 = ((N / y : Nat) : Int) ∧
    IntKind.u64.wrap (IntKind.u64.wrap (IntKind.u64.wrap ((u2 : Int) * 4294967296) + (v0 : Int)) - IntKind.u64.wrap (q0 * ((d1 : Int) * 4294967296 + (d0 : Int)))) / 2 ^ s = ((N % y : Nat) : Int) := by
  have hD : 0 < d1 * 4294967296 + d0 := by omega
  obtain ⟨t1, t2⟩ := two_digits u v1 v0 (d1 * 4294967296 + d0) hD
  have hp : 0 < 2 ^ s := Nat.pow_pos (by omega)
  obtain ⟨m1, m2⟩ := moved N y (2 ^ s) hp
  rw [← h2] at t1 t2
  rw [← HU, ← HD] at t1 t2
  rw [m1] at t1
  have r := rest_word u2 v0 (d1 * 4294967296 + d0) q0 hD (by omega) hq0
  refine ⟨?_, ?_⟩
  · rw [← t1, hq, hq0, ← HD]
    rfl
  · have r' : IntKind.u64.wrap (IntKind.u64.wrap (IntKind.u64.wrap ((u2 : Int) * 4294967296) + (v0 : Int)) - IntKind.u64.wrap (q0 * ((d1 : Int) * 4294967296 + (d0 : Int)))) = (((u2 * 4294967296 + v0) % (d1 * 4294967296 + d0) : Nat) : Int) := r
    rw [r', ← HD, t2, ← m2, Int.natCast_ediv, Int.natCast_pow]
    rfl
end Go.Proofs.YtfnkokfkhjdkfaaDoor

