/-
  Runes and codes, as plain functions on numbers. No program in sight.
-/
import Derived.KernelRfl
namespace Go.Proofs.YthmfkjgcbcjbaaaDoor
open Go

/-- The runes of the codes from 128 on; 0: the code has none. -/
def oddTab : List Int := [8364, 0, 8218, 402, 8222, 8230, 8224, 8225, 710, 8240, 352, 8249, 338, 0, 381, 0, 0, 8216, 8217, 8220, 8221, 8226, 8211, 8212, 732, 8482, 353, 8250, 339, 0, 382, 376]
theorem oddTab_len : oddTab.length = 32 := rfl
/-- Is the rune that of the code of the same number. -/
def ownC (r : Int) : Bool := (decide (32 ≤ r) && decide (r ≤ 126)) || (decide (160 ≤ r) && decide (r ≤ 255))
def oddHit (r : Int) (k : Nat) : Bool := decide (oddTab.getD k 0 = r) && !decide (r = 0)
/-- A rune's code. -/
def toN (r : Int) : Nat × Bool := if ownC r then (r.toNat, true) else match (List.range 32).find? (oddHit r) with
  | some k => (128 + k, true)
  | none => (63, false)
/-- A code's rune. -/
def fromR (c : Nat) : Int × Bool := if ownC c then ((c : Int), true) else if 128 ≤ c ∧ c < 160 then (oddTab.getD (c - 128) 0, !decide (oddTab.getD (c - 128) 0 = 0)) else (0, false)

theorem own_iff (r : Int) : ownC r = true ↔ (32 ≤ r ∧ r ≤ 126) ∨ (160 ≤ r ∧ r ≤ 255) := by
  unfold ownC; simp
theorem toN_own {r : Int} (h : ownC r = true) : toN r = (r.toNat, true) := by unfold toN; rw [if_pos h]
theorem odd_all : ∀ k, k < 32 → oddTab.getD k 0 ≠ 0 → toN (oddTab.getD k 0) = (128 + k, true) ∧ ownC (oddTab.getD k 0) = false := by decide +kernel
theorem toN_odd {r : Int} {k : Nat} (hk : k < 32) (h : oddTab.getD k 0 = r) (h0 : r ≠ 0) : toN r = (128 + k, true) := by
  subst h; exact (odd_all k hk h0).1
theorem toN_none {r : Int} (h : ownC r = false) (hn : ∀ k, k < 32 → oddTab.getD k 0 = r → r = 0) : toN r = (63, false) := by
  have e : (List.range 32).find? (oddHit r) = none := by
    rw [List.find?_eq_none]
    intro k hk hit
    rw [List.mem_range] at hk
    unfold oddHit at hit
    simp only [Bool.and_eq_true, decide_eq_true_eq, Bool.not_eq_true', decide_eq_false_iff_not] at hit
    exact hit.2 (hn k hk hit.1)
  unfold toN
  rw [if_neg (by rw [h]; exact Bool.false_ne_true), e]
/-- A rune's code: its own number, one of the table, or none. -/
theorem toN_cases (r : Int) : (ownC r = true ∧ toN r = (r.toNat, true)) ∨ (∃ k, k < 32 ∧ oddTab.getD k 0 = r ∧ r ≠ 0 ∧ ownC r = false ∧ toN r = (128 + k, true)) ∨
    (ownC r = false ∧ (∀ k, k < 32 → oddTab.getD k 0 = r → r = 0) ∧ toN r = (63, false)) := by
  cases h : ownC r with
  | true => exact .inl ⟨rfl, toN_own h⟩
  | false =>
    by_cases hx : ∃ k, k < 32 ∧ oddTab.getD k 0 = r ∧ r ≠ 0
    · obtain ⟨k, h1, h2, h3⟩ := hx
      exact .inr (.inl ⟨k, h1, h2, h3, rfl, toN_odd h1 h2 h3⟩)
    · have hn : ∀ k, k < 32 → oddTab.getD k 0 = r → r = 0 := fun k h1 h2 => Classical.byContradiction fun h3 => hx ⟨k, h1, h2, h3⟩
      exact .inr (.inr ⟨rfl, hn, toN_none h hn⟩)
theorem from_own {c : Nat} (h : ownC c = true) : fromR c = ((c : Int), true) := by unfold fromR; rw [if_pos h]
theorem from_odd {k : Nat} (hk : k < 32) : fromR (128 + k) = (oddTab.getD k 0, !decide (oddTab.getD k 0 = 0)) := by
  unfold fromR
  rw [if_neg (by rw [own_iff]; omega), if_pos (by omega), Nat.add_sub_cancel_left]
theorem from_none {c : Nat} (h : ownC c = false) (h2 : c < 128 ∨ 160 ≤ c) : fromR c = (0, false) := by
  unfold fromR
  rw [if_neg (by rw [h]; exact Bool.false_ne_true), if_neg (by omega)]
theorem toN_lt (r : Int) : (toN r).1 < 256 := by
  rcases toN_cases r with ⟨h, e⟩ | ⟨k, hk, _, _, _, e⟩ | ⟨_, _, e⟩ <;> rw [e]
  · rw [own_iff] at h; show r.toNat < 256; omega
  · show 128 + k < 256; omega
  · show 63 < 256; omega
theorem odd_range : ∀ k, k < 32 → 0 ≤ oddTab.getD k 0 ∧ oddTab.getD k 0 ≤ 8482 := by decide +kernel
/-- A code's rune may be written. -/
theorem from_range (c : Nat) (h : c < 256) : 0 ≤ (fromR c).1 ∧ (fromR c).1 ≤ 8482 := by
  cases ho : ownC c with
  | true =>
    rw [from_own ho]
    exact ⟨(by omega : (0 : Int) ≤ (c : Int)), (by omega : (c : Int) ≤ 8482)⟩
  | false =>
    by_cases h2 : c < 128 ∨ 160 ≤ c
    · rw [from_none ho h2]
      exact ⟨(by decide : (0 : Int) ≤ 0), (by decide : (0 : Int) ≤ 8482)⟩
    · obtain ⟨k, rfl⟩ : ∃ k, c = 128 + k := ⟨c - 128, by omega⟩
      rw [from_odd (by omega)]
      exact odd_range k (by omega)
/-- A rune with a code is that code's. -/
theorem to_from {r : Int} (h : (toN r).2 = true) : fromR (toN r).1 = (r, true) := by
  rcases toN_cases r with ⟨ho, e⟩ | ⟨k, hk, hr, h0, _, e⟩ | ⟨_, _, e⟩
  · rw [e]
    have ho' := ho
    rw [own_iff] at ho'
    have hc : ((r.toNat : Nat) : Int) = r := by omega
    rw [from_own (by rw [hc]; exact ho), hc]
  · rw [e, from_odd hk, hr, decide_eq_false h0]; rfl
  · rw [e] at h; cases h
/-- A code with a rune is that rune's. -/
theorem from_to : ∀ c, c < 256 → (fromR c).2 = true → toN (fromR c).1 = (c, true) := by decide +kernel
theorem to_not {r : Int} (h : (toN r).2 = false) : (toN r).1 = 63 := by
  rcases toN_cases r with ⟨_, e⟩ | ⟨k, _, _, _, _, e⟩ | ⟨_, _, e⟩
  · rw [e] at h; cases h
  · rw [e] at h; cases h
  · rw [e]
end Go.Proofs.YthmfkjgcbcjbaaaDoor
