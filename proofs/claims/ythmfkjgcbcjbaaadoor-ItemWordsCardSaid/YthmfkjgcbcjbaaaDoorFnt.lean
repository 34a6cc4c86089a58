/-
  How wide codes are, and how far they go, as plain functions on numbers. No program in sight.
-/
import Derived.KernelRfl
namespace Go.Proofs.YthmfkjgcbcjbaaaDoor
open Go

def plainTab : List Int := [278, 278, 355, 556, 556, 889, 667, 191, 333, 333, 389, 584, 278, 333, 278, 278, 556, 556, 556, 556, 556, 556, 556, 556, 556, 556, 278, 278, 584, 584, 584, 556, 1015, 667, 667, 722, 722, 667, 611, 778, 722, 278, 500, 667, 556, 833, 722, 778, 667, 778, 722, 667, 611, 722, 667, 944, 667, 667, 611, 278, 278, 278, 469, 556, 333, 556, 556, 500, 556, 556, 278, 556, 556, 222, 222, 500, 222, 833, 556, 556, 556, 556, 333, 500, 278, 556, 500, 722, 500, 500, 500, 334, 260, 334, 584]
def boldTab : List Int := [278, 333, 474, 556, 556, 889, 722, 238, 333, 333, 389, 584, 278, 333, 278, 278, 556, 556, 556, 556, 556, 556, 556, 556, 556, 556, 333, 333, 584, 584, 584, 611, 975, 722, 722, 722, 722, 667, 611, 778, 722, 278, 556, 722, 611, 833, 722, 778, 667, 778, 722, 667, 611, 722, 667, 944, 667, 667, 611, 333, 278, 333, 584, 556, 333, 556, 611, 556, 611, 556, 333, 611, 611, 278, 278, 556, 278, 889, 611, 611, 611, 611, 389, 556, 333, 611, 556, 778, 556, 556, 500, 389, 280, 389, 584]
def latinTab : List Int := [278, 333, 556, 556, 556, 556, 260, 556, 333, 737, 370, 556, 584, 333, 737, 333, 400, 584, 333, 333, 333, 556, 537, 278, 333, 333, 365, 556, 834, 834, 834, 611, 667, 667, 667, 667, 667, 667, 1000, 722, 667, 667, 667, 667, 278, 278, 278, 278, 722, 722, 778, 778, 778, 778, 778, 584, 778, 722, 722, 722, 722, 667, 667, 611, 556, 556, 556, 556, 556, 556, 889, 500, 556, 556, 556, 556, 278, 278, 278, 278, 556, 556, 556, 556, 556, 556, 556, 584, 611, 556, 556, 556, 556, 500, 556, 500]
def nameTab : List (List UInt8) := [[72, 101, 108, 118, 101, 116, 105, 99, 97],
  [72, 101, 108, 118, 101, 116, 105, 99, 97, 45, 66, 111, 108, 100],
  [72, 101, 108, 118, 101, 116, 105, 99, 97, 45, 79, 98, 108, 105, 113, 117, 101],
  [72, 101, 108, 118, 101, 116, 105, 99, 97, 45, 66, 111, 108, 100, 79, 98, 108, 105, 113, 117, 101],
  [67, 111, 117, 114, 105, 101, 114]]
/-- A code's width. -/
def widthL (f : Int) (c : Nat) : Int :=
  if f = 4 then 600 else if 160 ≤ c then latinTab.getD (c - 160) 0 else if 32 ≤ c ∧ c ≤ 126 then (if f = 1 ∨ f = 3 then boldTab.getD (c - 32) 0 else plainTab.getD (c - 32) 0) else 556
theorem latin_range : ∀ k, k < 96 → 191 ≤ latinTab.getD k 0 ∧ latinTab.getD k 0 ≤ 1015 := by decide +kernel
theorem bold_range : ∀ k, k < 95 → 191 ≤ boldTab.getD k 0 ∧ boldTab.getD k 0 ≤ 1015 := by decide +kernel
theorem plain_range : ∀ k, k < 95 → 191 ≤ plainTab.getD k 0 ∧ plainTab.getD k 0 ≤ 1015 := by decide +kernel
theorem width_mono (c : Nat) : widthL 4 c = 600 := by unfold widthL; rw [if_pos rfl]
theorem width_latin {f : Int} {k : Nat} (hf : f ≠ 4) : widthL f (160 + k) = latinTab.getD k 0 := by
  unfold widthL; rw [if_neg hf, if_pos (by omega), Nat.add_sub_cancel_left]
theorem width_bold {f : Int} {k : Nat} (hf : f = 1 ∨ f = 3) (hk : k < 95) : widthL f (32 + k) = boldTab.getD k 0 := by
  unfold widthL; rw [if_neg (by omega), if_neg (by omega), if_pos (by omega), if_pos hf, Nat.add_sub_cancel_left]
theorem width_plain {f : Int} {k : Nat} (hf : f ≠ 4) (hg : ¬ (f = 1 ∨ f = 3)) (hk : k < 95) : widthL f (32 + k) = plainTab.getD k 0 := by
  unfold widthL; rw [if_neg hf, if_neg (by omega), if_pos (by omega), if_neg hg, Nat.add_sub_cancel_left]
theorem width_other {f : Int} {c : Nat} (hf : f ≠ 4) (h : c < 32 ∨ (126 < c ∧ c < 160)) : widthL f c = 556 := by
  unfold widthL; rw [if_neg hf, if_neg (by omega), if_neg (by omega)]
/-- The five ways of a font and a code. -/
theorem width_ways (f : Int) (c : Nat) (h : c < 256) : f = 4 ∨ (f ≠ 4 ∧ ((∃ k, k < 96 ∧ c = 160 + k) ∨ (∃ k, k < 95 ∧ c = 32 + k) ∨ (c < 32 ∨ (126 < c ∧ c < 160)))) := by
  by_cases h4 : f = 4
  · exact .inl h4
  · refine .inr ⟨h4, ?_⟩
    by_cases h1 : 160 ≤ c
    · exact .inl ⟨c - 160, by omega, by omega⟩
    · by_cases h2 : 32 ≤ c ∧ c ≤ 126
      · exact .inr (.inl ⟨c - 32, by omega, by omega⟩)
      · exact .inr (.inr (by omega))
theorem width_range (f : Int) (c : Nat) (h : c < 256) : 191 ≤ widthL f c ∧ widthL f c ≤ 1015 := by
  rcases width_ways f c h with rfl | ⟨h4, ⟨k, hk, rfl⟩ | ⟨k, hk, rfl⟩ | h2⟩
  · rw [width_mono]; omega
  · rw [width_latin h4]; exact latin_range k hk
  · by_cases hb : f = 1 ∨ f = 3
    · rw [width_bold hb hk]; exact bold_range k hk
    · rw [width_plain h4 hb hk]; exact plain_range k hk
  · rw [width_other h4 h2]; omega
/-- How far a code goes. -/
def advL (f size : Int) (c : Nat) : Int := (widthL f c * size).tdiv 1000
/-- How far codes go. -/
def runL (f size : Int) : List UInt8 → Int
  | [] => 0
  | b :: l => advL f size b.toNat + runL f size l
theorem adv_nonneg {f size : Int} {c : Nat} (hc : c < 256) (hs : 0 ≤ size) : 0 ≤ advL f size c := by
  have h := width_range f c hc
  unfold advL
  exact Int.tdiv_nonneg (Int.mul_nonneg (by omega) hs) (by omega)
theorem adv_div {f size : Int} {c : Nat} (hc : c < 256) (hs : 0 ≤ size) : advL f size c = widthL f c * size / 1000 := by
  have h := width_range f c hc
  unfold advL
  exact Int.tdiv_eq_ediv_of_nonneg (Int.mul_nonneg (by omega) hs)
theorem mul_range {f size : Int} {c : Nat} (hc : c < 256) (hs : 0 ≤ size) : 191 * size ≤ widthL f c * size ∧ widthL f c * size ≤ 1015 * size := by
  have h := width_range f c hc
  exact ⟨Int.mul_le_mul_of_nonneg_right h.1 hs, Int.mul_le_mul_of_nonneg_right h.2 hs⟩
theorem mul_any {f size : Int} {c : Nat} (hc : c < 256) (h1 : -2147483648 ≤ size) (h2 : size ≤ 2147483648) : -2179695902720 ≤ widthL f c * size ∧ widthL f c * size ≤ 2179695902720 := by
  have h := width_range f c hc
  rcases Int.le_total 0 size with hs | hs
  · have := mul_range (f := f) hc hs
    omega
  · have a1 : widthL f c * size ≤ 191 * size := Int.mul_le_mul_of_nonpos_right h.1 hs
    have a2 : 1015 * size ≤ widthL f c * size := Int.mul_le_mul_of_nonpos_right h.2 hs
    omega
theorem adv_le {f size : Int} {c : Nat} (hc : c < 256) (hs : 0 ≤ size) (h2 : size ≤ 2147483648) : advL f size c ≤ 2179695902 := by
  have h := mul_range (f := f) hc hs
  rw [adv_div hc hs]
  omega
theorem adv_pos {f size : Int} {c : Nat} (hc : c < 256) (hs : 1000 ≤ size) : 0 < advL f size c := by
  have h := mul_range (f := f) hc (show (0 : Int) ≤ size by omega)
  rw [adv_div hc (by omega)]
  omega
theorem adv_grows {f a b : Int} {c : Nat} (hc : c < 256) (ha : 0 ≤ a) (hab : a ≤ b) : advL f a c ≤ advL f b c := by
  have h := width_range f c hc
  rw [adv_div hc ha, adv_div hc (by omega)]
  exact Int.ediv_le_ediv (by omega) (Int.mul_le_mul_of_nonneg_left hab (by omega))
theorem adv_mono (size : Int) (c d : Nat) : advL 4 size c = advL 4 size d := by unfold advL; rw [width_mono, width_mono]
theorem run_app (f size : Int) : ∀ a b : List UInt8, runL f size (a ++ b) = runL f size a + runL f size b
  | [], b => by simp [runL]
  | x :: a, b => by simp only [List.cons_append, runL]; rw [run_app f size a b]; omega
theorem run_snoc (f size : Int) (a : List UInt8) (b : UInt8) : runL f size (a ++ [b]) = runL f size a + advL f size b.toNat := by
  rw [run_app]; simp [runL]
theorem run_nonneg {f size : Int} (hs : 0 ≤ size) : ∀ l, 0 ≤ runL f size l
  | [] => Int.le_refl _
  | b :: l => by have := adv_nonneg (f := f) b.toNat_lt hs; have := run_nonneg (f := f) hs l; unfold runL; omega
theorem run_le {f size : Int} (hs : 0 ≤ size) (h2 : size ≤ 2147483648) : ∀ l, runL f size l ≤ 2179695902 * l.length
  | [] => by simp [runL]
  | b :: l => by have := adv_le (f := f) b.toNat_lt hs h2; have := run_le (f := f) hs h2 l; unfold runL; rw [List.length_cons]; omega
theorem run_grows {f a b : Int} (ha : 0 ≤ a) (hab : a ≤ b) : ∀ l, runL f a l ≤ runL f b l
  | [] => Int.le_refl _
  | x :: l => by have := adv_grows (f := f) x.toNat_lt ha hab; have := run_grows (f := f) ha hab l; unfold runL; omega
theorem run_mono (size : Int) (c : Nat) : ∀ l, runL 4 size l = l.length * advL 4 size c
  | [] => by simp [runL]
  | x :: l => by
    unfold runL
    rw [run_mono size c l, adv_mono size x.toNat c, List.length_cons, Int.natCast_add, Int.add_mul]
    omega
theorem run_take_le {f size : Int} (hs : 0 ≤ size) (l : List UInt8) (j k : Nat) (h : j ≤ k) : runL f size (l.take j) ≤ runL f size (l.take k) := by
  have e : l.take k = l.take j ++ (l.take k).drop j := by
    have h2 := List.take_append_drop j (l.take k)
    rw [List.take_take, Nat.min_eq_left h] at h2
    exact h2.symm
  rw [e, run_app]
  have := run_nonneg (f := f) hs ((l.take k).drop j)
  omega
/-- A font's name. -/
def nameL (f : Int) : List UInt8 := if 0 ≤ f ∧ f < 5 then nameTab.getD f.toNat [] else nameTab.getD 0 []
end Go.Proofs.YthmfkjgcbcjbaaaDoor
