/-
  Texts of the proof, one behind the other: Itq, Fnt, Codt, Cods, Itp, Beq, Ig1, Ig2, Fxq, Im1, Im2.
-/
import Derived.KernelRfl
import Derived.Test.YtfnkokfkhjdkfaaDoorM2
/-
  An item of a line. No program in sight.
-/
namespace Go.Proofs.YtfnkokfkhjdkfaaDoor

structure It where
  kind : Int
  width : Int
  grow : Int
  shrink : Int
  cost : Int
  codes : List UInt8
  font : Int
  size : Int
  link : Int
end Go.Proofs.YtfnkokfkhjdkfaaDoor

/-
  How wide codes are, and how far they go, as plain functions on numbers. No program in sight.
-/
namespace Go.Proofs.YtfnkokfkhjdkfaaDoor
open Go

def plainTab : List Int := [278, 278, 355, 556, 556, 889, 667, 191, 333, 333, 389, 584, 278, 333, 278, 278, 556, 556, 556, 556, 556, 556, 556, 556, 556, 556, 278, 278, 584, 584, 584, 556, 1015, 667, 667, 722, 722, 667, 611, 778, 722, 278, 500, 667, 556, 833, 722, 778, 667, 778, 722, 667, 611, 722, 667, 944, 667, 667, 611, 278, 278, 278, 469, 556, 333, 556, 556, 500, 556, 556, 278, 556, 556, 222, 222, 500, 222, 833, 556, 556, 556, 556, 333, 500, 278, 556, 500, 722, 500, 500, 500, 334, 260, 334, 584]
def boldTab : List Int := [278, 333, 474, 556, 556, 889, 722, 238, 333, 333, 389, 584, 278, 333, 278, 278, 556, 556, 556, 556, 556, 556, 556, 556, 556, 556, 333, 333, 584, 584, 584, 611, 975, 722, 722, 722, 722, 667, 611, 778, 722, 278, 556, 722, 611, 833, 722, 778, 667, 778, 722, 667, 611, 722, 667, 944, 667, 667, 611, 333, 278, 333, 584, 556, 333, 556, 611, 556, 611, 556, 333, 611, 611, 278, 278, 556, 278, 889, 611, 611, 611, 611, 389, 556, 333, 611, 556, 778, 556, 556, 500, 389, 280, 389, 584]
def latinTab : List Int := [278, 333, 556, 556, 556, 556, 260, 556, 333, 737, 370, 556, 584, 333, 737, 333, 400, 584, 333, 333, 333, 556, 537, 278, 333, 333, 365, 556, 834, 834, 834, 611, 667, 667, 667, 667, 667, 667, 1000, 722, 667, 667, 667, 667, 278, 278, 278, 278, 722, 722, 778, 778, 778, 778, 778, 584, 778, 722, 722, 722, 722, 667, 667, 611, 556, 556, 556, 556, 556, 556, 889, 500, 556, 556, 556, 556, 278, 278, 278, 278, 556, 556, 556, 556, 556, 556, 556, 584, 611, 556, 556, 556, 556, 500, 556, 500]
def nameTab : List (List UInt8) := [[72, 101, 108, 118, 101, 116, 105, 99, 97],
  [72, 101, 108, 118, 101, 116, 105, 99, 97, 45, 66, 111, 108, 100],
  [72, 101, 108, 118, 101, 116, 105, 99, 97, 45, 79, 98, 108, 105, 113, 117, 101],
  [72, 101, 108, 118, 101, 116, 105, 99, 97, 45, 66, 111, 108, 100, 79, 98, 108, 105, 113, 117, 101],
  [67, 111, 117, 114, 105, 101, 114]]
/-- A code's width. -/
def widthL (f : Int) (c : Nat) : Int :=
  if f = 4 then 600 else if 160 ≤ c then latinTab.getD (c - 160) 0 else if 32 ≤ c ∧ c ≤ 126 then (if f = 1 ∨ f = 3 then boldTab.getD (c - 32) 0 else plainTab.getD (c - 32) 0) else 556
theorem latin_range : ∀ k, k < 96 → 191 ≤ latinTab.getD k 0 ∧ latinTab.getD k 0 ≤ 1015 := by decide +kernel
theorem bold_range : ∀ k, k < 95 → 191 ≤ boldTab.getD k 0 ∧ boldTab.getD k 0 ≤ 1015 := by decide +kernel
theorem plain_range : ∀ k, k < 95 → 191 ≤ plainTab.getD k 0 ∧ plainTab.getD k 0 ≤ 1015 := by decide +kernel
theorem width_mono (c : Nat) : widthL 4 c = 600 := by unfold widthL; rw [if_pos rfl]
theorem width_latin {f : Int} {k : Nat} (hf : f ≠ 4) : widthL f (160 + k) = latinTab.getD k 0 := by
  unfold widthL; rw [if_neg hf, if_pos (by omega), Nat.add_sub_cancel_left]
theorem width_bold {f : Int} {k : Nat} (hf : f = 1 ∨ f = 3) (hk : k < 95) : widthL f (32 + k) = boldTab.getD k 0 := by
  unfold widthL; rw [if_neg (by omega), if_neg (by omega), if_pos (by omega), if_pos hf, Nat.add_sub_cancel_left]
theorem width_plain {f : Int} {k : Nat} (hf : f ≠ 4) (hg : ¬ (f = 1 ∨ f = 3)) (hk : k < 95) : widthL f (32 + k) = plainTab.getD k 0 := by
  unfold widthL; rw [if_neg hf, if_neg (by omega), if_pos (by omega), if_neg hg, Nat.add_sub_cancel_left]
theorem width_other {f : Int} {c : Nat} (hf : f ≠ 4) (h : c < 32 ∨ (126 < c ∧ c < 160)) : widthL f c = 556 := by
  unfold widthL; rw [if_neg hf, if_neg (by omega), if_neg (by omega)]
/-- The five ways of a font and a code. -/
theorem width_ways (f : Int) (c : Nat) (h : c < 256) : f = 4 ∨ (f ≠ 4 ∧ ((∃ k, k < 96 ∧ c = 160 + k) ∨ (∃ k, k < 95 ∧ c = 32 + k) ∨ (c < 32 ∨ (126 < c ∧ c < 160)))) := by
  by_cases h4 : f = 4
  · exact .inl h4
  · refine .inr ⟨h4, ?_⟩
    by_cases h1 : 160 ≤ c
    · exact .inl ⟨c - 160, by omega, by omega⟩
    · by_cases h2 : 32 ≤ c ∧ c ≤ 126
      · exact .inr (.inl ⟨c - 32, by omega, by omega⟩)
      · exact .inr (.inr (by omega))
theorem width_range (f : Int) (c : Nat) (h : c < 256) : 191 ≤ widthL f c ∧ widthL f c ≤ 1015 := by
  rcases width_ways f c h with rfl | ⟨h4, ⟨k, hk, rfl⟩ | ⟨k, hk, rfl⟩ | h2⟩
  · rw [width_mono]; omega
  · rw [width_latin h4]; exact latin_range k hk
  · by_cases hb : f = 1 ∨ f = 3
    · rw [width_bold hb hk]; exact bold_range k hk
    · rw [width_plain h4 hb hk]; exact plain_range k hk
  · rw [width_other h4 h2]; omega
/-- How far a code goes. -/
def advL (f size : Int) (c : Nat) : Int := (widthL f c * size).tdiv 1000
/-- How far codes go. -/
def runL (f size : Int) : List UInt8 → Int
  | [] => 0
  | b :: l => advL f size b.toNat + runL f size l
theorem adv_nonneg {f size : Int} {c : Nat} (hc : c < 256) (hs : 0 ≤ size) : 0 ≤ advL f size c := by
  have h := width_range f c hc
  unfold advL
  exact Int.tdiv_nonneg (Int.mul_nonneg (by omega) hs) (by omega)
theorem adv_div {f size : Int} {c : Nat} (hc : c < 256) (hs : 0 ≤ size) : advL f size c = widthL f c * size / 1000 := by
  have h := width_range f c hc
  unfold advL
  exact Int.tdiv_eq_ediv_of_nonneg (Int.mul_nonneg (by omega) hs)
theorem mul_range {f size : Int} {c : Nat} (hc : c < 256) (hs : 0 ≤ size) : 191 * size ≤ widthL f c * size ∧ widthL f c * size ≤ 1015 * size := by
  have h := width_range f c hc
  exact ⟨Int.mul_le_mul_of_nonneg_right h.1 hs, Int.mul_le_mul_of_nonneg_right h.2 hs⟩
theorem mul_any {f size : Int} {c : Nat} (hc : c < 256) (h1 : -2147483648 ≤ size) (h2 : size ≤ 2147483648) : -2179695902720 ≤ widthL f c * size ∧ widthL f c * size ≤ 2179695902720 := by
  have h := width_range f c hc
  rcases Int.le_total 0 size with hs | hs
  · have := mul_range (f := f) hc hs
    omega
  · have a1 : widthL f c * size ≤ 191 * size := Int.mul_le_mul_of_nonpos_right h.1 hs
    have a2 : 1015 * size ≤ widthL f c * size := Int.mul_le_mul_of_nonpos_right h.2 hs
    omega
theorem adv_le {f size : Int} {c : Nat} (hc : c < 256) (hs : 0 ≤ size) (h2 : size ≤ 2147483648) : advL f size c ≤ 2179695902 := by
  have h := mul_range (f := f) hc hs
  rw [adv_div hc hs]
  omega
theorem adv_pos {f size : Int} {c : Nat} (hc : c < 256) (hs : 1000 ≤ size) : 0 < advL f size c := by
  have h := mul_range (f := f) hc (show (0 : Int) ≤ size by omega)
  rw [adv_div hc (by omega)]
  omega
theorem adv_grows {f a b : Int} {c : Nat} (hc : c < 256) (ha : 0 ≤ a) (hab : a ≤ b) : advL f a c ≤ advL f b c := by
  have h := width_range f c hc
  rw [adv_div hc ha, adv_div hc (by omega)]
  exact Int.ediv_le_ediv (by omega) (Int.mul_le_mul_of_nonneg_left hab (by omega))
theorem adv_mono (size : Int) (c d : Nat) : advL 4 size c = advL 4 size d := by unfold advL; rw [width_mono, width_mono]
theorem run_app (f size : Int) : ∀ a b : List UInt8, runL f size (a ++ b) = runL f size a + runL f size b
  | [], b => by simp [runL]
  | x :: a, b => by simp only [List.cons_append, runL]; rw [run_app f size a b]; omega
theorem run_snoc (f size : Int) (a : List UInt8) (b : UInt8) : runL f size (a ++ [b]) = runL f size a + advL f size b.toNat := by
  rw [run_app]; simp [runL]
theorem run_nonneg {f size : Int} (hs : 0 ≤ size) : ∀ l, 0 ≤ runL f size l
  | [] => Int.le_refl _
  | b :: l => by have := adv_nonneg (f := f) b.toNat_lt hs; have := run_nonneg (f := f) hs l; unfold runL; omega
theorem run_le {f size : Int} (hs : 0 ≤ size) (h2 : size ≤ 2147483648) : ∀ l, runL f size l ≤ 2179695902 * l.length
  | [] => by simp [runL]
  | b :: l => by have := adv_le (f := f) b.toNat_lt hs h2; have := run_le (f := f) hs h2 l; unfold runL; rw [List.length_cons]; omega
theorem run_grows {f a b : Int} (ha : 0 ≤ a) (hab : a ≤ b) : ∀ l, runL f a l ≤ runL f b l
  | [] => Int.le_refl _
  | x :: l => by have := adv_grows (f := f) x.toNat_lt ha hab; have := run_grows (f := f) ha hab l; unfold runL; omega
theorem run_mono (size : Int) (c : Nat) : ∀ l, runL 4 size l = l.length * advL 4 size c
  | [] => by simp [runL]
  | x :: l => by
    unfold runL
    rw [run_mono size c l, adv_mono size x.toNat c, List.length_cons, Int.natCast_add, Int.add_mul]
    omega
theorem run_take_le {f size : Int} (hs : 0 ≤ size) (l : List UInt8) (j k : Nat) (h : j ≤ k) : runL f size (l.take j) ≤ runL f size (l.take k) := by
  have e : l.take k = l.take j ++ (l.take k).drop j := by
    have h2 := List.take_append_drop j (l.take k)
    rw [List.take_take, Nat.min_eq_left h] at h2
    exact h2.symm
  rw [e, run_app]
  have := run_nonneg (f := f) hs ((l.take k).drop j)
  omega
/-- A font's name. -/
def nameL (f : Int) : List UInt8 := if 0 ≤ f ∧ f < 5 then nameTab.getD f.toNat [] else nameTab.getD 0 []
end Go.Proofs.YtfnkokfkhjdkfaaDoor

/-
  Runes and codes, as plain functions on numbers. No program in sight.
-/
namespace Go.Proofs.YtfnkokfkhjdkfaaDoor
open Go

/-- The runes of the codes from 128 on; 0: the code has none. -/
def oddTab : List Int := [8364, 0, 8218, 402, 8222, 8230, 8224, 8225, 710, 8240, 352, 8249, 338, 0, 381, 0, 0, 8216, 8217, 8220, 8221, 8226, 8211, 8212, 732, 8482, 353, 8250, 339, 0, 382, 376]
theorem oddTab_len : oddTab.length = 32 := rfl
/-- Is the rune that of the code of the same number. -/
def ownC (r : Int) : Bool := (decide (32 ≤ r) && decide (r ≤ 126)) || (decide (160 ≤ r) && decide (r ≤ 255))
def oddHit (r : Int) (k : Nat) : Bool := decide (oddTab.getD k 0 = r) && !decide (r = 0)
/-- A rune's code. -/
def toN (r : Int) : Nat × Bool := if ownC r then (r.toNat, true) else match (List.range 32).find? (oddHit r) with
  | some k => (128 + k, true)
  | none => (63, false)
/-- A code's rune. -/
def fromR (c : Nat) : Int × Bool := if ownC c then ((c : Int), true) else if 128 ≤ c ∧ c < 160 then (oddTab.getD (c - 128) 0, !decide (oddTab.getD (c - 128) 0 = 0)) else (0, false)

theorem own_iff (r : Int) : ownC r = true ↔ (32 ≤ r ∧ r ≤ 126) ∨ (160 ≤ r ∧ r ≤ 255) := by
  unfold ownC; simp
theorem toN_own {r : Int} (h : ownC r = true) : toN r = (r.toNat, true) := by unfold toN; rw [if_pos h]
theorem odd_all : ∀ k, k < 32 → oddTab.getD k 0 ≠ 0 → toN (oddTab.getD k 0) = (128 + k, true) ∧ ownC (oddTab.getD k 0) = false := by decide +kernel
theorem toN_odd {r : Int} {k : Nat} (hk : k < 32) (h : oddTab.getD k 0 = r) (h0 : r ≠ 0) : toN r = (128 + k, true) := by
  subst h; exact (odd_all k hk h0).1
theorem toN_none {r : Int} (h : ownC r = false) (hn : ∀ k, k < 32 → oddTab.getD k 0 = r → r = 0) : toN r = (63, false) := by
  have e : (List.range 32).find? (oddHit r) = none := by
    rw [List.find?_eq_none]
    intro k hk hit
    rw [List.mem_range] at hk
    unfold oddHit at hit
    simp only [Bool.and_eq_true, decide_eq_true_eq, Bool.not_eq_true', decide_eq_false_iff_not] at hit
    exact hit.2 (hn k hk hit.1)
  unfold toN
  rw [if_neg (by rw [h]; exact Bool.false_ne_true), e]
/-- A rune's code: its own number, one of the table, or none. -/
theorem toN_cases (r : Int) : (ownC r = true ∧ toN r = (r.toNat, true)) ∨ (∃ k, k < 32 ∧ oddTab.getD k 0 = r ∧ r ≠ 0 ∧ ownC r = false ∧ toN r = (128 + k, true)) ∨
    (ownC r = false ∧ (∀ k, k < 32 → oddTab.getD k 0 = r → r = 0) ∧ toN r = (63, false)) := by
  cases h : ownC r with
  | true => exact .inl ⟨rfl, toN_own h⟩
  | false =>
    by_cases hx : ∃ k, k < 32 ∧ oddTab.getD k 0 = r ∧ r ≠ 0
    · obtain ⟨k, h1, h2, h3⟩ := hx
      exact .inr (.inl ⟨k, h1, h2, h3, rfl, toN_odd h1 h2 h3⟩)
    · have hn : ∀ k, k < 32 → oddTab.getD k 0 = r → r = 0 := fun k h1 h2 => Classical.byContradiction fun h3 => hx ⟨k, h1, h2, h3⟩
      exact .inr (.inr ⟨rfl, hn, toN_none h hn⟩)
theorem from_own {c : Nat} (h : ownC c = true) : fromR c = ((c : Int), true) := by unfold fromR; rw [if_pos h]
theorem from_odd {k : Nat} (hk : k < 32) : fromR (128 + k) = (oddTab.getD k 0, !decide (oddTab.getD k 0 = 0)) := by
  unfold fromR
  rw [if_neg (by rw [own_iff]; omega), if_pos (by omega), Nat.add_sub_cancel_left]
theorem from_none {c : Nat} (h : ownC c = false) (h2 : c < 128 ∨ 160 ≤ c) : fromR c = (0, false) := by
  unfold fromR
  rw [if_neg (by rw [h]; exact Bool.false_ne_true), if_neg (by omega)]
theorem toN_lt (r : Int) : (toN r).1 < 256 := by
  rcases toN_cases r with ⟨h, e⟩ | ⟨k, hk, _, _, _, e⟩ | ⟨_, _, e⟩ <;> rw [e]
  · rw [own_iff] at h; show r.toNat < 256; omega
  · show 128 + k < 256; omega
  · show 63 < 256; omega
theorem odd_range : ∀ k, k < 32 → 0 ≤ oddTab.getD k 0 ∧ oddTab.getD k 0 ≤ 8482 := by decide +kernel
/-- A code's rune may be written. -/
theorem from_range (c : Nat) (h : c < 256) : 0 ≤ (fromR c).1 ∧ (fromR c).1 ≤ 8482 := by
  cases ho : ownC c with
  | true =>
    rw [from_own ho]
    exact ⟨(by omega : (0 : Int) ≤ (c : Int)), (by omega : (c : Int) ≤ 8482)⟩
  | false =>
    by_cases h2 : c < 128 ∨ 160 ≤ c
    · rw [from_none ho h2]
      exact ⟨(by decide : (0 : Int) ≤ 0), (by decide : (0 : Int) ≤ 8482)⟩
    · obtain ⟨k, rfl⟩ : ∃ k, c = 128 + k := ⟨c - 128, by omega⟩
      rw [from_odd (by omega)]
      exact odd_range k (by omega)
/-- A rune with a code is that code's. -/
theorem to_from {r : Int} (h : (toN r).2 = true) : fromR (toN r).1 = (r, true) := by
  rcases toN_cases r with ⟨ho, e⟩ | ⟨k, hk, hr, h0, _, e⟩ | ⟨_, _, e⟩
  · rw [e]
    have ho' := ho
    rw [own_iff] at ho'
    have hc : ((r.toNat : Nat) : Int) = r := by omega
    rw [from_own (by rw [hc]; exact ho), hc]
  · rw [e, from_odd hk, hr, decide_eq_false h0]; rfl
  · rw [e] at h; cases h
/-- A code with a rune is that rune's. -/
theorem from_to : ∀ c, c < 256 → (fromR c).2 = true → toN (fromR c).1 = (c, true) := by decide +kernel
theorem to_not {r : Int} (h : (toN r).2 = false) : (toN r).1 = 63 := by
  rcases toN_cases r with ⟨_, e⟩ | ⟨k, _, _, _, _, e⟩ | ⟨_, _, e⟩
  · rw [e] at h; cases h
  · rw [e] at h; cases h
  · rw [e]
end Go.Proofs.YtfnkokfkhjdkfaaDoor

/-
  A text's runes as codes, and codes as a text: plain lists of bytes. No program in sight.
-/
namespace Go.Proofs.YtfnkokfkhjdkfaaDoor
open Go Go.Lib

/-- The runes of a text, as Go ranges over it. -/
def runesGo : Nat → List UInt8 → List Int
  | 0, _ => []
  | n + 1, l => if l = [] then [] else ((decodeL l).1 : Int) :: runesGo n (l.drop (decodeL l).2)
def runesL (l : List UInt8) : List Int := runesGo l.length l
theorem runesGo_nil : ∀ n, runesGo n [] = []
  | 0 => rfl
  | _ + 1 => by simp [runesGo]
theorem runesGo_fuel : ∀ (n m : Nat) (l : List UInt8), l.length ≤ n → l.length ≤ m → runesGo n l = runesGo m l
  | 0, m, l, hn, _ => by
    have : l = [] := List.eq_nil_of_length_eq_zero (by omega)
    subst this
    rw [runesGo_nil, runesGo_nil]
  | n + 1, 0, l, _, hm => by
    have : l = [] := List.eq_nil_of_length_eq_zero (by omega)
    subst this
    rw [runesGo_nil, runesGo_nil]
  | n + 1, m + 1, l, hn, hm => by
    by_cases hne : l = []
    · subst hne
      rw [runesGo_nil, runesGo_nil]
    · have hw := decodeL_width l
      have hl : 0 < l.length := List.length_pos_iff.2 hne
      simp only [runesGo, if_neg hne]
      rw [runesGo_fuel n m _ (by rw [List.length_drop]; omega) (by rw [List.length_drop]; omega)]
theorem runesL_nil : runesL [] = [] := rfl
theorem runesL_step (l : List UInt8) (hne : l ≠ []) : runesL l = ((decodeL l).1 : Int) :: runesL (l.drop (decodeL l).2) := by
  have hw := decodeL_width l
  have hl : 0 < l.length := List.length_pos_iff.2 hne
  unfold runesL
  obtain ⟨n, hn⟩ : ∃ n, l.length = n + 1 := ⟨l.length - 1, by omega⟩
  rw [hn]
  simp only [runesGo, if_neg hne]
  rw [runesGo_fuel n _ _ (by rw [List.length_drop]; omega) (Nat.le_refl _)]
theorem runesGo_len : ∀ (n : Nat) (l : List UInt8), (runesGo n l).length ≤ n
  | 0, _ => Nat.le_refl _
  | n + 1, l => by
    unfold runesGo
    split
    · simp
    · rw [List.length_cons]
      have := runesGo_len n (l.drop (decodeL l).2)
      omega
theorem runesL_len (l : List UInt8) : (runesL l).length ≤ l.length := runesGo_len _ _
/-- The runes of a text of runes are these. -/
theorem runesL_bytes : ∀ rs : List Int, (∀ r ∈ rs, okR r) → runesL (bytesR rs) = rs
  | [], _ => rfl
  | r :: rs, h => by
    have ho := h r (List.mem_cons_self ..)
    have hd := dec_enc r ho (bytesR rs)
    have hr : ((r.toNat : Nat) : Int) = r := by unfold okR at ho; omega
    rw [bytesR_cons, runesL_step _ (by simp [enc_ne]), hd, List.drop_left, runesL_bytes rs (fun x hx => h x (List.mem_cons_of_mem _ hx)), hr]

def c8 (r : Int) : UInt8 := UInt8.ofNat (toN r).1
theorem c8_nat (r : Int) : (c8 r).toNat = (toN r).1 := by
  unfold c8
  rw [UInt8.toNat_ofNat']
  exact Nat.mod_eq_of_lt (toN_lt r)
/-- A text's codes. -/
def codesL (l : List UInt8) : List UInt8 := (runesL l).map c8
theorem codesL_nil : codesL [] = [] := rfl
theorem codesL_step (l : List UInt8) (hne : l ≠ []) : codesL l = c8 ((decodeL l).1 : Int) :: codesL (l.drop (decodeL l).2) := by
  unfold codesL; rw [runesL_step l hne]; rfl
theorem codesL_len (l : List UInt8) : (codesL l).length = (runesL l).length := by unfold codesL; rw [List.length_map]
/-- What a code comes to. -/
def sign (b : UInt8) : List UInt8 := if (fromR b.toNat).2 then encodeRune (fromR b.toNat).1 else []
/-- The text of codes. -/
def textL (l : List UInt8) : List UInt8 := l.flatMap sign
theorem textL_cons (b : UInt8) (l : List UInt8) : textL (b :: l) = sign b ++ textL l := rfl
theorem from_ok (c : Nat) (h : c < 256) : okR (fromR c).1 := by
  have := from_range c h
  unfold okR; omega
theorem sign_len (b : UInt8) : (sign b).length ≤ 4 := by
  unfold sign
  have := enc_len (fromR b.toNat).1
  split
  · omega
  · simp
theorem textL_len : ∀ l : List UInt8, (textL l).length ≤ 4 * l.length
  | [] => Nat.le_refl _
  | b :: l => by
    have h1 := sign_len b
    have h2 := textL_len l
    rw [textL_cons, List.length_append, List.length_cons]; omega
/-- A rune that went there and back. -/
def backR (r : Int) : Int := if (toN r).2 then r else 63
theorem from63 : fromR 63 = (63, true) := by decide +kernel
theorem to_back (r : Int) : fromR (toN r).1 = (backR r, true) := by
  unfold backR
  cases h : (toN r).2 with
  | true => rw [to_from h]; rfl
  | false => rw [to_not h, from63]; rfl
theorem back_ok (r : Int) : okR (backR r) := by
  have := from_ok (toN r).1 (toN_lt r)
  rw [to_back] at this
  exact this
theorem sign_c8 (r : Int) : sign (c8 r) = encodeRune (backR r) := by
  unfold sign
  rw [c8_nat, to_back]
  rfl
theorem text_codes : ∀ rs : List Int, textL (rs.map c8) = bytesR (rs.map backR)
  | [] => rfl
  | r :: rs => by
    rw [List.map_cons, textL_cons, sign_c8, text_codes rs, List.map_cons, bytesR_cons]
/-- THERE AND BACK: the runes of the text of a text's codes. -/
theorem runes_back (l : List UInt8) : runesL (textL (codesL l)) = (runesL l).map backR := by
  unfold codesL
  rw [text_codes, runesL_bytes _ (fun r hr => by
    obtain ⟨x, _, rfl⟩ := List.mem_map.1 hr
    exact back_ok x)]
end Go.Proofs.YtfnkokfkhjdkfaaDoor

/-
  Items of spans, as plain lists. No program in sight.
-/
namespace Go.Proofs.YtfnkokfkhjdkfaaDoor
open Go Go.Lib

/-- A span: its kind, text, destination, title, kids. -/
inductive St where
  | mk (k : Int) (t d ti : List UInt8) (ks : List St)
def St.kids : St → List St
  | .mk _ _ _ _ l => l
structure Sty where
  font : Int
  link : Int
  image : Bool

def itBox (sz : Int) (s : Sty) (c : List UInt8) : It := ⟨1, runL s.font sz c, 0, 0, 0, c, s.font, sz, s.link⟩
def itGlue (sz : Int) (s : Sty) : It := ⟨2, advL s.font sz 32, (advL s.font sz 32).tdiv 2, (advL s.font sz 32).tdiv 3, 0, [], 0, 0, 0⟩
def itPen (c : Int) : It := ⟨3, 0, 0, 0, c, [], 0, 0, 0⟩
def endsK (k : Int) (l : List It) : Bool := match l.getLast? with
  | some x => x.kind == k
  | none => false
def glueP (sz : Int) (s : Sty) (l : List It) : List It := if endsK 1 l = true then l ++ [itGlue sz s] else l
def dropG (l : List It) : List It := if endsK 2 l = true then l.dropLast else l
def brkP (l : List It) : List It := if endsK 1 (dropG l) = true then dropG l ++ [itPen (-10000)] else dropG l
def wordP (sz : Int) (s : Sty) (t : List UInt8) (l : List It) : List It := if t = [] then l else l ++ [itBox sz s (codesL t)]
def blankB (b : UInt8) : Prop := b.toNat = 32 ∨ b.toNat = 9 ∨ b.toNat = 10
instance (b : UInt8) : Decidable (blankB b) := by unfold blankB; infer_instance
def txtP (sz : Int) (s : Sty) : List UInt8 → List UInt8 → List It → List It
  | cur, [], its => wordP sz s cur its
  | cur, b :: l, its => if blankB b then txtP sz s [] l (glueP sz s (wordP sz s cur its)) else txtP sz s (cur ++ [b]) l its
def slF (f : Int) : Int := if f = 0 then 2 else if f = 1 then 3 else f
def bdF (f : Int) : Int := if f = 0 then 1 else if f = 2 then 3 else f
mutual
def spnP (sz : Int) : St → Sty → List It × Int → List It × Int
  | .mk k t _ _ ks, s, p =>
    if k = 1 then (txtP sz s [] t p.1, p.2)
    else if k = 2 then (glueP sz s p.1, p.2)
    else if k = 3 then (brkP p.1, p.2)
    else if k = 4 then (txtP sz { s with font := 4 } [] t p.1, p.2)
    else if k = 5 then spnsP sz ks { s with font := slF s.font } p
    else if k = 6 then spnsP sz ks { s with font := bdF s.font } p
    else if k = 7 then (if s.image = true then spnsP sz ks s p else spnsP sz ks { s with link := p.2 } (p.1, p.2 + 1))
    else if k = 8 then spnsP sz ks { s with image := true } p
    else if k = 9 then (txtP sz { s with font := 4 } [] t p.1, p.2)
    else p
def spnsP (sz : Int) : List St → Sty → List It × Int → List It × Int
  | [], _, p => p
  | x :: l, s, p => spnsP sz l s (spnP sz x s p)
end
/-- The items of spans, and the next link's number. -/
def makeL (l : List St) (f sz link : Int) : List It × Int := (dropG (spnsP sz l ⟨f, 0, false⟩ ([], link)).1, (spnsP sz l ⟨f, 0, false⟩ ([], link)).2)
mutual
/-- How much spans are: ten each, and their texts. -/
def wS : St → Nat
  | .mk _ t _ _ ks => 10 + t.length + wL ks
def wL : List St → Nat
  | [] => 0
  | x :: l => wS x + wL l
end
theorem glue_len (sz : Int) (s : Sty) (l : List It) : (glueP sz s l).length ≤ l.length + 1 := by
  unfold glueP
  split <;> simp
theorem word_len (sz : Int) (s : Sty) (t : List UInt8) (l : List It) : (wordP sz s t l).length ≤ l.length + 1 := by
  unfold wordP
  split <;> simp
theorem drop_len (l : List It) : (dropG l).length ≤ l.length := by
  unfold dropG
  split <;> simp
theorem brk_len (l : List It) : (brkP l).length ≤ l.length + 1 := by
  have := drop_len l
  unfold brkP
  split <;> simp <;> omega
theorem txt_len (sz : Int) (s : Sty) : ∀ (l cur : List UInt8) (its : List It), (txtP sz s cur l its).length ≤ its.length + 1 + 2 * l.length
  | [], cur, its => by
    unfold txtP
    have := word_len sz s cur its
    simp; omega
  | b :: l, cur, its => by
    have h1 := word_len sz s cur its
    have h2 := glue_len sz s (wordP sz s cur its)
    have h3 := txt_len sz s l [] (glueP sz s (wordP sz s cur its))
    have h4 := txt_len sz s l (cur ++ [b]) its
    unfold txtP
    rw [List.length_cons]
    split <;> omega
mutual
theorem spn_len (sz : Int) : ∀ (x : St) (s : Sty) (p : List It × Int), (spnP sz x s p).1.length ≤ p.1.length + 2 * wS x ∧ p.2 ≤ (spnP sz x s p).2 ∧ (spnP sz x s p).2 ≤ p.2 + wS x
  | .mk k t _ _ ks, s, p => by
    have a1 := txt_len sz s t [] p.1
    have a2 := txt_len sz { s with font := 4 } t [] p.1
    have a3 := glue_len sz s p.1
    have a4 := brk_len p.1
    have b1 := spns_len sz ks { s with font := slF s.font } p
    have b2 := spns_len sz ks { s with font := bdF s.font } p
    have b3 := spns_len sz ks s p
    have b4 := spns_len sz ks { s with link := p.2 } (p.1, p.2 + 1)
    have b5 := spns_len sz ks { s with image := true } p
    simp only at b4
    rw [spnP, wS]
    repeat' split
    all_goals first | (refine ⟨?_, ?_, ?_⟩ <;> simp only <;> omega) | omega
theorem spns_len (sz : Int) : ∀ (l : List St) (s : Sty) (p : List It × Int), (spnsP sz l s p).1.length ≤ p.1.length + 2 * wL l ∧ p.2 ≤ (spnsP sz l s p).2 ∧ (spnsP sz l s p).2 ≤ p.2 + wL l
  | [], s, p => by rw [spnsP, wL]; omega
  | x :: l, s, p => by
    have h1 := spn_len sz x s p
    have h2 := spns_len sz l s (spnP sz x s p)
    rw [spnsP, wL]
    omega
end
end Go.Proofs.YtfnkokfkhjdkfaaDoor

/-
  Comparisons of numbers, told ahead; by no layer.
-/
namespace Go.Proofs.YtfnkokfkhjdkfaaDoor
open Go

theorem beqT {x y : Int} (h : x = y) : (x == y) = true := beq_iff_eq.2 h
theorem beqF {x y : Int} (h : ¬ x = y) : (x == y) = false := beq_eq_false_iff_ne.2 h
end Go.Proofs.YtfnkokfkhjdkfaaDoor

/-
  What follows of items of spans: no glue stands first, last, or beside another one or a penalty; no box has a blank. Plain lists; no program in sight.
-/
namespace Go.Proofs.YtfnkokfkhjdkfaaDoor
open Go Go.Lib

/-- Whatever is no box stands behind a box; glues are wide; boxes have codes, none of them a blank. -/
structure Gd (l : List It) : Prop where
  kind : ∀ x ∈ l, x.kind = 1 ∨ x.kind = 2 ∨ x.kind = 3
  back : ∀ i (h : i < l.length), l[i].kind ≠ 1 → 0 < i ∧ ∃ y, l[i - 1]? = some y ∧ y.kind = 1
  wide : ∀ x ∈ l, x.kind = 2 → 3 ≤ x.width
  full : ∀ x ∈ l, x.kind = 1 → x.codes ≠ [] ∧ ∀ b ∈ x.codes, b ≠ 32
theorem Gd.nil : Gd [] := ⟨(fun x h => by cases h), (fun i h => absurd h (Nat.not_lt_zero i)), (fun x h => by cases h), (fun x h => by cases h)⟩
theorem ends_some {k : Int} {l : List It} (h : endsK k l = true) : ∃ y, l[l.length - 1]? = some y ∧ y.kind = k := by
  unfold endsK at h
  rw [List.getLast?_eq_getElem?] at h
  cases e : l[l.length - 1]? with
  | none => rw [e] at h; cases h
  | some y => rw [e] at h; exact ⟨y, rfl, by simpa using h⟩
theorem ends_len {k : Int} {l : List It} (h : endsK k l = true) : 0 < l.length := by
  cases l with
  | nil => cases h
  | cons x l => simp
/-- One more behind. -/
theorem Gd.snoc {l : List It} {x : It} (h : Gd l) (hk : x.kind = 1 ∨ x.kind = 2 ∨ x.kind = 3) (hb : x.kind = 1 ∨ endsK 1 l = true) (hw : x.kind = 2 → 3 ≤ x.width) (hf : x.kind = 1 → x.codes ≠ [] ∧ ∀ b ∈ x.codes, b ≠ 32) : Gd (l ++ [x]) := by
  refine ⟨fun y hy => ?_, fun i hi hn => ?_, fun y hy => ?_, fun y hy => ?_⟩
  · rcases List.mem_append.1 hy with hy | hy
    · exact h.kind y hy
    · rw [List.mem_singleton] at hy; subst hy; exact hk
  · by_cases hil : i < l.length
    · rw [List.getElem_append_left hil] at hn
      obtain ⟨h0, y, e, ey⟩ := h.back i hil hn
      exact ⟨h0, y, by rw [List.getElem?_append_left (by omega)]; exact e, ey⟩
    · have e : i = l.length := by rw [List.length_append, List.length_singleton] at hi; omega
      subst e
      simp only [List.getElem_append_right (Nat.le_refl _), Nat.sub_self, List.getElem_singleton] at hn
      rcases hb with hb | hb
      · exact absurd hb hn
      · obtain ⟨y, e, ey⟩ := ends_some hb
        have := ends_len hb
        exact ⟨this, y, by rw [List.getElem?_append_left (by omega)]; exact e, ey⟩
  · rcases List.mem_append.1 hy with hy | hy
    · exact h.wide y hy
    · rw [List.mem_singleton] at hy; subst hy; exact hw
  · rcases List.mem_append.1 hy with hy | hy
    · exact h.full y hy
    · rw [List.mem_singleton] at hy; subst hy; exact hf
theorem Gd.dropLast {l : List It} (h : Gd l) : Gd l.dropLast := by
  refine ⟨fun y hy => h.kind y (List.dropLast_subset l hy), fun i hi hn => ?_, fun y hy => h.wide y (List.dropLast_subset l hy), fun y hy => h.full y (List.dropLast_subset l hy)⟩
  rw [List.length_dropLast] at hi
  rw [List.getElem_dropLast] at hn
  obtain ⟨h0, y, e, ey⟩ := h.back i (by omega) hn
  exact ⟨h0, y, by rw [List.getElem?_dropLast, if_pos (by omega)]; exact e, ey⟩
theorem Gd.dropG {l : List It} (h : Gd l) : Gd (dropG l) := by
  unfold Go.Proofs.YtfnkokfkhjdkfaaDoor.dropG
  split
  · exact h.dropLast
  · exact h
theorem glue_wide {sz : Int} (s : Sty) (h : 4000 ≤ sz) (h2 : sz ≤ 2147483648) : 3 ≤ (itGlue sz s).width := by
  show 3 ≤ advL s.font sz 32
  rw [adv_div (by decide) (by omega)]
  have := mul_range (f := s.font) (c := 32) (by decide) (show (0 : Int) ≤ sz by omega)
  omega
theorem Gd.glue {sz : Int} {s : Sty} {l : List It} (h : Gd l) (h1 : 4000 ≤ sz) (h2 : sz ≤ 2147483648) : Gd (glueP sz s l) := by
  unfold glueP
  split
  · rename_i e
    exact h.snoc (.inr (.inl rfl)) (.inr e) (fun _ => glue_wide s h1 h2) (fun q => by cases q)
  · exact h
theorem Gd.brk {l : List It} (h : Gd l) : Gd (brkP l) := by
  unfold brkP
  split
  · rename_i e
    exact h.dropG.snoc (.inr (.inr rfl)) (.inr e) (fun q => by cases q) (fun q => by cases q)
  · exact h.dropG
end Go.Proofs.YtfnkokfkhjdkfaaDoor

/-
  Items of spans have these traits. Plain lists; no program in sight.
-/
namespace Go.Proofs.YtfnkokfkhjdkfaaDoor
open Go Go.Lib

theorem dec_blank (l : List UInt8) (h : (decodeL l).1 = 32) : (l.getD 0 0).toNat = 32 := by
  rw [decodeL_N] at h
  unfold decodeN at h
  repeat' split at h
  all_goals first
    | exact h
    | (exfalso; simp only at h; omega)
theorem runes_blank : ∀ (n : Nat) (l : List UInt8), (32 : Int) ∈ runesGo n l → (32 : UInt8) ∈ l
  | 0, l, h => by simp [runesGo] at h
  | n + 1, l, h => by
    unfold runesGo at h
    split at h
    · cases h
    · rename_i hne
      rcases List.mem_cons.1 h with e | e
      · have h32 := dec_blank l (by omega)
        cases l with
        | nil => exact absurd rfl hne
        | cons b t =>
          have : b.toNat = 32 := by simpa using h32
          have hb : b = 32 := UInt8.toNat.inj this
          subst hb
          exact List.mem_cons_self ..
      · exact List.mem_of_mem_drop (runes_blank n _ e)
theorem c8_blank {r : Int} (h : c8 r = 32) : r = 32 := by
  have e : (toN r).1 = 32 := by rw [← c8_nat, h]; rfl
  rcases toN_cases r with ⟨ho, e1⟩ | ⟨k, hk, _, _, _, e1⟩ | ⟨_, _, e1⟩
  · rw [e1] at e
    rw [own_iff] at ho
    simp only at e
    omega
  · rw [e1] at e; simp only at e; omega
  · rw [e1] at e; simp only at e; omega
theorem codes_blank {t : List UInt8} (h : ∀ b ∈ t, ¬ blankB b) : ∀ b ∈ codesL t, b ≠ 32 := by
  intro b hb e
  subst e
  unfold codesL at hb
  obtain ⟨r, hr, e⟩ := List.mem_map.1 hb
  have := c8_blank e
  subst this
  exact h 32 (runes_blank _ _ hr) (by unfold blankB; decide)
theorem codes_some {t : List UInt8} (h : t ≠ []) : codesL t ≠ [] := by rw [codesL_step t h]; simp
theorem Gd.word {sz : Int} {s : Sty} {t : List UInt8} {l : List It} (h : Gd l) (ht : ∀ b ∈ t, ¬ blankB b) : Gd (wordP sz s t l) := by
  unfold wordP
  split
  · exact h
  · rename_i hn
    exact h.snoc (.inl rfl) (.inl rfl) (fun q => by cases q) (fun _ => ⟨codes_some hn, codes_blank ht⟩)
theorem Gd.txt {sz : Int} {s : Sty} (h1 : 4000 ≤ sz) (h2 : sz ≤ 2147483648) : ∀ (t cur : List UInt8) {l : List It}, Gd l → (∀ b ∈ cur, ¬ blankB b) → Gd (txtP sz s cur t l)
  | [], cur, l, h, hc => by rw [txtP]; exact h.word hc
  | b :: t, cur, l, h, hc => by
    rw [txtP]
    split
    · exact Gd.txt h1 h2 t [] ((h.word hc).glue h1 h2) (fun x hx => by cases hx)
    · rename_i hb
      exact Gd.txt h1 h2 t (cur ++ [b]) h (fun x hx => by
        rcases List.mem_append.1 hx with hx | hx
        · exact hc x hx
        · rw [List.mem_singleton] at hx; subst hx; exact hb)
mutual
theorem Gd.spn {sz : Int} (h1 : 4000 ≤ sz) (h2 : sz ≤ 2147483648) : ∀ (x : St) (s : Sty) (p : List It × Int), Gd p.1 → Gd (spnP sz x s p).1
  | .mk k t _ _ ks, s, p, h => by
    rw [spnP]
    repeat' split
    all_goals first
      | exact Gd.txt h1 h2 t [] h (fun x hx => by cases hx)
      | exact h.glue h1 h2
      | exact h.brk
      | exact Gd.spns h1 h2 ks _ _ h
      | exact h
theorem Gd.spns {sz : Int} (h1 : 4000 ≤ sz) (h2 : sz ≤ 2147483648) : ∀ (l : List St) (s : Sty) (p : List It × Int), Gd p.1 → Gd (spnsP sz l s p).1
  | [], s, p, h => by rw [spnsP]; exact h
  | x :: l, s, p, h => by
    rw [spnsP]
    exact Gd.spns h1 h2 l s _ (Gd.spn h1 h2 x s p h)
end
theorem Gd.make {sz f lk : Int} (h1 : 4000 ≤ sz) (h2 : sz ≤ 2147483648) (l : List St) : Gd (makeL l f sz lk).1 := by
  unfold makeL
  exact (Gd.spns h1 h2 l _ _ Gd.nil).dropG
/-- No item has more codes than so many. -/
def Sh (M : Nat) (l : List It) : Prop := ∀ x ∈ l, x.codes.length ≤ M
theorem Sh.snoc {M : Nat} {l : List It} {x : It} (h : Sh M l) (hx : x.codes.length ≤ M) : Sh M (l ++ [x]) := fun y hy => by
  rcases List.mem_append.1 hy with hy | hy
  · exact h y hy
  · rw [List.mem_singleton] at hy; subst hy; exact hx
theorem Sh.dropG {M : Nat} {l : List It} (h : Sh M l) : Sh M (dropG l) := by
  unfold Go.Proofs.YtfnkokfkhjdkfaaDoor.dropG
  split
  · exact fun y hy => h y (List.dropLast_subset l hy)
  · exact h
theorem Sh.glue {M : Nat} {sz : Int} {s : Sty} {l : List It} (h : Sh M l) : Sh M (glueP sz s l) := by
  unfold glueP
  split
  · exact h.snoc (Nat.zero_le _)
  · exact h
theorem Sh.brk {M : Nat} {l : List It} (h : Sh M l) : Sh M (brkP l) := by
  unfold brkP
  split
  · exact h.dropG.snoc (Nat.zero_le _)
  · exact h.dropG
theorem codes_le (t : List UInt8) : (codesL t).length ≤ t.length := Nat.le_trans (Nat.le_of_eq (codesL_len t)) (runesGo_len _ _)
theorem Sh.word {M : Nat} {sz : Int} {s : Sty} {t : List UInt8} {l : List It} (h : Sh M l) (ht : t.length ≤ M) : Sh M (wordP sz s t l) := by
  unfold wordP
  split
  · exact h
  · exact h.snoc (Nat.le_trans (codes_le t) ht)
theorem Sh.txt {M : Nat} {sz : Int} {s : Sty} : ∀ (t cur : List UInt8) {l : List It}, Sh M l → cur.length + t.length ≤ M → Sh M (txtP sz s cur t l)
  | [], cur, l, h, hc => by rw [txtP]; exact h.word (by simpa using hc)
  | b :: t, cur, l, h, hc => by
    rw [List.length_cons] at hc
    rw [txtP]
    split
    · exact Sh.txt t [] (h.word (by omega)).glue (by simp; omega)
    · exact Sh.txt t (cur ++ [b]) h (by simp; omega)
mutual
theorem Sh.spn {M : Nat} {sz : Int} : ∀ (x : St) (s : Sty) (p : List It × Int), Sh M p.1 → wS x ≤ M → Sh M (spnP sz x s p).1
  | .mk k t _ _ ks, s, p, h, hM => by
    rw [wS] at hM
    rw [spnP]
    repeat' split
    all_goals first
      | exact Sh.txt t [] h (by simp; omega)
      | exact h.glue
      | exact h.brk
      | exact Sh.spns ks _ _ h (by omega)
      | exact h
theorem Sh.spns {M : Nat} {sz : Int} : ∀ (l : List St) (s : Sty) (p : List It × Int), Sh M p.1 → wL l ≤ M → Sh M (spnsP sz l s p).1
  | [], s, p, h, _ => by rw [spnsP]; exact h
  | x :: l, s, p, h, hM => by
    rw [wL] at hM
    rw [spnsP]
    exact Sh.spns l s _ (Sh.spn x s p h (by omega)) (by omega)
end
theorem Sh.make {M : Nat} {sz f lk : Int} (l : List St) (h : wL l ≤ M) : Sh M (makeL l f sz lk).1 := by
  unfold makeL
  exact (Sh.spns l _ _ (fun x hx => by cases hx) h).dropG
/-- No glue stands last. -/
theorem drop_ends (l : List It) (h : Gd l) : endsK 2 (dropG l) = false := by
  unfold dropG
  split
  · rename_i e
    cases e2 : endsK 2 l.dropLast with
    | false => rfl
    | true =>
      obtain ⟨y, hy, ky⟩ := ends_some e
      have hl := ends_len e
      have hd := ends_len e2
      obtain ⟨z, hz, kz⟩ := ends_some e2
      rw [List.length_dropLast] at hd hz
      rw [List.getElem?_dropLast, if_pos (by omega)] at hz
      obtain ⟨hi, ey⟩ := List.getElem?_eq_some_iff.1 hy
      obtain ⟨_, q, hq, kq⟩ := h.back (l.length - 1) hi (by rw [ey, ky]; decide)
      rw [hz] at hq
      injection hq with hq
      subst hq
      rw [kz] at kq
      cases kq
  · rename_i e
    simpa using e
end Go.Proofs.YtfnkokfkhjdkfaaDoor

/-
  Badness and Demerits, as plain numbers. No program in sight.
-/
namespace Go.Proofs.YtfnkokfkhjdkfaaDoor
open Go

def clamp (n a b : Int) : Int := if n < a then a else if b < n then b else n
/-- The r of Badness's promise. -/
def badR (t s : Int) : Nat := 297 * t.natAbs / s.natAbs
def badV (r : Int) : Int := (r * r * r + 131072) / 262144
def bad (t s : Int) : Int := if t = 0 then 0 else if s ≤ 0 then 10000 else if t = -9223372036854775808 then 10000 else if 1290 < badR t s then 10000 else badV (badR t s)
theorem bad_0 (s : Int) : bad 0 s = 0 := by unfold bad; rw [if_pos rfl]
theorem bad_s {t s : Int} (h : ¬ t = 0) (hs : s ≤ 0) : bad t s = 10000 := by unfold bad; rw [if_neg h, if_pos hs]
theorem bad_m {t s : Int} (h : t = -9223372036854775808) : bad t s = 10000 := by
  unfold bad; rw [if_neg (by omega)]
  by_cases hs : s ≤ 0
  · rw [if_pos hs]
  · rw [if_neg hs, if_pos h]
theorem bad_far {t s : Int} (h : ¬ t = 0) (hr : 1290 < badR t s) : bad t s = 10000 := by
  unfold bad; rw [if_neg h]
  by_cases hs : s ≤ 0
  · rw [if_pos hs]
  · rw [if_neg hs]
    by_cases hm : t = -9223372036854775808
    · rw [if_pos hm]
    · rw [if_neg hm, if_pos hr]
theorem bad_near {t s : Int} (h : ¬ t = 0) (hs : ¬ s ≤ 0) (hm : ¬ t = -9223372036854775808) (hr : ¬ 1290 < badR t s) : bad t s = badV (badR t s) := by
  unfold bad; rw [if_neg h, if_neg hs, if_neg hm, if_neg hr]
theorem cube_in (r : Int) (h0 : 0 ≤ r) (h1 : r ≤ 1290) : 0 ≤ r * r ∧ r * r ≤ 1664100 ∧ 0 ≤ r * r * r ∧ r * r * r ≤ 2146689000 := by
  have a := Int.mul_le_mul h1 h1 h0 (by omega)
  have b := Int.mul_nonneg h0 h0
  have c := Int.mul_le_mul a h1 h0 (by omega)
  exact ⟨b, by omega, Int.mul_nonneg b h0, by omega⟩

def demB (b : Int) : Int := 10 + clamp b 0 10000
def dem (b c : Int) : Int := if clamp c (-10000) 10000 = -10000 then demB b * demB b else if clamp c (-10000) 10000 < 0 then demB b * demB b - clamp c (-10000) 10000 * clamp c (-10000) 10000 else demB b * demB b + clamp c (-10000) 10000 * clamp c (-10000) 10000
theorem clamp_bd (n a b : Int) (h : a ≤ b) : a ≤ clamp n a b ∧ clamp n a b ≤ b := by unfold clamp; split <;> (try split) <;> omega
theorem sq_bd (x m : Int) (h0 : -m ≤ x) (h1 : x ≤ m) : 0 ≤ x * x ∧ x * x ≤ m * m := by
  refine ⟨by rcases Int.le_total 0 x with h | h; exact Int.mul_nonneg h h; exact Int.mul_nonneg_of_nonpos_of_nonpos h h, ?_⟩
  rcases Int.le_total 0 x with h | h
  · exact Int.mul_le_mul h1 h1 h (by omega)
  · have := Int.mul_le_mul (show -x ≤ m by omega) (show -x ≤ m by omega) (by omega) (by omega)
    rwa [Int.neg_mul_neg] at this
end Go.Proofs.YtfnkokfkhjdkfaaDoor

/-
  The document's maker, as plain functions, and that its items are Make's: an image's text is set as without links, and its boxes get the link behind it.
-/
namespace Go.Proofs.YtfnkokfkhjdkfaaDoor
open Go Go.Lib

/-- The boxes from n on get a link. -/
def relB (lk : Int) (x : It) : It := if x.kind = 1 then { x with link := lk } else x
def relL (n : Nat) (lk : Int) (l : List It) : List It := l.take n ++ (l.drop n).map (relB lk)
mutual
def rS (sz : Int) : St → Int → Int → List It × Int → List It × Int
  | .mk k t _ _ ks, f, lk, p =>
    if k = 1 then (txtP sz ⟨f, max 0 lk, false⟩ [] t p.1, p.2)
    else if k = 2 then (glueP sz ⟨f, 0, false⟩ p.1, p.2)
    else if k = 3 then (brkP p.1, p.2)
    else if k = 4 then (txtP sz ⟨4, max 0 lk, false⟩ [] t p.1, p.2)
    else if k = 5 then rL sz ks (slF f) lk p
    else if k = 6 then rL sz ks (bdF f) lk p
    else if k = 7 then (if lk < 0 then rL sz ks f lk p else rL sz ks f p.2 (p.1, p.2 + 1))
    else if k = 8 then (if 0 < lk then (relL p.1.length lk (rL sz ks f (-1) p).1, (rL sz ks f (-1) p).2) else rL sz ks f (-1) p)
    else if k = 9 then (txtP sz ⟨4, max 0 lk, false⟩ [] t p.1, p.2)
    else p
def rL (sz : Int) : List St → Int → Int → List It × Int → List It × Int
  | [], _, _, p => p
  | x :: l, f, lk, p => rL sz l f lk (rS sz x f lk p)
end
/-- What text makes hangs on font and link alone. -/
theorem word_img (sz : Int) (f lk : Int) (a b : Bool) (t : List UInt8) (l : List It) : wordP sz ⟨f, lk, a⟩ t l = wordP sz ⟨f, lk, b⟩ t l := rfl
theorem glue_img (sz : Int) (f u v : Int) (a b : Bool) (l : List It) : glueP sz ⟨f, u, a⟩ l = glueP sz ⟨f, v, b⟩ l := rfl
theorem txt_img (sz : Int) (f lk : Int) (a b : Bool) : ∀ (t cur : List UInt8) (l : List It), txtP sz ⟨f, lk, a⟩ cur t l = txtP sz ⟨f, lk, b⟩ cur t l
  | [], cur, l => rfl
  | x :: t, cur, l => by
    rw [txtP, txtP, word_img sz f lk a b, glue_img sz f lk lk a b, txt_img sz f lk a b t [], txt_img sz f lk a b t (cur ++ [x])]
mutual
/-- In an image's text. -/
theorem rS_img (sz : Int) : ∀ (x : St) (f : Int) (p : List It × Int), rS sz x f (-1) p = spnP sz x ⟨f, 0, true⟩ p
  | .mk k t _ _ ks, f, p => by
    have e0 : max (0 : Int) (-1) = 0 := rfl
    rw [rS, spnP]
    simp only [e0, rL_img sz ks, txt_img sz _ 0 false true, glue_img sz f 0 0 false true]
    simp
theorem rL_img (sz : Int) : ∀ (l : List St) (f : Int) (p : List It × Int), rL sz l f (-1) p = spnsP sz l ⟨f, 0, true⟩ p
  | [], f, p => by rw [rL, spnsP]
  | x :: l, f, p => by rw [rL, spnsP, rS_img sz x f p, rL_img sz l f _]
end
end Go.Proofs.YtfnkokfkhjdkfaaDoor

/-
  An image's text: its boxes get the link behind it, or as they are made: the same items.
-/
namespace Go.Proofs.YtfnkokfkhjdkfaaDoor
open Go Go.Lib

/-- A glue at the end stands behind a box. -/
def Pre (l : List It) : Prop := endsK 2 l = true → endsK 1 l.dropLast = true
theorem endsK_snoc (k : Int) (l : List It) (x : It) : endsK k (l ++ [x]) = (x.kind == k) := by
  unfold endsK
  rw [List.getLast?_concat]
theorem rel_kind (lk : Int) (x : It) : (relB lk x).kind = x.kind := by
  unfold relB
  split <;> rfl
theorem rel_snoc (n : Nat) (lk : Int) (l : List It) (x : It) (h : n ≤ l.length) : relL n lk (l ++ [x]) = relL n lk l ++ [relB lk x] := by
  unfold relL
  rw [List.take_append_of_le_length h, List.drop_append_of_le_length h, List.map_append, List.append_assoc]
  rfl
theorem rel_short (n : Nat) (lk : Int) (l : List It) (h : l.length ≤ n) : relL n lk l = l := by
  unfold relL
  rw [List.take_of_length_le h, List.drop_eq_nil_of_le h]
  simp
theorem rel_other (n : Nat) (lk : Int) (l : List It) (x : It) (h : x.kind ≠ 1) : relL n lk (l ++ [x]) = relL n lk l ++ [x] := by
  have e : relB lk x = x := by unfold relB; rw [if_neg h]
  rcases Nat.lt_or_ge l.length n with q | q
  · rw [rel_short n lk l (by omega), rel_short n lk _ (by simp; omega)]
  · rw [rel_snoc n lk l x q, e]
theorem rel_len (n : Nat) (lk : Int) (l : List It) : (relL n lk l).length = l.length := by
  unfold relL
  rw [List.length_append, List.length_map, ← List.length_append, List.take_append_drop]
theorem rel_last (n : Nat) (lk : Int) (l : List It) (x : It) : ∃ y, relL n lk (l ++ [x]) = relL n lk l ++ [y] ∧ y.kind = x.kind := by
  rcases Nat.lt_or_ge l.length n with q | q
  · exact ⟨x, by rw [rel_short n lk l (by omega), rel_short n lk _ (by simp; omega)], rfl⟩
  · exact ⟨_, rel_snoc n lk l x q, rel_kind lk x⟩
theorem rel_ends (n : Nat) (lk k : Int) (l : List It) : endsK k (relL n lk l) = endsK k l := by
  rcases List.eq_nil_or_concat l with rfl | ⟨m, x, rfl⟩
  · simp [relL]
  · rw [List.concat_eq_append]
    obtain ⟨y, e, hy⟩ := rel_last n lk m x
    rw [e, endsK_snoc, endsK_snoc, hy]
theorem rel_dropLast (n : Nat) (lk : Int) (l : List It) : (relL n lk l).dropLast = relL n lk l.dropLast := by
  rcases List.eq_nil_or_concat l with rfl | ⟨m, x, rfl⟩
  · simp [relL]
  · rw [List.concat_eq_append]
    obtain ⟨y, e, _⟩ := rel_last n lk m x
    rw [e, List.dropLast_concat, List.dropLast_concat]
theorem rel_dropG (n : Nat) (lk : Int) (l : List It) : dropG (relL n lk l) = relL n lk (dropG l) := by
  unfold dropG
  rw [rel_ends]
  split
  · exact rel_dropLast n lk l
  · rfl
theorem rel_brk (n : Nat) (lk : Int) (l : List It) : brkP (relL n lk l) = relL n lk (brkP l) := by
  unfold brkP
  rw [rel_dropG, rel_ends]
  split
  · rw [rel_other n lk _ _ (by simp [itPen])]
  · rfl
theorem rel_glue (sz : Int) (s u : Sty) (hf : s.font = u.font) (n : Nat) (lk : Int) (l : List It) : glueP sz s (relL n lk l) = relL n lk (glueP sz u l) := by
  unfold glueP
  rw [rel_ends]
  split
  · rw [rel_other n lk _ _ (by simp [itGlue])]
    unfold itGlue
    rw [hf]
  · rfl
theorem rel_word (sz f lk : Int) (a : Bool) (t : List UInt8) (n : Nat) (l : List It) (h : n ≤ l.length) : wordP sz ⟨f, lk, a⟩ t (relL n lk l) = relL n lk (wordP sz ⟨f, 0, a⟩ t l) := by
  unfold wordP
  split
  · rfl
  · rw [rel_snoc n lk l _ h]
    rfl
theorem glue_ge (sz : Int) (s : Sty) (l : List It) : l.length ≤ (glueP sz s l).length := by
  unfold glueP
  split
  · simp
  · exact Nat.le_refl _
theorem word_ge (sz : Int) (s : Sty) (t : List UInt8) (l : List It) : l.length ≤ (wordP sz s t l).length := by
  unfold wordP
  split
  · exact Nat.le_refl _
  · simp
theorem Pre.word {sz : Int} {s : Sty} {t : List UInt8} {l : List It} (h : Pre l) : Pre (wordP sz s t l) := by
  unfold wordP
  split
  · exact h
  · intro e
    rw [endsK_snoc] at e
    simp [itBox] at e
theorem Pre.glue {sz : Int} {s : Sty} {l : List It} (h : Pre l) : Pre (glueP sz s l) := by
  unfold glueP
  split
  · rename_i q
    intro _
    rw [List.dropLast_concat]
    exact q
  · exact h
theorem brk_pre {l : List It} (h : Pre l) : Pre (brkP l) ∧ l.length ≤ (brkP l).length := by
  unfold brkP dropG
  by_cases q : endsK 2 l = true
  · rw [if_pos q, if_pos (h q)]
    refine ⟨fun e => ?_, ?_⟩
    · rw [endsK_snoc] at e
      simp [itPen] at e
    · rw [List.length_append, List.length_dropLast]; simp; omega
  · rw [if_neg q]
    split
    · refine ⟨fun e => ?_, by simp⟩
      rw [endsK_snoc] at e
      simp [itPen] at e
    · exact ⟨h, Nat.le_refl _⟩
theorem txt_pre (sz : Int) (s : Sty) : ∀ (t cur : List UInt8) (l : List It), Pre l → Pre (txtP sz s cur t l) ∧ l.length ≤ (txtP sz s cur t l).length
  | [], cur, l, h => by rw [txtP]; exact ⟨h.word, word_ge sz s cur l⟩
  | b :: t, cur, l, h => by
    rw [txtP]
    split
    · have h1 := word_ge sz s cur l
      have h2 := glue_ge sz s (wordP sz s cur l)
      have h3 := txt_pre sz s t [] (glueP sz s (wordP sz s cur l)) h.word.glue
      exact ⟨h3.1, by omega⟩
    · exact txt_pre sz s t (cur ++ [b]) l h
theorem rel_txt (sz f lk : Int) (a : Bool) (n : Nat) : ∀ (t cur : List UInt8) (l : List It), n ≤ l.length → txtP sz ⟨f, lk, a⟩ cur t (relL n lk l) = relL n lk (txtP sz ⟨f, 0, a⟩ cur t l)
  | [], cur, l, h => by rw [txtP, txtP]; exact rel_word sz f lk a cur n l h
  | b :: t, cur, l, h => by
    have h1 := word_ge sz ⟨f, 0, a⟩ cur l
    have h2 := glue_ge sz ⟨f, 0, a⟩ (wordP sz ⟨f, 0, a⟩ cur l)
    rw [txtP, txtP, rel_word sz f lk a cur n l h, rel_glue sz ⟨f, lk, a⟩ ⟨f, 0, a⟩ rfl, rel_txt sz f lk a n t [] _ (by omega), rel_txt sz f lk a n t (cur ++ [b]) l h]
    split <;> rfl
mutual
theorem spn_pre (sz : Int) : ∀ (x : St) (s : Sty) (p : List It × Int), Pre p.1 → Pre (spnP sz x s p).1 ∧ p.1.length ≤ (spnP sz x s p).1.length
  | .mk k t _ _ ks, s, p, h => by
    rw [spnP]
    repeat' split
    all_goals first
      | exact txt_pre sz _ t [] p.1 h
      | exact ⟨h.glue, glue_ge sz s p.1⟩
      | exact brk_pre h
      | exact spns_pre sz ks _ _ h
      | exact ⟨h, Nat.le_refl _⟩
theorem spns_pre (sz : Int) : ∀ (l : List St) (s : Sty) (p : List It × Int), Pre p.1 → Pre (spnsP sz l s p).1 ∧ p.1.length ≤ (spnsP sz l s p).1.length
  | [], s, p, h => by rw [spnsP]; exact ⟨h, Nat.le_refl _⟩
  | x :: l, s, p, h => by
    have h1 := spn_pre sz x s p h
    have h2 := spns_pre sz l s _ h1.1
    rw [spnsP]
    exact ⟨h2.1, Nat.le_trans h1.2 h2.2⟩
end
mutual
/-- An image's text with a link from the first: the link given behind it. -/
theorem rel_spn (sz lk : Int) (n : Nat) : ∀ (x : St) (f : Int) (p : List It × Int), n ≤ p.1.length → Pre p.1 → spnP sz x ⟨f, lk, true⟩ (relL n lk p.1, p.2) = (relL n lk (spnP sz x ⟨f, 0, true⟩ p).1, (spnP sz x ⟨f, 0, true⟩ p).2)
  | .mk k t _ _ ks, f, p, h, hp => by
    rw [spnP, spnP]
    simp only [if_pos]
    repeat' split
    all_goals first
      | (rw [rel_txt sz _ lk true n t [] p.1 h])
      | (rw [rel_glue sz ⟨f, lk, true⟩ ⟨f, 0, true⟩ rfl])
      | (rw [rel_brk])
      | (exact rel_spns sz lk n ks _ p h hp)
      | rfl
theorem rel_spns (sz lk : Int) (n : Nat) : ∀ (l : List St) (f : Int) (p : List It × Int), n ≤ p.1.length → Pre p.1 → spnsP sz l ⟨f, lk, true⟩ (relL n lk p.1, p.2) = (relL n lk (spnsP sz l ⟨f, 0, true⟩ p).1, (spnsP sz l ⟨f, 0, true⟩ p).2)
  | [], f, p, h, hp => by rw [spnsP, spnsP]
  | x :: l, f, p, h, hp => by
    have q := spn_pre sz x ⟨f, 0, true⟩ p hp
    rw [spnsP, spnsP, rel_spn sz lk n x f p h hp]
    exact rel_spns sz lk n l f _ (Nat.le_trans h q.2) q.1
end
theorem rel_image (sz lk f : Int) (l : List St) (p : List It × Int) (hp : Pre p.1) : spnsP sz l ⟨f, lk, true⟩ p = (relL p.1.length lk (spnsP sz l ⟨f, 0, true⟩ p).1, (spnsP sz l ⟨f, 0, true⟩ p).2) := by
  have h := rel_spns sz lk p.1.length l f p (Nat.le_refl _) hp
  rw [rel_short _ _ _ (Nat.le_refl _)] at h
  exact h
end Go.Proofs.YtfnkokfkhjdkfaaDoor

