/-
  Texts of the proof, one behind the other: Nmt, Nmu, Trg.
-/
import Derived.Test.YtfgpephpkibbaaaGreatDoorQ2
import Derived.Lib.IndexBytes
/-
  Plain lists of bytes: names, references, signs behind a \. No program in sight.
-/
namespace Go.Proofs.YtfgpephpkibbaaaGreatDoor
open Go Go.Lib

/-! ### Names -/
/-- The names of the runes from 160 to 255. -/
def latinNames : List (List UInt8) := [[110, 98, 115, 112], [105, 101, 120, 99, 108], [99, 101, 110, 116], [112, 111, 117, 110, 100], [99, 117, 114, 114, 101, 110], [121, 101, 110], [98, 114, 118, 98, 97, 114], [115, 101, 99, 116], [117, 109, 108], [99, 111, 112, 121], [111, 114, 100, 102], [108, 97, 113, 117, 111], [110, 111, 116], [115, 104, 121], [114, 101, 103], [109, 97, 99, 114], [100, 101, 103], [112, 108, 117, 115, 109, 110], [115, 117, 112, 50], [115, 117, 112, 51], [97, 99, 117, 116, 101], [109, 105, 99, 114, 111], [112, 97, 114, 97], [109, 105, 100, 100, 111, 116], [99, 101, 100, 105, 108], [115, 117, 112, 49], [111, 114, 100, 109], [114, 97, 113, 117, 111], [102, 114, 97, 99, 49, 52], [102, 114, 97, 99, 49, 50], [102, 114, 97, 99, 51, 52], [105, 113, 117, 101, 115, 116], [65, 103, 114, 97, 118, 101], [65, 97, 99, 117, 116, 101], [65, 99, 105, 114, 99], [65, 116, 105, 108, 100, 101], [65, 117, 109, 108], [65, 114, 105, 110, 103], [65, 69, 108, 105, 103], [67, 99, 101, 100, 105, 108], [69, 103, 114, 97, 118, 101], [69, 97, 99, 117, 116, 101], [69, 99, 105, 114, 99], [69, 117, 109, 108], [73, 103, 114, 97, 118, 101], [73, 97, 99, 117, 116, 101], [73, 99, 105, 114, 99], [73, 117, 109, 108], [69, 84, 72], [78, 116, 105, 108, 100, 101], [79, 103, 114, 97, 118, 101], [79, 97, 99, 117, 116, 101], [79, 99, 105, 114, 99], [79, 116, 105, 108, 100, 101], [79, 117, 109, 108], [116, 105, 109, 101, 115], [79, 115, 108, 97, 115, 104], [85, 103, 114, 97, 118, 101], [85, 97, 99, 117, 116, 101], [85, 99, 105, 114, 99], [85, 117, 109, 108], [89, 97, 99, 117, 116, 101], [84, 72, 79, 82, 78], [115, 122, 108, 105, 103], [97, 103, 114, 97, 118, 101], [97, 97, 99, 117, 116, 101], [97, 99, 105, 114, 99], [97, 116, 105, 108, 100, 101], [97, 117, 109, 108], [97, 114, 105, 110, 103], [97, 101, 108, 105, 103], [99, 99, 101, 100, 105, 108], [101, 103, 114, 97, 118, 101], [101, 97, 99, 117, 116, 101], [101, 99, 105, 114, 99], [101, 117, 109, 108], [105, 103, 114, 97, 118, 101], [105, 97, 99, 117, 116, 101], [105, 99, 105, 114, 99], [105, 117, 109, 108], [101, 116, 104], [110, 116, 105, 108, 100, 101], [111, 103, 114, 97, 118, 101], [111, 97, 99, 117, 116, 101], [111, 99, 105, 114, 99], [111, 116, 105, 108, 100, 101], [111, 117, 109, 108], [100, 105, 118, 105, 100, 101], [111, 115, 108, 97, 115, 104], [117, 103, 114, 97, 118, 101], [117, 97, 99, 117, 116, 101], [117, 99, 105, 114, 99], [117, 117, 109, 108], [121, 97, 99, 117, 116, 101], [116, 104, 111, 114, 110], [121, 117, 109, 108]]
/-- The names beside these. -/
def moreNames : List (List UInt8 × Nat) := [([113, 117, 111, 116], 34), ([97, 109, 112], 38), ([108, 116], 60), ([103, 116], 62), ([97, 112, 111, 115], 39), ([101, 117, 114, 111], 8364), ([104, 101, 108, 108, 105, 112], 8230), ([110, 100, 97, 115, 104], 8211), ([109, 100, 97, 115, 104], 8212), ([108, 115, 113, 117, 111], 8216), ([114, 115, 113, 117, 111], 8217), ([108, 100, 113, 117, 111], 8220), ([114, 100, 113, 117, 111], 8221), ([98, 117, 108, 108], 8226), ([116, 114, 97, 100, 101], 8482), ([100, 97, 103, 103, 101, 114], 8224)]
/-- The rune of a name that isn't in the list; 0: there is none. -/
def lookL : List (List UInt8 × Nat) → List UInt8 → Nat
  | [], _ => 0
  | p :: ps, l => bif l == p.1 then p.2 else lookL ps l
def moreL (l : List UInt8) : Nat := lookL moreNames l
theorem look_mem : ∀ (ps : List (List UInt8 × Nat)) (l : List UInt8), lookL ps l ≠ 0 → l ∈ ps.map (·.1)
  | [], _, h => absurd rfl h
  | p :: ps, l, h => by
    unfold lookL at h
    cases e : l == p.1 with
    | true => rw [beq_iff_eq.1 e]; exact List.mem_cons_self ..
    | false =>
      rw [e] at h
      exact List.mem_cons_of_mem _ (look_mem ps l h)
/-- A name's rune; 0: there is none. -/
def namedL (l : List UInt8) : Nat := if moreL l ≠ 0 then moreL l else match latinNames.findIdx? (fun n => n == l) with
  | some k => 160 + k
  | none => 0
def allNames : List (List UInt8) := moreNames.map (·.1) ++ latinNames
theorem latin_len : latinNames.length = 96 := rfl
theorem named_more {l : List UInt8} (h : moreL l ≠ 0) : namedL l = moreL l := by unfold namedL; rw [if_pos h]
theorem latin_all : ∀ k, k < 96 → namedL (latinNames.getD k []) = 160 + k := by decide +kernel
theorem named_latin {l : List UInt8} {k : Nat} (hk : k < 96) (h : latinNames.getD k [] = l) : namedL l = 160 + k := by rw [← h]; exact latin_all k hk
theorem named_none {l : List UInt8} (h : moreL l = 0) (hn : ∀ k, k < 96 → latinNames.getD k [] ≠ l) : namedL l = 0 := by
  have e : latinNames.findIdx? (fun n => n == l) = none := by
    rw [List.findIdx?_eq_none_iff]
    intro x hx
    obtain ⟨k, hk, rfl⟩ := List.getElem_of_mem hx
    have := hn k (by rw [latin_len] at hk; exact hk)
    rw [List.getD, List.getElem?_eq_getElem hk] at this
    exact beq_eq_false_iff_ne.2 this
  unfold namedL
  rw [if_neg (by rw [h]; decide), e]
theorem named_mem {l : List UInt8} (h : namedL l ≠ 0) : l ∈ allNames := by
  unfold allNames
  rw [List.mem_append]
  by_cases hm : moreL l = 0
  · right
    refine Classical.byContradiction fun hx => h (named_none hm fun k hk e => hx ?_)
    rw [← e, List.getD, List.getElem?_eq_getElem (by rw [latin_len]; exact hk)]
    exact List.getElem_mem _
  · exact .inl (look_mem _ _ hm)
/-- A letter or a digit. -/
def alnB (b : UInt8) : Bool := (decide (97 ≤ b.toNat) && decide (b.toNat ≤ 122)) || (decide (65 ≤ b.toNat) && decide (b.toNat ≤ 90)) || (decide (48 ≤ b.toNat) && decide (b.toNat ≤ 57))
theorem all_names : (allNames.all fun n => decide (2 ≤ n.length) && decide (n.length ≤ 6) && n.all alnB && decide (34 ≤ namedL n) && decide (namedL n ≤ 8482)) = true := by decide +kernel
theorem named_facts {l : List UInt8} (h : namedL l ≠ 0) : 2 ≤ l.length ∧ l.length ≤ 6 ∧ (∀ b ∈ l, alnB b = true) ∧ 34 ≤ namedL l ∧ namedL l ≤ 8482 := by
  have := List.all_eq_true.1 all_names l (named_mem h)
  simp only [Bool.and_eq_true, decide_eq_true_eq, List.all_eq_true] at this
  obtain ⟨⟨⟨⟨h1, h2⟩, h3⟩, h4⟩, h5⟩ := this
  exact ⟨h1, h2, h3, h4, h5⟩
theorem named_le (l : List UInt8) : namedL l ≤ 8482 := by
  by_cases h : namedL l = 0
  · omega
  · exact (named_facts h).2.2.2.2

/-! ### Numbers -/
/-- What a byte counts as a digit base sixteen; 16: it is none. -/
def hexD (b : UInt8) : Nat := if 48 ≤ b.toNat ∧ b.toNat ≤ 57 then b.toNat - 48 else if 97 ≤ b.toNat ∧ b.toNat ≤ 102 then b.toNat - 87 else if 65 ≤ b.toNat ∧ b.toNat ≤ 70 then b.toNat - 55 else 16
theorem hexD_le (b : UInt8) : hexD b ≤ 16 := by unfold hexD; split <;> (try split) <;> (try split) <;> omega
def numV (base : Nat) (l : List UInt8) : Nat := l.foldl (fun n b => n * base + hexD b) 0
theorem numV_snoc (base : Nat) (l : List UInt8) (b : UInt8) : numV base (l ++ [b]) = numV base l * base + hexD b := by unfold numV; rw [List.foldl_append]; rfl
theorem numV_from (base : Nat) : ∀ (l : List UInt8) (a : Nat), (∀ b ∈ l, hexD b < base) → l.foldl (fun n b => n * base + hexD b) a < (a + 1) * base ^ l.length
  | [], a, _ => by simp
  | b :: l, a, h => by
    have h1 := numV_from base l (a * base + hexD b) (fun x hx => h x (List.mem_cons_of_mem _ hx))
    have h2 := h b (List.mem_cons_self ..)
    rw [List.foldl_cons, List.length_cons, Nat.pow_succ, Nat.mul_comm (base ^ l.length), ← Nat.mul_assoc]
    refine Nat.lt_of_lt_of_le h1 (Nat.mul_le_mul_right _ ?_)
    rw [Nat.add_mul]
    omega
theorem numV_lt (base : Nat) (l : List UInt8) (h : ∀ b ∈ l, hexD b < base) : numV base l < base ^ l.length := by
  have := numV_from base l 0 h
  rw [Nat.zero_add, Nat.one_mul] at this
  exact this
/-- The rune that a number stands for. -/
def runeOf (n : Nat) : Nat := if n = 0 ∨ 1114111 < n ∨ (55296 ≤ n ∧ n < 57344) then 65533 else n
theorem runeOf_ok (n : Nat) : runeOf n ≠ 0 ∧ okR (runeOf n : Nat) := by
  unfold runeOf okR
  split <;> omega
def isDig (base : Nat) (b : UInt8) : Bool := decide (hexD b < base)
/-- The rune of a number of 1 to so many digits; 0: it is none. -/
def numL (base most : Nat) (u : List UInt8) : Nat := if u ≠ [] ∧ u.length ≤ most ∧ u.all (isDig base) = true then runeOf (numV base u) else 0
theorem numL_no {base most : Nat} {u : List UInt8} (h : u = [] ∨ most < u.length ∨ u.all (isDig base) = false) : numL base most u = 0 := by
  unfold numL
  rw [if_neg]
  rintro ⟨h1, h2, h3⟩
  rcases h with h | h | h
  · exact h1 h
  · omega
  · rw [h] at h3; cases h3
theorem numL_yes {base most : Nat} {u : List UInt8} (h1 : u ≠ []) (h2 : u.length ≤ most) (h3 : u.all (isDig base) = true) : numL base most u = runeOf (numV base u) := by
  unfold numL; rw [if_pos ⟨h1, h2, h3⟩]
theorem numL_of {base most : Nat} {u : List UInt8} (h : numL base most u ≠ 0) : u ≠ [] ∧ u.length ≤ most ∧ u.all (isDig base) = true := by
  unfold numL at h
  split at h
  · assumption
  · exact absurd rfl h
theorem numL_ok (base most : Nat) (u : List UInt8) : numL base most u = 0 ∨ okR (numL base most u : Nat) := by
  unfold numL
  split
  · exact .inr (runeOf_ok _).2
  · exact .inl rfl

/-! ### References -/
/-- What stands between & and ;, as a rune; 0: it is none. -/
def refT (t : List UInt8) : Nat := if hasPrefix t [35, 120] ∨ hasPrefix t [35, 88] then numL 16 6 (t.drop 2) else if hasPrefix t [35] then numL 10 7 (t.drop 1) else namedL t
/-- Up to the first ;. -/
def semiL (l : List UInt8) : List UInt8 := l.takeWhile (fun b => b != 59)
/-- The rune for which the reference stands that a text begins with, and how many bytes it has; 0 and 0: it begins with none. -/
def refL (l : List UInt8) : Nat × Nat := if hasPrefix l [38] ∧ (semiL (l.drop 1)).length < (l.drop 1).length ∧ refT (semiL (l.drop 1)) ≠ 0 then (refT (semiL (l.drop 1)), (semiL (l.drop 1)).length + 2) else (0, 0)
/-- The reference's text. -/
def refB (l : List UInt8) : List UInt8 := if (refL l).2 = 0 then [] else encodeRune ((refL l).1 : Nat)

theorem pre1_cons (b c : UInt8) (l : List UInt8) : hasPrefix (b :: l) [c] = (c == b) := by
  unfold hasPrefix
  simp [List.isPrefixOf]
theorem pre_iff (l p : List UInt8) : hasPrefix l p = true ↔ ∃ z, l = p ++ z := by
  unfold hasPrefix
  rw [List.isPrefixOf_iff_prefix]
  exact ⟨fun ⟨z, h⟩ => ⟨z, h.symm⟩, fun ⟨z, h⟩ => ⟨z, h.symm⟩⟩
theorem upto_app {u : List UInt8} (h : ∀ b ∈ u, b ≠ 59) (z : List UInt8) : semiL (u ++ 59 :: z) = u := by
  unfold semiL
  rw [List.takeWhile_append_of_pos (fun b hb => by simpa using h b hb)]
  simp
theorem upto_of {l : List UInt8} (h : (semiL l).length < l.length) : l = semiL l ++ 59 :: l.drop ((semiL l).length + 1) := by
  unfold semiL at *
  induction l with
  | nil => simp at h
  | cons b l ih =>
    by_cases hb : b = 59
    · subst hb; simp
    · have e : (b :: l).takeWhile (fun b => b != 59) = b :: l.takeWhile (fun b => b != 59) := by
        rw [List.takeWhile_cons, if_pos (by simpa using hb)]
      rw [e] at h ⊢
      simp only [List.length_cons, List.cons_append, List.drop_succ_cons]
      exact congrArg _ (ih (by simpa using h))
theorem upto_ne (l : List UInt8) : ∀ b ∈ semiL l, b ≠ 59 := fun b hb => by
  have := List.all_eq_true.1 (List.all_takeWhile (p := fun b : UInt8 => b != 59) (l := l)) b hb
  simpa using this
theorem upto_le (l : List UInt8) : (semiL l).length ≤ l.length := (List.takeWhile_prefix _).length_le
theorem aln_ne {b : UInt8} (h : alnB b = true) : b ≠ 59 ∧ b ≠ 35 ∧ b ≠ 38 := by
  unfold alnB at h
  simp only [Bool.or_eq_true, Bool.and_eq_true, decide_eq_true_eq] at h
  refine ⟨?_, ?_, ?_⟩ <;> (rintro rfl; revert h; decide)
theorem dig_aln {base : Nat} (hb : base ≤ 16) {b : UInt8} (h : isDig base b = true) : alnB b = true := by
  unfold isDig hexD at h
  unfold alnB
  simp only [Bool.or_eq_true, Bool.and_eq_true, decide_eq_true_eq] at *
  split at h
  · exact .inr (by omega)
  · split at h
    · exact .inl (.inl (by omega))
    · split at h
      · exact .inl (.inr (by omega))
      · omega
theorem not59 {base : Nat} (hb : base ≤ 16) : isDig base 59 = false := by
  unfold isDig; exact decide_eq_false (by show ¬ 16 < base; omega)
/-- What a reference's inside is like. -/
theorem refT_facts {t : List UInt8} (h : refT t ≠ 0) : 2 ≤ t.length ∧ t.length ≤ 8 ∧ (∀ b ∈ t, alnB b = true ∨ b = 35) ∧ okR (refT t : Nat) := by
  unfold refT at *
  by_cases h1 : hasPrefix t [35, 120] = true ∨ hasPrefix t [35, 88] = true
  · rw [if_pos h1] at h ⊢
    obtain ⟨a1, a2, a3⟩ := numL_of h
    have hp := List.length_pos_iff.2 a1
    rw [List.length_drop] at a2 hp
    refine ⟨by omega, by omega, fun b hb => ?_, (numL_ok _ _ _).resolve_left h⟩
    rcases h1 with h1 | h1
    all_goals
      obtain ⟨z, rfl⟩ := (pre_iff _ _).1 h1
      simp only [List.cons_append, List.nil_append, List.drop_succ_cons, List.drop_zero] at a3
      simp only [List.cons_append, List.nil_append, List.mem_cons] at hb
      rcases hb with rfl | rfl | hb
      · exact .inr rfl
      · exact .inl (by decide)
      · exact .inl (dig_aln (Nat.le_refl 16) (List.all_eq_true.1 a3 b hb))
  · rw [if_neg h1] at h ⊢
    by_cases h2 : hasPrefix t [35] = true
    · rw [if_pos h2] at h ⊢
      obtain ⟨a1, a2, a3⟩ := numL_of h
      have hp := List.length_pos_iff.2 a1
      rw [List.length_drop] at a2 hp
      refine ⟨by omega, by omega, fun b hb => ?_, (numL_ok _ _ _).resolve_left h⟩
      obtain ⟨z, rfl⟩ := (pre_iff _ _).1 h2
      simp only [List.cons_append, List.nil_append, List.drop_succ_cons, List.drop_zero] at a3
      simp only [List.cons_append, List.nil_append, List.mem_cons] at hb
      rcases hb with rfl | hb
      · exact .inr rfl
      · exact .inl (dig_aln (by omega) (List.all_eq_true.1 a3 b hb))
    · rw [if_neg h2] at h ⊢
      obtain ⟨b1, b2, b3, b4, b5⟩ := named_facts h
      exact ⟨b1, by omega, fun b hb => .inl (b3 b hb), by unfold okR; omega⟩
theorem refL_no {l : List UInt8} (h : hasPrefix l [38] = false) : refL l = (0, 0) := by
  unfold refL; rw [if_neg]; rintro ⟨h1, _⟩; rw [h] at h1; cases h1
theorem refL_amp {l : List UInt8} (r : List UInt8) (h : l = 38 :: r) : refL l = if (semiL r).length < r.length ∧ refT (semiL r) ≠ 0 then (refT (semiL r), (semiL r).length + 2) else (0, 0) := by
  subst h
  unfold refL
  have e : hasPrefix (38 :: r) [38] = true := by rw [pre1_cons]; rfl
  simp only [e, true_and, List.drop_succ_cons, List.drop_zero]
theorem refL_facts (l : List UInt8) : refL l = (0, 0) ∨ (4 ≤ (refL l).2 ∧ (refL l).2 ≤ 10 ∧ (refL l).2 ≤ l.length ∧ (refL l).1 ≠ 0 ∧ okR ((refL l).1 : Nat)) := by
  unfold refL
  split
  · next h =>
    obtain ⟨h1, h2, h3⟩ := h
    obtain ⟨a, b, c, d⟩ := refT_facts h3
    obtain ⟨z, rfl⟩ := (pre_iff _ _).1 h1
    refine .inr ⟨by simp only; omega, by simp only; omega, ?_, h3, d⟩
    simp only [List.cons_append, List.nil_append, List.drop_succ_cons, List.drop_zero, List.length_cons] at *
    omega
  · exact .inl rfl
/-- A reference that is there. -/
theorem refL_yes {t : List UInt8} (h : refT t ≠ 0) (z : List UInt8) : refL (38 :: (t ++ 59 :: z)) = (refT t, t.length + 2) := by
  have hn : ∀ b ∈ t, b ≠ 59 := fun b hb => by
    rcases (refT_facts h).2.2.1 b hb with h1 | rfl
    · exact (aln_ne h1).1
    · decide
  rw [refL_amp _ rfl, upto_app hn z, if_pos ⟨by simp, h⟩]

/-! ### Signs, and a text plainly -/
def signB (b : UInt8) : Bool := (decide (33 ≤ b.toNat) && decide (b.toNat ≤ 47)) || (decide (58 ≤ b.toNat) && decide (b.toNat ≤ 64)) || (decide (91 ≤ b.toNat) && decide (b.toNat ≤ 96)) || (decide (123 ≤ b.toNat) && decide (b.toNat ≤ 126))
/-- Does a text begin with a \ ahead of a sign. -/
def escB (l : List UInt8) : Bool := hasPrefix l [92] && decide (1 < l.length) && signB (l.getD 1 0)
/-- What stands at a text's beginning, plainly, and how many bytes that is. -/
def plT (l : List UInt8) : List UInt8 := if escB l then [l.getD 1 0] else if (refL l).2 ≠ 0 then encodeRune ((refL l).1 : Nat) else l.take 1
def plN (l : List UInt8) : Nat := if escB l then 2 else if (refL l).2 ≠ 0 then (refL l).2 else 1
def plainGo : Nat → List UInt8 → List UInt8
  | 0, _ => []
  | n + 1, l => if l = [] then [] else plT l ++ plainGo n (l.drop (plN l))
def plainL (l : List UInt8) : List UInt8 := plainGo l.length l
theorem pl_esc {l : List UInt8} (h : escB l = true) : plT l = [l.getD 1 0] ∧ plN l = 2 := by unfold plT plN; rw [if_pos h, if_pos h]; exact ⟨rfl, rfl⟩
theorem pl_ref {l : List UInt8} (h : escB l = false) (h2 : (refL l).2 ≠ 0) : plT l = encodeRune ((refL l).1 : Nat) ∧ plN l = (refL l).2 := by
  have hn : ¬ escB l = true := by rw [h]; exact Bool.false_ne_true
  unfold plT plN; rw [if_neg hn, if_neg hn, if_pos h2, if_pos h2]; exact ⟨rfl, rfl⟩
theorem pl_own {l : List UInt8} (h : escB l = false) (h2 : (refL l).2 = 0) : plT l = l.take 1 ∧ plN l = 1 := by
  have hn : ¬ escB l = true := by rw [h]; exact Bool.false_ne_true
  unfold plT plN; rw [if_neg hn, if_neg hn, if_neg (fun k => k h2), if_neg (fun k => k h2)]; exact ⟨rfl, rfl⟩
theorem plN_range (l : List UInt8) (h : l ≠ []) : 1 ≤ plN l ∧ plN l ≤ l.length := by
  have hp := List.length_pos_iff.2 h
  unfold plN
  split
  · next he =>
    unfold escB at he
    simp only [Bool.and_eq_true, decide_eq_true_eq] at he
    omega
  · split
    · next h2 =>
      rcases refL_facts l with e | e
      · exact absurd (congrArg Prod.snd e) h2
      · omega
    · omega
theorem plT_len (l : List UInt8) : (plT l).length ≤ 4 := by
  unfold plT
  split
  · simp
  · split
    · exact (enc_len _).2
    · rw [List.length_take]; omega
theorem plainGo_nil : ∀ n, plainGo n [] = []
  | 0 => rfl
  | _ + 1 => by simp [plainGo]
theorem plainGo_fuel : ∀ (n m : Nat) (l : List UInt8), l.length ≤ n → l.length ≤ m → plainGo n l = plainGo m l
  | 0, m, l, hn, _ => by
    have : l = [] := List.eq_nil_of_length_eq_zero (by omega)
    subst this
    rw [plainGo_nil, plainGo_nil]
  | n + 1, 0, l, _, hm => by
    have : l = [] := List.eq_nil_of_length_eq_zero (by omega)
    subst this
    rw [plainGo_nil, plainGo_nil]
  | n + 1, m + 1, l, hn, hm => by
    by_cases hne : l = []
    · subst hne
      rw [plainGo_nil, plainGo_nil]
    · have hw := plN_range l hne
      simp only [plainGo, if_neg hne]
      rw [plainGo_fuel n m _ (by rw [List.length_drop]; omega) (by rw [List.length_drop]; omega)]
theorem plainL_nil : plainL [] = [] := rfl
theorem plainL_step (l : List UInt8) (hne : l ≠ []) : plainL l = plT l ++ plainL (l.drop (plN l)) := by
  have hw := plN_range l hne
  unfold plainL
  obtain ⟨n, hn⟩ : ∃ n, l.length = n + 1 := ⟨l.length - 1, by omega⟩
  rw [hn]
  simp only [plainGo, if_neg hne]
  rw [plainGo_fuel n _ _ (by rw [List.length_drop]; omega) (Nat.le_refl _)]
theorem plainGo_len : ∀ (n : Nat) (l : List UInt8), (plainGo n l).length ≤ 4 * n
  | 0, _ => by simp [plainGo]
  | n + 1, l => by
    unfold plainGo
    split
    · simp
    · have h1 := plT_len l
      have h2 := plainGo_len n (l.drop (plN l))
      rw [List.length_append]
      omega
theorem plainL_len (l : List UInt8) : (plainL l).length ≤ 4 * l.length := plainGo_len _ _
theorem plain_esc (c : UInt8) (t : List UInt8) (h : signB c = true) : plainL (92 :: c :: t) = c :: plainL t := by
  have e : escB (92 :: c :: t) = true := by
    unfold escB
    rw [pre1_cons]
    simp [h]
  rw [plainL_step _ (by simp), (pl_esc e).1, (pl_esc e).2]
  rfl
theorem plain_own (c : UInt8) (t : List UInt8) (h1 : c ≠ 92) (h2 : c ≠ 38) : plainL (c :: t) = c :: plainL t := by
  have e : escB (c :: t) = false := by
    unfold escB
    rw [pre1_cons, show ((92 : UInt8) == c) = false from beq_eq_false_iff_ne.2 (fun e => h1 e.symm)]
    rfl
  have e2 : refL (c :: t) = (0, 0) := refL_no (by rw [pre1_cons]; exact beq_eq_false_iff_ne.2 (fun e => h2 e.symm))
  have h := pl_own e (by rw [e2])
  rw [plainL_step _ (by simp), h.1, h.2]
  rfl
theorem enc_amp : encodeRune 38 = [38] := by decide +kernel
theorem amp_name : refT [97, 109, 112] = 38 := by decide +kernel
theorem plain_amp (t : List UInt8) : plainL ([38, 97, 109, 112, 59] ++ t) = 38 :: plainL t := by
  have e : escB ([38, 97, 109, 112, 59] ++ t) = false := by
    unfold escB
    rw [List.cons_append, pre1_cons]
    rfl
  have e2 : refL ([38, 97, 109, 112, 59] ++ t) = (38, 5) := by
    have := refL_yes (t := [97, 109, 112]) (by rw [amp_name]; decide) t
    rw [amp_name] at this
    exact this
  have h := pl_ref e (by rw [e2]; decide)
  rw [e2] at h
  rw [plainL_step _ (by simp), h.1, h.2]
  dsimp only
  rw [show ((38 : Nat) : Int) = 38 from rfl, enc_amp]
  rfl
/-- Each sign behind a \. -/
def hideB (b : UInt8) : List UInt8 := if signB b then [92, b] else [b]
def hideL (l : List UInt8) : List UInt8 := l.flatMap hideB
/-- Each & by its name. -/
def ampB (b : UInt8) : List UInt8 := if b = 38 then [38, 97, 109, 112, 59] else [b]
def ampL (l : List UInt8) : List UInt8 := l.flatMap ampB
theorem plain_hide : ∀ l : List UInt8, plainL (hideL l) = l
  | [] => rfl
  | c :: l => by
    have e : hideL (c :: l) = hideB c ++ hideL l := rfl
    rw [e]
    unfold hideB
    split
    · next h => exact (plain_esc c (hideL l) h).trans (by rw [plain_hide l])
    · next h =>
      refine (plain_own c (hideL l) ?_ ?_).trans (by rw [plain_hide l])
      · rintro rfl; exact h (by decide)
      · rintro rfl; exact h (by decide)
theorem plain_amps : ∀ l : List UInt8, (∀ b ∈ l, b ≠ 92) → plainL (ampL l) = l
  | [], _ => rfl
  | c :: l, hl => by
    have e : ampL (c :: l) = ampB c ++ ampL l := rfl
    have ih := plain_amps l (fun b hb => hl b (List.mem_cons_of_mem _ hb))
    rw [e]
    unfold ampB
    split
    · next h => subst h; rw [plain_amp, ih]
    · next h => exact (plain_own c (ampL l) (hl c (List.mem_cons_self ..)) h).trans (by rw [ih])
theorem hide_snoc (l : List UInt8) (b : UInt8) : hideL (l ++ [b]) = hideL l ++ hideB b := by unfold hideL; rw [List.flatMap_append]; simp
theorem amp_snoc (l : List UInt8) (b : UInt8) : ampL (l ++ [b]) = ampL l ++ ampB b := by unfold ampL; rw [List.flatMap_append]; simp
theorem hide_len : ∀ l : List UInt8, (hideL l).length ≤ 2 * l.length
  | [] => by simp [hideL]
  | b :: l => by
    have h := hide_len l
    have e : hideL (b :: l) = hideB b ++ hideL l := rfl
    have h2 : (hideB b).length ≤ 2 := by unfold hideB; split <;> simp
    rw [e, List.length_append, List.length_cons]; omega
theorem hide_yes {b : UInt8} (h : signB b = true) : hideB b = [92, b] := by unfold hideB; rw [if_pos h]
theorem hide_not {b : UInt8} (h : signB b = false) : hideB b = [b] := by unfold hideB; rw [if_neg (by rw [h]; exact Bool.false_ne_true)]
end Go.Proofs.YtfgpephpkibbaaaGreatDoor

/-
  Plain lists of bytes: how a reference is read: digits ahead, names up to the first ;. No program in sight.
-/
namespace Go.Proofs.YtfgpephpkibbaaaGreatDoor
open Go Go.Lib

/-- The digits that a text begins with, so many at most. -/
def scanL (base most : Nat) (l : List UInt8) : List UInt8 := (l.take most).takeWhile (isDig base)
theorem scan_all (base most : Nat) (l : List UInt8) : (scanL base most l).all (isDig base) = true := List.all_takeWhile
theorem scan_len (base most : Nat) (l : List UInt8) : (scanL base most l).length ≤ most ∧ (scanL base most l).length ≤ l.length := by
  have h : (scanL base most l).length ≤ (l.take most).length := (List.takeWhile_prefix _).length_le
  rw [List.length_take] at h
  omega
theorem scan_pre (base most : Nat) (l : List UInt8) : l = scanL base most l ++ l.drop (scanL base most l).length := by
  have h : scanL base most l <+: l := (List.takeWhile_prefix _).trans (List.take_prefix _ _)
  conv => lhs; rw [← List.take_append_drop (scanL base most l).length l]
  rw [← List.prefix_iff_eq_take.1 h]
theorem scan_stop {base most : Nat} {l : List UInt8} {k : Nat} (hk : k ≤ most) (h1 : ∀ (j : Nat) (h : j < l.length), j < k → isDig base l[j] = true) (h2 : k = most ∨ ∀ (h : k < l.length), isDig base l[k] = false) : scanL base most l = l.take k := by
  unfold scanL
  rw [takeWhile_take k]
  · rw [List.take_take, Nat.min_eq_left hk]
  · intro j h hj
    rw [List.getElem_take]
    exact h1 j _ hj
  · intro h
    rw [List.length_take] at h
    rcases h2 with e | e
    · omega
    · rw [List.getElem_take]; exact e _
/-- What a number's reference comes to, behind so many bytes. -/
def nrL (base most start : Nat) (l : List UInt8) : Nat × Nat := if scanL base most l ≠ [] ∧ hasPrefix (l.drop (scanL base most l).length) [59] = true then (runeOf (numV base (scanL base most l)), start + (scanL base most l).length + 1) else (0, 0)
theorem dig_ne {base : Nat} (hb : base ≤ 16) {u : List UInt8} (h : u.all (isDig base) = true) : ∀ b ∈ u, b ≠ 59 := fun _ hx => (aln_ne (dig_aln hb (List.all_eq_true.1 h _ hx))).1
theorem scan_of {base most : Nat} (hb : base ≤ 16) {u z : List UInt8} (h2 : u.length ≤ most) (h3 : u.all (isDig base) = true) : scanL base most (u ++ 59 :: z) = u := by
  rw [scan_stop (k := u.length) h2, List.take_left]
  · intro j h hj
    rw [List.getElem_append_left hj]
    exact List.all_eq_true.1 h3 _ (List.getElem_mem _)
  · refine .inr fun h => ?_
    rw [List.getElem_append_right (Nat.le_refl _)]
    simp only [Nat.sub_self, List.getElem_cons_zero]
    exact not59 hb
theorem nrL_eq {base most start : Nat} (hb : base ≤ 16) (l : List UInt8) : nrL base most start l = if (semiL l).length < l.length ∧ numL base most (semiL l) ≠ 0 then (numL base most (semiL l), start + (semiL l).length + 1) else (0, 0) := by
  by_cases h : (semiL l).length < l.length ∧ numL base most (semiL l) ≠ 0
  · rw [if_pos h]
    obtain ⟨h1, h2⟩ := h
    obtain ⟨a1, a2, a3⟩ := numL_of h2
    have e := upto_of h1
    have hs : scanL base most l = semiL l := by
      conv => lhs; rw [e]
      exact scan_of hb a2 a3
    unfold nrL
    rw [hs, if_pos, numL_yes a1 a2 a3]
    refine ⟨a1, ?_⟩
    have hd : ∀ u y, l = u ++ 59 :: y → l.drop u.length = 59 :: y := fun u y h => by rw [h]; exact List.drop_left
    rw [hd _ _ e, pre1_cons]; rfl
  · rw [if_neg h]
    unfold nrL
    rw [if_neg]
    rintro ⟨h1, h2⟩
    apply h
    obtain ⟨z, hz⟩ := (pre_iff _ _).1 h2
    have e := scan_pre base most l
    rw [hz] at e
    have hu : semiL l = scanL base most l := by
      conv => lhs; rw [e]
      exact upto_app (dig_ne hb (scan_all base most l)) z
    have hl := congrArg List.length e
    simp only [List.length_append, List.length_cons, List.length_nil] at hl
    rw [hu]
    refine ⟨by omega, ?_⟩
    rw [numL_yes h1 (scan_len base most l).1 (scan_all base most l)]
    exact (runeOf_ok _).1

theorem pre_up {z p : List UInt8} (h : hasPrefix (semiL z) p = true) : hasPrefix z p = true := by
  unfold hasPrefix at *
  rw [List.isPrefixOf_iff_prefix] at *
  exact h.trans (List.takeWhile_prefix _)
/-- A number's reference, as it stands in a text. -/
theorem refL_hex {l : List UInt8} (h : hasPrefix l [38, 35, 120] = true ∨ hasPrefix l [38, 35, 88] = true) : refL l = nrL 16 6 3 (l.drop 3) := by
  have key : ∀ c z, l = 38 :: 35 :: c :: z → c = 120 ∨ c = 88 → refL l = nrL 16 6 3 z := by
    rintro c z rfl hc
    have hu : semiL (35 :: c :: z) = 35 :: c :: semiL z := by
      unfold semiL
      rw [List.takeWhile_cons, if_pos (by decide), List.takeWhile_cons, if_pos (by rcases hc with rfl | rfl <;> decide)]
    have ht : refT (35 :: c :: semiL z) = numL 16 6 (semiL z) := by
      unfold refT
      rw [if_pos]
      · rfl
      · rcases hc with rfl | rfl
        · exact .inl ((pre_iff _ _).2 ⟨_, rfl⟩)
        · exact .inr ((pre_iff _ _).2 ⟨_, rfl⟩)
    rw [refL_amp _ rfl, hu, ht, nrL_eq (by omega)]
    simp only [List.length_cons]
    by_cases h1 : (semiL z).length < z.length ∧ numL 16 6 (semiL z) ≠ 0
    · rw [if_pos h1, if_pos ⟨by omega, h1.2⟩]
      simp only [Prod.mk.injEq, true_and]; omega
    · rw [if_neg h1, if_neg]
      rintro ⟨a, b⟩
      exact h1 ⟨by omega, b⟩
  rcases h with h | h
  · obtain ⟨z, e⟩ := (pre_iff _ _).1 h
    rw [key 120 z e (.inl rfl), e]; rfl
  · obtain ⟨z, e⟩ := (pre_iff _ _).1 h
    rw [key 88 z e (.inr rfl), e]; rfl
theorem refL_dec {l : List UInt8} (h1 : hasPrefix l [38, 35, 120] = false) (h2 : hasPrefix l [38, 35, 88] = false) (h : hasPrefix l [38, 35] = true) : refL l = nrL 10 7 2 (l.drop 2) := by
  obtain ⟨z, e⟩ := (pre_iff _ _).1 h
  subst e
  have hu : semiL (35 :: z) = 35 :: semiL z := by
    unfold semiL
    rw [List.takeWhile_cons, if_pos (by decide)]
  have hp : ∀ c : UInt8, hasPrefix ([38, 35] ++ z) [38, 35, c] = false → hasPrefix (35 :: semiL z) [35, c] = false := by
    intro c h
    rw [Bool.eq_false_iff] at h ⊢
    intro k
    rw [← hu] at k
    obtain ⟨y, hy⟩ := (pre_iff _ _).1 (pre_up k)
    apply h
    rw [pre_iff]
    exact ⟨y, congrArg (38 :: ·) hy⟩
  have ht : refT (35 :: semiL z) = numL 10 7 (semiL z) := by
    unfold refT
    rw [if_neg, if_pos (by rw [pre1_cons]; rfl)]
    · rfl
    · rintro (k | k)
      · rw [hp 120 h1] at k; cases k
      · rw [hp 88 h2] at k; cases k
  have hd : ([38, 35] ++ z).drop 2 = z := rfl
  rw [hd, show refL ([38, 35] ++ z) = _ from refL_amp (35 :: z) rfl, hu, ht, nrL_eq (by omega)]
  simp only [List.length_cons]
  by_cases h1 : (semiL z).length < z.length ∧ numL 10 7 (semiL z) ≠ 0
  · rw [if_pos h1, if_pos ⟨by omega, h1.2⟩]
    simp only [Prod.mk.injEq, true_and]; omega
  · rw [if_neg h1, if_neg]
    rintro ⟨a, b⟩
    exact h1 ⟨by omega, b⟩
/-- A name's reference, as it stands in a text. -/
theorem refT_name {r : List UInt8} (h : hasPrefix r [35] = false) : refT (semiL r) = namedL (semiL r) := by
  have h1 : hasPrefix (semiL r) [35] = false := by
    rw [Bool.eq_false_iff] at h ⊢
    exact fun k => h (pre_up k)
  have h2 : ∀ c : UInt8, hasPrefix (semiL r) [35, c] = false := fun c => by
    rw [Bool.eq_false_iff] at h1 ⊢
    intro k
    apply h1
    obtain ⟨z, e⟩ := (pre_iff _ _).1 k
    rw [pre_iff]
    exact ⟨c :: z, e⟩
  unfold refT
  rw [if_neg, if_neg (by rw [h1]; exact Bool.false_ne_true)]
  rintro (k | k)
  · rw [h2] at k; cases k
  · rw [h2] at k; cases k
theorem refL_name {l : List UInt8} (h1 : hasPrefix l [38, 35] = false) (h : hasPrefix l [38] = true) :
    refL l = if (semiL (l.drop 1)).length < (l.drop 1).length ∧ namedL (semiL (l.drop 1)) ≠ 0 then (namedL (semiL (l.drop 1)), (semiL (l.drop 1)).length + 2) else (0, 0) := by
  obtain ⟨z, e⟩ := (pre_iff _ _).1 h
  subst e
  have hz : hasPrefix z [35] = false := by
    rw [Bool.eq_false_iff] at h1 ⊢
    intro k
    apply h1
    obtain ⟨y, e⟩ := (pre_iff _ _).1 k
    rw [e, pre_iff]
    exact ⟨y, rfl⟩
  rw [show refL ([38] ++ z) = _ from refL_amp z rfl, refT_name hz]
  rfl
/-- Where the first ; stands, among the first bytes. -/
theorem index_upto (r : List UInt8) (m : Nat) : indexByte (r.take m) 59 = if (semiL r).length < r.length ∧ (semiL r).length < m then ((semiL r).length : Int) else -1 := by
  induction r generalizing m with
  | nil => simp [indexByte]
  | cons b r ih =>
    cases m with
    | zero => simp [indexByte]
    | succ m =>
      rw [List.take_succ_cons]
      unfold indexByte
      by_cases hb : b = 59
      · subst hb
        have e : semiL (59 :: r) = [] := by unfold semiL; simp
        rw [if_pos (by rfl), e, if_pos ⟨by simp, by simp⟩]; rfl
      · have e : semiL (b :: r) = b :: semiL r := by
          unfold semiL
          rw [List.takeWhile_cons, if_pos (by simpa using hb)]
        rw [if_neg (by simpa using hb), ih m, e]
        simp only [List.length_cons]
        by_cases hc : (semiL r).length < r.length ∧ (semiL r).length < m
        · have q : ¬ (((semiL r).length : Int) == -1) = true := by rw [beq_iff_eq]; omega
          have q2 : (semiL r).length + 1 < r.length + 1 ∧ (semiL r).length + 1 < m + 1 := by omega
          rw [if_pos hc, if_neg q, if_pos q2]
          omega
        · have q2 : ¬ ((semiL r).length + 1 < r.length + 1 ∧ (semiL r).length + 1 < m + 1) := by omega
          rw [if_neg hc, if_neg q2]
          rfl
end Go.Proofs.YtfgpephpkibbaaaGreatDoor

/-
  Plain lists of bytes: spaces, destinations, titles, links in ( and ). No program in sight.
-/
namespace Go.Proofs.YtfgpephpkibbaaaGreatDoor
open Go Go.Lib

/-- How many bytes the first sign has, with a \ that hides it. -/
def widN (l : List UInt8) : Nat := if escB l then 2 else 1
theorem wid_pos (l : List UInt8) : 1 ≤ widN l ∧ widN l ≤ 2 := by unfold widN; split <;> omega
theorem wid_le {l : List UInt8} (h : l ≠ []) : widN l ≤ l.length := by
  have hp := List.length_pos_iff.2 h
  unfold widN
  split
  · next he =>
    unfold escB at he
    simp only [Bool.and_eq_true, decide_eq_true_eq] at he
    omega
  · omega
/-- So many bytes more, if there are any. -/
def upN (w : Nat) : Nat → Nat
  | 0 => 0
  | k + 1 => k + 1 + w
theorem up_zero (n : Nat) : upN 0 n = n := by cases n <;> rfl
theorem up_none (a : Nat) : upN a 0 = 0 := rfl
theorem up_pos {n : Nat} (a : Nat) (h : n ≠ 0) : upN a n = n + a := by cases n with
  | zero => exact absurd rfl h
  | succ n => rfl
theorem up_up (a b n : Nat) : upN a (upN b n) = upN (a + b) n := by
  by_cases h : n = 0
  · subst h; rfl
  · rw [up_pos b h, up_pos a (by omega), up_pos (a + b) h]; omega
theorem up_le (a n : Nat) : upN a n ≤ n + a := by cases n with
  | zero => exact Nat.zero_le _
  | succ n => exact Nat.le_refl _
theorem esc_cons {b : UInt8} {l : List UInt8} (h : escB (b :: l) = true) : b = 92 ∧ ∃ c t, l = c :: t ∧ signB c = true := by
  unfold escB at h
  rw [pre1_cons] at h
  simp only [Bool.and_eq_true, decide_eq_true_eq, beq_iff_eq] at h
  obtain ⟨⟨h1, h2⟩, h3⟩ := h
  cases l with
  | nil => simp at h2
  | cons c t => exact ⟨h1.symm, c, t, rfl, h3⟩
theorem esc_two {c : UInt8} (t : List UInt8) (h : signB c = true) : escB (92 :: c :: t) = true := by
  unfold escB
  rw [pre1_cons]
  simp [h]
theorem esc_ne {b : UInt8} (l : List UInt8) (h : b ≠ 92) : escB (b :: l) = false := by
  unfold escB
  rw [pre1_cons, show ((92 : UInt8) == b) = false from beq_eq_false_iff_ne.2 (fun e => h e.symm)]
  rfl

/-! ### Spaces -/
/-- How many spaces are ahead; if one, those ahead of the second LF among them (of the first, if e). -/
def spcN (one : Bool) : Bool → List UInt8 → Nat
  | _, [] => 0
  | e, b :: l => if b.toNat = 32 ∨ b.toNat = 9 then spcN one e l + 1 else if b.toNat = 10 then (if (one && e) = true then 0 else spcN one true l + 1) else 0
theorem spc_le (one : Bool) : ∀ (l : List UInt8) (e : Bool), spcN one e l ≤ l.length
  | [], _ => Nat.le_refl _
  | b :: l, e => by
    have h1 := spc_le one l e
    have h2 := spc_le one l true
    rw [spcN, List.length_cons]
    split
    · omega
    · split
      · split <;> omega
      · omega

/-! ### A destination in < and > -/
/-- Behind the <: how many bytes up to the >, and with it; 0: there is none. (Behind a \ a sign is gone past.) -/
def encS : Bool → List UInt8 → Nat
  | _, [] => 0
  | true, _ :: l => upN 1 (encS false l)
  | false, b :: l => if b.toNat = 10 ∨ b.toNat = 60 then 0 else if b.toNat = 62 then 1 else upN 1 (encS (escB (b :: l)) l)
def encN (l : List UInt8) : Nat := encS false l
theorem enc_none (l : List UInt8) (b : UInt8) (h : b.toNat = 10 ∨ b.toNat = 60) : encN (b :: l) = 0 := by unfold encN encS; rw [if_pos h]
theorem enc_last (l : List UInt8) (b : UInt8) (h : b.toNat = 62) : encN (b :: l) = 1 := by unfold encN encS; rw [if_neg (by omega), if_pos h]
theorem enc_go (l : List UInt8) (b : UInt8) (h : ¬ (b.toNat = 10 ∨ b.toNat = 60)) (h2 : ¬ b.toNat = 62) : encN (b :: l) = upN (widN (b :: l)) (encN ((b :: l).drop (widN (b :: l)))) := by
  unfold encN
  conv => lhs; unfold encS
  rw [if_neg h, if_neg h2]
  unfold widN
  cases e : escB (b :: l) with
  | true =>
    obtain ⟨_, c, t, rfl, _⟩ := esc_cons e
    exact up_up 1 1 _
  | false => rfl
theorem encS_le : ∀ (l : List UInt8) (s : Bool), encS s l ≤ l.length
  | [], s => by cases s <;> exact Nat.le_refl _
  | b :: l, s => by
    have h1 := encS_le l false
    have h2 := encS_le l (escB (b :: l))
    rw [List.length_cons]
    cases s with
    | true =>
      rw [encS]
      have := up_le 1 (encS false l)
      omega
    | false =>
      rw [encS]
      have := up_le 1 (encS (escB (b :: l)) l)
      split
      · omega
      · split <;> omega
theorem enc_le2 (l : List UInt8) : encN l ≤ l.length := encS_le l false

/-! ### A destination without < and > -/
def stdB (b : UInt8) : Bool := decide (32 < b.toNat) && decide (b.toNat ≠ 127)
/-- With so many ( open: how many bytes, and 1; 0: it is none. -/
def barS : Bool → Nat → List UInt8 → Nat
  | _, o, [] => if o = 0 then 1 else 0
  | true, o, _ :: l => upN 1 (barS false o l)
  | false, o, b :: l => if stdB b = false then (if o = 0 then 1 else 0) else if b.toNat = 41 then (if o = 0 then 1 else upN 1 (barS false (o - 1) l)) else if b.toNat = 40 then (if 32 ≤ o then 0 else upN 1 (barS false (o + 1) l)) else upN 1 (barS (escB (b :: l)) o l)
def barN (o : Nat) (l : List UInt8) : Nat := barS false o l
theorem bar_nil (o : Nat) : barN o [] = if o = 0 then 1 else 0 := rfl
theorem bar_stop (o : Nat) (b : UInt8) (l : List UInt8) (h : stdB b = false) : barN o (b :: l) = if o = 0 then 1 else 0 := by unfold barN barS; rw [if_pos h]
theorem bar_shut0 (b : UInt8) (l : List UInt8) (h : stdB b = true) (h1 : b.toNat = 41) : barN 0 (b :: l) = 1 := by unfold barN barS; rw [if_neg (by rw [h]; decide), if_pos h1, if_pos rfl]
theorem bar_shut (o : Nat) (b : UInt8) (l : List UInt8) (h : stdB b = true) (h1 : b.toNat = 41) : barN (o + 1) (b :: l) = upN 1 (barN o l) := by
  unfold barN
  conv => lhs; unfold barS
  rw [if_neg (by rw [h]; decide), if_pos h1, if_neg (by omega)]
  rfl
theorem bar_many (o : Nat) (b : UInt8) (l : List UInt8) (h : stdB b = true) (h1 : b.toNat = 40) (h2 : 32 ≤ o) : barN o (b :: l) = 0 := by unfold barN barS; rw [if_neg (by rw [h]; decide), if_neg (by omega), if_pos h1, if_pos h2]
theorem bar_open (o : Nat) (b : UInt8) (l : List UInt8) (h : stdB b = true) (h1 : b.toNat = 40) (h2 : o < 32) : barN o (b :: l) = upN 1 (barN (o + 1) l) := by
  unfold barN
  conv => lhs; unfold barS
  rw [if_neg (by rw [h]; decide), if_neg (by omega), if_pos h1, if_neg (by omega)]
theorem bar_go (o : Nat) (b : UInt8) (l : List UInt8) (h : stdB b = true) (h1 : b.toNat ≠ 41) (h2 : b.toNat ≠ 40) : barN o (b :: l) = upN (widN (b :: l)) (barN o ((b :: l).drop (widN (b :: l)))) := by
  unfold barN
  conv => lhs; unfold barS
  rw [if_neg (by rw [h]; decide), if_neg h1, if_neg h2]
  unfold widN
  cases e : escB (b :: l) with
  | true =>
    obtain ⟨_, c, t, rfl, _⟩ := esc_cons e
    exact up_up 1 1 _
  | false => rfl
theorem wid_paren (b : UInt8) (l : List UInt8) (h : b.toNat = 41 ∨ b.toNat = 40) : widN (b :: l) = 1 := by
  unfold widN
  rw [esc_ne l (fun e => by subst e; revert h; decide)]
  rfl
theorem barS_le : ∀ (l : List UInt8) (s : Bool) (o : Nat), barS s o l ≤ l.length + 1
  | [], s, o => by cases s <;> (unfold barS; split <;> simp)
  | b :: l, s, o => by
    rw [List.length_cons]
    cases s with
    | true =>
      rw [barS]
      have h1 := barS_le l false o
      have := up_le 1 (barS false o l)
      omega
    | false =>
      rw [barS]
      have a1 := barS_le l false (o - 1)
      have a2 := up_le 1 (barS false (o - 1) l)
      have a3 := barS_le l false (o + 1)
      have a4 := up_le 1 (barS false (o + 1) l)
      have a5 := barS_le l (escB (b :: l)) o
      have a6 := up_le 1 (barS (escB (b :: l)) o l)
      split
      · split <;> omega
      · split
        · split <;> omega
        · split
          · split <;> omega
          · omega
theorem bar_le (o : Nat) (l : List UInt8) : barN o l ≤ l.length + 1 := barS_le l false o

/-! ### A destination -/
def dstB (l : List UInt8) : Bool := if hasPrefix l [60] then decide (encN (l.drop 1) ≠ 0) else decide (barN 0 l ≠ 0)
def dstN (l : List UInt8) : Nat := if hasPrefix l [60] then upN 1 (encN (l.drop 1)) else barN 0 l - 1
def dstT (l : List UInt8) : List UInt8 := if hasPrefix l [60] then plainL ((l.drop 1).take (encN (l.drop 1) - 1)) else plainL (l.take (barN 0 l - 1))
theorem dst_le (l : List UInt8) : dstN l ≤ l.length := by
  unfold dstN
  have h1 := enc_le2 (l.drop 1)
  have h2 := bar_le 0 l
  rw [List.length_drop] at h1
  split
  · next h =>
    obtain ⟨z, rfl⟩ := (pre_iff _ _).1 h
    have := up_le 1 (encN (([60] ++ z).drop 1))
    simp only [List.cons_append, List.nil_append, List.length_cons] at *
    omega
  · omega

/-! ### A title -/
/-- Behind the first sign f: how many bytes up to the last one, e, and with it; 0: there is none. k: the line is blank so far, and isn't the first one. -/
def titS (f e : UInt8) : Bool → Bool → List UInt8 → Nat
  | _, _, [] => 0
  | true, k, _ :: l => upN 1 (titS f e false k l)
  | false, k, b :: l => if b = e then 1 else if b = f then 0 else if b.toNat = 10 then (if k = true then 0 else upN 1 (titS f e false true l)) else if b.toNat = 32 ∨ b.toNat = 9 then upN 1 (titS f e false k l) else upN 1 (titS f e (escB (b :: l)) false l)
def tlsN (f e : UInt8) (k : Bool) (l : List UInt8) : Nat := titS f e false k l
/-- The sign that ends a title; 0: it begins none. -/
def endC (l : List UInt8) : Nat := if l.headD 0 = 34 ∨ l.headD 0 = 39 then (l.headD 0).toNat else if l.headD 0 = 40 then 41 else 0
def titN (l : List UInt8) : Nat := if endC l = 0 then 0 else upN 1 (tlsN (l.headD 0) (UInt8.ofNat (endC l)) false (l.drop 1))
def titT (l : List UInt8) : List UInt8 := plainL ((l.drop 1).take (titN l - 2))
theorem tls_last {f e : UInt8} (k : Bool) {b : UInt8} (l : List UInt8) (h : b = e) : tlsN f e k (b :: l) = 1 := by unfold tlsN titS; rw [if_pos h]
theorem tls_none {f e : UInt8} (k : Bool) {b : UInt8} (l : List UInt8) (h : b ≠ e) (h1 : b = f) : tlsN f e k (b :: l) = 0 := by unfold tlsN titS; rw [if_neg h, if_pos h1]
theorem tls_blank {f e : UInt8} {b : UInt8} (l : List UInt8) (h : b ≠ e) (h1 : b ≠ f) (h2 : b.toNat = 10) : tlsN f e true (b :: l) = 0 := by unfold tlsN titS; rw [if_neg h, if_neg h1, if_pos h2, if_pos rfl]
theorem tls_line {f e : UInt8} {b : UInt8} (l : List UInt8) (h : b ≠ e) (h1 : b ≠ f) (h2 : b.toNat = 10) : tlsN f e false (b :: l) = upN 1 (tlsN f e true l) := by
  unfold tlsN
  conv => lhs; unfold titS
  rw [if_neg h, if_neg h1, if_pos h2, if_neg (by decide)]
theorem tls_space {f e : UInt8} (k : Bool) {b : UInt8} (l : List UInt8) (h : b ≠ e) (h1 : b ≠ f) (h2 : b.toNat = 32 ∨ b.toNat = 9) : tlsN f e k (b :: l) = upN 1 (tlsN f e k l) := by
  unfold tlsN
  conv => lhs; unfold titS
  rw [if_neg h, if_neg h1, if_neg (by omega), if_pos h2]
theorem tls_go {f e : UInt8} (k : Bool) {b : UInt8} (l : List UInt8) (h : b ≠ e) (h1 : b ≠ f) (h2 : b.toNat ≠ 10) (h3 : ¬ (b.toNat = 32 ∨ b.toNat = 9)) : tlsN f e k (b :: l) = upN (widN (b :: l)) (tlsN f e false ((b :: l).drop (widN (b :: l)))) := by
  unfold tlsN
  conv => lhs; unfold titS
  rw [if_neg h, if_neg h1, if_neg h2, if_neg h3]
  unfold widN
  cases e : escB (b :: l) with
  | true =>
    obtain ⟨_, c, t, rfl, _⟩ := esc_cons e
    exact up_up 1 1 _
  | false => rfl
theorem wid_low (b : UInt8) (l : List UInt8) (h : b.toNat = 10 ∨ b.toNat = 32 ∨ b.toNat = 9) : widN (b :: l) = 1 := by
  unfold widN
  rw [esc_ne l (fun e => by subst e; revert h; decide)]
  rfl
theorem titS_le (f e : UInt8) : ∀ (l : List UInt8) (s k : Bool), titS f e s k l ≤ l.length
  | [], s, k => by cases s <;> exact Nat.le_refl _
  | b :: l, s, k => by
    rw [List.length_cons]
    cases s with
    | true =>
      rw [titS]
      have h1 := titS_le f e l false k
      have := up_le 1 (titS f e false k l)
      omega
    | false =>
      rw [titS]
      have a1 := titS_le f e l false true
      have a2 := up_le 1 (titS f e false true l)
      have a3 := titS_le f e l false k
      have a4 := up_le 1 (titS f e false k l)
      have a5 := titS_le f e l (escB (b :: l)) false
      have a6 := up_le 1 (titS f e (escB (b :: l)) false l)
      split
      · omega
      · split
        · omega
        · split
          · split <;> omega
          · split <;> omega
theorem tls_le (f e : UInt8) (k : Bool) (l : List UInt8) : tlsN f e k l ≤ l.length := titS_le f e l false k
theorem tit_le (l : List UInt8) : titN l ≤ l.length ∧ (titN l = 0 ∨ 2 ≤ titN l) := by
  unfold titN
  split
  · exact ⟨Nat.zero_le _, .inl rfl⟩
  · next h =>
    cases l with
    | nil => exact absurd rfl h
    | cons b l =>
      have h1 := tls_le ((b :: l).headD 0) (UInt8.ofNat (endC (b :: l))) false l
      rw [List.length_cons, List.drop_succ_cons, List.drop_zero]
      generalize tlsN ((b :: l).headD 0) (UInt8.ofNat (endC (b :: l))) false l = n at *
      cases n with
      | zero => exact ⟨Nat.zero_le _, .inl rfl⟩
      | succ n =>
        show n + 1 + 1 ≤ l.length + 1 ∧ (n + 1 + 1 = 0 ∨ 2 ≤ n + 1 + 1)
        omega

/-! ### A link in ( and ) -/
/-- Spaces, perhaps a title, and spaces behind it: how many bytes, and the title. -/
def sptN (l : List UInt8) : Nat := if spcN false false l = 0 then 0 else spcN false false l + titN (l.drop (spcN false false l)) + spcN false false (l.drop (spcN false false l + titN (l.drop (spcN false false l))))
def sptT (l : List UInt8) : List UInt8 := if spcN false false l = 0 then [] else titT (l.drop (spcN false false l))
/-- Where the destination begins, and where the title may. -/
def inlA (l : List UInt8) : Nat := 1 + spcN false false (l.drop 1)
def inlM (l : List UInt8) : Nat := inlA l + dstN (l.drop (inlA l))
def inlE (l : List UInt8) : Nat := inlM l + sptN (l.drop (inlM l))
def inlB (l : List UInt8) : Bool := hasPrefix l [40] && dstB (l.drop (inlA l)) && hasPrefix (l.drop (inlE l)) [41]
def inlN (l : List UInt8) : Nat := if inlB l then inlE l + 1 else 0
def inlD (l : List UInt8) : List UInt8 := if inlB l then dstT (l.drop (inlA l)) else []
def inlT (l : List UInt8) : List UInt8 := if inlB l then sptT (l.drop (inlM l)) else []
theorem spt_le (l : List UInt8) : sptN l ≤ l.length := by
  unfold sptN
  have h1 := spc_le false l false
  have h2 := (tit_le (l.drop (spcN false false l))).1
  have h3 := spc_le false (l.drop (spcN false false l + titN (l.drop (spcN false false l)))) false
  rw [List.length_drop] at h2 h3
  split <;> omega
end Go.Proofs.YtfgpephpkibbaaaGreatDoor

