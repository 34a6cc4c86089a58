/-
  Plain lists of bytes: how a reference is read: digits ahead, names up to the first ;. No program in sight.
-/
import Derived.Test.YtonajkcdkihchaaDoorNmt
import Derived.Test.YtonajkcdkihchaaDoorTxt
namespace Go.Proofs.YtonajkcdkihchaaDoor
open Go Go.Lib

/-- The digits that a text begins with, so many at most. -/
def scanL (base most : Nat) (l : List UInt8) : List UInt8 := (l.take most).takeWhile (isDig base)
theorem scan_all (base most : Nat) (l : List UInt8) : (scanL base most l).all (isDig base) = true := List.all_takeWhile
theorem scan_len (base most : Nat) (l : List UInt8) : (scanL base most l).length ≤ most ∧ (scanL base most l).length ≤ l.length := by
  have h : (scanL base most l).length ≤ (l.take most).length := (List.takeWhile_prefix _).length_le
  rw [List.length_take] at h
  omega
theorem scan_pre (base most : Nat) (l : List UInt8) : l = scanL base most l ++ l.drop (scanL base most l).length := by
  have h : scanL base most l <+: l := (List.takeWhile_prefix _).trans (List.take_prefix _ _)
  conv => lhs; rw [← List.take_append_drop (scanL base most l).length l]
  rw [← List.prefix_iff_eq_take.1 h]
theorem scan_stop {base most : Nat} {l : List UInt8} {k : Nat} (hk : k ≤ most) (h1 : ∀ (j : Nat) (h : j < l.length), j < k → isDig base l[j] = true) (h2 : k = most ∨ ∀ (h : k < l.length), isDig base l[k] = false) : scanL base most l = l.take k := by
  unfold scanL
  rw [takeWhile_take k]
  · rw [List.take_take, Nat.min_eq_left hk]
  · intro j h hj
    rw [List.getElem_take]
    exact h1 j _ hj
  · intro h
    rw [List.length_take] at h
    rcases h2 with e | e
    · omega
    · rw [List.getElem_take]; exact e _
/-- What a number's reference comes to, behind so many bytes. -/
def nrL (base most start : Nat) (l : List UInt8) : Nat × Nat := if scanL base most l ≠ [] ∧ hasPrefix (l.drop (scanL base most l).length) [59] = true then (runeOf (numV base (scanL base most l)), start + (scanL base most l).length + 1) else (0, 0)
theorem dig_ne {base : Nat} (hb : base ≤ 16) {u : List UInt8} (h : u.all (isDig base) = true) : ∀ b ∈ u, b ≠ 59 := fun _ hx => (aln_ne (dig_aln hb (List.all_eq_true.1 h _ hx))).1
theorem scan_of {base most : Nat} (hb : base ≤ 16) {u z : List UInt8} (h2 : u.length ≤ most) (h3 : u.all (isDig base) = true) : scanL base most (u ++ 59 :: z) = u := by
  rw [scan_stop (k := u.length) h2, List.take_left]
  · intro j h hj
    rw [List.getElem_append_left hj]
    exact List.all_eq_true.1 h3 _ (List.getElem_mem _)
  · refine .inr fun h => ?_
    rw [List.getElem_append_right (Nat.le_refl _)]
    simp only [Nat.sub_self, List.getElem_cons_zero]
    exact not59 hb
theorem nrL_eq {base most start : Nat} (hb : base ≤ 16) (l : List UInt8) : nrL base most start l = if (semiL l).length < l.length ∧ numL base most (semiL l) ≠ 0 then (numL base most (semiL l), start + (semiL l).length + 1) else (0, 0) := by
  by_cases h : (semiL l).length < l.length ∧ numL base most (semiL l) ≠ 0
  · rw [if_pos h]
    obtain ⟨h1, h2⟩ := h
    obtain ⟨a1, a2, a3⟩ := numL_of h2
    have e := upto_of h1
    have hs : scanL base most l = semiL l := by
      conv => lhs; rw [e]
      exact scan_of hb a2 a3
    unfold nrL
    rw [hs, if_pos, numL_yes a1 a2 a3]
    refine ⟨a1, ?_⟩
    have hd : ∀ u y, l = u ++ 59 :: y → l.drop u.length = 59 :: y := fun u y h => by rw [h]; exact List.drop_left
    rw [hd _ _ e, pre1_cons]; rfl
  · rw [if_neg h]
    unfold nrL
    rw [if_neg]
    rintro ⟨h1, h2⟩
    apply h
    obtain ⟨z, hz⟩ := (pre_iff _ _).1 h2
    have e := scan_pre base most l
    rw [hz] at e
    have hu : semiL l = scanL base most l := by
      conv => lhs; rw [e]
      exact upto_app (dig_ne hb (scan_all base most l)) z
    have hl := congrArg List.length e
    simp only [List.length_append, List.length_cons, List.length_nil] at hl
    rw [hu]
    refine ⟨by omega, ?_⟩
    rw [numL_yes h1 (scan_len base most l).1 (scan_all base most l)]
    exact (runeOf_ok _).1

theorem pre_up {z p : List UInt8} (h : hasPrefix (semiL z) p = true) : hasPrefix z p = true := by
  unfold hasPrefix at *
  rw [List.isPrefixOf_iff_prefix] at *
  exact h.trans (List.takeWhile_prefix _)
/-- A number's reference, as it stands in a text. -/
theorem refL_hex {l : List UInt8} (h : hasPrefix l [38, 35, 120] = true ∨ hasPrefix l [38, 35, 88] = true) : refL l = nrL 16 6 3 (l.drop 3) := by
  have key : ∀ c z, l = 38 :: 35 :: c :: z → c = 120 ∨ c = 88 → refL l = nrL 16 6 3 z := by
    rintro c z rfl hc
    have hu : semiL (35 :: c :: z) = 35 :: c :: semiL z := by
      unfold semiL
      rw [List.takeWhile_cons, if_pos (by decide), List.takeWhile_cons, if_pos (by rcases hc with rfl | rfl <;> decide)]
    have ht : refT (35 :: c :: semiL z) = numL 16 6 (semiL z) := by
      unfold refT
      rw [if_pos]
      · rfl
      · rcases hc with rfl | rfl
        · exact .inl ((pre_iff _ _).2 ⟨_, rfl⟩)
        · exact .inr ((pre_iff _ _).2 ⟨_, rfl⟩)
    rw [refL_amp _ rfl, hu, ht, nrL_eq (by omega)]
    simp only [List.length_cons]
    by_cases h1 : (semiL z).length < z.length ∧ numL 16 6 (semiL z) ≠ 0
    · rw [if_pos h1, if_pos ⟨by omega, h1.2⟩]
      simp only [Prod.mk.injEq, true_and]; omega
    · rw [if_neg h1, if_neg]
      rintro ⟨a, b⟩
      exact h1 ⟨by omega, b⟩
  rcases h with h | h
  · obtain ⟨z, e⟩ := (pre_iff _ _).1 h
    rw [key 120 z e (.inl rfl), e]; rfl
  · obtain ⟨z, e⟩ := (pre_iff _ _).1 h
    rw [key 88 z e (.inr rfl), e]; rfl
theorem refL_dec {l : List UInt8} (h1 : hasPrefix l [38, 35, 120] = false) (h2 : hasPrefix l [38, 35, 88] = false) (h : hasPrefix l [38, 35] = true) : refL l = nrL 10 7 2 (l.drop 2) := by
  obtain ⟨z, e⟩ := (pre_iff _ _).1 h
  subst e
  have hu : semiL (35 :: z) = 35 :: semiL z := by
    unfold semiL
    rw [List.takeWhile_cons, if_pos (by decide)]
  have hp : ∀ c : UInt8, hasPrefix ([38, 35] ++ z) [38, 35, c] = false → hasPrefix (35 :: semiL z) [35, c] = false := by
    intro c h
    rw [Bool.eq_false_iff] at h ⊢
    intro k
    rw [← hu] at k
    obtain ⟨y, hy⟩ := (pre_iff _ _).1 (pre_up k)
    apply h
    rw [pre_iff]
    exact ⟨y, congrArg (38 :: ·) hy⟩
  have ht : refT (35 :: semiL z) = numL 10 7 (semiL z) := by
    unfold refT
    rw [if_neg, if_pos (by rw [pre1_cons]; rfl)]
    · rfl
    · rintro (k | k)
      · rw [hp 120 h1] at k; cases k
      · rw [hp 88 h2] at k; cases k
  have hd : ([38, 35] ++ z).drop 2 = z := rfl
  rw [hd, show refL ([38, 35] ++ z) = _ from refL_amp (35 :: z) rfl, hu, ht, nrL_eq (by omega)]
  simp only [List.length_cons]
  by_cases h1 : (semiL z).length < z.length ∧ numL 10 7 (semiL z) ≠ 0
  · rw [if_pos h1, if_pos ⟨by omega, h1.2⟩]
    simp only [Prod.mk.injEq, true_and]; omega
  · rw [if_neg h1, if_neg]
    rintro ⟨a, b⟩
    exact h1 ⟨by omega, b⟩
/-- A name's reference, as it stands in a text. -/
theorem refT_name {r : List UInt8} (h : hasPrefix r [35] = false) : refT (semiL r) = namedL (semiL r) := by
  have h1 : hasPrefix (semiL r) [35] = false := by
    rw [Bool.eq_false_iff] at h ⊢
    exact fun k => h (pre_up k)
  have h2 : ∀ c : UInt8, hasPrefix (semiL r) [35, c] = false := fun c => by
    rw [Bool.eq_false_iff] at h1 ⊢
    intro k
    apply h1
    obtain ⟨z, e⟩ := (pre_iff _ _).1 k
    rw [pre_iff]
    exact ⟨c :: z, e⟩
  unfold refT
  rw [if_neg, if_neg (by rw [h1]; exact Bool.false_ne_true)]
  rintro (k | k)
  · rw [h2] at k; cases k
  · rw [h2] at k; cases k
theorem refL_name {l : List UInt8} (h1 : hasPrefix l [38, 35] = false) (h : hasPrefix l [38] = true) :
    refL l = if (semiL (l.drop 1)).length < (l.drop 1).length ∧ namedL (semiL (l.drop 1)) ≠ 0 then (namedL (semiL (l.drop 1)), (semiL (l.drop 1)).length + 2) else (0, 0) := by
  obtain ⟨z, e⟩ := (pre_iff _ _).1 h
  subst e
  have hz : hasPrefix z [35] = false := by
    rw [Bool.eq_false_iff] at h1 ⊢
    intro k
    apply h1
    obtain ⟨y, e⟩ := (pre_iff _ _).1 k
    rw [e, pre_iff]
    exact ⟨y, rfl⟩
  rw [show refL ([38] ++ z) = _ from refL_amp z rfl, refT_name hz]
  rfl
/-- Where the first ; stands, among the first bytes. -/
theorem index_upto (r : List UInt8) (m : Nat) : indexByte (r.take m) 59 = if (semiL r).length < r.length ∧ (semiL r).length < m then ((semiL r).length : Int) else -1 := by
  induction r generalizing m with
  | nil => simp [indexByte]
  | cons b r ih =>
    cases m with
    | zero => simp [indexByte]
    | succ m =>
      rw [List.take_succ_cons]
      unfold indexByte
      by_cases hb : b = 59
      · subst hb
        have e : semiL (59 :: r) = [] := by unfold semiL; simp
        rw [if_pos (by rfl), e, if_pos ⟨by simp, by simp⟩]; rfl
      · have e : semiL (b :: r) = b :: semiL r := by
          unfold semiL
          rw [List.takeWhile_cons, if_pos (by simpa using hb)]
        rw [if_neg (by simpa using hb), ih m, e]
        simp only [List.length_cons]
        by_cases hc : (semiL r).length < r.length ∧ (semiL r).length < m
        · have q : ¬ (((semiL r).length : Int) == -1) = true := by rw [beq_iff_eq]; omega
          have q2 : (semiL r).length + 1 < r.length + 1 ∧ (semiL r).length + 1 < m + 1 := by omega
          rw [if_pos hc, if_neg q, if_pos q2]
          omega
        · have q2 : ¬ ((semiL r).length + 1 < r.length + 1 ∧ (semiL r).length + 1 < m + 1) := by omega
          rw [if_neg hc, if_neg q2]
          rfl
end Go.Proofs.YtonajkcdkihchaaDoor
