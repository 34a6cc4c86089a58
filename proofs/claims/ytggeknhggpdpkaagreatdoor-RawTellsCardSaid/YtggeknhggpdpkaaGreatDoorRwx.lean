/-
  Plain lists of bytes: elements, raw HTML as the document goes about them come to the same. No program in sight.
-/
import Derived.Test.YtggeknhggpdpkaaGreatDoorRwp
namespace Go.Proofs.YtggeknhggpdpkaaGreatDoor
open Go Go.Lib

/-- An attribute; one whose = has no value is none. -/
def dtrN (l : List UInt8) : Nat := if atrA l = 0 then 0 else if atrM l = 0 then 0 else
  if asgQ (l.drop (atrA l + atrM l)) = true then (if asgV (l.drop (atrA l + atrM l)) = 0 then 0 else atrA l + atrM l + (asgC (l.drop (atrA l + atrM l)) + asgV (l.drop (atrA l + atrM l)))) else atrA l + atrM l
theorem dtr_cases (l : List UInt8) : dtrN l = atrN l ∨ (dtrN l = 0 ∧ atrA l ≠ 0 ∧ atrM l ≠ 0 ∧ atrN l = atrA l + atrM l ∧ asgQ (l.drop (atrA l + atrM l)) = true) := by
  unfold dtrN atrN asgN
  by_cases c1 : atrA l = 0
  · rw [if_pos c1, if_pos c1]
    exact .inl rfl
  · rw [if_neg c1, if_neg c1]
    by_cases c2 : atrM l = 0
    · rw [if_pos c2, if_pos c2]
      exact .inl rfl
    · rw [if_neg c2, if_neg c2]
      by_cases c3 : asgQ (l.drop (atrA l + atrM l)) = true
      · rw [if_pos c3, if_pos c3]
        by_cases c4 : asgV (l.drop (atrA l + atrM l)) = 0
        · rw [if_pos c4, if_pos c4]
          exact .inr ⟨rfl, c1, c2, rfl, c3⟩
        · rw [if_neg c4, if_neg c4]
          exact .inl rfl
      · rw [if_neg c3, if_neg c3]
        exact .inl rfl
theorem dtrN_le (l : List UInt8) : dtrN l ≤ l.length := by
  rcases dtr_cases l with h | h
  · rw [h]; exact atrN_le l
  · rw [h.1]; omega
def dtsF : Nat → List UInt8 → Nat
  | 0, _ => 0
  | f + 1, l => if dtrN l = 0 then 0 else dtrN l + dtsF f (l.drop (dtrN l))
def dtsN (l : List UInt8) : Nat := dtsF l.length l
theorem dtsF_any : ∀ (f : Nat) (l : List UInt8), l.length ≤ f → dtsF f l = dtsN l
  | 0, l, h => by
    have : l = [] := List.length_eq_zero_iff.1 (by omega)
    subst this
    rfl
  | f + 1, l, h => by
    unfold dtsN
    cases hl : l.length with
    | zero =>
      have : l = [] := List.length_eq_zero_iff.1 hl
      subst this
      rw [dtsF]
      rfl
    | succ g =>
      rw [dtsF, dtsF]
      by_cases h0 : dtrN l = 0
      · rw [if_pos h0, if_pos h0]
      · rw [if_neg h0, if_neg h0, dtsF_any f _ (by rw [List.length_drop]; omega), dtsF_any g _ (by rw [List.length_drop]; omega)]
theorem dts_stop {l : List UInt8} (h : dtrN l = 0) : dtsN l = 0 := by
  unfold dtsN
  cases l.length with
  | zero => rfl
  | succ f => rw [dtsF, if_pos h]
theorem dts_step {l : List UInt8} (h : dtrN l ≠ 0) : dtsN l = dtrN l + dtsN (l.drop (dtrN l)) := by
  have hl := dtrN_le l
  unfold dtsN
  cases hf : l.length with
  | zero => omega
  | succ f =>
    rw [dtsF, if_neg h, dtsF_any f _ (by rw [List.length_drop]; omega)]
    rfl
theorem dtsF_le : ∀ (f : Nat) (l : List UInt8), dtsF f l ≤ l.length
  | 0, l => Nat.zero_le _
  | f + 1, l => by
    have h := dtrN_le l
    have h2 := dtsF_le f (l.drop (dtrN l))
    rw [List.length_drop] at h2
    rw [dtsF]
    split <;> omega
theorem dtsN_le (l : List UInt8) : dtsN l ≤ l.length := dtsF_le _ _
def isEq (b : UInt8) : Bool := decide (b.toNat = 61)
theorem dts_ats : ∀ (n : Nat) (l : List UInt8), l.length ≤ n → dtsN l = atsN l ∨
    (frP isEq ((l.drop (atsN l)).drop (cntP rSpc (l.drop (atsN l)))) = true ∧ frP rAt1 ((l.drop (dtsN l)).drop (cntP rSpc (l.drop (dtsN l)))) = true) := by
  intro n
  induction n with
  | zero =>
    intro l h
    have : l = [] := List.length_eq_zero_iff.1 (by omega)
    subst this
    exact .inl rfl
  | succ n ih =>
    intro l h
    rcases dtr_cases l with c | ⟨c1, c2, c3, c4, c5⟩
    · by_cases c0 : atrN l = 0
      · rw [ats_stop c0, dts_stop (c.trans c0)]
        exact .inl rfl
      · have hl := atrN_le l
        rw [ats_step c0, dts_step (by rw [c]; exact c0), c]
        rcases ih (l.drop (atrN l)) (by rw [List.length_drop]; omega) with e | ⟨e1, e2⟩
        · rw [e]; exact .inl rfl
        · rw [← List.drop_drop, ← List.drop_drop]
          exact .inr ⟨e1, e2⟩
    · have c0 : atrN l ≠ 0 := by rw [c4]; omega
      have z : atrN (l.drop (atrA l + atrM l)) = 0 := eq_no_atr c5
      have e : atsN l = atrA l + atrM l := by rw [ats_step c0, c4, ats_stop z, Nat.add_zero]
      rw [e, dts_stop c1, List.drop_zero]
      refine .inr ⟨c5, ?_⟩
      have hM : atrM l = attN (l.drop (cntP rSpc l)) := rfl
      cases f : frP rAt1 (l.drop (cntP rSpc l)) with
      | true => rfl
      | false => exact absurd (hM.trans (att_zero.2 f)) c3
theorem fr_excl {p q : UInt8 → Bool} (h : ∀ b, p b = true → q b = false) {l : List UInt8} (hp : frP p l = true) : frP q l = false := by
  cases l with
  | nil => rfl
  | cons b l => exact h b hp
def dbA (l : List UInt8) : Nat := 1 + namN (l.drop 1) + dtsN (l.drop (1 + namN (l.drop 1)))
def dbB (l : List UInt8) : Nat := dbA l + cntP rSpc (l.drop (dbA l))
def dbC (l : List UInt8) : Nat := if frP (fun b => decide (b.toNat = 47)) (l.drop (dbB l)) = true then dbB l + 1 else dbB l
def dbN (l : List UInt8) : Nat := if namN (l.drop 1) = 0 then 0 else cloN (dbC l) l
theorem isEq_not {b : UInt8} (h : isEq b = true) : decide (b.toNat = 47) = false ∧ decide (b.toNat = 62) = false := by
  have : b.toNat = 61 := of_decide_eq_true h
  exact ⟨decide_eq_false (by omega), decide_eq_false (by omega)⟩
theorem rAt1_not {b : UInt8} (h : rAt1 b = true) : decide (b.toNat = 47) = false ∧ decide (b.toNat = 62) = false := by
  unfold rAt1 rLet at h
  simp only [Bool.or_eq_true, decide_eq_true_eq] at h
  exact ⟨decide_eq_false (by omega), decide_eq_false (by omega)⟩
theorem beg_doc (l : List UInt8) : dbN l = begN l := by
  have bA : begA l = 1 + namN (l.drop 1) + atsN (l.drop (1 + namN (l.drop 1))) := rfl
  have bB : begB l = begA l + cntP rSpc (l.drop (begA l)) := rfl
  have bC : begC l = if frP (fun b => decide (b.toNat = 47)) (l.drop (begB l)) = true then begB l + 1 else begB l := rfl
  have dA : dbA l = 1 + namN (l.drop 1) + dtsN (l.drop (1 + namN (l.drop 1))) := rfl
  have dB : dbB l = dbA l + cntP rSpc (l.drop (dbA l)) := rfl
  have dC : dbC l = if frP (fun b => decide (b.toNat = 47)) (l.drop (dbB l)) = true then dbB l + 1 else dbB l := rfl
  rcases dts_ats _ (l.drop (1 + namN (l.drop 1))) (Nat.le_refl _) with e | ⟨e1, e2⟩
  · have a1 : dbA l = begA l := by rw [dA, bA, e]
    have b1 : dbB l = begB l := by rw [dB, bB, a1]
    have c1 : dbC l = begC l := by rw [dC, bC, b1]
    unfold dbN begN
    rw [c1]
  · have E1 : (l.drop (1 + namN (l.drop 1))).drop (atsN (l.drop (1 + namN (l.drop 1)))) = l.drop (begA l) := by rw [List.drop_drop, ← bA]
    have E2 : (l.drop (1 + namN (l.drop 1))).drop (dtsN (l.drop (1 + namN (l.drop 1)))) = l.drop (dbA l) := by rw [List.drop_drop, ← dA]
    rw [E1, List.drop_drop, ← bB] at e1
    rw [E2, List.drop_drop, ← dB] at e2
    rw [fr_excl (fun b h => (isEq_not h).1) e1, if_neg (by decide)] at bC
    rw [fr_excl (fun b h => (rAt1_not h).1) e2, if_neg (by decide)] at dC
    have n1 : cloN (begC l) l = 0 := by unfold cloN; rw [bC, fr_excl (fun b h => (isEq_not h).2) e1, if_neg (by decide)]
    have n2 : cloN (dbC l) l = 0 := by unfold cloN; rw [dC, fr_excl (fun b h => (rAt1_not h).2) e2, if_neg (by decide)]
    unfold dbN begN
    rw [n1, n2]
theorem tag_doc (l : List UInt8) : tagN l = if hasPrefix l [60, 47] = true then endN l else if hasPrefix l [60] = true then dbN l else 0 := by
  unfold tagN
  rw [beg_doc]
/-- No element begins with <!. -/
theorem tag_bang {l : List UInt8} (h : hasPrefix l [60, 33] = true) : tagN l = 0 := by
  cases e : tagN l with
  | zero => rfl
  | succ n =>
    obtain ⟨b, r, rfl, hb, _⟩ := tag_begins (l := l) (by omega)
    exact absurd (pre_parts h).2 (let_not hb).1
theorem up_third {b : UInt8} {l : List UInt8} (h : l.drop 2 = b :: l.drop 3) (hb : b ≠ 62) : upA 2 [62] l = upA 3 [62] l := by
  have e : index (b :: l.drop 3) [62] = if index (l.drop 3) [62] = -1 then -1 else index (l.drop 3) [62] + 1 := by
    rw [index_one, index_one]
    conv => lhs; unfold indexByte
    rw [if_neg (by simpa using hb)]
    simp
  have hg := index_ge (l.drop 3) [62]
  unfold upA
  rw [h, e]
  by_cases c : index (l.drop 3) [62] = -1
  · rw [if_pos c, if_pos c, if_pos rfl]
  · rw [if_neg c, if_neg c, if_neg (by omega)]
    omega
end Go.Proofs.YtggeknhggpdpkaaGreatDoor
