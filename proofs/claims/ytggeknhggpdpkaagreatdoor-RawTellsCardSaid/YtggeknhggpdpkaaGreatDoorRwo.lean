/-
  Plain lists of bytes: what is told of a text's beginning doesn't hang on what stands behind it. No program in sight.
-/
import Derived.Test.YtggeknhggpdpkaaGreatDoorRwt
namespace Go.Proofs.YtggeknhggpdpkaaGreatDoor
open Go Go.Lib

theorem nz_of {a b : Nat} (e : a = b) (h : b ≠ 0) : a ≠ 0 := by rw [e]; exact h
/-- Two texts begin with the same t bytes. -/
def Agr (t : Nat) (l k : List UInt8) : Prop := l.take t = k.take t
theorem Agr.drop {t : Nat} {l k : List UInt8} (h : Agr t l k) (i : Nat) : Agr (t - i) (l.drop i) (k.drop i) := by
  unfold Agr at *
  rw [← List.drop_take, ← List.drop_take, h]
theorem Agr.less {t u : Nat} {l k : List UInt8} (h : Agr t l k) (hu : u ≤ t) : Agr u l k := by
  unfold Agr at *
  have := congrArg (List.take u) h
  rwa [List.take_take, List.take_take, Nat.min_eq_left hu] at this
theorem agr_nil {t : Nat} {k : List UInt8} (h : Agr (t + 1) [] k) : k = [] := by
  cases k with
  | nil => rfl
  | cons b k => exact absurd h (by simp [Agr])
theorem agr_cons {t : Nat} {b : UInt8} {l k : List UInt8} (h : Agr (t + 1) (b :: l) k) : ∃ k', k = b :: k' ∧ Agr t l k' := by
  cases k with
  | nil => exact absurd h (by simp [Agr])
  | cons c k =>
    unfold Agr at h
    rw [List.take_succ_cons, List.take_succ_cons] at h
    injection h with h1 h2
    subst h1
    exact ⟨k, rfl, h2⟩
theorem agr_own {t : Nat} (l m : List UInt8) (h : t ≤ l.length) : Agr t l (l.take t ++ m) := by
  unfold Agr
  rw [List.take_append_of_le_length (by rw [List.length_take]; omega), List.take_take, Nat.min_self]

theorem fr_same {p : UInt8 → Bool} {t : Nat} {l k : List UInt8} (h : Agr t l k) (ht : 0 < t) : frP p k = frP p l := by
  obtain ⟨u, rfl⟩ : ∃ u, t = u + 1 := ⟨t - 1, by omega⟩
  cases l with
  | nil => rw [agr_nil h]
  | cons b l =>
    obtain ⟨k', rfl, _⟩ := agr_cons h
    rfl
theorem cnt_same {p : UInt8 → Bool} : ∀ {t : Nat} {l k : List UInt8}, Agr t l k → cntP p l < t → cntP p k = cntP p l
  | t, [], k, h, ht => by
    obtain ⟨u, rfl⟩ : ∃ u, t = u + 1 := ⟨t - 1, by omega⟩
    rw [agr_nil h]
  | t, b :: l, k, h, ht => by
    obtain ⟨u, rfl⟩ : ∃ u, t = u + 1 := ⟨t - 1, by omega⟩
    obtain ⟨k', rfl, h2⟩ := agr_cons h
    by_cases hb : p b = true
    · rw [cntP_yes _ hb] at ht ⊢
      rw [cntP_yes _ hb, cnt_same h2 (by omega)]
    · have hb2 : p b = false := by simpa using hb
      rw [cntP_no _ hb2, cntP_no _ hb2]
theorem pre_same : ∀ {t : Nat} {l k q : List UInt8}, Agr t l k → q.length ≤ t → hasPrefix k q = hasPrefix l q
  | t, l, k, [], _, _ => by cases l <;> cases k <;> rfl
  | t, l, k, c :: q, h, ht => by
    rw [List.length_cons] at ht
    obtain ⟨u, rfl⟩ : ∃ u, t = u + 1 := ⟨t - 1, by omega⟩
    cases l with
    | nil => rw [agr_nil h]
    | cons b l =>
      obtain ⟨k', rfl, h2⟩ := agr_cons h
      have ih : q.isPrefixOf k' = q.isPrefixOf l := pre_same h2 (by omega)
      show (c == b && q.isPrefixOf k') = (c == b && q.isPrefixOf l)
      rw [ih]
theorem occ_same {t : Nat} {l k q : List UInt8} {j : Nat} (h : Agr t l k) (ht : j + q.length ≤ t) : occAt k q j = occAt l q j := pre_same (h.drop j) (by omega)

/-! ### Up to something -/
theorem index_of {l q : List UInt8} {i : Nat} (h : index l q = i) : i ≤ l.length ∧ occAt l q i = true ∧ ∀ j, j < i → occAt l q j = false := by
  rcases index_spec l q with ⟨h1, _⟩ | ⟨n, h1, h2, h3, h4⟩
  · omega
  · have : n = i := by omega
    subst this
    exact ⟨h2, h3, h4⟩
theorem upA_some {k : Nat} {q l : List UInt8} (h : upA k q l ≠ 0) : ∃ i : Nat, index (l.drop k) q = i ∧ upA k q l = k + i + q.length := by
  unfold upA at h ⊢
  by_cases c : index (l.drop k) q = -1
  · rw [if_pos c] at h
    exact absurd rfl h
  · have := index_ge (l.drop k) q
    refine ⟨(index (l.drop k) q).toNat, by omega, ?_⟩
    rw [if_neg c]
theorem upA_same {k h : Nat} {q l m : List UInt8} (hq : q ≠ []) (e : upA k q l = h) (h0 : h ≠ 0) (a : Agr h l m) (hl : h ≤ l.length) : upA k q m = h := by
  obtain ⟨i, h1, h2⟩ := upA_some (nz_of e h0)
  rw [e] at h2
  obtain ⟨h3, h4, h5⟩ := index_of h1
  have hq1 := List.length_pos_iff.2 hq
  have hm : h ≤ m.length := by
    have := congrArg List.length a
    rw [List.length_take, List.length_take] at this
    omega
  have b := a.drop k
  have h6 : index (m.drop k) q = i := index_first (by rw [List.length_drop]; omega) (by rw [occ_same b (by omega)]; exact h4) (fun j hj => by rw [occ_same b (by omega)]; exact h5 j hj)
  unfold upA
  rw [h6, if_neg (by omega), Int.toNat_natCast, h2]

/-! ### Elements -/
theorem rAt1_att {b : UInt8} (h : rAt1 b = true) : rAtt b = true := by
  unfold rAt1 at h
  unfold rAtt
  simp only [Bool.or_eq_true, decide_eq_true_eq] at *
  rcases h with h | h | h
  · exact .inl (.inl h)
  · exact .inr (.inl h)
  · exact .inr (.inr (.inl h))
theorem rLet_nam {b : UInt8} (h : rLet b = true) : rNam b = true := by
  unfold rNam
  rw [h]
  rfl
theorem fr_cnt {p q : UInt8 → Bool} (hpq : ∀ b, p b = true → q b = true) {l : List UInt8} (h : frP p l = true) : cntP q l ≠ 0 := by
  cases l with
  | nil => cases h
  | cons b l =>
    rw [cntP_yes _ (hpq b h)]
    omega
theorem att_zero {l : List UInt8} : attN l = 0 ↔ frP rAt1 l = false := by
  unfold attN
  by_cases h : frP rAt1 l = true
  · rw [if_pos h]
    exact ⟨fun e => absurd e (fr_cnt (fun _ => rAt1_att) h), fun e => by rw [e] at h; cases h⟩
  · rw [if_neg h]
    exact ⟨fun _ => by simpa using h, fun _ => rfl⟩
theorem nam_same {t : Nat} {l k : List UInt8} (h : Agr t l k) (ht : namN l < t) : namN k = namN l := by
  unfold namN at ht ⊢
  rw [fr_same h (by omega)]
  split
  · next c => rw [if_pos c] at ht; exact cnt_same h ht
  · rfl
theorem att_same {t : Nat} {l k : List UInt8} (h : Agr t l k) (ht : attN l < t) : attN k = attN l := by
  unfold attN at ht ⊢
  rw [fr_same h (by omega)]
  split
  · next c => rw [if_pos c] at ht; exact cnt_same h ht
  · rfl
theorem val_same {t : Nat} {l k : List UInt8} (h : Agr t l k) (h0 : valN l ≠ 0) (ht : valN l < t) : valN k = valN l := by
  obtain ⟨u, rfl⟩ : ∃ u, t = u + 1 := ⟨t - 1, by omega⟩
  cases l with
  | nil => exact absurd rfl h0
  | cons b l =>
    obtain ⟨k', rfl, _⟩ := agr_cons h
    have hl := valN_le (b :: l)
    have e1 : valN (b :: l) = if b.toNat = 34 ∨ b.toNat = 39 then upA 1 [b] (b :: l) else cntP rVal (b :: l) := rfl
    have e2 : valN (b :: k') = if b.toNat = 34 ∨ b.toNat = 39 then upA 1 [b] (b :: k') else cntP rVal (b :: k') := rfl
    by_cases c : b.toNat = 34 ∨ b.toNat = 39
    · rw [if_pos c] at e1 e2
      rw [e2, e1]
      rw [e1] at h0 ht hl
      exact upA_same (by simp) rfl h0 (h.less (by omega)) hl
    · rw [if_neg c] at e1 e2
      rw [e2, e1]
      rw [e1] at ht
      exact cnt_same h ht
/-- No = behind what is left, and spaces. -/
def noEq (l : List UInt8) : Prop := frP (fun b => decide (b.toNat = 61)) (l.drop (cntP rSpc l)) = false
theorem eq_not_att {l : List UInt8} (h : frP (fun b => decide (b.toNat = 61)) l = true) : attN l = 0 := by
  rw [att_zero]
  cases l with
  | nil => rfl
  | cons b l =>
    have : b.toNat = 61 := of_decide_eq_true h
    show rAt1 b = false
    unfold rAt1 rLet
    rw [decide_eq_false (by omega), decide_eq_false (by omega), decide_eq_false (by omega)]
    rfl
theorem eq_no_atr {l : List UInt8} (h : frP (fun b => decide (b.toNat = 61)) (l.drop (cntP rSpc l)) = true) : atrN l = 0 := by
  have hm : atrM l = 0 := eq_not_att h
  unfold atrN
  by_cases c : atrA l = 0
  · rw [if_pos c]
  · rw [if_neg c, if_pos hm]
theorem atr_min {l : List UInt8} (h : atrN l ≠ 0) : cntP rSpc l + 1 ≤ atrN l := by
  unfold atrN at h ⊢
  split
  · next c => rw [if_pos c] at h; exact absurd rfl h
  · next c =>
    rw [if_neg c] at h
    split
    · next c2 => rw [if_pos c2] at h; exact absurd rfl h
    · next c2 =>
      have : atrA l = cntP rSpc l := rfl
      omega
theorem ats_same : ∀ (n : Nat) {t : Nat} {l k : List UInt8}, l.length ≤ n → Agr t l k → noEq (l.drop (atsN l)) → atsN l + cntP rSpc (l.drop (atsN l)) < t → atsN k = atsN l := by
  intro n
  induction n with
  | zero =>
    intro t l k hn h _ ht
    have : l = [] := List.length_eq_zero_iff.1 (by omega)
    subst this
    obtain ⟨u, rfl⟩ : ∃ u, t = u + 1 := ⟨t - 1, by omega⟩
    rw [agr_nil h]
  | succ n ih =>
    intro t l k hn h hq ht
    have hA : atrA l = cntP rSpc l := rfl
    have hA' : atrA k = cntP rSpc k := rfl
    have hM : atrM l = attN (l.drop (atrA l)) := rfl
    have hM' : atrM k = attN (k.drop (atrA k)) := rfl
    by_cases c0 : atrN l = 0
    · rw [ats_stop c0, List.drop_zero, Nat.zero_add] at ht
      rw [ats_stop c0]
      have eA : atrA k = atrA l := by rw [hA, hA']; exact cnt_same h ht
      refine ats_stop ?_
      unfold atrN at c0 ⊢
      rw [eA]
      split
      · rfl
      · next c1 =>
        rw [if_neg c1] at c0
        have : atrM l = 0 := by
          by_cases c2 : atrM l = 0
          · exact c2
          · rw [if_neg c2] at c0
            omega
        have e : atrM k = 0 := by
          rw [hM', eA]
          rw [hM] at this
          rw [att_zero] at this ⊢
          rw [fr_same (h.drop (atrA l)) (by omega)]
          exact this
        rw [if_pos e]
    · have hs := ats_step c0
      rw [hs, ← List.drop_drop] at hq ht
      rw [hs]
      -- the attribute's own end stands ahead of t
      have en : atrN l = if atrA l = 0 then 0 else if atrM l = 0 then 0 else atrA l + atrM l + asgN (l.drop (atrA l + atrM l)) := rfl
      have c1 : ¬ atrA l = 0 := fun e => c0 (by rw [en, if_pos e])
      have c2 : ¬ atrM l = 0 := fun e => c0 (by rw [en, if_neg c1, if_pos e])
      rw [if_neg c1, if_neg c2] at en
      have eA : atrA k = atrA l := by rw [hA, hA']; exact cnt_same h (by rw [← hA]; omega)
      have eM : atrM k = atrM l := by rw [hM', hM, eA]; exact att_same (h.drop _) (by rw [← hM]; omega)
      obtain ⟨q, hqe⟩ : ∃ q, l.drop (atrA l + atrM l) = q := ⟨_, rfl⟩
      obtain ⟨q', hqe'⟩ : ∃ q', k.drop (atrA l + atrM l) = q' := ⟨_, rfl⟩
      have hd := h.drop (atrA l + atrM l)
      rw [hqe, hqe'] at hd
      rw [hqe] at en
      have gA : asgA q = cntP rSpc q := rfl
      have gA' : asgA q' = cntP rSpc q' := rfl
      have gQ : asgQ q = frP (fun b => decide (b.toNat = 61)) (q.drop (asgA q)) := rfl
      have gQ' : asgQ q' = frP (fun b => decide (b.toNat = 61)) (q'.drop (asgA q')) := rfl
      have gC : asgC q = asgA q + 1 + cntP rSpc (q.drop (asgA q + 1)) := rfl
      have gC' : asgC q' = asgA q' + 1 + cntP rSpc (q'.drop (asgA q' + 1)) := rfl
      have gV : asgV q = valN (q.drop (asgC q)) := rfl
      have gV' : asgV q' = valN (q'.drop (asgC q')) := rfl
      have gN : asgN q = if asgQ q = true then (if asgV q = 0 then 0 else asgC q + asgV q) else 0 := rfl
      have gN' : asgN q' = if asgQ q' = true then (if asgV q' = 0 then 0 else asgC q' + asgV q') else 0 := rfl
      have eN : asgN q' = asgN q := by
        by_cases d1 : asgQ q = true
        · by_cases d2 : asgV q = 0
          · -- an = without a value: then it stands behind all attributes
            rw [if_pos d1, if_pos d2] at gN
            have z : atrN q = 0 := eq_no_atr (by rw [← gA, ← gQ]; exact d1)
            have e1 : atrN l = atrA l + atrM l := by rw [en, gN, Nat.add_zero]
            rw [e1, hqe, ats_stop z, List.drop_zero] at hq
            unfold noEq at hq
            rw [← gA, ← gQ, d1] at hq
            cases hq
          · rw [if_pos d1, if_neg d2] at gN
            have a1 : asgA q' = asgA q := by rw [gA', gA]; exact cnt_same hd (by rw [← gA]; omega)
            have b1 : asgQ q' = true := by rw [gQ', a1, fr_same (hd.drop _) (by omega), ← gQ]; exact d1
            have c3 : asgC q' = asgC q := by rw [gC', gC, a1, cnt_same (hd.drop _) (by omega)]
            have v1 : asgV q' = asgV q := by rw [gV', gV, c3]; exact val_same (hd.drop _) (by rw [← gV]; exact d2) (by rw [← gV]; omega)
            rw [gN', gN, if_pos b1, if_neg (by rw [v1]; exact d2), c3, v1]
        · rw [if_neg d1] at gN
          have e1 : atrN l = atrA l + atrM l := by rw [en, gN, Nat.add_zero]
          rw [e1, hqe] at ht
          have vis : atrA l + atrM l + asgA q < t := by
            by_cases z : atrN q = 0
            · rw [ats_stop z, List.drop_zero, ← gA] at ht
              omega
            · have := atr_min z
              rw [ats_step z] at ht
              omega
          have a1 : asgA q' = asgA q := by rw [gA', gA]; exact cnt_same hd (by rw [← gA]; omega)
          have b1 : ¬ asgQ q' = true := by rw [gQ', a1, fr_same (hd.drop _) (by omega), ← gQ]; exact d1
          rw [gN', gN, if_neg b1]
      have eT : atrN k = atrN l := by
        have : atrN k = if atrA k = 0 then 0 else if atrM k = 0 then 0 else atrA k + atrM k + asgN (k.drop (atrA k + atrM k)) := rfl
        rw [this, eA, eM, if_neg c1, if_neg c2, hqe', eN, en]
      have hl := atrN_le l
      rw [ats_step (by rw [eT]; exact c0), eT]
      congr 1
      exact ih (by rw [List.length_drop]; omega) (h.drop _) hq (by omega)
theorem clo_some {n : Nat} {l : List UInt8} (h : cloN n l ≠ 0) : frP (fun b => decide (b.toNat = 62)) (l.drop n) = true ∧ cloN n l = n + 1 := by
  unfold cloN at h ⊢
  split
  · next c => exact ⟨c, rfl⟩
  · next c => rw [if_neg c] at h; exact absurd rfl h
theorem clo_same {n t : Nat} {l k : List UInt8} (h : Agr t l k) (ht : n < t) : cloN n k = cloN n l := by
  unfold cloN
  rw [fr_same (h.drop n) (by omega)]
theorem end_same {t : Nat} {l k : List UInt8} (e : endN l = t) (h0 : t ≠ 0) (h : Agr t l k) : endN k = t := by
  unfold endN at e
  by_cases c : namN (l.drop 2) = 0
  · rw [if_pos c] at e
    exact absurd e.symm h0
  · rw [if_neg c] at e
    obtain ⟨_, e2⟩ := clo_some (nz_of e h0)
    rw [e] at e2
    have n1 : namN (k.drop 2) = namN (l.drop 2) := nam_same (h.drop 2) (by omega)
    unfold endN
    rw [n1, if_neg c, cnt_same (h.drop _) (by omega), clo_same h (by omega)]
    exact e
theorem beg_same {t : Nat} {l k : List UInt8} (e : begN l = t) (h0 : t ≠ 0) (h : Agr t l k) : begN k = t := by
  have bA : begA l = 1 + namN (l.drop 1) + atsN (l.drop (1 + namN (l.drop 1))) := rfl
  have bA' : begA k = 1 + namN (k.drop 1) + atsN (k.drop (1 + namN (k.drop 1))) := rfl
  have bB : begB l = begA l + cntP rSpc (l.drop (begA l)) := rfl
  have bB' : begB k = begA k + cntP rSpc (k.drop (begA k)) := rfl
  have bC : begC l = if frP (fun b => decide (b.toNat = 47)) (l.drop (begB l)) = true then begB l + 1 else begB l := rfl
  have bC' : begC k = if frP (fun b => decide (b.toNat = 47)) (k.drop (begB k)) = true then begB k + 1 else begB k := rfl
  unfold begN at e
  by_cases c : namN (l.drop 1) = 0
  · rw [if_pos c] at e
    exact absurd e.symm h0
  · rw [if_neg c] at e
    obtain ⟨e1, e2⟩ := clo_some (nz_of e h0)
    rw [e] at e2
    have ge : begB l ≤ begC l := by rw [bC]; split <;> omega
    have n1 : namN (k.drop 1) = namN (l.drop 1) := nam_same (h.drop 1) (by omega)
    have ne : noEq ((l.drop (1 + namN (l.drop 1))).drop (atsN (l.drop (1 + namN (l.drop 1))))) := by
      have e0 : (l.drop (1 + namN (l.drop 1))).drop (atsN (l.drop (1 + namN (l.drop 1)))) = l.drop (begA l) := by rw [List.drop_drop, ← bA]
      unfold noEq
      rw [e0, List.drop_drop, ← bB]
      by_cases d : frP (fun b => decide (b.toNat = 47)) (l.drop (begB l)) = true
      · cases hl : l.drop (begB l) with
        | nil => rfl
        | cons b r =>
          rw [hl] at d
          have : b.toNat = 47 := of_decide_eq_true d
          exact decide_eq_false (by omega)
      · rw [if_neg d] at bC
        rw [bC] at e1
        cases hl : l.drop (begB l) with
        | nil => rfl
        | cons b r =>
          rw [hl] at e1
          have : b.toNat = 62 := of_decide_eq_true e1
          exact decide_eq_false (by omega)
    have a1 : begA k = begA l := by
      rw [bA', bA, n1]
      congr 1
      exact ats_same _ (Nat.le_refl _) (h.drop _) ne (by
        rw [List.drop_drop, ← bA]
        omega)
    have b1 : begB k = begB l := by rw [bB', bB, a1, cnt_same (h.drop _) (by omega)]
    have c1 : begC k = begC l := by rw [bC', bC, b1, fr_same (h.drop _) (by omega)]
    unfold begN
    rw [n1, if_neg c, c1, clo_same h (by omega)]
    exact e
/-- What an element begins with. -/
theorem tag_begins {l : List UInt8} (h : tagN l ≠ 0) : ∃ b r, l = 60 :: b :: r ∧ (b.toNat = 47 ∨ rLet b = true) ∧ 3 ≤ tagN l := by
  unfold tagN at h ⊢
  cases l with
  | nil => exact absurd rfl h
  | cons a l =>
    cases l with
    | nil =>
      have e1 : hasPrefix [a] [60, 47] = false := Bool.and_false _
      rw [e1, if_neg (by decide)] at h
      by_cases c : hasPrefix [a] [60] = true
      · rw [if_pos c] at h
        exact absurd (by unfold begN; rw [if_pos (by rfl)]) h
      · rw [if_neg c] at h
        exact absurd rfl h
    | cons b r =>
      by_cases c1 : hasPrefix (a :: b :: r) [60, 47] = true
      · rw [if_pos c1] at h ⊢
        have hp := List.isPrefixOf_iff_prefix.1 c1
        obtain ⟨z, hz⟩ := hp
        injection hz with z1 z2
        injection z2 with z2 z3
        subst z1; subst z2
        refine ⟨_, _, rfl, .inl rfl, ?_⟩
        unfold endN at h ⊢
        split
        · next c => rw [if_pos c] at h; exact absurd rfl h
        · next c =>
          rw [if_neg c] at h
          have := (clo_some h).2
          omega
      · rw [if_neg c1] at h ⊢
        by_cases c2 : hasPrefix (a :: b :: r) [60] = true
        · rw [if_pos c2] at h ⊢
          have hp := List.isPrefixOf_iff_prefix.1 c2
          obtain ⟨z, hz⟩ := hp
          injection hz with z1 z2
          subst z1
          have hn : begN (60 :: b :: r) = if namN (b :: r) = 0 then 0 else cloN (begC (60 :: b :: r)) (60 :: b :: r) := rfl
          by_cases c : namN (b :: r) = 0
          · rw [hn, if_pos c] at h
            exact absurd rfl h
          · rw [hn, if_neg c] at h ⊢
            have e2 := (clo_some h).2
            have hA : begA (60 :: b :: r) = 1 + namN (b :: r) + atsN ((60 :: b :: r).drop (1 + namN (b :: r))) := rfl
            have hB : begA (60 :: b :: r) ≤ begB (60 :: b :: r) := Nat.le_add_right _ _
            have hC : begB (60 :: b :: r) ≤ begC (60 :: b :: r) := by unfold begC; split <;> omega
            refine ⟨_, _, rfl, .inr ?_, by omega⟩
            by_cases d : rLet b = true
            · exact d
            · exact absurd (by unfold namN; rw [if_neg (show ¬ frP rLet (b :: r) = true from d)]) c
        · rw [if_neg c2] at h
          exact absurd rfl h
theorem agr_two {t : Nat} {a b : UInt8} {r k : List UInt8} (h : Agr t (a :: b :: r) k) (ht : 2 ≤ t) : ∃ k', k = a :: b :: k' := by
  obtain ⟨u, rfl⟩ : ∃ u, t = u + 1 + 1 := ⟨t - 2, by omega⟩
  obtain ⟨k1, rfl, h2⟩ := agr_cons h
  obtain ⟨k2, rfl, _⟩ := agr_cons h2
  exact ⟨k2, rfl⟩
theorem tag_same {t : Nat} {l k : List UInt8} (e : tagN l = t) (h0 : t ≠ 0) (h : Agr t l k) : tagN k = t := by
  obtain ⟨b, r, hl, _, h3⟩ := tag_begins (nz_of e h0)
  rw [e] at h3
  unfold tagN at e ⊢
  rw [pre_same h (show ([60, 47] : List UInt8).length ≤ t by show 2 ≤ t; omega), pre_same h (show ([60] : List UInt8).length ≤ t by show 1 ≤ t; omega)]
  split
  · next c => rw [if_pos c] at e; exact end_same e h0 h
  · next c =>
    rw [if_neg c] at e
    split
    · next d => rw [if_pos d] at e; exact beg_same e h0 h
    · next d => rw [if_neg d] at e; exact absurd e.symm h0
/-- An element ends with a >. -/
theorem tag_ends {l : List UInt8} (h : tagN l ≠ 0) : l[tagN l - 1]? = some 62 := by
  have key : ∀ n, cloN n l ≠ 0 → l[cloN n l - 1]? = some 62 := fun n hn => by
    obtain ⟨h1, h2⟩ := clo_some hn
    rw [h2, Nat.add_sub_cancel]
    cases hd : l.drop n with
    | nil => rw [hd] at h1; cases h1
    | cons b r =>
      rw [hd] at h1
      have hb : b = 62 := UInt8.toNat_inj.1 (of_decide_eq_true h1)
      have := List.getElem?_drop (xs := l) (i := n) (j := 0)
      rw [hd, hb, Nat.add_zero] at this
      rw [← this]
      rfl
  unfold tagN endN begN at h ⊢
  split
  · next c =>
    rw [if_pos c] at h
    split
    · next d => rw [if_pos d] at h; exact absurd rfl h
    · next d => rw [if_neg d] at h; exact key _ h
  · next c =>
    rw [if_neg c] at h
    split
    · next d =>
      rw [if_pos d] at h
      split
      · next d => rw [if_pos d] at h; exact absurd rfl h
      · next d => rw [if_neg d] at h; exact key _ h
    · next d => rw [if_neg d] at h; exact absurd rfl h
end Go.Proofs.YtggeknhggpdpkaaGreatDoor
