/-
  Plain lists of bytes: raw HTML and links don't hang on what stands behind them. No program in sight.
-/
import Derived.Test.YtggeknhggpdpkaaGreatDoorRwo
namespace Go.Proofs.YtggeknhggpdpkaaGreatDoor
open Go Go.Lib

theorem pre_parts {a b : UInt8} {r q : List UInt8} {x y : UInt8} (h : hasPrefix (a :: b :: r) (x :: y :: q) = true) : a = x ∧ b = y := by
  obtain ⟨z, hz⟩ := List.isPrefixOf_iff_prefix.1 h
  injection hz with z1 z2
  injection z2 with z2 z3
  exact ⟨z1.symm, z2.symm⟩
theorem pre_second {a b : UInt8} {r q : List UInt8} {x y : UInt8} (h : b ≠ y) : hasPrefix (a :: b :: r) (x :: y :: q) = false := by
  cases c : hasPrefix (a :: b :: r) (x :: y :: q) with
  | false => rfl
  | true => exact absurd (pre_parts c).2 h
theorem pre_third {a b c : UInt8} {r q : List UInt8} {x y z : UInt8} (h : c ≠ z) : hasPrefix (a :: b :: c :: r) (x :: y :: z :: q) = false := by
  cases d : hasPrefix (a :: b :: c :: r) (x :: y :: z :: q) with
  | false => rfl
  | true =>
    obtain ⟨w, hw⟩ := List.isPrefixOf_iff_prefix.1 d
    injection hw with z1 z2
    injection z2 with z2 z3
    injection z3 with z3 z4
    exact absurd z3.symm h
/-- An element is raw HTML. -/
theorem htm_tag' {a b : UInt8} {r : List UInt8} (h1 : b ≠ 33) (h2 : b ≠ 63) : htmN (a :: b :: r) = tagN (a :: b :: r) := by
  unfold htmN
  rw [if_neg (by rw [pre_second h1]; decide), if_neg (by rw [pre_second h1]; decide), if_neg (by rw [pre_second h1]; decide), if_neg (by rw [pre_second h2]; decide), if_neg (by rw [pre_second h1]; decide), if_neg (by rw [pre_second h1]; decide)]
theorem let_not {b : UInt8} (h : b.toNat = 47 ∨ rLet b = true) : b ≠ 33 ∧ b ≠ 63 ∧ b ≠ 45 ∧ b ≠ 91 ∧ b ≠ 62 := by
  have h2 : b.toNat = 47 ∨ (97 ≤ b.toNat ∧ b.toNat ≤ 122) ∨ (65 ≤ b.toNat ∧ b.toNat ≤ 90) := by
    rcases h with h | h
    · exact .inl h
    · unfold rLet at h
      simp only [Bool.or_eq_true, decide_eq_true_eq] at h
      exact .inr h
  refine ⟨?_, ?_, ?_, ?_, ?_⟩
  all_goals
    intro e
    subst e
    revert h2
    decide
theorem htm_tag {l : List UInt8} (h : tagN l ≠ 0) : htmN l = tagN l := by
  obtain ⟨b, r, rfl, hb, _⟩ := tag_begins h
  exact htm_tag' (let_not hb).1 (let_not hb).2.1

theorem pre_long {l p q : List UInt8} (h : hasPrefix l (p ++ q) = true) : hasPrefix l p = true := by
  obtain ⟨z, hz⟩ := List.isPrefixOf_iff_prefix.1 h
  exact List.isPrefixOf_iff_prefix.2 ⟨q ++ z, by rw [← List.append_assoc]; exact hz⟩
theorem htm_same {t : Nat} {l k : List UInt8} (e : htmN l = t) (h0 : t ≠ 0) (h : Agr t l k) : htmN k = t := by
  have hl : t ≤ l.length := by rw [← e]; exact htmN_le l
  have le (q : List UInt8) (hq : q.length ≤ t) : hasPrefix k q = hasPrefix l q := pre_same h hq
  unfold htmN at e
  by_cases c1 : hasPrefix l [60, 33, 45, 45, 62] = true
  · rw [if_pos c1] at e
    unfold htmN
    rw [if_pos (by rw [le _ (by show 5 ≤ t; omega)]; exact c1)]
    exact e
  · rw [if_neg c1] at e
    by_cases c2 : hasPrefix l [60, 33, 45, 45, 45, 62] = true
    · rw [if_pos c2] at e
      unfold htmN
      rw [if_neg (by rw [le _ (by show 5 ≤ t; omega)]; exact c1), if_pos (by rw [le _ (by show 6 ≤ t; omega)]; exact c2)]
      exact e
    · rw [if_neg c2] at e
      by_cases c3 : hasPrefix l [60, 33, 45, 45] = true
      · rw [if_pos c3] at e
        obtain ⟨i, _, h2⟩ := upA_some (nz_of e h0)
        have h3 : ([45, 45, 62] : List UInt8).length = 3 := rfl
        rw [h3, e] at h2
        unfold htmN
        rw [if_neg (by rw [le _ (by show 5 ≤ t; omega)]; exact c1), if_neg (by rw [le _ (by show 6 ≤ t; omega)]; exact c2), if_pos (by rw [le _ (by show 4 ≤ t; omega)]; exact c3)]
        exact upA_same (by simp) e h0 h hl
      · rw [if_neg c3] at e
        by_cases c4 : hasPrefix l [60, 63] = true
        · rw [if_pos c4] at e
          obtain ⟨i, _, h2⟩ := upA_some (nz_of e h0)
          have h3 : ([63, 62] : List UInt8).length = 2 := rfl
          rw [h3, e] at h2
          have d4 : hasPrefix k [60, 63] = true := by rw [le _ (by show 2 ≤ t; omega)]; exact c4
          obtain ⟨z, rfl⟩ := List.isPrefixOf_iff_prefix.1 d4
          have hz : ([60, 63] : List UInt8) ++ z = 60 :: 63 :: z := rfl
          rw [hz] at h ⊢
          unfold htmN
          rw [if_neg (by rw [pre_second (by decide)]; decide), if_neg (by rw [pre_second (by decide)]; decide), if_neg (by rw [pre_second (by decide)]; decide), if_pos (by rfl)]
          exact upA_same (by simp) e h0 h hl
        · rw [if_neg c4] at e
          by_cases c5 : hasPrefix l [60, 33, 91, 67, 68, 65, 84, 65, 91] = true
          · rw [if_pos c5] at e
            obtain ⟨i, _, h2⟩ := upA_some (nz_of e h0)
            have h3 : ([93, 93, 62] : List UInt8).length = 3 := rfl
            rw [h3, e] at h2
            unfold htmN
            rw [if_neg (by rw [le _ (by show 5 ≤ t; omega)]; exact c1), if_neg (by rw [le _ (by show 6 ≤ t; omega)]; exact c2), if_neg (by rw [le _ (by show 4 ≤ t; omega)]; exact c3), if_neg (by rw [le _ (by show 2 ≤ t; omega)]; exact c4), if_pos (by rw [le _ (by show 9 ≤ t; omega)]; exact c5)]
            exact upA_same (by simp) e h0 h hl
          · rw [if_neg c5] at e
            by_cases c6 : hasPrefix l [60, 33] = true
            · rw [if_pos c6] at e
              have e6 := e
              unfold decN at e
              by_cases c7 : frP rLet (l.drop 2) = true
              · rw [if_pos c7] at e
                obtain ⟨i, h1, h2⟩ := upA_some (nz_of e h0)
                have h3 : ([62] : List UInt8).length = 1 := rfl
                rw [h3, e] at h2
                obtain ⟨z, rfl⟩ := List.isPrefixOf_iff_prefix.1 c6
                cases z with
                | nil => cases c7
                | cons b z =>
                  have hb := let_not (.inr (show rLet b = true from c7))
                  have hi : i ≠ 0 := fun hi => by
                    obtain ⟨_, ho, _⟩ := index_of h1
                    rw [hi] at ho
                    have : (62 == b && List.isPrefixOf [] z) = true := ho
                    rw [Bool.and_eq_true, beq_iff_eq] at this
                    exact hb.2.2.2.2 this.1.symm
                  have ez : ([60, 33] : List UInt8) ++ b :: z = 60 :: 33 :: b :: z := rfl
                  rw [ez] at h hl e
                  obtain ⟨u, rfl⟩ : ∃ u, t = u + 1 + 1 + 1 := ⟨t - 3, by omega⟩
                  obtain ⟨k1, rfl, g1⟩ := agr_cons h
                  obtain ⟨k2, rfl, g2⟩ := agr_cons g1
                  obtain ⟨k3, rfl, g3⟩ := agr_cons g2
                  unfold htmN decN
                  rw [if_neg (by rw [pre_third hb.2.2.1]; decide), if_neg (by rw [pre_third hb.2.2.1]; decide), if_neg (by rw [pre_third hb.2.2.1]; decide), if_neg (by rw [pre_second (by decide)]; decide), if_neg (by rw [pre_third hb.2.2.2.1]; decide), if_pos (by rfl), if_pos (show frP rLet ((60 :: 33 :: b :: k3).drop 2) = true from c7)]
                  exact upA_same (by simp) e (by omega) h hl
              · rw [if_neg c7] at e
                exact absurd e.symm h0
            · rw [if_neg c6] at e
              have hk := tag_same e h0 h
              rw [htm_tag (nz_of hk h0)]
              exact hk
theorem htm_own (l m : List UInt8) (h0 : htmN l ≠ 0) : htmN (l.take (htmN l) ++ m) = htmN l := htm_same rfl h0 (agr_own l m (htmN_le l))
theorem tag_own (l m : List UInt8) (h0 : tagN l ≠ 0) : tagN (l.take (tagN l) ++ m) = tagN l := tag_same rfl h0 (agr_own l m (tagN_le l))
theorem tag_first {l : List UInt8} (h : tagN l ≠ 0) : ∃ r, l = 60 :: r := by
  obtain ⟨b, r, hl, _⟩ := tag_begins h
  exact ⟨_, hl⟩

/-! ### Links -/
theorem aut_some {l : List UInt8} (h : autN l ≠ 0) : encT l ≠ [] ∧ autN l = (encT l).length + 2 := by
  unfold autN at h ⊢
  by_cases c : schB (encT l) = true
  · rw [if_pos c]
    refine ⟨fun e => ?_, rfl⟩
    rw [e] at c
    revert c
    decide
  · rw [if_neg c] at h ⊢
    by_cases d : adrB (encT l) = true
    · rw [if_pos d]
      refine ⟨fun e => ?_, rfl⟩
      rw [e] at d
      revert d
      decide
    · rw [if_neg d] at h
      exact absurd rfl h
theorem cnt_app_stop {p : UInt8 → Bool} : ∀ (l m : List UInt8), cntP p l < l.length → cntP p (l ++ m) = cntP p l
  | [], m, h => absurd h (by simp)
  | b :: l, m, h => by
    rw [List.cons_append]
    by_cases hb : p b = true
    · rw [cntP_yes _ hb, cntP_yes _ hb]
      rw [cntP_yes _ hb, List.length_cons] at h
      rw [cnt_app_stop l m (by omega)]
    · have hb2 : p b = false := by simpa using hb
      rw [cntP_no _ hb2, cntP_no _ hb2]
theorem enc_some {l : List UInt8} (h : encT l ≠ []) : ∃ r, l = 60 :: r ∧ cntP rLnk r < r.length ∧ r[cntP rLnk r]? = some 62 ∧ encT l = r.take (cntP rLnk r) := by
  unfold encT at h ⊢
  by_cases c : hasPrefix l [60] = true
  · rw [if_pos c] at h ⊢
    obtain ⟨r, rfl⟩ := List.isPrefixOf_iff_prefix.1 c
    have e1 : (([60] : List UInt8) ++ r).drop 1 = r := rfl
    rw [e1] at h ⊢
    by_cases d : frP (fun b => decide (b.toNat = 62)) (r.drop (cntP rLnk r)) = true
    · rw [if_pos d]
      refine ⟨r, rfl, frP_drop d, ?_, rfl⟩
      cases hd : r.drop (cntP rLnk r) with
      | nil => rw [hd] at d; cases d
      | cons b q =>
        rw [hd] at d
        have hb : b = 62 := UInt8.toNat_inj.1 (of_decide_eq_true d)
        have := List.getElem?_drop (xs := r) (i := cntP rLnk r) (j := 0)
        rw [hd, hb, Nat.add_zero] at this
        rw [← this]
        rfl
    · rw [if_neg d] at h
      exact absurd rfl h
  · rw [if_neg c] at h
    exact absurd rfl h
theorem enc_app {l : List UInt8} (m : List UInt8) (h : encT l ≠ []) : encT (l ++ m) = encT l := by
  obtain ⟨r, rfl, h1, h2, h3⟩ := enc_some h
  rw [h3]
  unfold encT
  rw [List.cons_append, if_pos (by show (60 == 60 && List.isPrefixOf [] (r ++ m)) = true; cases r ++ m <;> rfl)]
  have e1 : ((60 : UInt8) :: (r ++ m)).drop 1 = r ++ m := rfl
  rw [e1, cnt_app_stop r m h1, List.drop_append_of_le_length (by omega), List.take_append_of_le_length (by omega)]
  have h4 : r.drop (cntP rLnk r) = 62 :: r.drop (cntP rLnk r + 1) := by
    rw [List.drop_eq_getElem_cons h1]
    congr 1
    rw [List.getElem?_eq_getElem h1] at h2
    exact Option.some.inj h2
  rw [h4, if_pos (by rfl)]
theorem aut_own {l : List UInt8} (m : List UInt8) (h : autN l ≠ 0) : autN (l ++ m) = autN l := by
  obtain ⟨h1, _⟩ := aut_some h
  have e := enc_app m h1
  unfold autN
  rw [e]
theorem aut_ends {l : List UInt8} (h : autN l ≠ 0) : l[autN l - 1]? = some 62 ∧ autN l ≤ l.length := by
  obtain ⟨h1, h2⟩ := aut_some h
  obtain ⟨r, rfl, h3, h4, h5⟩ := enc_some h1
  rw [h2, h5, List.length_take, Nat.min_eq_left (by omega), List.length_cons]
  exact ⟨h4, by omega⟩
end Go.Proofs.YtggeknhggpdpkaaGreatDoor
