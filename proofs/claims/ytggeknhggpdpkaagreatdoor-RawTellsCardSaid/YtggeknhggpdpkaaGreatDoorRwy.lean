/-
  Plain lists of bytes: links as the document goes about them come to the same. No program in sight.
-/
import Derived.Test.YtggeknhggpdpkaaGreatDoorRwx
namespace Go.Proofs.YtggeknhggpdpkaaGreatDoor
open Go Go.Lib

/-! ### A scheme -/
/-- How many bytes are a scheme, with its colon; 0: there is none. -/
def schD (t : List UInt8) : Nat := if schB t = true then cntP rSch t + 1 else 0
theorem schD_pos (t : List UInt8) : decide (0 < schD t) = schB t := by
  unfold schD
  cases schB t with
  | true => rw [if_pos rfl]; exact decide_eq_true (by omega)
  | false => rw [if_neg (by decide)]; rfl
theorem sch_no {t : List UInt8} (h : frP rLet t = false) : schD t = 0 := by
  unfold schD schB
  rw [h, Bool.and_false, Bool.false_and, if_neg (by decide)]
theorem sch_few {t : List UInt8} {k : Nat} (h : cntP rSch t = k) (hk : k < 2) : schD t = 0 := by
  unfold schD schB
  rw [h, decide_eq_false (show ¬ 2 ≤ k by omega), Bool.false_and, Bool.false_and, Bool.false_and, if_neg (by decide)]
theorem sch_many {t : List UInt8} {k : Nat} (h : cntP rSch t = k) (hk : 32 < k) : schD t = 0 := by
  unfold schD schB
  rw [h, decide_eq_false (show ¬ k ≤ 32 by omega), Bool.and_false, Bool.false_and, Bool.false_and, if_neg (by decide)]
theorem sch_bare {t : List UInt8} {k : Nat} (h : cntP rSch t = k) (hk : frP (fun b => decide (b.toNat = 58)) (t.drop k) = false) : schD t = 0 := by
  unfold schD schB
  rw [h, hk, Bool.and_false, if_neg (by decide)]
theorem sch_yes {t : List UInt8} {k : Nat} (h : cntP rSch t = k) (h1 : 2 ≤ k) (h2 : k ≤ 32) (h3 : frP rLet t = true) (hk : frP (fun b => decide (b.toNat = 58)) (t.drop k) = true) : schD t = k + 1 := by
  unfold schD schB
  rw [h, hk, h3, decide_eq_true h1, decide_eq_true h2]
  rfl
theorem rLet_sch {b : UInt8} (h : rLet b = true) : rSch b = true := by
  unfold rSch
  rw [h]
  rfl

/-! ### A host -/
def hsG : List UInt8 → List UInt8 → Bool
  | cur, [] => hstB cur
  | cur, b :: l => if b.toNat = 46 then (hstB cur && hsG [] l) else if rNam b = true then hsG (cur ++ [b]) l else false
theorem prt_some_part (l : List UInt8) : ∃ p ps, prtL l = p :: ps := by
  cases l with
  | nil => exact ⟨_, _, rfl⟩
  | cons b l =>
    rw [prtL]
    split
    · exact ⟨_, _, rfl⟩
    · cases prtL l with
      | nil => exact ⟨_, _, rfl⟩
      | cons p ps => exact ⟨_, _, rfl⟩
theorem cnt_all {p : UInt8 → Bool} : ∀ {l : List UInt8}, cntP p l = l.length → ∀ b ∈ l, p b = true
  | [], _, b, hb => by cases hb
  | c :: l, h, b, hb => by
    rw [cntP] at h
    split at h
    · next hc =>
      rw [List.length_cons] at h
      rcases List.mem_cons.1 hb with e | hb
      · rw [e]; exact hc
      · exact cnt_all (by omega) b hb
    · rw [List.length_cons] at h
      omega
theorem hst_bad {p : List UInt8} {b : UInt8} (h : b ∈ p) (hb : rNam b = false) : hstB p = false := by
  cases c : decide (cntP rNam p = p.length) with
  | true =>
    have := cnt_all (of_decide_eq_true c) b h
    rw [hb] at this
    cases this
  | false =>
    unfold hstB
    rw [c, Bool.and_false]
theorem hs_prt : ∀ (l cur p : List UInt8) (ps : List (List UInt8)), prtL l = p :: ps → hsG cur l = (hstB (cur ++ p) && ps.all hstB)
  | [], cur, p, ps, h => by
    have h1 : [] = p := (List.cons.inj h).1
    have h2 : [] = ps := (List.cons.inj h).2
    subst h1; subst h2
    rw [List.append_nil]
    simp [hsG]
  | b :: l, cur, p, ps, h => by
    rw [hsG]
    by_cases c : b.toNat = 46
    · rw [prtL, if_pos c] at h
      have h1 : [] = p := (List.cons.inj h).1
      have h2 : prtL l = ps := (List.cons.inj h).2
      subst h1; subst h2
      obtain ⟨q, qs, hq⟩ := prt_some_part l
      rw [if_pos c, List.append_nil, hs_prt l [] q qs hq, hq, List.nil_append, List.all_cons]
    · obtain ⟨q, qs, hq⟩ := prt_some_part l
      rw [prtL, if_neg c, hq] at h
      have h1 : b :: q = p := (List.cons.inj h).1
      have h2 : qs = ps := (List.cons.inj h).2
      subst h1; subst h2
      rw [if_neg c]
      by_cases d : rNam b = true
      · rw [if_pos d, hs_prt l (cur ++ [b]) q qs hq, List.append_assoc]
        rfl
      · rw [if_neg d, hst_bad (b := b) (by simp) (by simpa using d), Bool.false_and]
theorem prt_hs (l : List UInt8) : (prtL l).all hstB = hsG [] l := by
  obtain ⟨p, ps, h⟩ := prt_some_part l
  rw [hs_prt l [] p ps h, h, List.nil_append, List.all_cons]

/-! ### An address -/
theorem usr_at {b : UInt8} (h : rUsr b = true) : notAt b = true := by
  refine decide_eq_true fun e => ?_
  have : b = 64 := UInt8.toNat_inj.1 e
  rw [this] at h
  revert h
  decide
theorem cnt_sub {p q : UInt8 → Bool} (h : ∀ b, p b = true → q b = true) : ∀ l : List UInt8, cntP p l ≤ cntP q l
  | [] => Nat.le_refl _
  | b :: l => by
    have := cnt_sub h l
    by_cases c : p b = true
    · rw [cntP_yes _ c, cntP_yes _ (h b c)]
      omega
    · rw [cntP_no _ (by simpa using c)]
      omega
theorem cnt_take {p : UInt8 → Bool} : ∀ (l : List UInt8) (m : Nat), cntP p (l.take m) = min (cntP p l) m
  | [], m => by simp [cntP]
  | b :: l, 0 => by simp [cntP]
  | b :: l, m + 1 => by
    rw [List.take_succ_cons]
    by_cases c : p b = true
    · rw [cntP_yes _ c, cntP_yes _ c, cnt_take l m]
      omega
    · rw [cntP_no _ (by simpa using c), cntP_no _ (by simpa using c)]
      omega
theorem adr_doc (t : List UInt8) : adrB t = (decide (0 < cntP rUsr t) && frP (fun b => decide (b.toNat = 64)) (t.drop (cntP rUsr t)) && (prtL (t.drop (cntP rUsr t + 1))).all hstB) := by
  have le := cnt_sub (fun b => usr_at (b := b)) t
  have lm := cntP_le notAt t
  have lu := cnt_take (p := rUsr) t (cntP notAt t)
  have ul : (adrU t).length = cntP notAt t := by unfold adrU; rw [List.length_take]; omega
  have hU : adrU t = t.take (cntP notAt t) := rfl
  have hR : adrR t = t.drop (cntP notAt t + 1) := rfl
  rw [← hU] at lu
  unfold adrB
  rw [lu, ul, hR]
  by_cases c : cntP rUsr t = cntP notAt t
  · rw [c, Nat.min_self, decide_eq_true rfl, Bool.and_true]
    have e : (adrU t).isEmpty = decide (cntP notAt t = 0) := by
      rw [← ul]
      cases adrU t with
      | nil => rfl
      | cons a b => simp
    rw [e]
    have f : frP (fun b => decide (b.toNat = 64)) (t.drop (cntP notAt t)) = decide (cntP notAt t < t.length) := by
      cases d : t.drop (cntP notAt t) with
      | nil =>
        have := congrArg List.length d
        rw [List.length_drop, List.length_nil] at this
        exact (decide_eq_false (by omega)).symm
      | cons b r =>
        have h1 := cntP_stop d
        have h2 := congrArg List.length d
        rw [List.length_drop, List.length_cons] at h2
        have h3 : b.toNat = 64 := by
          have : ¬ b.toNat ≠ 64 := of_decide_eq_false h1
          omega
        show decide (b.toNat = 64) = _
        rw [decide_eq_true h3, decide_eq_true (by omega)]
    rw [f]
    by_cases z : cntP notAt t = 0
    · rw [decide_eq_true z, decide_eq_false (show ¬ 0 < cntP notAt t by omega)]
      simp
    · rw [decide_eq_false z, decide_eq_true (show 0 < cntP notAt t by omega)]
      simp
  · have lt : cntP rUsr t < cntP notAt t := by omega
    rw [Nat.min_eq_left (by omega), decide_eq_false c, Bool.and_false, Bool.false_and]
    have f : frP (fun b => decide (b.toNat = 64)) (t.drop (cntP rUsr t)) = false := by
      cases d : t.drop (cntP rUsr t) with
      | nil => rfl
      | cons b r =>
        have m : b ∈ t.take (cntP notAt t) := by
          have h1 : t[cntP rUsr t]? = some b := by
            have := List.getElem?_drop (xs := t) (i := cntP rUsr t) (j := 0)
            rw [d, Nat.add_zero] at this
            rw [← this]
            rfl
          have h2 : (t.take (cntP notAt t))[cntP rUsr t]? = some b := by
            rw [List.getElem?_take_of_lt lt]
            exact h1
          exact List.mem_of_getElem? h2
        have := cntP_mem m
        have h3 : b.toNat ≠ 64 := of_decide_eq_true this
        exact decide_eq_false h3
    rw [f, Bool.and_false, Bool.false_and]
end Go.Proofs.YtggeknhggpdpkaaGreatDoor
