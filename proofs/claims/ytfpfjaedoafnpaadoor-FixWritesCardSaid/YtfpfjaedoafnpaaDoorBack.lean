/-
  Thousandths are read from what was written, whatever stands behind that is no digit and no point: plain lists.
-/
import Derived.Test.YtfpfjaedoafnpaaDoorTxt
namespace Go.Proofs.YtfpfjaedoafnpaaDoor
open Go

theorem digs_app (A R : List UInt8) (lim : Nat) (h : ∀ b ∈ A, isD b = true) (hl : A.length ≤ lim) (hr : A.length = lim ∨ ∀ b, R.head? = some b → isD b = false) : digs (A ++ R) lim = A := by
  rw [digs_stop (A ++ R) lim A.length hl, List.take_left]
  · intro j hj hj'
    rw [List.getElem_append_left hj']
    exact h _ (List.getElem_mem hj')
  · refine hr.imp id fun hr hk => ?_
    rw [List.getElem_append_right (Nat.le_refl _)]
    refine hr _ ?_
    rw [List.head?_eq_getElem?, List.getElem?_eq_getElem (by rw [List.length_append] at hk; omega)]
    simp

theorem val_app : ∀ (X W : List UInt8), val (W ++ X) = val W * 10 ^ X.length + val X
  | [], W => by simp [val]
  | b :: X, W => by
    have h1 := val_app X (W ++ [b])
    have h2 := val_app X [b]
    rw [List.append_assoc] at h1
    have e : [b] ++ X = b :: X := rfl
    rw [e] at h1 h2
    rw [h1, h2, val_snoc, List.length_cons, Nat.pow_succ]
    have e3 : val [b] = b.toNat - 48 := by show 0 * 10 + (b.toNat - 48) = _; omega
    rw [e3, Nat.add_mul, Nat.mul_assoc, Nat.mul_comm 10]
    omega

/-- What stands behind: nothing, or a sign that is no digit and no point. -/
def Ends (t : List UInt8) : Prop := ∀ b, t.head? = some b → isD b = false ∧ b ≠ 46

theorem pre_cons (b c : UInt8) (l : List UInt8) : Lib.hasPrefix (b :: l) [c] = (c == b) := by
  unfold Lib.hasPrefix
  simp [List.isPrefixOf]
theorem pre_digit (W X : List UInt8) (h0 : W ≠ []) (h : ∀ b ∈ W, isD b = true) : Lib.hasPrefix (W ++ X) [45] = false := by
  obtain ⟨b, l, rfl⟩ := List.exists_cons_of_ne_nil h0
  rw [List.cons_append, pre_cons]
  have := isD_of (h b (by simp))
  rw [beq_eq_false_iff_ne]
  rintro rfl
  have e : (45 : UInt8).toNat = 45 := rfl
  omega
theorem decs_tail (t : List UInt8) (h : Ends t) : decs t = [] := by
  unfold decs
  rw [if_neg]
  cases t with
  | nil => decide
  | cons b l =>
    rw [pre_cons]
    intro k
    exact (h b rfl).2 (by simpa using (beq_iff_eq.1 k).symm)
theorem decs_rest (R t : List UInt8) (hr : ∀ b ∈ R, isD b = true) (hl : R.length ≤ 3) (h : Ends t) : decs ([46] ++ (R ++ t)) = R := by
  unfold decs
  rw [show [46] ++ (R ++ t) = 46 :: (R ++ t) from rfl, pre_cons, if_pos (by decide)]
  exact digs_app R t 3 hr hl (.inr fun b hb => (h b hb).1)

/-- A text of a sign or none, digits, and perhaps a point and digits: what Parse reads of it. -/
theorem parse_text (neg : Bool) (W R t : List UInt8) (hW0 : W ≠ []) (hW : ∀ b ∈ W, isD b = true) (hWl : W.length ≤ 15) (hR : ∀ b ∈ R, isD b = true) (hRl : R.length ≤ 3) (ht : Ends t) :
    parseN ((if neg then [45] else []) ++ (W ++ ((if R = [] then [] else [46] ++ R) ++ t))) = (if neg then -((val (W ++ (R ++ [48, 48, 48]).take 3) : Nat) : Int) else ((val (W ++ (R ++ [48, 48, 48]).take 3) : Nat) : Int)) ∧
    parseK ((if neg then [45] else []) ++ (W ++ ((if R = [] then [] else [46] ++ R) ++ t))) = ((if neg then [45] else []) ++ (W ++ (if R = [] then [] else [46] ++ R))).length := by
  generalize hX : (if R = [] then [] else [46] ++ R) ++ t = X
  have hXd : ∀ b, X.head? = some b → isD b = false := by
    intro b hb
    subst hX
    by_cases hr : R = []
    · rw [if_pos hr, List.nil_append] at hb; exact (ht b hb).1
    · rw [if_neg hr] at hb
      have : b = 46 := by simpa using hb.symm
      subst this; rfl
  have hXr : decs X = R := by
    subst hX
    by_cases hr : R = []
    · rw [if_pos hr, List.nil_append, decs_tail t ht, hr]
    · rw [if_neg hr, List.append_assoc]; exact decs_rest R t hR hRl ht
  have hp : Lib.hasPrefix ((if neg then [45] else []) ++ (W ++ X)) [45] = neg := by
    cases neg
    · exact pre_digit W X hW0 hW
    · simp only [if_true, List.singleton_append]
      rw [pre_cons]; rfl
  have hs : sgn ((if neg then [45] else []) ++ (W ++ X)) = ((if neg then [45] else []) : List UInt8).length := by
    unfold sgn; rw [hp]; cases neg <;> rfl
  have hw : wholeOf ((if neg then [45] else []) ++ (W ++ X)) = W := by
    unfold wholeOf
    rw [hs, List.drop_left]
    exact digs_app W X 15 hW hWl (.inr hXd)
  have hr : restOf ((if neg then [45] else []) ++ (W ++ X)) = R := by
    unfold restOf
    rw [hs, hw, ← List.drop_drop, List.drop_left, List.drop_left]
    exact hXr
  have hn : numOf ((if neg then [45] else []) ++ (W ++ X)) = val (W ++ (R ++ [48, 48, 48]).take 3) := by
    unfold numOf; rw [hw, hr]
  refine ⟨?_, ?_⟩
  · unfold parseN
    rw [hw, if_neg hW0, hp, hn]
  · unfold parseK
    rw [hw, if_neg hW0, hs, hr]
    by_cases k : R = []
    · rw [if_pos k, if_pos k, List.append_nil, List.length_append]; omega
    · rw [if_neg k, if_neg k, List.length_append, List.length_append, List.length_append, List.length_singleton]; omega

/-- The three digits of thousandths below one. -/
def tri (f : Nat) : List UInt8 := [UInt8.ofNat (48 + f / 100), UInt8.ofNat (48 + f / 10 % 10), UInt8.ofNat (48 + f % 10)]
theorem tri_dd (f : Nat) (h : f < 1000) : (Lib.decDigits (1000 + f)).drop 1 = tri f := by
  rw [dd_big (by omega), dd_big (by omega), dd_big (by omega), dd_small (by omega)]
  unfold tri
  simp only [List.cons_append, List.nil_append, List.drop_succ_cons, List.drop_zero]
  rw [show (1000 + f) / 10 / 10 % 10 = f / 100 by omega, show (1000 + f) / 10 % 10 = f / 10 % 10 by omega, show (1000 + f) % 10 = f % 10 by omega]
def triOk (f : Nat) : Bool := (Lib.trimRightB (tri f) 48).all isD && decide ((Lib.trimRightB (tri f) 48).length ≤ 3) && (decide (f = 0) || decide (Lib.trimRightB (tri f) 48 ≠ [])) && decide (val ((Lib.trimRightB (tri f) 48 ++ [48, 48, 48]).take 3) = f) && decide (((Lib.trimRightB (tri f) 48 ++ [48, 48, 48]).take 3).length = 3)
theorem tri_all : ∀ f : Fin 1000, triOk f.val = true := by decide +kernel

theorem dd_ne (u : Nat) : Lib.decDigits u ≠ [] := fun h => by have := dd_pos u; rw [h] at this; simp at this

/-- What was printed is read as it was. -/
theorem back_print (n : Int) (t : List UInt8) (hn : n.natAbs ≤ 1000000000000000) (ht : Ends t) : parseN (printT n ++ t) = n ∧ parseK (printT n ++ t) = (printT n).length := by
  have hf := tri_all ⟨n.natAbs % 1000, Nat.mod_lt _ (by omega)⟩
  unfold triOk at hf
  simp only [Bool.and_eq_true, Bool.or_eq_true, decide_eq_true_eq, List.all_eq_true] at hf
  obtain ⟨⟨⟨⟨f1, f2⟩, f3⟩, f4⟩, f5⟩ := hf
  have hW := dd_all (n.natAbs / 1000)
  have hWl := dd_len 14 (n.natAbs / 1000) (by omega)
  by_cases hz : n.natAbs % 1000 = 0
  · have key := parse_text (decide (n < 0)) (Lib.decDigits (n.natAbs / 1000)) [] t (dd_ne _) hW hWl (by simp) (by simp) ht
    have e : printT n = (if decide (n < 0) = true then [45] else []) ++ (Lib.decDigits (n.natAbs / 1000) ++ (if ([] : List UInt8) = [] then [] else [46] ++ [])) := by
      unfold printT printD; rw [if_pos hz]; simp
    have e2 : printT n ++ t = (if decide (n < 0) = true then [45] else []) ++ (Lib.decDigits (n.natAbs / 1000) ++ ((if ([] : List UInt8) = [] then [] else [46] ++ []) ++ t)) := by
      rw [e, List.append_assoc, List.append_assoc]
    rw [e2, key.1, key.2, ← e]
    refine ⟨?_, rfl⟩
    have hv : val (Lib.decDigits (n.natAbs / 1000) ++ (([] : List UInt8) ++ [48, 48, 48]).take 3) = n.natAbs := by
      rw [val_app, dd_val]
      show n.natAbs / 1000 * 10 ^ 3 + 0 = _
      omega
    rw [hv]
    by_cases h : n < 0
    · rw [if_pos (decide_eq_true h)]; omega
    · rw [if_neg (by simpa using h)]; omega
  · have key := parse_text (decide (n < 0)) (Lib.decDigits (n.natAbs / 1000)) (Lib.trimRightB (tri (n.natAbs % 1000)) 48) t (dd_ne _) hW hWl f1 f2 ht
    have hR : Lib.trimRightB (tri (n.natAbs % 1000)) 48 ≠ [] := f3.resolve_left hz
    have e : printT n = (if decide (n < 0) = true then [45] else []) ++ (Lib.decDigits (n.natAbs / 1000) ++ (if Lib.trimRightB (tri (n.natAbs % 1000)) 48 = [] then [] else [46] ++ Lib.trimRightB (tri (n.natAbs % 1000)) 48)) := by
      unfold printT printD; rw [if_neg hz, if_neg hR, tri_dd _ (Nat.mod_lt _ (by omega))]; simp
    have e2 : printT n ++ t = (if decide (n < 0) = true then [45] else []) ++ (Lib.decDigits (n.natAbs / 1000) ++ ((if Lib.trimRightB (tri (n.natAbs % 1000)) 48 = [] then [] else [46] ++ Lib.trimRightB (tri (n.natAbs % 1000)) 48) ++ t)) := by
      rw [e, List.append_assoc, List.append_assoc]
    rw [e2, key.1, key.2, ← e]
    refine ⟨?_, rfl⟩
    have hv : val (Lib.decDigits (n.natAbs / 1000) ++ (Lib.trimRightB (tri (n.natAbs % 1000)) 48 ++ [48, 48, 48]).take 3) = n.natAbs := by
      rw [val_app, dd_val, f4, f5]
      omega
    rw [hv]
    by_cases h : n < 0
    · rw [if_pos (decide_eq_true h)]; omega
    · rw [if_neg (by simpa using h)]; omega

theorem back_whole (m : Int) (t : List UInt8) (hm : m.natAbs ≤ 1000000000000) (ht : Ends t) : parseN (Lib.itoa m ++ t) = m * 1000 ∧ parseK (Lib.itoa m ++ t) = (Lib.itoa m).length := by
  have hW := dd_all m.natAbs
  have hWl := dd_len 14 m.natAbs (by omega)
  have key := parse_text (decide (m < 0)) (Lib.decDigits m.natAbs) [] t (dd_ne _) hW hWl (by simp) (by simp) ht
  have e : Lib.itoa m = (if decide (m < 0) = true then [45] else []) ++ (Lib.decDigits m.natAbs ++ (if ([] : List UInt8) = [] then [] else [46] ++ [])) := by
    unfold Lib.itoa
    by_cases h : m < 0
    · rw [if_pos h, if_pos (decide_eq_true h)]; simp
    · rw [if_neg h, if_neg (by simpa using h), show m.toNat = m.natAbs by omega]; simp
  have e2 : Lib.itoa m ++ t = (if decide (m < 0) = true then [45] else []) ++ (Lib.decDigits m.natAbs ++ ((if ([] : List UInt8) = [] then [] else [46] ++ []) ++ t)) := by
    rw [e, List.append_assoc, List.append_assoc]
  rw [e2, key.1, key.2, ← e]
  refine ⟨?_, rfl⟩
  have hv : val (Lib.decDigits m.natAbs ++ (([] : List UInt8) ++ [48, 48, 48]).take 3) = m.natAbs * 1000 := by
    rw [val_app, dd_val]
    show m.natAbs * 10 ^ 3 + 0 = _
    omega
  rw [hv]
  by_cases h : m < 0
  · rw [if_pos (decide_eq_true h)]; omega
  · rw [if_neg (by simpa using h)]; omega
end Go.Proofs.YtfpfjaedoafnpaaDoor
