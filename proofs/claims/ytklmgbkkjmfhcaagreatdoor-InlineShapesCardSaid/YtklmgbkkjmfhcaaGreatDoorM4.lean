/-
  Texts of the proof, one behind the other: Rwt, Txt, Nmu.
-/
import Derived.Test.YtklmgbkkjmfhcaaGreatDoorM2
import Derived.Lib.IndexBytes
import Derived.Lib.IndexMore
import Derived.Lib.IndexLaws
import Derived.Lib.ItoaNum
import Derived.Lib.TrimByte
import Derived.Lib.Strings
/-
  Plain lists of bytes: elements, raw HTML, links in < and >, code. No program in sight.
-/
namespace Go.Proofs.YtklmgbkkjmfhcaaGreatDoor
open Go Go.Lib

/-! ### Stretches -/
/-- How many bytes ahead are as p says. -/
def cntP (p : UInt8 → Bool) : List UInt8 → Nat
  | [] => 0
  | b :: l => if p b = true then cntP p l + 1 else 0
theorem cntP_yes {p : UInt8 → Bool} {b : UInt8} (l : List UInt8) (h : p b = true) : cntP p (b :: l) = cntP p l + 1 := by rw [cntP, if_pos h]
theorem cntP_no {p : UInt8 → Bool} {b : UInt8} (l : List UInt8) (h : p b = false) : cntP p (b :: l) = 0 := by rw [cntP, if_neg (by rw [h]; decide)]
theorem cntP_le (p : UInt8 → Bool) : ∀ l : List UInt8, cntP p l ≤ l.length
  | [] => Nat.le_refl _
  | b :: l => by
    have := cntP_le p l
    rw [cntP, List.length_cons]
    split <;> omega
/-- A stretch of p's, and what isn't one. -/
theorem cntP_app {p : UInt8 → Bool} : ∀ {a : List UInt8} (l : List UInt8), (∀ b ∈ a, p b = true) → cntP p (a ++ l) = a.length + cntP p l
  | [], l, _ => by simp
  | b :: a, l, h => by
    rw [List.cons_append, cntP_yes _ (h b (List.mem_cons_self ..)), cntP_app l (fun c hc => h c (List.mem_cons_of_mem _ hc)), List.length_cons]
    omega
theorem cntP_mem {p : UInt8 → Bool} : ∀ {l : List UInt8} {b : UInt8}, b ∈ l.take (cntP p l) → p b = true
  | [], b, h => by simp at h
  | c :: l, b, h => by
    rw [cntP] at h
    split at h
    · next hc =>
      rw [List.take_succ_cons, List.mem_cons] at h
      rcases h with rfl | h
      · exact hc
      · exact cntP_mem h
    · simp at h
theorem cntP_stop {p : UInt8 → Bool} : ∀ {l : List UInt8} {b : UInt8} {r : List UInt8}, l.drop (cntP p l) = b :: r → p b = false
  | [], b, r, h => by simp at h
  | c :: l, b, r, h => by
    rw [cntP] at h
    split at h
    · next hc =>
      rw [List.drop_succ_cons] at h
      exact cntP_stop h
    · next hc =>
      rw [List.drop_zero] at h
      injection h with h1 h2
      rw [← h1]
      simpa using hc
theorem cntP_split (p : UInt8 → Bool) (l : List UInt8) : l = l.take (cntP p l) ++ l.drop (cntP p l) := (List.take_append_drop _ _).symm
/-- What begins otherwise has none. -/
def noP (p : UInt8 → Bool) (l : List UInt8) : Prop := ∀ b r, l = b :: r → p b = false
theorem cntP_zero {p : UInt8 → Bool} {l : List UInt8} (h : noP p l) : cntP p l = 0 := by
  cases l with
  | nil => rfl
  | cons b l => exact cntP_no l (h b l rfl)
theorem noP_drop (p : UInt8 → Bool) (l : List UInt8) : noP p (l.drop (cntP p l)) := fun _ _ h => cntP_stop h
theorem cntP_eq {p : UInt8 → Bool} {a l : List UInt8} (h : ∀ b ∈ a, p b = true) (hl : noP p l) : cntP p (a ++ l) = a.length := by rw [cntP_app l h, cntP_zero hl, Nat.add_zero]
theorem cntP_one {p : UInt8 → Bool} {l : List UInt8} {k : Nat} (h : ∀ b ∈ l.take k, p b = true) (hk : k ≤ l.length) (hl : noP p (l.drop k)) : cntP p l = k := by
  have := cntP_eq h hl
  rw [List.take_append_drop, List.length_take] at this
  omega

/-! ### Which bytes -/
def rLet (b : UInt8) : Bool := decide (97 ≤ b.toNat ∧ b.toNat ≤ 122) || decide (65 ≤ b.toNat ∧ b.toNat ≤ 90)
def rDig (b : UInt8) : Bool := decide (48 ≤ b.toNat ∧ b.toNat ≤ 57)
def rNam (b : UInt8) : Bool := rLet b || rDig b || decide (b.toNat = 45)
def rAtt (b : UInt8) : Bool := rLet b || rDig b || decide (b.toNat = 95 ∨ b.toNat = 58 ∨ b.toNat = 46 ∨ b.toNat = 45)
def rAt1 (b : UInt8) : Bool := rLet b || decide (b.toNat = 95 ∨ b.toNat = 58)
def rSpc (b : UInt8) : Bool := decide (b.toNat = 32 ∨ b.toNat = 9 ∨ b.toNat = 10)
def rVal (b : UInt8) : Bool := !decide (b.toNat = 32 ∨ b.toNat = 9 ∨ b.toNat = 10 ∨ b.toNat = 34 ∨ b.toNat = 39 ∨ b.toNat = 61 ∨ b.toNat = 60 ∨ b.toNat = 62 ∨ b.toNat = 96)
def rSch (b : UInt8) : Bool := rLet b || rDig b || decide (b.toNat = 43 ∨ b.toNat = 46 ∨ b.toNat = 45)
def rUsr (b : UInt8) : Bool := rLet b || rDig b || decide (b.toNat = 46 ∨ b.toNat = 33 ∨ b.toNat = 35 ∨ b.toNat = 36 ∨ b.toNat = 37 ∨ b.toNat = 38 ∨ b.toNat = 39 ∨ b.toNat = 42 ∨ b.toNat = 43 ∨ b.toNat = 47 ∨ b.toNat = 61 ∨ b.toNat = 63 ∨ b.toNat = 94 ∨ b.toNat = 95 ∨ b.toNat = 123 ∨ b.toNat = 124 ∨ b.toNat = 125 ∨ b.toNat = 126 ∨ b.toNat = 45 ∨ b.toNat = 96)
def rTik (b : UInt8) : Bool := decide (b.toNat = 96)
def rLnk (b : UInt8) : Bool := decide (32 < b.toNat ∧ b.toNat ≠ 60 ∧ b.toNat ≠ 62 ∧ b.toNat ≠ 127)
/-- Does it begin with such a byte? -/
def frP (p : UInt8 → Bool) : List UInt8 → Bool
  | [] => false
  | b :: _ => p b

/-- Spaces. -/
theorem spc_cnt : ∀ (l : List UInt8) (e : Bool), spcN false e l = cntP rSpc l
  | [], _ => rfl
  | b :: l, e => by
    have h1 := spc_cnt l e
    have h2 := spc_cnt l true
    by_cases c1 : b.toNat = 32 ∨ b.toNat = 9
    · rw [spcN, if_pos c1, h1, cntP_yes _ (by unfold rSpc; rw [decide_eq_true_eq]; omega)]
    · by_cases c2 : b.toNat = 10
      · rw [spcN, if_neg c1, if_pos c2, if_neg (by simp), h2, cntP_yes _ (by unfold rSpc; rw [decide_eq_true_eq]; omega)]
      · rw [spcN, if_neg c1, if_neg c2, cntP_no _ (by unfold rSpc; rw [decide_eq_false_iff_not]; omega)]

/-! ### Elements -/
/-- Up to the first t from k on, with it; 0: there is none. -/
def upA (k : Nat) (t l : List UInt8) : Nat := if index (l.drop k) t = -1 then 0 else k + (index (l.drop k) t).toNat + t.length
theorem upA_le {k : Nat} {t l : List UInt8} (hk : k ≤ l.length) : upA k t l ≤ l.length := by
  unfold upA
  split
  · omega
  · have h := index_ge (l.drop k) t
    have h1 := index_room (l.drop k) t (by omega)
    rw [List.length_drop] at h1
    omega
def namN (l : List UInt8) : Nat := if frP rLet l = true then cntP rNam l else 0
def attN (l : List UInt8) : Nat := if frP rAt1 l = true then cntP rAtt l else 0
def valN (l : List UInt8) : Nat := match l with
  | [] => 0
  | b :: _ => if b.toNat = 34 ∨ b.toNat = 39 then upA 1 [b] l else cntP rVal l
/-- How many are a value, with its =, and the spaces ahead of both. -/
def asgA (l : List UInt8) : Nat := cntP rSpc l
def asgQ (l : List UInt8) : Bool := frP (fun b => decide (b.toNat = 61)) (l.drop (asgA l))
def asgC (l : List UInt8) : Nat := asgA l + 1 + cntP rSpc (l.drop (asgA l + 1))
def asgV (l : List UInt8) : Nat := valN (l.drop (asgC l))
def asgN (l : List UInt8) : Nat := if asgQ l = true then (if asgV l = 0 then 0 else asgC l + asgV l) else 0
/-- How many are an attribute, with the spaces ahead of it. -/
def atrA (l : List UInt8) : Nat := cntP rSpc l
def atrM (l : List UInt8) : Nat := attN (l.drop (atrA l))
def atrN (l : List UInt8) : Nat := if atrA l = 0 then 0 else if atrM l = 0 then 0 else atrA l + atrM l + asgN (l.drop (atrA l + atrM l))
def atsF : Nat → List UInt8 → Nat
  | 0, _ => 0
  | f + 1, l => if atrN l = 0 then 0 else atrN l + atsF f (l.drop (atrN l))
def atsN (l : List UInt8) : Nat := atsF l.length l
/-- A > at n: with it. -/
def cloN (n : Nat) (l : List UInt8) : Nat := if frP (fun b => decide (b.toNat = 62)) (l.drop n) = true then n + 1 else 0
def endN (l : List UInt8) : Nat := if namN (l.drop 2) = 0 then 0 else cloN (2 + namN (l.drop 2) + cntP rSpc (l.drop (2 + namN (l.drop 2)))) l
def begA (l : List UInt8) : Nat := 1 + namN (l.drop 1) + atsN (l.drop (1 + namN (l.drop 1)))
def begB (l : List UInt8) : Nat := begA l + cntP rSpc (l.drop (begA l))
def begC (l : List UInt8) : Nat := if frP (fun b => decide (b.toNat = 47)) (l.drop (begB l)) = true then begB l + 1 else begB l
def begN (l : List UInt8) : Nat := if namN (l.drop 1) = 0 then 0 else cloN (begC l) l
def tagN (l : List UInt8) : Nat := if hasPrefix l [60, 47] = true then endN l else if hasPrefix l [60] = true then begN l else 0
/-- What <! and a letter begin. -/
def decN (l : List UInt8) : Nat := if frP rLet (l.drop 2) = true then upA 2 [62] l else 0
def htmN (l : List UInt8) : Nat :=
  if hasPrefix l [60, 33, 45, 45, 62] = true then 5
  else if hasPrefix l [60, 33, 45, 45, 45, 62] = true then 6
  else if hasPrefix l [60, 33, 45, 45] = true then upA 4 [45, 45, 62] l
  else if hasPrefix l [60, 63] = true then upA 2 [63, 62] l
  else if hasPrefix l [60, 33, 91, 67, 68, 65, 84, 65, 91] = true then upA 9 [93, 93, 62] l
  else if hasPrefix l [60, 33] = true then decN l
  else tagN l

/-! ### Links -/
/-- What stands in < and >; nothing, if a byte of it stands in no link. -/
def encT (l : List UInt8) : List UInt8 := if hasPrefix l [60] = true then (if frP (fun b => decide (b.toNat = 62)) ((l.drop 1).drop (cntP rLnk (l.drop 1))) = true then (l.drop 1).take (cntP rLnk (l.drop 1)) else []) else []
def schB (t : List UInt8) : Bool := decide (2 ≤ cntP rSch t) && decide (cntP rSch t ≤ 32) && frP rLet t && frP (fun b => decide (b.toNat = 58)) (t.drop (cntP rSch t))
/-- The parts between the points. -/
def prtL : List UInt8 → List (List UInt8)
  | [] => [[]]
  | b :: l => if b.toNat = 46 then [] :: prtL l else match prtL l with
    | [] => [[b]]
    | p :: ps => (b :: p) :: ps
def hstB (p : List UInt8) : Bool := !p.isEmpty && decide (p.length ≤ 63) && !hasPrefix p [45] && !hasSuffix p [45] && decide (cntP rNam p = p.length)
def notAt (b : UInt8) : Bool := decide (b.toNat ≠ 64)
def adrU (t : List UInt8) : List UInt8 := t.take (cntP notAt t)
def adrR (t : List UInt8) : List UInt8 := t.drop (cntP notAt t + 1)
def adrB (t : List UInt8) : Bool := decide (cntP notAt t < t.length) && !(adrU t).isEmpty && decide (cntP rUsr (adrU t) = (adrU t).length) && (prtL (adrR t)).all hstB
def mailto : List UInt8 := [109, 97, 105, 108, 116, 111, 58]
def autA (l : List UInt8) : List UInt8 := if schB (encT l) = true then encT l else if adrB (encT l) = true then mailto ++ encT l else []
def autB (l : List UInt8) : List UInt8 := if schB (encT l) = true then encT l else if adrB (encT l) = true then encT l else []
def autN (l : List UInt8) : Nat := if schB (encT l) = true then (encT l).length + 2 else if adrB (encT l) = true then (encT l).length + 2 else 0

/-! ### Code -/
/-- Where the first stretch of just n of the sign begins, and 1; 0: there is none. -/
def cdF : Nat → Nat → List UInt8 → Nat
  | 0, _, _ => 0
  | f + 1, n, l => if l = [] then 0 else if cntP rTik l = n then 1 else upN (max (cntP rTik l) 1) (cdF f n (l.drop (max (cntP rTik l) 1)))
def cdE (n : Nat) (l : List UInt8) : Nat := cdF l.length n l
def lfB (b : UInt8) : UInt8 := if b = 10 then 32 else b
def ctU (t : List UInt8) : List UInt8 := t.map lfB
def ctK (u : List UInt8) : Bool := hasPrefix u [32] && hasSuffix u [32] && u.any (fun b => decide (b ≠ 32))
def ctT (t : List UInt8) : List UInt8 := if ctK (ctU t) = true then ((ctU t).drop 1).dropLast else ctU t
def codO (l : List UInt8) : Nat := cntP rTik l
def codK (l : List UInt8) : Nat := cdE (codO l) (l.drop (codO l))
def codT (l : List UInt8) : List UInt8 := if codO l = 0 then [] else if codK l = 0 then [] else ctT ((l.drop (codO l)).take (codK l - 1))
def codN (l : List UInt8) : Nat := if codO l = 0 then 0 else if codK l = 0 then 0 else codO l + (codK l - 1) + codO l
/-! ### Escapes -/
def escT (l : List UInt8) : List UInt8 := if escB l = true then [l.getD 1 0] else []

/-! ### Bounds -/
theorem namN_le (l : List UInt8) : namN l ≤ l.length := by unfold namN; split; exact cntP_le _ _; omega
theorem attN_le (l : List UInt8) : attN l ≤ l.length := by unfold attN; split; exact cntP_le _ _; omega
theorem valN_le (l : List UInt8) : valN l ≤ l.length := by
  unfold valN
  cases l with
  | nil => simp
  | cons b l =>
    show (if b.toNat = 34 ∨ b.toNat = 39 then upA 1 [b] (b :: l) else cntP rVal (b :: l)) ≤ _
    split
    · exact upA_le (by rw [List.length_cons]; omega)
    · exact cntP_le _ _
theorem frP_len {p : UInt8 → Bool} {l : List UInt8} (h : frP p l = true) : 0 < l.length := by
  cases l with
  | nil => cases h
  | cons b l => simp
theorem frP_drop {p : UInt8 → Bool} {l : List UInt8} {n : Nat} (h : frP p (l.drop n) = true) : n < l.length := by
  have := frP_len h
  rw [List.length_drop] at this
  omega
theorem asgC_le {l : List UInt8} (h : asgQ l = true) : asgC l ≤ l.length := by
  unfold asgQ at h
  have h1 := frP_drop h
  have h2 := cntP_le rSpc (l.drop (asgA l + 1))
  rw [List.length_drop] at h2
  unfold asgC
  omega
theorem asgN_le (l : List UInt8) : asgN l ≤ l.length := by
  unfold asgN
  split
  · next h =>
    split
    · omega
    · have h1 := asgC_le h
      have h2 := valN_le (l.drop (asgC l))
      rw [List.length_drop] at h2
      unfold asgV
      omega
  · omega
theorem atrN_le (l : List UInt8) : atrN l ≤ l.length := by
  unfold atrN
  split
  · omega
  · split
    · omega
    · have h1 := cntP_le rSpc l
      have h2 := attN_le (l.drop (atrA l))
      have h3 := asgN_le (l.drop (atrA l + atrM l))
      rw [List.length_drop] at h2 h3
      have h4 : atrA l = cntP rSpc l := rfl
      have h5 : atrM l = attN (l.drop (atrA l)) := rfl
      omega
theorem atsF_le : ∀ (f : Nat) (l : List UInt8), atsF f l ≤ l.length
  | 0, l => Nat.zero_le _
  | f + 1, l => by
    have h := atrN_le l
    have h2 := atsF_le f (l.drop (atrN l))
    rw [List.length_drop] at h2
    rw [atsF]
    split <;> omega
theorem atsN_le (l : List UInt8) : atsN l ≤ l.length := atsF_le _ _
theorem atsF_any : ∀ (f : Nat) (l : List UInt8), l.length ≤ f → atsF f l = atsN l
  | 0, l, h => by
    have : l = [] := List.length_eq_zero_iff.1 (by omega)
    subst this
    rfl
  | f + 1, l, h => by
    unfold atsN
    cases hl : l.length with
    | zero =>
      have : l = [] := List.length_eq_zero_iff.1 hl
      subst this
      rw [atsF]
      rfl
    | succ g =>
      rw [atsF, atsF]
      by_cases h0 : atrN l = 0
      · rw [if_pos h0, if_pos h0]
      · rw [if_neg h0, if_neg h0, atsF_any f _ (by rw [List.length_drop]; omega), atsF_any g _ (by rw [List.length_drop]; omega)]
theorem ats_stop {l : List UInt8} (h : atrN l = 0) : atsN l = 0 := by
  unfold atsN
  cases l.length with
  | zero => rfl
  | succ f => rw [atsF, if_pos h]
theorem ats_step {l : List UInt8} (h : atrN l ≠ 0) : atsN l = atrN l + atsN (l.drop (atrN l)) := by
  have hl := atrN_le l
  unfold atsN
  cases hf : l.length with
  | zero => omega
  | succ f =>
    rw [atsF, if_neg h, atsF_any f _ (by rw [List.length_drop]; omega)]
    rfl
theorem begB_le (l : List UInt8) (h : namN (l.drop 1) ≠ 0) : begB l ≤ l.length := by
  have h1 := namN_le (l.drop 1)
  have h2 := atsN_le (l.drop (1 + namN (l.drop 1)))
  have h3 := cntP_le rSpc (l.drop (begA l))
  rw [List.length_drop] at h1 h2 h3
  unfold begB
  unfold begA at *
  omega
theorem begC_le (l : List UInt8) (h : namN (l.drop 1) ≠ 0) : begC l ≤ l.length := by
  have h1 := begB_le l h
  unfold begC
  split
  · next h2 =>
    have := frP_drop h2
    omega
  · exact h1
theorem cloN_le (n : Nat) (l : List UInt8) : cloN n l ≤ l.length := by
  unfold cloN
  split
  · next h => have := frP_drop h; omega
  · omega
theorem tagN_le (l : List UInt8) : tagN l ≤ l.length := by
  unfold tagN endN begN
  split
  · split
    · omega
    · exact cloN_le _ _
  · split
    · split
      · omega
      · exact cloN_le _ _
    · omega
theorem pre_len {l t : List UInt8} (h : hasPrefix l t = true) : t.length ≤ l.length := by
  unfold hasPrefix at h
  exact (List.isPrefixOf_iff_prefix.1 h).length_le
theorem htmN_le (l : List UInt8) : htmN l ≤ l.length := by
  unfold htmN decN
  split
  · next h => exact pre_len h
  · split
    · next h => exact pre_len h
    · split
      · next h => exact upA_le (pre_len h)
      · split
        · next h => exact upA_le (pre_len h)
        · split
          · next h => exact upA_le (pre_len h)
          · split
            · split
              · next h => exact upA_le (Nat.le_of_lt (frP_drop h))
              · omega
            · exact tagN_le l
theorem encT_le (l : List UInt8) : encT l = [] ∨ (encT l).length + 2 ≤ l.length := by
  unfold encT
  split
  · next h =>
    split
    · next h2 =>
      have h3 := frP_drop h2
      right
      rw [List.length_take, List.length_drop] at *
      omega
    · exact .inl rfl
  · exact .inl rfl
theorem cdF_le : ∀ (f n : Nat) (l : List UInt8), cdF f n l ≤ l.length
  | 0, _, _ => Nat.zero_le _
  | f + 1, n, l => by
    rw [cdF]
    split
    · omega
    · next hl =>
      have hp := List.length_pos_iff.2 hl
      split
      · omega
      · have h1 := cntP_le rTik l
        have h2 := cdF_le f n (l.drop (max (cntP rTik l) 1))
        rw [List.length_drop] at h2
        by_cases h0 : cdF f n (l.drop (max (cntP rTik l) 1)) = 0
        · rw [h0, up_none]
          omega
        · rw [up_pos _ h0]
          omega
theorem cdF_any : ∀ (f n : Nat) (l : List UInt8), l.length ≤ f → cdF f n l = cdE n l
  | 0, n, l, h => by
    have : l = [] := List.length_eq_zero_iff.1 (by omega)
    subst this
    rfl
  | f + 1, n, l, h => by
    unfold cdE
    cases hl : l.length with
    | zero =>
      have : l = [] := List.length_eq_zero_iff.1 hl
      subst this
      rfl
    | succ g =>
      rw [cdF, cdF, cdF_any f n _ (by rw [List.length_drop]; omega), cdF_any g n _ (by rw [List.length_drop]; omega)]
theorem cdE_nil (n : Nat) : cdE n [] = 0 := rfl
theorem cdE_hit {n : Nat} {l : List UInt8} (hl : l ≠ []) (h : cntP rTik l = n) : cdE n l = 1 := by
  unfold cdE
  cases hf : l.length with
  | zero => exact absurd (List.length_eq_zero_iff.1 hf) hl
  | succ f => rw [cdF, if_neg hl, if_pos h]
theorem cdE_go {n : Nat} {l : List UInt8} (hl : l ≠ []) (h : cntP rTik l ≠ n) : cdE n l = upN (max (cntP rTik l) 1) (cdE n (l.drop (max (cntP rTik l) 1))) := by
  show cdF l.length n l = _
  cases hf : l.length with
  | zero => exact absurd (List.length_eq_zero_iff.1 hf) hl
  | succ f => rw [cdF, if_neg hl, if_neg h, cdF_any f n _ (by rw [List.length_drop]; omega)]
theorem cdE_le (n : Nat) (l : List UInt8) : cdE n l ≤ l.length := cdF_le _ _ _
end Go.Proofs.YtklmgbkkjmfhcaaGreatDoor

/-
  Plain lists of bytes: digits ahead, decimal numbers as they are read and as they are written. No program in sight.
-/
namespace Go.Proofs.YtklmgbkkjmfhcaaGreatDoor
open Go

def isD (b : UInt8) : Bool := decide (48 ≤ b.toNat) && decide (b.toNat ≤ 57)
/-- The digits that a text begins with, so many of them at most. -/
def digs (l : List UInt8) (lim : Nat) : List UInt8 := (l.take lim).takeWhile isD

theorem isD_yes {b : UInt8} (h1 : 48 ≤ b.toNat) (h2 : b.toNat ≤ 57) : isD b = true := by unfold isD; rw [decide_eq_true h1, decide_eq_true h2]; rfl
theorem isD_lo {b : UInt8} (h1 : ¬ 48 ≤ b.toNat) : isD b = false := by unfold isD; rw [decide_eq_false h1]; rfl
theorem isD_hi {b : UInt8} (h1 : ¬ b.toNat ≤ 57) : isD b = false := by unfold isD; rw [decide_eq_false h1, Bool.and_false]
theorem isD_of {b : UInt8} (h : isD b = true) : 48 ≤ b.toNat ∧ b.toNat ≤ 57 := by
  unfold isD at h
  simpa using h

theorem takeWhile_take {p : UInt8 → Bool} : ∀ (k : Nat) (l : List UInt8), (∀ (j : Nat) (h : j < l.length), j < k → p l[j] = true) → (∀ (h : k < l.length), p l[k] = false) → l.takeWhile p = l.take k
  | _, [], _, _ => by simp
  | 0, b :: l, _, h2 => by
    have := h2 (by simp)
    simp only [List.getElem_cons_zero] at this
    rw [List.takeWhile_cons, this]; rfl
  | k + 1, b :: l, h1, h2 => by
    have hb : p b = true := h1 0 (by simp) (by omega)
    rw [List.takeWhile_cons, hb, List.take_succ_cons]
    simp only [if_true]
    rw [takeWhile_take k l (fun j h hj => h1 (j + 1) (Nat.succ_lt_succ h) (by omega)) (fun h => h2 (Nat.succ_lt_succ h))]

/-- Where the loop over the digits stands still. -/
theorem digs_stop (l : List UInt8) (lim k : Nat) (hk : k ≤ lim) (h1 : ∀ (j : Nat) (h : j < l.length), j < k → isD l[j] = true) (h2 : k = lim ∨ ∀ (h : k < l.length), isD l[k] = false) : digs l lim = l.take k := by
  unfold digs
  rw [takeWhile_take k]
  · rw [List.take_take, Nat.min_eq_left hk]
  · intro j h hj
    rw [List.getElem_take]
    exact h1 j _ hj
  · intro h
    rw [List.length_take] at h
    rcases h2 with e | e
    · omega
    · rw [List.getElem_take]; exact e _

def val (l : List UInt8) : Nat := l.foldl (fun n b => n * 10 + (b.toNat - 48)) 0
theorem val_snoc (l : List UInt8) (b : UInt8) : val (l ++ [b]) = val l * 10 + (b.toNat - 48) := by unfold val; rw [List.foldl_append]; rfl
theorem val_from : ∀ (l : List UInt8) (a : Nat), (∀ b ∈ l, isD b = true) → l.foldl (fun n b => n * 10 + (b.toNat - 48)) a < (a + 1) * 10 ^ l.length
  | [], a, _ => by simp
  | b :: l, a, h => by
    have h1 := val_from l (a * 10 + (b.toNat - 48)) (fun x hx => h x (List.mem_cons_of_mem _ hx))
    have h2 := isD_of (h b (List.mem_cons_self ..))
    rw [List.foldl_cons, List.length_cons, Nat.pow_succ, Nat.mul_comm (10 ^ l.length), ← Nat.mul_assoc]
    refine Nat.lt_of_lt_of_le h1 (Nat.mul_le_mul_right _ ?_)
    omega
theorem val_lt (l : List UInt8) (h : ∀ b ∈ l, isD b = true) : val l < 10 ^ l.length := by
  have := val_from l 0 h
  rw [Nat.zero_add, Nat.one_mul] at this
  exact this
theorem digs_all (l : List UInt8) (lim : Nat) : ∀ b ∈ digs l lim, isD b = true := by
  intro b hb
  unfold digs at hb
  exact List.all_eq_true.1 (List.all_takeWhile (p := isD) (l := l.take lim)) b hb
theorem digs_length (l : List UInt8) (lim : Nat) : (digs l lim).length ≤ lim ∧ (digs l lim).length ≤ l.length := by
  have h : (digs l lim).length ≤ (l.take lim).length := (List.takeWhile_prefix _).length_le
  rw [List.length_take] at h
  omega
theorem digs_prefix (l : List UInt8) (lim : Nat) : digs l lim = l.take (digs l lim).length := by
  have h1 : digs l lim <+: l := (List.takeWhile_prefix _).trans (List.take_prefix _ _)
  exact List.prefix_iff_eq_take.1 h1

/-- The digits behind a point. -/
def decs (l : List UInt8) : List UInt8 := if Lib.hasPrefix l [46] then digs (l.drop 1) 3 else []

/-- What a text begins with: its thousandths, and how many bytes they have. -/
def sgn (l : List UInt8) : Nat := if Lib.hasPrefix l [45] then 1 else 0
def wholeOf (l : List UInt8) : List UInt8 := digs (l.drop (sgn l)) 15
def restOf (l : List UInt8) : List UInt8 := decs (l.drop (sgn l + (wholeOf l).length))
def numOf (l : List UInt8) : Nat := val (wholeOf l ++ (restOf l ++ [48, 48, 48]).take 3)
def parseN (l : List UInt8) : Int := if wholeOf l = [] then 0 else if Lib.hasPrefix l [45] then -(numOf l : Int) else numOf l
def parseK (l : List UInt8) : Nat := if wholeOf l = [] then 0 else sgn l + (wholeOf l).length + (if restOf l = [] then 0 else 1 + (restOf l).length)

/-- Thousandths, as they are written. -/
def printD (u : Nat) : List UInt8 := Lib.decDigits (u / 1000) ++ (if u % 1000 = 0 then [] else [46] ++ Lib.trimRightB ((Lib.decDigits (1000 + u % 1000)).drop 1) 48)
def printT (n : Int) : List UInt8 := (if n < 0 then [45] else []) ++ printD n.natAbs

theorem dd_small {u : Nat} (h : u < 10) : Lib.decDigits u = [UInt8.ofNat (48 + u)] := by rw [Lib.decDigits, dif_pos h]
theorem dd_big {u : Nat} (h : ¬ u < 10) : Lib.decDigits u = Lib.decDigits (u / 10) ++ [UInt8.ofNat (48 + u % 10)] := by rw [Lib.decDigits, dif_neg h]
theorem of48 {d : Nat} (h : d < 10) : (UInt8.ofNat (48 + d)).toNat = 48 + d := by
  rw [UInt8.toNat_ofNat']; exact Nat.mod_eq_of_lt (by omega)
theorem dd_len : ∀ (k u : Nat), u < 10 ^ (k + 1) → (Lib.decDigits u).length ≤ k + 1
  | 0, u, h => by rw [dd_small (by omega)]; simp
  | k + 1, u, h => by
    by_cases hu : u < 10
    · rw [dd_small hu]; simp
    · rw [dd_big hu, List.length_append, List.length_singleton]
      have := dd_len k (u / 10) (by rw [Nat.div_lt_iff_lt_mul (by omega), ← Nat.pow_succ]; exact h)
      omega
theorem dd_all (u : Nat) : ∀ b ∈ Lib.decDigits u, isD b = true := by
  induction u using Nat.strongRecOn with
  | ind u ih =>
    intro b hb
    by_cases hu : u < 10
    · rw [dd_small hu, List.mem_singleton] at hb
      subst hb
      have := of48 hu
      exact isD_yes (by omega) (by omega)
    · rw [dd_big hu, List.mem_append, List.mem_singleton] at hb
      rcases hb with hb | hb
      · exact ih (u / 10) (by omega) b hb
      · subst hb
        have := of48 (Nat.mod_lt u (show 10 > 0 by omega))
        exact isD_yes (by omega) (by omega)
theorem dd_val (u : Nat) : val (Lib.decDigits u) = u := by
  induction u using Nat.strongRecOn with
  | ind u ih =>
    by_cases hu : u < 10
    · rw [dd_small hu]
      have := of48 hu
      show 0 * 10 + ((UInt8.ofNat (48 + u)).toNat - 48) = u
      omega
    · rw [dd_big hu, val_snoc, ih (u / 10) (by omega)]
      have := of48 (Nat.mod_lt u (show 10 > 0 by omega))
      omega
theorem dd_pos (u : Nat) : 1 ≤ (Lib.decDigits u).length := by
  by_cases hu : u < 10
  · rw [dd_small hu]; simp
  · rw [dd_big hu]; simp
end Go.Proofs.YtklmgbkkjmfhcaaGreatDoor

/-
  Plain lists of bytes: how a reference is read: digits ahead, names up to the first ;. No program in sight.
-/
namespace Go.Proofs.YtklmgbkkjmfhcaaGreatDoor
open Go Go.Lib

/-- The digits that a text begins with, so many at most. -/
def scanL (base most : Nat) (l : List UInt8) : List UInt8 := (l.take most).takeWhile (isDig base)
theorem scan_all (base most : Nat) (l : List UInt8) : (scanL base most l).all (isDig base) = true := List.all_takeWhile
theorem scan_len (base most : Nat) (l : List UInt8) : (scanL base most l).length ≤ most ∧ (scanL base most l).length ≤ l.length := by
  have h : (scanL base most l).length ≤ (l.take most).length := (List.takeWhile_prefix _).length_le
  rw [List.length_take] at h
  omega
theorem scan_pre (base most : Nat) (l : List UInt8) : l = scanL base most l ++ l.drop (scanL base most l).length := by
  have h : scanL base most l <+: l := (List.takeWhile_prefix _).trans (List.take_prefix _ _)
  conv => lhs; rw [← List.take_append_drop (scanL base most l).length l]
  rw [← List.prefix_iff_eq_take.1 h]
theorem scan_stop {base most : Nat} {l : List UInt8} {k : Nat} (hk : k ≤ most) (h1 : ∀ (j : Nat) (h : j < l.length), j < k → isDig base l[j] = true) (h2 : k = most ∨ ∀ (h : k < l.length), isDig base l[k] = false) : scanL base most l = l.take k := by
  unfold scanL
  rw [takeWhile_take k]
  · rw [List.take_take, Nat.min_eq_left hk]
  · intro j h hj
    rw [List.getElem_take]
    exact h1 j _ hj
  · intro h
    rw [List.length_take] at h
    rcases h2 with e | e
    · omega
    · rw [List.getElem_take]; exact e _
/-- What a number's reference comes to, behind so many bytes. -/
def nrL (base most start : Nat) (l : List UInt8) : Nat × Nat := if scanL base most l ≠ [] ∧ hasPrefix (l.drop (scanL base most l).length) [59] = true then (runeOf (numV base (scanL base most l)), start + (scanL base most l).length + 1) else (0, 0)
theorem dig_ne {base : Nat} (hb : base ≤ 16) {u : List UInt8} (h : u.all (isDig base) = true) : ∀ b ∈ u, b ≠ 59 := fun _ hx => (aln_ne (dig_aln hb (List.all_eq_true.1 h _ hx))).1
theorem scan_of {base most : Nat} (hb : base ≤ 16) {u z : List UInt8} (h2 : u.length ≤ most) (h3 : u.all (isDig base) = true) : scanL base most (u ++ 59 :: z) = u := by
  rw [scan_stop (k := u.length) h2, List.take_left]
  · intro j h hj
    rw [List.getElem_append_left hj]
    exact List.all_eq_true.1 h3 _ (List.getElem_mem _)
  · refine .inr fun h => ?_
    rw [List.getElem_append_right (Nat.le_refl _)]
    simp only [Nat.sub_self, List.getElem_cons_zero]
    exact not59 hb
theorem nrL_eq {base most start : Nat} (hb : base ≤ 16) (l : List UInt8) : nrL base most start l = if (semiL l).length < l.length ∧ numL base most (semiL l) ≠ 0 then (numL base most (semiL l), start + (semiL l).length + 1) else (0, 0) := by
  by_cases h : (semiL l).length < l.length ∧ numL base most (semiL l) ≠ 0
  · rw [if_pos h]
    obtain ⟨h1, h2⟩ := h
    obtain ⟨a1, a2, a3⟩ := numL_of h2
    have e := upto_of h1
    have hs : scanL base most l = semiL l := by
      conv => lhs; rw [e]
      exact scan_of hb a2 a3
    unfold nrL
    rw [hs, if_pos, numL_yes a1 a2 a3]
    refine ⟨a1, ?_⟩
    have hd : ∀ u y, l = u ++ 59 :: y → l.drop u.length = 59 :: y := fun u y h => by rw [h]; exact List.drop_left
    rw [hd _ _ e, pre1_cons]; rfl
  · rw [if_neg h]
    unfold nrL
    rw [if_neg]
    rintro ⟨h1, h2⟩
    apply h
    obtain ⟨z, hz⟩ := (pre_iff _ _).1 h2
    have e := scan_pre base most l
    rw [hz] at e
    have hu : semiL l = scanL base most l := by
      conv => lhs; rw [e]
      exact upto_app (dig_ne hb (scan_all base most l)) z
    have hl := congrArg List.length e
    simp only [List.length_append, List.length_cons, List.length_nil] at hl
    rw [hu]
    refine ⟨by omega, ?_⟩
    rw [numL_yes h1 (scan_len base most l).1 (scan_all base most l)]
    exact (runeOf_ok _).1

theorem pre_up {z p : List UInt8} (h : hasPrefix (semiL z) p = true) : hasPrefix z p = true := by
  unfold hasPrefix at *
  rw [List.isPrefixOf_iff_prefix] at *
  exact h.trans (List.takeWhile_prefix _)
/-- A number's reference, as it stands in a text. -/
theorem refL_hex {l : List UInt8} (h : hasPrefix l [38, 35, 120] = true ∨ hasPrefix l [38, 35, 88] = true) : refL l = nrL 16 6 3 (l.drop 3) := by
  have key : ∀ c z, l = 38 :: 35 :: c :: z → c = 120 ∨ c = 88 → refL l = nrL 16 6 3 z := by
    rintro c z rfl hc
    have hu : semiL (35 :: c :: z) = 35 :: c :: semiL z := by
      unfold semiL
      rw [List.takeWhile_cons, if_pos (by decide), List.takeWhile_cons, if_pos (by rcases hc with rfl | rfl <;> decide)]
    have ht : refT (35 :: c :: semiL z) = numL 16 6 (semiL z) := by
      unfold refT
      rw [if_pos]
      · rfl
      · rcases hc with rfl | rfl
        · exact .inl ((pre_iff _ _).2 ⟨_, rfl⟩)
        · exact .inr ((pre_iff _ _).2 ⟨_, rfl⟩)
    rw [refL_amp _ rfl, hu, ht, nrL_eq (by omega)]
    simp only [List.length_cons]
    by_cases h1 : (semiL z).length < z.length ∧ numL 16 6 (semiL z) ≠ 0
    · rw [if_pos h1, if_pos ⟨by omega, h1.2⟩]
      simp only [Prod.mk.injEq, true_and]; omega
    · rw [if_neg h1, if_neg]
      rintro ⟨a, b⟩
      exact h1 ⟨by omega, b⟩
  rcases h with h | h
  · obtain ⟨z, e⟩ := (pre_iff _ _).1 h
    rw [key 120 z e (.inl rfl), e]; rfl
  · obtain ⟨z, e⟩ := (pre_iff _ _).1 h
    rw [key 88 z e (.inr rfl), e]; rfl
theorem refL_dec {l : List UInt8} (h1 : hasPrefix l [38, 35, 120] = false) (h2 : hasPrefix l [38, 35, 88] = false) (h : hasPrefix l [38, 35] = true) : refL l = nrL 10 7 2 (l.drop 2) := by
  obtain ⟨z, e⟩ := (pre_iff _ _).1 h
  subst e
  have hu : semiL (35 :: z) = 35 :: semiL z := by
    unfold semiL
    rw [List.takeWhile_cons, if_pos (by decide)]
  have hp : ∀ c : UInt8, hasPrefix ([38, 35] ++ z) [38, 35, c] = false → hasPrefix (35 :: semiL z) [35, c] = false := by
    intro c h
    rw [Bool.eq_false_iff] at h ⊢
    intro k
    rw [← hu] at k
    obtain ⟨y, hy⟩ := (pre_iff _ _).1 (pre_up k)
    apply h
    rw [pre_iff]
    exact ⟨y, congrArg (38 :: ·) hy⟩
  have ht : refT (35 :: semiL z) = numL 10 7 (semiL z) := by
    unfold refT
    rw [if_neg, if_pos (by rw [pre1_cons]; rfl)]
    · rfl
    · rintro (k | k)
      · rw [hp 120 h1] at k; cases k
      · rw [hp 88 h2] at k; cases k
  have hd : ([38, 35] ++ z).drop 2 = z := rfl
  rw [hd, show refL ([38, 35] ++ z) = _ from refL_amp (35 :: z) rfl, hu, ht, nrL_eq (by omega)]
  simp only [List.length_cons]
  by_cases h1 : (semiL z).length < z.length ∧ numL 10 7 (semiL z) ≠ 0
  · rw [if_pos h1, if_pos ⟨by omega, h1.2⟩]
    simp only [Prod.mk.injEq, true_and]; omega
  · rw [if_neg h1, if_neg]
    rintro ⟨a, b⟩
    exact h1 ⟨by omega, b⟩
/-- A name's reference, as it stands in a text. -/
theorem refT_name {r : List UInt8} (h : hasPrefix r [35] = false) : refT (semiL r) = namedL (semiL r) := by
  have h1 : hasPrefix (semiL r) [35] = false := by
    rw [Bool.eq_false_iff] at h ⊢
    exact fun k => h (pre_up k)
  have h2 : ∀ c : UInt8, hasPrefix (semiL r) [35, c] = false := fun c => by
    rw [Bool.eq_false_iff] at h1 ⊢
    intro k
    apply h1
    obtain ⟨z, e⟩ := (pre_iff _ _).1 k
    rw [pre_iff]
    exact ⟨c :: z, e⟩
  unfold refT
  rw [if_neg, if_neg (by rw [h1]; exact Bool.false_ne_true)]
  rintro (k | k)
  · rw [h2] at k; cases k
  · rw [h2] at k; cases k
theorem refL_name {l : List UInt8} (h1 : hasPrefix l [38, 35] = false) (h : hasPrefix l [38] = true) :
    refL l = if (semiL (l.drop 1)).length < (l.drop 1).length ∧ namedL (semiL (l.drop 1)) ≠ 0 then (namedL (semiL (l.drop 1)), (semiL (l.drop 1)).length + 2) else (0, 0) := by
  obtain ⟨z, e⟩ := (pre_iff _ _).1 h
  subst e
  have hz : hasPrefix z [35] = false := by
    rw [Bool.eq_false_iff] at h1 ⊢
    intro k
    apply h1
    obtain ⟨y, e⟩ := (pre_iff _ _).1 k
    rw [e, pre_iff]
    exact ⟨y, rfl⟩
  rw [show refL ([38] ++ z) = _ from refL_amp z rfl, refT_name hz]
  rfl
/-- Where the first ; stands, among the first bytes. -/
theorem index_upto (r : List UInt8) (m : Nat) : indexByte (r.take m) 59 = if (semiL r).length < r.length ∧ (semiL r).length < m then ((semiL r).length : Int) else -1 := by
  induction r generalizing m with
  | nil => simp [indexByte]
  | cons b r ih =>
    cases m with
    | zero => simp [indexByte]
    | succ m =>
      rw [List.take_succ_cons]
      unfold indexByte
      by_cases hb : b = 59
      · subst hb
        have e : semiL (59 :: r) = [] := by unfold semiL; simp
        rw [if_pos (by rfl), e, if_pos ⟨by simp, by simp⟩]; rfl
      · have e : semiL (b :: r) = b :: semiL r := by
          unfold semiL
          rw [List.takeWhile_cons, if_pos (by simpa using hb)]
        rw [if_neg (by simpa using hb), ih m, e]
        simp only [List.length_cons]
        by_cases hc : (semiL r).length < r.length ∧ (semiL r).length < m
        · have q : ¬ (((semiL r).length : Int) == -1) = true := by rw [beq_iff_eq]; omega
          have q2 : (semiL r).length + 1 < r.length + 1 ∧ (semiL r).length + 1 < m + 1 := by omega
          rw [if_pos hc, if_neg q, if_pos q2]
          omega
        · have q2 : ¬ ((semiL r).length + 1 < r.length + 1 ∧ (semiL r).length + 1 < m + 1) := by omega
          rw [if_neg hc, if_neg q2]
          rfl
end Go.Proofs.YtklmgbkkjmfhcaaGreatDoor

