/-
  Plain lists of bytes: digits ahead, decimal numbers as they are read and as they are written. No program in sight.
-/
import Derived.Lib.ItoaNum
import Derived.Lib.TrimByte
import Derived.Lib.Strings
namespace Go.Proofs.YtonajkcdkihchaaDoor
open Go

def isD (b : UInt8) : Bool := decide (48 ≤ b.toNat) && decide (b.toNat ≤ 57)
/-- The digits that a text begins with, so many of them at most. -/
def digs (l : List UInt8) (lim : Nat) : List UInt8 := (l.take lim).takeWhile isD

theorem isD_yes {b : UInt8} (h1 : 48 ≤ b.toNat) (h2 : b.toNat ≤ 57) : isD b = true := by unfold isD; rw [decide_eq_true h1, decide_eq_true h2]; rfl
theorem isD_lo {b : UInt8} (h1 : ¬ 48 ≤ b.toNat) : isD b = false := by unfold isD; rw [decide_eq_false h1]; rfl
theorem isD_hi {b : UInt8} (h1 : ¬ b.toNat ≤ 57) : isD b = false := by unfold isD; rw [decide_eq_false h1, Bool.and_false]
theorem isD_of {b : UInt8} (h : isD b = true) : 48 ≤ b.toNat ∧ b.toNat ≤ 57 := by
  unfold isD at h
  simpa using h

theorem takeWhile_take {p : UInt8 → Bool} : ∀ (k : Nat) (l : List UInt8), (∀ (j : Nat) (h : j < l.length), j < k → p l[j] = true) → (∀ (h : k < l.length), p l[k] = false) → l.takeWhile p = l.take k
  | _, [], _, _ => by simp
  | 0, b :: l, _, h2 => by
    have := h2 (by simp)
    simp only [List.getElem_cons_zero] at this
    rw [List.takeWhile_cons, this]; rfl
  | k + 1, b :: l, h1, h2 => by
    have hb : p b = true := h1 0 (by simp) (by omega)
    rw [List.takeWhile_cons, hb, List.take_succ_cons]
    simp only [if_true]
    rw [takeWhile_take k l (fun j h hj => h1 (j + 1) (Nat.succ_lt_succ h) (by omega)) (fun h => h2 (Nat.succ_lt_succ h))]

/-- Where the loop over the digits stands still. -/
theorem digs_stop (l : List UInt8) (lim k : Nat) (hk : k ≤ lim) (h1 : ∀ (j : Nat) (h : j < l.length), j < k → isD l[j] = true) (h2 : k = lim ∨ ∀ (h : k < l.length), isD l[k] = false) : digs l lim = l.take k := by
  unfold digs
  rw [takeWhile_take k]
  · rw [List.take_take, Nat.min_eq_left hk]
  · intro j h hj
    rw [List.getElem_take]
    exact h1 j _ hj
  · intro h
    rw [List.length_take] at h
    rcases h2 with e | e
    · omega
    · rw [List.getElem_take]; exact e _

def val (l : List UInt8) : Nat := l.foldl (fun n b => n * 10 + (b.toNat - 48)) 0
theorem val_snoc (l : List UInt8) (b : UInt8) : val (l ++ [b]) = val l * 10 + (b.toNat - 48) := by unfold val; rw [List.foldl_append]; rfl
theorem val_from : ∀ (l : List UInt8) (a : Nat), (∀ b ∈ l, isD b = true) → l.foldl (fun n b => n * 10 + (b.toNat - 48)) a < (a + 1) * 10 ^ l.length
  | [], a, _ => by simp
  | b :: l, a, h => by
    have h1 := val_from l (a * 10 + (b.toNat - 48)) (fun x hx => h x (List.mem_cons_of_mem _ hx))
    have h2 := isD_of (h b (List.mem_cons_self ..))
    rw [List.foldl_cons, List.length_cons, Nat.pow_succ, Nat.mul_comm (10 ^ l.length), ← Nat.mul_assoc]
    refine Nat.lt_of_lt_of_le h1 (Nat.mul_le_mul_right _ ?_)
    omega
theorem val_lt (l : List UInt8) (h : ∀ b ∈ l, isD b = true) : val l < 10 ^ l.length := by
  have := val_from l 0 h
  rw [Nat.zero_add, Nat.one_mul] at this
  exact this
theorem digs_all (l : List UInt8) (lim : Nat) : ∀ b ∈ digs l lim, isD b = true := by
  intro b hb
  unfold digs at hb
  exact List.all_eq_true.1 (List.all_takeWhile (p := isD) (l := l.take lim)) b hb
theorem digs_length (l : List UInt8) (lim : Nat) : (digs l lim).length ≤ lim ∧ (digs l lim).length ≤ l.length := by
  have h : (digs l lim).length ≤ (l.take lim).length := (List.takeWhile_prefix _).length_le
  rw [List.length_take] at h
  omega
theorem digs_prefix (l : List UInt8) (lim : Nat) : digs l lim = l.take (digs l lim).length := by
  have h1 : digs l lim <+: l := (List.takeWhile_prefix _).trans (List.take_prefix _ _)
  exact List.prefix_iff_eq_take.1 h1

/-- The digits behind a point. -/
def decs (l : List UInt8) : List UInt8 := if Lib.hasPrefix l [46] then digs (l.drop 1) 3 else []

/-- What a text begins with: its thousandths, and how many bytes they have. -/
def sgn (l : List UInt8) : Nat := if Lib.hasPrefix l [45] then 1 else 0
def wholeOf (l : List UInt8) : List UInt8 := digs (l.drop (sgn l)) 15
def restOf (l : List UInt8) : List UInt8 := decs (l.drop (sgn l + (wholeOf l).length))
def numOf (l : List UInt8) : Nat := val (wholeOf l ++ (restOf l ++ [48, 48, 48]).take 3)
def parseN (l : List UInt8) : Int := if wholeOf l = [] then 0 else if Lib.hasPrefix l [45] then -(numOf l : Int) else numOf l
def parseK (l : List UInt8) : Nat := if wholeOf l = [] then 0 else sgn l + (wholeOf l).length + (if restOf l = [] then 0 else 1 + (restOf l).length)

/-- Thousandths, as they are written. -/
def printD (u : Nat) : List UInt8 := Lib.decDigits (u / 1000) ++ (if u % 1000 = 0 then [] else [46] ++ Lib.trimRightB ((Lib.decDigits (1000 + u % 1000)).drop 1) 48)
def printT (n : Int) : List UInt8 := (if n < 0 then [45] else []) ++ printD n.natAbs

theorem dd_small {u : Nat} (h : u < 10) : Lib.decDigits u = [UInt8.ofNat (48 + u)] := by rw [Lib.decDigits, dif_pos h]
theorem dd_big {u : Nat} (h : ¬ u < 10) : Lib.decDigits u = Lib.decDigits (u / 10) ++ [UInt8.ofNat (48 + u % 10)] := by rw [Lib.decDigits, dif_neg h]
theorem of48 {d : Nat} (h : d < 10) : (UInt8.ofNat (48 + d)).toNat = 48 + d := by
  rw [UInt8.toNat_ofNat']; exact Nat.mod_eq_of_lt (by omega)
theorem dd_len : ∀ (k u : Nat), u < 10 ^ (k + 1) → (Lib.decDigits u).length ≤ k + 1
  | 0, u, h => by rw [dd_small (by omega)]; simp
  | k + 1, u, h => by
    by_cases hu : u < 10
    · rw [dd_small hu]; simp
    · rw [dd_big hu, List.length_append, List.length_singleton]
      have := dd_len k (u / 10) (by rw [Nat.div_lt_iff_lt_mul (by omega), ← Nat.pow_succ]; exact h)
      omega
theorem dd_all (u : Nat) : ∀ b ∈ Lib.decDigits u, isD b = true := by
  induction u using Nat.strongRecOn with
  | ind u ih =>
    intro b hb
    by_cases hu : u < 10
    · rw [dd_small hu, List.mem_singleton] at hb
      subst hb
      have := of48 hu
      exact isD_yes (by omega) (by omega)
    · rw [dd_big hu, List.mem_append, List.mem_singleton] at hb
      rcases hb with hb | hb
      · exact ih (u / 10) (by omega) b hb
      · subst hb
        have := of48 (Nat.mod_lt u (show 10 > 0 by omega))
        exact isD_yes (by omega) (by omega)
theorem dd_val (u : Nat) : val (Lib.decDigits u) = u := by
  induction u using Nat.strongRecOn with
  | ind u ih =>
    by_cases hu : u < 10
    · rw [dd_small hu]
      have := of48 hu
      show 0 * 10 + ((UInt8.ofNat (48 + u)).toNat - 48) = u
      omega
    · rw [dd_big hu, val_snoc, ih (u / 10) (by omega)]
      have := of48 (Nat.mod_lt u (show 10 > 0 by omega))
      omega
theorem dd_pos (u : Nat) : 1 ≤ (Lib.decDigits u).length := by
  by_cases hu : u < 10
  · rw [dd_small hu]; simp
  · rw [dd_big hu]; simp
end Go.Proofs.YtonajkcdkihchaaDoor
