/-
  What a line begins, plainly: signs counted, rules, headings, lines under them, fences, items' marks; with no program.
-/
import Derived.Test.YtjfhbfnagcjdmaaDoorSrct
import Derived.Lib.TrimByte
import Derived.Lib.Bytealg
namespace Go.Proofs.YtjfhbfnagcjdmaaDoor
open Go Go.Lib

/-- How many of c stand at the beginning. -/
def cntL (c : UInt8) : List UInt8 → Nat
  | [] => 0
  | b :: l => if b = c then cntL c l + 1 else 0
theorem cnt_nil (c : UInt8) : cntL c [] = 0 := rfl
theorem cnt_cons (c b : UInt8) (l : List UInt8) : cntL c (b :: l) = if b = c then cntL c l + 1 else 0 := rfl
theorem cnt_le (c : UInt8) : ∀ l, cntL c l ≤ l.length
  | [] => Nat.le_refl _
  | b :: l => by
    rw [cnt_cons, List.length_cons]
    split
    · have := cnt_le c l; omega
    · omega
theorem cnt_rep (c : UInt8) (r : List UInt8) : ∀ n, cntL c (List.replicate n c ++ r) = n + cntL c r
  | 0 => by rw [List.replicate_zero, List.nil_append, Nat.zero_add]
  | n + 1 => by rw [List.replicate_succ, List.cons_append, cnt_cons, if_pos rfl, cnt_rep c r n]; omega
theorem cnt_other {c b : UInt8} (h : b ≠ c) (l : List UInt8) : cntL c (b :: l) = 0 := by rw [cnt_cons, if_neg h]
theorem drop_rep (c : UInt8) (n : Nat) (r : List UInt8) : (List.replicate n c ++ r).drop n = r := by
  exact List.drop_left' (List.length_replicate ..)
/-- A round of the loop that counts. -/
theorem cnt_more {c : UInt8} {l : List UInt8} {k : Nat} (e : cntL c l = k + cntL c (l.drop k)) (h : k < l.length) (hc : l[k] = c) : cntL c l = k + 1 + cntL c (l.drop (k + 1)) := by
  rw [List.drop_eq_getElem_cons h, cnt_cons, if_pos hc] at e
  omega
theorem cnt_stop {c : UInt8} {l : List UInt8} {k : Nat} (e : cntL c l = k + cntL c (l.drop k)) (h : k < l.length) (hc : ¬ l[k] = c) : cntL c l = k := by
  rw [List.drop_eq_getElem_cons h, cnt_cons, if_neg hc] at e
  omega
theorem cnt_end {c : UInt8} {l : List UInt8} {k : Nat} (e : cntL c l = k + cntL c (l.drop k)) (h : l.length ≤ k) : cntL c l = k := by
  rw [List.drop_eq_nil_of_le h, cnt_nil] at e
  exact e

/-- Nothing, or a blank ahead. -/
def apartL : List UInt8 → Bool
  | [] => true
  | b :: _ => isB b
/-- m or more of c, and blanks behind. -/
def stretchL (c : UInt8) (m : Int) (l : List UInt8) : Bool := decide (m ≤ (cntL c l : Int)) && blankL (l.drop (cntL c l))
theorem stretch_rep (c : UInt8) (m : Int) (n : Nat) (r : List UInt8) (h : cntL c r = 0) : stretchL c m (List.replicate n c ++ r) = (decide (m ≤ (n : Int)) && blankL r) := by
  unfold stretchL
  rw [cnt_rep, h, Nat.add_zero, drop_rep]
theorem stretch_none {c : UInt8} {m : Int} {l : List UInt8} (h : cntL c l = 0) (hm : 0 < m) : stretchL c m l = false := by
  unfold stretchL
  rw [h, decide_eq_false (by omega)]
  rfl
theorem blank_app (a b : List UInt8) : blankL (a ++ b) = (blankL a && blankL b) := by unfold blankL; exact List.all_append ..
theorem blank_rep (n : Nat) : blankL (List.replicate n 32) = true := by
  unfold blankL
  rw [List.all_eq_true]
  intro b hb
  rw [(List.mem_replicate.1 hb).2]
  rfl

/-! Rules. -/
def sgB (b : UInt8) : Bool := decide (b.toNat = 42) || decide (b.toNat = 95) || decide (b.toNat = 45)
def okRule (h b : UInt8) : Bool := isB b || (sgB b && decide (b = h))
def ruleN (l : List UInt8) : Nat := l.countP (fun b => !isB b)
def ruleL (l : List UInt8) : Bool := l.all (okRule (l.headD 0)) && decide (3 ≤ ruleN l)
theorem ruleN_snoc (l : List UInt8) (b : UInt8) : ruleN (l ++ [b]) = ruleN l + if isB b then 0 else 1 := by
  unfold ruleN
  rw [List.countP_append]
  cases h : isB b <;> simp [h]
theorem rule_no {l : List UInt8} {b : UInt8} (h : b ∈ l) (hb : okRule (l.headD 0) b = false) : ruleL l = false := by
  have : l.all (okRule (l.headD 0)) = false := by
    rw [← Bool.not_eq_true, List.all_eq_true]
    intro k
    rw [k b h] at hb
    cases hb
  unfold ruleL
  rw [this]; rfl

/-! Headings. -/
/-- Nothing, or a blank at its end. -/
def lastB (l : List UInt8) : Bool := match l.getLast? with
  | some b => isB b
  | none => true
def headTextL (l : List UInt8) : List UInt8 := if lastB (trimRightB (trimL l) 35) then trimL (trimRightB (trimL l) 35) else trimL l
def headN (l : List UInt8) : Nat := if cntL 35 l < 1 ∨ 6 < cntL 35 l ∨ apartL (l.drop (cntL 35 l)) = false then 0 else cntL 35 l
def headL (l : List UInt8) : List UInt8 := if headN l = 0 then [] else headTextL (l.drop (cntL 35 l))
theorem trimRight_snoc {l : List UInt8} {c b : UInt8} (h : b ≠ c) : trimRightB (l ++ [b]) c = l ++ [b] := by
  unfold trimRightB
  rw [List.reverse_append, List.reverse_singleton, List.singleton_append, List.dropWhile_cons, if_neg (by simpa using h), List.reverse_cons, List.reverse_reverse]
theorem trimRight_rep (l : List UInt8) (c : UInt8) : ∀ n, trimRightB (l ++ List.replicate n c) c = trimRightB l c
  | 0 => by rw [List.replicate_zero, List.append_nil]
  | n + 1 => by
    have e : l ++ List.replicate (n + 1) c = (l ++ List.replicate n c) ++ [c] := by rw [List.replicate_succ']; simp
    rw [e]
    unfold trimRightB
    rw [List.reverse_append, List.reverse_singleton, List.singleton_append, List.dropWhile_cons, if_pos (by simp)]
    exact trimRight_rep l c n
theorem trimRight_len (l : List UInt8) (c : UInt8) : (trimRightB l c).length ≤ l.length := by
  unfold trimRightB
  rw [List.length_reverse]
  have := (List.dropWhile_sublist (· == c) (l := l.reverse)).length_le
  rw [List.length_reverse] at this
  exact this
theorem headText_len (l : List UInt8) : (headTextL l).length ≤ l.length := by
  unfold headTextL
  have h1 := trim_len l
  have h2 := trimRight_len (trimL l) 35
  have h3 := trim_len (trimRightB (trimL l) 35)
  split <;> omega

/-! Lines under headings. -/
def underL (l : List UInt8) : Nat := if stretchL 61 1 l then 1 else if stretchL 45 1 l then 2 else 0

/-! Items' marks. -/
def dgB (b : UInt8) : Bool := decide (48 ≤ b.toNat) && decide (b.toNat ≤ 57)
/-- The number of the digits at the beginning, m at most, behind v. -/
def decV : Nat → Nat → List UInt8 → Nat
  | 0, v, _ => v
  | _ + 1, v, [] => v
  | m + 1, v, b :: l => if dgB b then decV m (v * 10 + (b.toNat - 48)) l else v
/-- How many they are. -/
def decC : Nat → List UInt8 → Nat
  | 0, _ => 0
  | _ + 1, [] => 0
  | m + 1, b :: l => if dgB b then decC m l + 1 else 0
theorem decV_cons (m v : Nat) (b : UInt8) (l : List UInt8) : decV (m + 1) v (b :: l) = if dgB b then decV m (v * 10 + (b.toNat - 48)) l else v := rfl
theorem decC_cons (m : Nat) (b : UInt8) (l : List UInt8) : decC (m + 1) (b :: l) = if dgB b then decC m l + 1 else 0 := rfl
theorem decV_nil (m v : Nat) : decV m v [] = v := by cases m <;> rfl
theorem decC_nil (m : Nat) : decC m [] = 0 := by cases m <;> rfl
theorem decC_le : ∀ (m : Nat) (l : List UInt8), decC m l ≤ m ∧ decC m l ≤ l.length
  | 0, l => ⟨Nat.le_refl _, Nat.zero_le _⟩
  | m + 1, [] => ⟨Nat.zero_le _, Nat.le_refl _⟩
  | m + 1, b :: l => by
    rw [decC_cons, List.length_cons]
    have := decC_le m l
    split <;> omega
theorem decV_lt : ∀ (m v k : Nat) (l : List UInt8), v < 10 ^ k → decV m v l < 10 ^ (k + m)
  | 0, v, k, l, h => h
  | m + 1, v, k, [], h => by rw [decV_nil]; exact Nat.lt_of_lt_of_le h (Nat.pow_le_pow_right (by omega) (by omega))
  | m + 1, v, k, b :: l, h => by
    rw [decV_cons]
    split
    · next hb =>
      have hb2 : b.toNat ≤ 57 := by
        unfold dgB at hb
        rw [Bool.and_eq_true, decide_eq_true_eq, decide_eq_true_eq] at hb
        exact hb.2
      have h2 := decV_lt m (v * 10 + (b.toNat - 48)) (k + 1) l (by rw [Nat.pow_succ]; omega)
      rw [show k + 1 + m = k + (m + 1) by omega] at h2
      exact h2
    · exact Nat.lt_of_lt_of_le h (Nat.pow_le_pow_right (by omega) (by omega))
/-- The mark: is it numbered, its number, its sign, its width; width 0: there is none. -/
def sgnL (l : List UInt8) : Bool × Nat × Nat × Nat :=
  match l.drop (decC 9 l) with
  | [] => (false, 0, 0, 0)
  | c :: _ => if decC 9 l = 0 then (if c.toNat = 45 ∨ c.toNat = 43 ∨ c.toNat = 42 then (false, 0, c.toNat, 1) else (false, 0, 0, 0))
    else if c.toNat = 46 ∨ c.toNat = 41 then (true, decV 9 0 l, c.toNat, decC 9 l + 1) else (false, 0, 0, 0)
def lstB (l : List UInt8) : Bool := decide ((sgnL l).2.2.2 ≠ 0) && apartL (l.drop (sgnL l).2.2.2)
def lstL (l : List UInt8) : Bool × Nat × Nat × Nat := if lstB l then sgnL l else (false, 0, 0, 0)
theorem sgn_le (l : List UInt8) : (sgnL l).2.2.2 ≤ l.length := by
  unfold sgnL
  have h := decC_le 9 l
  cases e : l.drop (decC 9 l) with
  | nil => exact Nat.zero_le _
  | cons c t =>
    have h2 := congrArg List.length e
    rw [List.length_drop, List.length_cons] at h2
    dsimp only
    split
    · split
      · show 1 ≤ _; omega
      · exact Nat.zero_le _
    · split
      · show decC 9 l + 1 ≤ _; omega
      · exact Nat.zero_le _
/-- Digits, and what is none behind. -/
theorem dec_digits : ∀ (d : List UInt8) (m v : Nat) (c : UInt8) (r : List UInt8), (∀ b ∈ d, dgB b = true) → dgB c = false → d.length ≤ m → decC m (d ++ c :: r) = d.length ∧ decV m v (d ++ c :: r) = d.foldl (fun a b => a * 10 + (b.toNat - 48)) v
  | [], m, v, c, r, _, hc, _ => by
    cases m with
    | zero => exact ⟨rfl, rfl⟩
    | succ m =>
      rw [List.nil_append, decC_cons, decV_cons, hc]
      exact ⟨rfl, rfl⟩
  | b :: d, m, v, c, r, hd, hc, hm => by
    rw [List.length_cons] at hm
    obtain ⟨m, rfl⟩ : ∃ k, m = k + 1 := ⟨m - 1, by omega⟩
    obtain ⟨h1, h2⟩ := dec_digits d m (v * 10 + (b.toNat - 48)) c r (fun x hx => hd x (List.mem_cons_of_mem _ hx)) hc (by omega)
    rw [List.cons_append, decC_cons, decV_cons, if_pos (hd b (List.mem_cons_self ..)), if_pos (hd b (List.mem_cons_self ..)), h1, h2]
    exact ⟨by rw [List.length_cons], rfl⟩
/-- Rounds of the loop that reads digits. -/
theorem dec_more {l : List UInt8} {k v : Nat} (hv : decV 9 0 l = decV (9 - k) v (l.drop k)) (hc : decC 9 l = k + decC (9 - k) (l.drop k)) (h9 : k < 9) (h : k < l.length) (hb : dgB l[k] = true) :
    decV 9 0 l = decV (9 - (k + 1)) (v * 10 + (l[k].toNat - 48)) (l.drop (k + 1)) ∧ decC 9 l = k + 1 + decC (9 - (k + 1)) (l.drop (k + 1)) := by
  rw [List.drop_eq_getElem_cons h, show 9 - k = (9 - (k + 1)) + 1 by omega] at hv hc
  rw [decV_cons, if_pos hb] at hv
  rw [decC_cons, if_pos hb] at hc
  exact ⟨hv, by omega⟩
theorem dec_stop {l : List UInt8} {k v : Nat} (hv : decV 9 0 l = decV (9 - k) v (l.drop k)) (hc : decC 9 l = k + decC (9 - k) (l.drop k)) (h : k < l.length) (hb : dgB l[k] = false) : decV 9 0 l = v ∧ decC 9 l = k := by
  rw [List.drop_eq_getElem_cons h] at hv hc
  cases hm : 9 - k with
  | zero => rw [hm] at hv hc; exact ⟨hv, hc⟩
  | succ m =>
    rw [hm] at hv hc
    rw [decV_cons, hb] at hv
    rw [decC_cons, hb] at hc
    exact ⟨hv, hc⟩
theorem dec_end {l : List UInt8} {k v : Nat} (hv : decV 9 0 l = decV (9 - k) v (l.drop k)) (hc : decC 9 l = k + decC (9 - k) (l.drop k)) (h : k = 9 ∨ l.length ≤ k) : decV 9 0 l = v ∧ decC 9 l = k := by
  rcases h with h | h
  · subst h
    exact ⟨hv, hc⟩
  · rw [List.drop_eq_nil_of_le h] at hv hc
    rw [decV_nil] at hv
    rw [decC_nil] at hc
    exact ⟨hv, hc⟩
end Go.Proofs.YtjfhbfnagcjdmaaDoor
