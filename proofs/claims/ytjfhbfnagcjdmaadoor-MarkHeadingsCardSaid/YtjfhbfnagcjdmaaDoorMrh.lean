/-
  HTML's beginnings and ends, plainly; with no program.
-/
import Derived.Test.YtjfhbfnagcjdmaaDoorMrk
import Derived.Lib.Case
import Derived.Lib.IndexMore
namespace Go.Proofs.YtjfhbfnagcjdmaaDoor
open Go Go.Lib

def ltrB (b : UInt8) : Bool := (decide (97 ≤ b.toNat) && decide (b.toNat ≤ 122)) || (decide (65 ≤ b.toNat) && decide (b.toNat ≤ 90))
def anB (b : UInt8) : Bool := ltrB b || dgB b
/-- How many letters and digits stand at the beginning; they, small; what stands behind. -/
def nmC : List UInt8 → Nat
  | [] => 0
  | b :: l => if anB b then nmC l + 1 else 0
def nmL (l : List UInt8) : List UInt8 := toLowerA (l.take (nmC l))
def nmR (l : List UInt8) : List UInt8 := l.drop (nmC l)
theorem nmC_cons (b : UInt8) (l : List UInt8) : nmC (b :: l) = if anB b then nmC l + 1 else 0 := rfl
theorem nmC_le : ∀ l, nmC l ≤ l.length
  | [] => Nat.le_refl _
  | b :: l => by
    rw [nmC_cons, List.length_cons]
    have := nmC_le l
    split <;> omega
theorem nmL_yes {b : UInt8} (h : anB b = true) (l : List UInt8) : nmL (b :: l) = lowerB b :: nmL l := by
  unfold nmL
  rw [nmC_cons, if_pos h, List.take_succ_cons]
  rfl
theorem nmL_no {b : UInt8} (h : ¬ anB b = true) (l : List UInt8) : nmL (b :: l) = [] := by
  unfold nmL
  rw [nmC_cons, if_neg h, List.take_zero]
  rfl
theorem nmR_yes {b : UInt8} (h : anB b = true) (l : List UInt8) : nmR (b :: l) = nmR l := by
  unfold nmR
  rw [nmC_cons, if_pos h, List.drop_succ_cons]
theorem nmR_no {b : UInt8} (h : ¬ anB b = true) (l : List UInt8) : nmR (b :: l) = b :: l := by
  unfold nmR
  rw [nmC_cons, if_neg h, List.drop_zero]
theorem nm_more {l : List UInt8} {k : Nat} (e : nmC l = k + nmC (l.drop k)) (h : k < l.length) (hc : anB l[k] = true) : nmC l = k + 1 + nmC (l.drop (k + 1)) := by
  rw [List.drop_eq_getElem_cons h, nmC_cons, if_pos hc] at e
  omega
theorem nm_stop {l : List UInt8} {k : Nat} (e : nmC l = k + nmC (l.drop k)) (h : k < l.length) (hc : anB l[k] = false) : nmC l = k := by
  rw [List.drop_eq_getElem_cons h, nmC_cons, hc] at e
  simpa using e
theorem nm_end {l : List UInt8} {k : Nat} (e : nmC l = k + nmC (l.drop k)) (h : l.length ≤ k) : nmC l = k := by
  rw [List.drop_eq_nil_of_le h] at e
  exact e
theorem nm_ascii (l : List UInt8) : ∀ b ∈ l.take (nmC l), b.toNat < 128 := by
  induction l with
  | nil => intro b hb; cases hb
  | cons a l ih =>
    rw [nmC_cons]
    split
    · next h =>
      intro b hb
      rw [List.take_succ_cons] at hb
      rcases List.mem_cons.1 hb with rfl | hb
      · unfold anB ltrB dgB at h
        simp only [Bool.or_eq_true, Bool.and_eq_true, decide_eq_true_eq] at h
        omega
      · exact ih b hb
    · intro b hb; cases hb

/-! Ends of raw text. -/
def sName : List UInt8 := [115, 99, 114, 105, 112, 116]
def pName : List UInt8 := [112, 114, 101]
def yName : List UInt8 := [115, 116, 121, 108, 101]
def tName : List UInt8 := [116, 101, 120, 116, 97, 114, 101, 97]
def rawN (n : List UInt8) : Bool := n == sName || n == pName || n == yName || n == tName
def endOf (n : List UInt8) : List UInt8 := 60 :: 47 :: (n ++ [62])
/-- Behind a </: a name of raw text, and a >. -/
def rawIn (l : List UInt8) : Bool := rawN (nmL l) && hasPrefix (nmR l) [62]
def rawAt (l : List UInt8) : Bool := hasPrefix l [60, 47] && rawIn (l.drop 2)
def rawEndL : List UInt8 → Bool
  | [] => false
  | b :: l => rawAt (b :: l) || rawEndL l
theorem raw_cons (b : UInt8) (l : List UInt8) : rawEndL (b :: l) = (rawAt (b :: l) || rawEndL l) := rfl
theorem upper_an {b : UInt8} (h : isUpperB b = true) : anB b = true ∧ 65 ≤ b.toNat := by
  have := isUpperB_int b
  rw [h] at this
  have h2 : decide ((65 : Int) ≤ (b.toNat : Int)) = true ∧ decide ((b.toNat : Int) ≤ 90) = true := by
    cases h3 : decide ((65 : Int) ≤ (b.toNat : Int)) <;> cases h4 : decide ((b.toNat : Int) ≤ 90) <;> rw [h3, h4] at this <;> simp at this ⊢
  rw [decide_eq_true_eq, decide_eq_true_eq] at h2
  refine ⟨?_, by omega⟩
  unfold anB ltrB
  rw [show decide (65 ≤ b.toNat) = true from decide_eq_true (by omega), show decide (b.toNat ≤ 90) = true from decide_eq_true (by omega)]
  simp
theorem low_no {b : UInt8} (h : ¬ anB b = true) : lowerB b = b := lowerB_of_not b (by
  cases hu : isUpperB b with
  | false => rfl
  | true => exact absurd (upper_an hu).1 h)
theorem low_eq {c : UInt8} (hc : c.toNat < 65) (b : UInt8) : (c == lowerB b) = (c == b) := by
  cases hu : isUpperB b with
  | false => rw [lowerB_of_not b hu]
  | true =>
    have h1 := (upper_an hu).2
    have h2 := lowerB_int b hu
    rw [beq_eq_false_iff_ne.2 (show c ≠ b from fun e => by rw [e] at hc; omega), beq_eq_false_iff_ne.2 (show c ≠ lowerB b from fun e => by rw [e] at hc; omega)]
theorem an_ne {b c : UInt8} (h : anB b = true) (hc : anB c = false) : b ≠ c := fun e => by rw [e, hc] at h; cases h
theorem low_an {b : UInt8} (h : anB b = true) : lowerB b ≠ 62 := fun e => by
  have h1 := low_eq (c := 62) (by decide) b
  rw [e] at h1
  have h2 : (62 : UInt8) = b := by simpa using h1
  rw [← h2] at h
  exact absurd h (by decide)
/-- A name, small, and a >. -/
theorem pre_name : ∀ (w l : List UInt8), (∀ b ∈ w, anB b = true) → (w ++ [62]).isPrefixOf (toLowerA l) = (decide (nmL l = w) && hasPrefix (nmR l) [62])
  | [], [], _ => rfl
  | [], b :: l, _ => by
    show ((62 : UInt8) == lowerB b && [].isPrefixOf (toLowerA l)) = _
    by_cases h : anB b = true
    · rw [nmL_yes h, show ((62 : UInt8) == lowerB b) = false from beq_eq_false_iff_ne.2 (fun e => low_an h e.symm)]
      simp
    · rw [nmL_no h, nmR_no h, low_no h]
      show _ = (decide True && ((62 : UInt8) == b && [].isPrefixOf l))
      simp
  | c :: w, [], _ => by
    show false = _
    simp [nmL, nmC, toLowerA]
  | c :: w, b :: l, hw => by
    show (c == lowerB b && (w ++ [62]).isPrefixOf (toLowerA l)) = _
    rw [pre_name w l (fun x hx => hw x (List.mem_cons_of_mem _ hx))]
    by_cases h : anB b = true
    · rw [nmL_yes h, nmR_yes h]
      have e : decide (lowerB b :: nmL l = c :: w) = ((c == lowerB b) && decide (nmL l = w)) := by
        rw [Bool.eq_iff_iff]
        simp only [decide_eq_true_eq, List.cons.injEq, Bool.and_eq_true, beq_iff_eq]
        exact ⟨fun ⟨a, b⟩ => ⟨a.symm, b⟩, fun ⟨a, b⟩ => ⟨a.symm, b⟩⟩
      rw [e, Bool.and_assoc]
    · rw [nmL_no h, low_no h, show (c == b) = false from beq_eq_false_iff_ne.2 (an_ne (hw c (List.mem_cons_self ..)) (by simpa using h))]
      simp
theorem contains_nil {sub : List UInt8} (h : sub ≠ []) : contains [] sub = false := by
  unfold contains index
  cases sub with
  | nil => exact absurd rfl h
  | cons a t => rfl
theorem contains_cons (b : UInt8) (l sub : List UInt8) : contains (b :: l) sub = (sub.isPrefixOf (b :: l) || contains l sub) := by
  unfold contains
  rw [index]
  have hg := index_ge l sub
  cases hp : sub.isPrefixOf (b :: l) with
  | true => simp
  | false =>
    by_cases h : index l sub = -1
    · simp [h]
    · rw [if_neg (by simp), if_neg (by simpa using h), Bool.false_or, Bool.eq_iff_iff, decide_eq_true_eq, decide_eq_true_eq]
      omega
theorem preEnd_eq (n l : List UInt8) (hn : ∀ b ∈ n, anB b = true) : (endOf n).isPrefixOf (toLowerA l) = (hasPrefix l [60, 47] && (decide (nmL (l.drop 2) = n) && hasPrefix (nmR (l.drop 2)) [62])) := by
  match l with
  | [] => rfl
  | [b] =>
    show ((60 : UInt8) == lowerB b && (47 :: (n ++ [62])).isPrefixOf []) = (((60 : UInt8) == b && [47].isPrefixOf []) && _)
    simp [List.isPrefixOf]
  | b :: c :: t =>
    show ((60 : UInt8) == lowerB b && ((47 : UInt8) == lowerB c && (n ++ [62]).isPrefixOf (toLowerA t))) = (((60 : UInt8) == b && ((47 : UInt8) == c && [].isPrefixOf t)) && (decide (nmL t = n) && hasPrefix (nmR t) [62]))
    rw [pre_name n t hn, low_eq (by decide), low_eq (by decide)]
    simp [Bool.and_assoc]
theorem rawAt_eq (l : List UInt8) : rawAt l = ((endOf sName).isPrefixOf (toLowerA l) || (endOf pName).isPrefixOf (toLowerA l) || (endOf yName).isPrefixOf (toLowerA l) || (endOf tName).isPrefixOf (toLowerA l)) := by
  rw [preEnd_eq sName l (by decide), preEnd_eq pName l (by decide), preEnd_eq yName l (by decide), preEnd_eq tName l (by decide)]
  unfold rawAt rawIn rawN
  have e : ∀ x y : List UInt8, (x == y) = decide (x = y) := fun x y => by rw [Bool.eq_iff_iff]; simp
  rw [e, e, e, e]
  generalize hasPrefix l [60, 47] = a
  generalize hasPrefix (nmR (l.drop 2)) [62] = b
  generalize decide (nmL (l.drop 2) = sName) = c1
  generalize decide (nmL (l.drop 2) = pName) = c2
  generalize decide (nmL (l.drop 2) = yName) = c3
  generalize decide (nmL (l.drop 2) = tName) = c4
  revert a b c1 c2 c3 c4
  decide
/-- The document's words for it. -/
theorem rawEnd_eq : ∀ l : List UInt8, rawEndL l = (contains (toLowerA l) (endOf sName) || contains (toLowerA l) (endOf pName) || contains (toLowerA l) (endOf yName) || contains (toLowerA l) (endOf tName))
  | [] => by
    show false = (contains [] _ || contains [] _ || contains [] _ || contains [] _)
    rw [contains_nil (by simp [endOf]), contains_nil (by simp [endOf]), contains_nil (by simp [endOf]), contains_nil (by simp [endOf])]
    rfl
  | b :: l => by
    have e : toLowerA (b :: l) = lowerB b :: toLowerA l := rfl
    rw [raw_cons, rawEnd_eq l, rawAt_eq, e, contains_cons, contains_cons, contains_cons, contains_cons]
    generalize (endOf sName).isPrefixOf (lowerB b :: toLowerA l) = a1
    generalize (endOf pName).isPrefixOf (lowerB b :: toLowerA l) = a2
    generalize (endOf yName).isPrefixOf (lowerB b :: toLowerA l) = a3
    generalize (endOf tName).isPrefixOf (lowerB b :: toLowerA l) = a4
    generalize contains (toLowerA l) (endOf sName) = c1
    generalize contains (toLowerA l) (endOf pName) = c2
    generalize contains (toLowerA l) (endOf yName) = c3
    generalize contains (toLowerA l) (endOf tName) = c4
    revert a1 a2 a3 a4 c1 c2 c3 c4
    decide
/-- A round of the loop: to the first </, past the name behind it. -/
theorem raw_cut : ∀ l : List UInt8, rawEndL l = if index l [60, 47] = -1 then false else rawEndL (l.drop (index l [60, 47]).toNat)
  | [] => rfl
  | b :: l => by
    have hg := index_ge l [60, 47]
    rw [index]
    cases hp : ([60, 47] : List UInt8).isPrefixOf (b :: l) with
    | true => simp
    | false =>
      have h0 : rawAt (b :: l) = false := by
        unfold rawAt hasPrefix
        rw [hp]; rfl
      rw [raw_cons, h0, Bool.false_or, raw_cut l]
      by_cases h : index l [60, 47] = -1
      · simp [h]
      · have e : (if false = true then (0 : Int) else if (index l [60, 47] == -1) = true then -1 else index l [60, 47] + 1) = index l [60, 47] + 1 := by simp [h]
        rw [e, if_neg h, if_neg (by omega), show (index l [60, 47] + 1).toNat = (index l [60, 47]).toNat + 1 by omega, List.drop_succ_cons]
theorem raw_pass {b : UInt8} (h : b ≠ 60) (l : List UInt8) : rawEndL (b :: l) = rawEndL l := by
  have h0 : rawAt (b :: l) = false := by
    unfold rawAt hasPrefix
    show (((60 : UInt8) == b && _) && _) = _
    rw [beq_eq_false_iff_ne.2 (fun e => h e.symm)]; rfl
  rw [raw_cons, h0, Bool.false_or]
theorem raw_name : ∀ l : List UInt8, rawEndL (nmR l) = rawEndL l
  | [] => rfl
  | b :: l => by
    by_cases h : anB b = true
    · rw [nmR_yes h, raw_name l, raw_pass (an_ne h (by decide))]
    · rw [nmR_no h]
theorem raw_none {l : List UInt8} (h : index l [60, 47] = -1) : rawEndL l = false := by rw [raw_cut, if_pos h]
theorem raw_some {l : List UInt8} {i : Nat} (h : index l [60, 47] = i) : rawEndL l = (rawIn (l.drop (i + 2)) || rawEndL (nmR (l.drop (i + 2)))) := by
  have ho : occAt l [60, 47] i = true := by
    rcases index_spec l [60, 47] with ⟨e, _⟩ | ⟨j, e, _, ho, _⟩
    · omega
    · have : i = j := by omega
      rw [this]; exact ho
  rw [raw_cut, if_neg (by omega), h, Int.toNat_natCast, raw_name, ← List.drop_drop]
  unfold occAt at ho
  generalize l.drop i = m at *
  match m, ho with
  | b :: c :: t, ho =>
    have ho : ((60 : UInt8) == b && ((47 : UInt8) == c && [].isPrefixOf t)) = true := ho
    simp only [Bool.and_eq_true, beq_iff_eq] at ho
    obtain ⟨rfl, rfl, _⟩ := ho
    rw [raw_cons, raw_pass (by decide)]
    rfl
  | [b], ho =>
    have ho : ((60 : UInt8) == b && [47].isPrefixOf ([] : List UInt8)) = true := ho
    simp [List.isPrefixOf] at ho
/-- What ends HTML of a kind. -/
def htmlEndL (k : Int) (l : List UInt8) : Bool :=
  if k = 1 then rawEndL l else if k = 2 then contains l [45, 45, 62] else if k = 3 then contains l [63, 62] else if k = 4 then contains l [62] else if k = 5 then contains l [93, 93, 62] else false

/-! What begins HTML. -/
def letFirst : List UInt8 → Bool
  | [] => false
  | b :: _ => ltrB b
def declL (l : List UInt8) : Bool := hasPrefix l [33] && letFirst (trimPrefix l [33])
/-- The names of blocks. -/
def blockN (n : List UInt8) : Bool :=
  n == [97, 100, 100, 114, 101, 115, 115] || n == [97, 114, 116, 105, 99, 108, 101] || n == [97, 115, 105, 100, 101] || n == [98, 97, 115, 101] ||
  n == [98, 108, 111, 99, 107, 113, 117, 111, 116, 101] || n == [98, 111, 100, 121] || n == [99, 97, 112, 116, 105, 111, 110] || n == [99, 101, 110, 116, 101, 114] ||
  n == [99, 111, 108] || n == [99, 111, 108, 103, 114, 111, 117, 112] || n == [100, 100] || n == [100, 101, 116, 97, 105, 108, 115] ||
  n == [100, 105, 97, 108, 111, 103] || n == [100, 105, 114] || n == [100, 105, 118] || n == [100, 108] ||
  n == [100, 116] || n == [102, 105, 101, 108, 100, 115, 101, 116] || n == [102, 105, 103, 99, 97, 112, 116, 105, 111, 110] || n == [102, 105, 103, 117, 114, 101] ||
  n == [102, 111, 111, 116, 101, 114] || n == [102, 111, 114, 109] || n == [102, 114, 97, 109, 101] || n == [102, 114, 97, 109, 101, 115, 101, 116] ||
  n == [104, 49] || n == [104, 50] || n == [104, 51] || n == [104, 52] ||
  n == [104, 53] || n == [104, 54] || n == [104, 101, 97, 100] || n == [104, 101, 97, 100, 101, 114] ||
  n == [104, 114] || n == [104, 116, 109, 108] || n == [105, 102, 114, 97, 109, 101] || n == [108, 101, 103, 101, 110, 100] ||
  n == [108, 105] || n == [108, 105, 110, 107] || n == [109, 97, 105, 110] || n == [109, 101, 110, 117] ||
  n == [109, 101, 110, 117, 105, 116, 101, 109] || n == [110, 97, 118] || n == [110, 111, 102, 114, 97, 109, 101, 115] || n == [111, 108] ||
  n == [111, 112, 116, 103, 114, 111, 117, 112] || n == [111, 112, 116, 105, 111, 110] || n == [112] || n == [112, 97, 114, 97, 109] ||
  n == [115, 101, 97, 114, 99, 104] || n == [115, 101, 99, 116, 105, 111, 110] || n == [115, 117, 109, 109, 97, 114, 121] || n == [116, 97, 98, 108, 101] ||
  n == [116, 98, 111, 100, 121] || n == [116, 100] || n == [116, 102, 111, 111, 116] || n == [116, 104] ||
  n == [116, 104, 101, 97, 100] || n == [116, 105, 116, 108, 101] || n == [116, 114] || n == [116, 114, 97, 99, 107] ||
  n == [117, 108]
def beginRaw (l : List UInt8) : Bool := rawN (nmL l) && (apartL (nmR l) || hasPrefix (nmR l) [62])
def beginElem (l : List UInt8) : Bool := blockN (nmL l) && (apartL (nmR l) || hasPrefix (nmR l) [62] || hasPrefix (nmR l) [47, 62])
def htmlIn (l : List UInt8) : Nat :=
  if beginRaw l then 1 else if hasPrefix l [33, 45, 45] then 2 else if hasPrefix l [63] then 3 else if hasPrefix l [33, 91, 67, 68, 65, 84, 65, 91] then 5 else if declL l then 4 else if beginElem (trimPrefix l [47]) then 6 else 0
def htmlL (l : List UInt8) : Nat := if hasPrefix l [60] then htmlIn (trimPrefix l [60]) else 0
end Go.Proofs.YtjfhbfnagcjdmaaDoor
