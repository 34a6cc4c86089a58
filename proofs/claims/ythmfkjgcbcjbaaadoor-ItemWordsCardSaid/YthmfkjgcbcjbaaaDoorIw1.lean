/-
  Words with blanks between, as items: plain lists.
-/
import Derived.Test.YthmfkjgcbcjbaaaDoorItp
import Derived.Test.YthmfkjgcbcjbaaaDoorIg1
namespace Go.Proofs.YthmfkjgcbcjbaaaDoor
open Go Go.Lib

def plainB (b : UInt8) : Prop := 32 < b.toNat ∧ b.toNat ≤ 126
theorem codes_plain : ∀ t : List UInt8, (∀ b ∈ t, plainB b) → codesL t = t
  | [], _ => rfl
  | b :: l, h => by
    have hb := h b (List.mem_cons_self ..)
    unfold plainB at hb
    have hd : decodeL (b :: l) = (b.toNat, 1) := by
      rcases chunk (b :: l) b l rfl with ⟨_, e⟩ | ⟨e, _⟩
      · exact e
      · omega
    have hc : c8 ((b.toNat : Nat) : Int) = b := UInt8.toNat_inj.1 (by
      rw [c8_nat, toN_own ((own_iff _).2 (by omega))]
      rfl)
    rw [codesL_step _ (by simp), hd]
    show c8 (b.toNat : Int) :: codesL (List.drop 1 (b :: l)) = b :: l
    rw [hc, List.drop_one, List.tail_cons, codes_plain l (fun x hx => h x (List.mem_cons_of_mem _ hx))]
theorem ends_snoc (k : Int) (l : List It) (x : It) : endsK k (l ++ [x]) = (x.kind == k) := by
  unfold endsK
  rw [List.getLast?_concat]
theorem glue_twice (sz : Int) (s : Sty) (l : List It) : glueP sz s (glueP sz s l) = glueP sz s l := by
  by_cases h : endsK 1 l = true
  · have e : glueP sz s l = l ++ [itGlue sz s] := by unfold glueP; rw [if_pos h]
    rw [e]
    unfold glueP
    rw [ends_snoc, if_neg (by simp [itGlue])]
  · have e : glueP sz s l = l := by unfold glueP; rw [if_neg h]
    rw [e, e]
theorem txt_blanks (sz : Int) (s : Sty) (l : List UInt8) (its : List It) : ∀ g : List UInt8, (∀ b ∈ g, blankB b) → txtP sz s [] (g ++ l) (glueP sz s its) = txtP sz s [] l (glueP sz s its)
  | [], _ => rfl
  | b :: g, h => by
    rw [List.cons_append, txtP, if_pos (h b (List.mem_cons_self ..))]
    have e : wordP sz s [] (glueP sz s its) = glueP sz s its := by unfold wordP; rw [if_pos rfl]
    rw [e, glue_twice]
    exact txt_blanks sz s l its g (fun x hx => h x (List.mem_cons_of_mem _ hx))
theorem txt_word (sz : Int) (s : Sty) (l : List UInt8) (its : List It) : ∀ (w cur : List UInt8), (∀ b ∈ w, plainB b) → txtP sz s cur (w ++ l) its = txtP sz s (cur ++ w) l its
  | [], cur, _ => by rw [List.nil_append, List.append_nil]
  | b :: w, cur, h => by
    have hb := h b (List.mem_cons_self ..)
    unfold plainB at hb
    rw [List.cons_append, txtP, if_neg (by unfold blankB; omega), txt_word sz s l its w (cur ++ [b]) (fun x hx => h x (List.mem_cons_of_mem _ hx))]
    simp
/-- A gap and a word. -/
def okP (p : List UInt8 × List UInt8) : Prop := p.1 ≠ [] ∧ (∀ b ∈ p.1, blankB b) ∧ p.2 ≠ [] ∧ ∀ b ∈ p.2, plainB b
def catP : List (List UInt8 × List UInt8) → List UInt8
  | [] => []
  | p :: l => p.1 ++ (p.2 ++ catP l)
theorem catP_app : ∀ a b : List (List UInt8 × List UInt8), catP (a ++ b) = catP a ++ catP b
  | [], b => rfl
  | x :: a, b => by rw [List.cons_append, catP, catP, catP_app a b]; simp
def wordsP (sz : Int) (s : Sty) : List (List UInt8 × List UInt8) → List It → List It
  | [], its => its
  | p :: l, its => wordsP sz s l (wordP sz s p.2 (glueP sz s its))
theorem txt_words (sz : Int) (s : Sty) : ∀ (L : List (List UInt8 × List UInt8)) (cur : List UInt8) (its : List It), (∀ p ∈ L, okP p) → txtP sz s cur (catP L) its = wordsP sz s L (wordP sz s cur its)
  | [], cur, its, _ => by rw [catP, txtP, wordsP]
  | p :: L, cur, its, h => by
    obtain ⟨g, w⟩ := p
    obtain ⟨h1, h2, h3, h4⟩ := h _ (List.mem_cons_self ..)
    simp only at h1 h2 h3 h4
    cases g with
    | nil => exact absurd rfl h1
    | cons b g =>
      rw [catP]
      show txtP sz s cur (b :: (g ++ (w ++ catP L))) its = _
      rw [txtP, if_pos (h2 b (List.mem_cons_self ..)), txt_blanks sz s _ _ g (fun x hx => h2 x (List.mem_cons_of_mem _ hx)), txt_word sz s _ _ w [] h4, List.nil_append,
        txt_words sz s L w _ (fun q hq => h q (List.mem_cons_of_mem _ hq)), wordsP]
/-- Boxes with a glue between. -/
def altL (sz : Int) (s : Sty) : List UInt8 → List (List UInt8) → List It
  | w, [] => [itBox sz s w]
  | w, v :: l => itBox sz s w :: itGlue sz s :: altL sz s v l
def outW (sz : Int) (s : Sty) : List (List UInt8) → List It
  | [] => []
  | w :: l => altL sz s w l
theorem words_alt (sz : Int) (s : Sty) : ∀ (L : List (List UInt8 × List UInt8)) (its : List It) (w0 : List UInt8), (∀ p ∈ L, okP p) → wordsP sz s L (its ++ [itBox sz s w0]) = its ++ altL sz s w0 (L.map Prod.snd)
  | [], its, w0, _ => rfl
  | p :: L, its, w0, h => by
    obtain ⟨_, _, h3, h4⟩ := h _ (List.mem_cons_self ..)
    have e1 : glueP sz s (its ++ [itBox sz s w0]) = its ++ [itBox sz s w0] ++ [itGlue sz s] := by
      unfold glueP; rw [ends_snoc, if_pos (by simp [itBox])]
    have e2 : ∀ l, wordP sz s p.2 l = l ++ [itBox sz s p.2] := fun l => by
      unfold wordP; rw [if_neg h3, codes_plain _ h4]
    rw [wordsP, e1, e2, words_alt sz s L _ p.2 (fun q hq => h q (List.mem_cons_of_mem _ hq)), List.map_cons, altL]
    simp
theorem words_out (sz : Int) (s : Sty) (L : List (List UInt8 × List UInt8)) (h : ∀ p ∈ L, okP p) : wordsP sz s L [] = outW sz s (L.map Prod.snd) := by
  cases L with
  | nil => rfl
  | cons p L =>
    obtain ⟨_, _, h3, h4⟩ := h _ (List.mem_cons_self ..)
    have e1 : glueP sz s [] = [] := rfl
    have e2 : wordP sz s p.2 [] = [] ++ [itBox sz s p.2] := by
      unfold wordP; rw [if_neg h3, codes_plain _ h4]
    rw [wordsP, e1, e2, words_alt sz s L [] p.2 (fun q hq => h q (List.mem_cons_of_mem _ hq)), List.nil_append, List.map_cons, outW]
theorem alt_len (sz : Int) (s : Sty) : ∀ (l : List (List UInt8)) (w : List UInt8), (altL sz s w l).length = 2 * l.length + 1
  | [], w => rfl
  | v :: l, w => by rw [altL, List.length_cons, List.length_cons, alt_len sz s l v, List.length_cons]; omega
theorem out_len (sz : Int) (s : Sty) (l : List (List UInt8)) : (outW sz s l).length = 2 * l.length - 1 := by
  cases l with
  | nil => rfl
  | cons w l => rw [outW, alt_len, List.length_cons]; omega
theorem alt_even (sz : Int) (s : Sty) : ∀ (l : List (List UInt8)) (w : List UInt8) (j : Nat), j ≤ l.length → (altL sz s w l)[2 * j]? = some (itBox sz s ((w :: l).getD j []))
  | [], w, j, h => by
    have : j = 0 := by simpa using h
    subst this; rfl
  | v :: l, w, 0, h => rfl
  | v :: l, w, j + 1, h => by
    rw [altL, show 2 * (j + 1) = 2 * j + 1 + 1 by omega, List.getElem?_cons_succ, List.getElem?_cons_succ, alt_even sz s l v j (by rw [List.length_cons] at h; omega), List.getD_cons_succ]
theorem alt_odd (sz : Int) (s : Sty) : ∀ (l : List (List UInt8)) (w : List UInt8) (j : Nat), j < l.length → (altL sz s w l)[2 * j + 1]? = some (itGlue sz s)
  | [], w, j, h => by cases h
  | v :: l, w, 0, h => rfl
  | v :: l, w, j + 1, h => by
    rw [altL, show 2 * (j + 1) + 1 = 2 * j + 1 + 1 + 1 by omega, List.getElem?_cons_succ, List.getElem?_cons_succ, alt_odd sz s l v j (by rw [List.length_cons] at h; omega)]
theorem out_even (sz : Int) (s : Sty) (l : List (List UInt8)) (j : Nat) (h : j < l.length) : (outW sz s l)[2 * j]? = some (itBox sz s (l.getD j [])) := by
  cases l with
  | nil => cases h
  | cons w l => exact alt_even sz s l w j (by rw [List.length_cons] at h; omega)
theorem out_odd (sz : Int) (s : Sty) (l : List (List UInt8)) (j : Nat) (h : j + 1 < l.length) : (outW sz s l)[2 * j + 1]? = some (itGlue sz s) := by
  cases l with
  | nil => cases h
  | cons w l => exact alt_odd sz s l w j (by rw [List.length_cons] at h; omega)
theorem alt_ends (sz : Int) (s : Sty) : ∀ (l : List (List UInt8)) (w : List UInt8), ∃ m x, altL sz s w l = m ++ [itBox sz s x]
  | [], w => ⟨[], w, rfl⟩
  | v :: l, w => by
    obtain ⟨m, x, e⟩ := alt_ends sz s l v
    exact ⟨itBox sz s w :: itGlue sz s :: m, x, by rw [altL, e]; rfl⟩
theorem out_drop (sz : Int) (s : Sty) (l : List (List UInt8)) : dropG (outW sz s l) = outW sz s l := by
  cases l with
  | nil => rfl
  | cons w l =>
    obtain ⟨m, x, e⟩ := alt_ends sz s l w
    rw [outW, e]
    unfold dropG
    rw [ends_snoc, if_neg (by simp [itBox])]
theorem make_words (sz lk : Int) (L : List (List UInt8 × List UInt8)) (h : ∀ p ∈ L, okP p) : makeL [.mk 1 (catP L) [] [] []] 0 sz lk = (outW sz ⟨0, 0, false⟩ (L.map Prod.snd), lk) := by
  unfold makeL
  rw [spnsP, spnsP, spnP, if_pos rfl]
  simp only
  rw [txt_words sz _ L [] [] h]
  have e : wordP sz ⟨0, 0, false⟩ [] [] = [] := rfl
  rw [e, words_out sz _ L h, out_drop]
end Go.Proofs.YthmfkjgcbcjbaaaDoor
