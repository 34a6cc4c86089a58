/-
  A text's runes as codes, and codes as a text: plain lists of bytes. No program in sight.
-/
import Derived.Test.YthmfkjgcbcjbaaaDoorUtf
import Derived.Test.YthmfkjgcbcjbaaaDoorCodt
namespace Go.Proofs.YthmfkjgcbcjbaaaDoor
open Go Go.Lib

/-- The runes of a text, as Go ranges over it. -/
def runesGo : Nat → List UInt8 → List Int
  | 0, _ => []
  | n + 1, l => if l = [] then [] else ((decodeL l).1 : Int) :: runesGo n (l.drop (decodeL l).2)
def runesL (l : List UInt8) : List Int := runesGo l.length l
theorem runesGo_nil : ∀ n, runesGo n [] = []
  | 0 => rfl
  | _ + 1 => by simp [runesGo]
theorem runesGo_fuel : ∀ (n m : Nat) (l : List UInt8), l.length ≤ n → l.length ≤ m → runesGo n l = runesGo m l
  | 0, m, l, hn, _ => by
    have : l = [] := List.eq_nil_of_length_eq_zero (by omega)
    subst this
    rw [runesGo_nil, runesGo_nil]
  | n + 1, 0, l, _, hm => by
    have : l = [] := List.eq_nil_of_length_eq_zero (by omega)
    subst this
    rw [runesGo_nil, runesGo_nil]
  | n + 1, m + 1, l, hn, hm => by
    by_cases hne : l = []
    · subst hne
      rw [runesGo_nil, runesGo_nil]
    · have hw := decodeL_width l
      have hl : 0 < l.length := List.length_pos_iff.2 hne
      simp only [runesGo, if_neg hne]
      rw [runesGo_fuel n m _ (by rw [List.length_drop]; omega) (by rw [List.length_drop]; omega)]
theorem runesL_nil : runesL [] = [] := rfl
theorem runesL_step (l : List UInt8) (hne : l ≠ []) : runesL l = ((decodeL l).1 : Int) :: runesL (l.drop (decodeL l).2) := by
  have hw := decodeL_width l
  have hl : 0 < l.length := List.length_pos_iff.2 hne
  unfold runesL
  obtain ⟨n, hn⟩ : ∃ n, l.length = n + 1 := ⟨l.length - 1, by omega⟩
  rw [hn]
  simp only [runesGo, if_neg hne]
  rw [runesGo_fuel n _ _ (by rw [List.length_drop]; omega) (Nat.le_refl _)]
theorem runesGo_len : ∀ (n : Nat) (l : List UInt8), (runesGo n l).length ≤ n
  | 0, _ => Nat.le_refl _
  | n + 1, l => by
    unfold runesGo
    split
    · simp
    · rw [List.length_cons]
      have := runesGo_len n (l.drop (decodeL l).2)
      omega
theorem runesL_len (l : List UInt8) : (runesL l).length ≤ l.length := runesGo_len _ _
/-- The runes of a text of runes are these. -/
theorem runesL_bytes : ∀ rs : List Int, (∀ r ∈ rs, okR r) → runesL (bytesR rs) = rs
  | [], _ => rfl
  | r :: rs, h => by
    have ho := h r (List.mem_cons_self ..)
    have hd := dec_enc r ho (bytesR rs)
    have hr : ((r.toNat : Nat) : Int) = r := by unfold okR at ho; omega
    rw [bytesR_cons, runesL_step _ (by simp [enc_ne]), hd, List.drop_left, runesL_bytes rs (fun x hx => h x (List.mem_cons_of_mem _ hx)), hr]

def c8 (r : Int) : UInt8 := UInt8.ofNat (toN r).1
theorem c8_nat (r : Int) : (c8 r).toNat = (toN r).1 := by
  unfold c8
  rw [UInt8.toNat_ofNat']
  exact Nat.mod_eq_of_lt (toN_lt r)
/-- A text's codes. -/
def codesL (l : List UInt8) : List UInt8 := (runesL l).map c8
theorem codesL_nil : codesL [] = [] := rfl
theorem codesL_step (l : List UInt8) (hne : l ≠ []) : codesL l = c8 ((decodeL l).1 : Int) :: codesL (l.drop (decodeL l).2) := by
  unfold codesL; rw [runesL_step l hne]; rfl
theorem codesL_len (l : List UInt8) : (codesL l).length = (runesL l).length := by unfold codesL; rw [List.length_map]
/-- What a code comes to. -/
def sign (b : UInt8) : List UInt8 := if (fromR b.toNat).2 then encodeRune (fromR b.toNat).1 else []
/-- The text of codes. -/
def textL (l : List UInt8) : List UInt8 := l.flatMap sign
theorem textL_cons (b : UInt8) (l : List UInt8) : textL (b :: l) = sign b ++ textL l := rfl
theorem from_ok (c : Nat) (h : c < 256) : okR (fromR c).1 := by
  have := from_range c h
  unfold okR; omega
theorem sign_len (b : UInt8) : (sign b).length ≤ 4 := by
  unfold sign
  have := enc_len (fromR b.toNat).1
  split
  · omega
  · simp
theorem textL_len : ∀ l : List UInt8, (textL l).length ≤ 4 * l.length
  | [] => Nat.le_refl _
  | b :: l => by
    have h1 := sign_len b
    have h2 := textL_len l
    rw [textL_cons, List.length_append, List.length_cons]; omega
/-- A rune that went there and back. -/
def backR (r : Int) : Int := if (toN r).2 then r else 63
theorem from63 : fromR 63 = (63, true) := by decide +kernel
theorem to_back (r : Int) : fromR (toN r).1 = (backR r, true) := by
  unfold backR
  cases h : (toN r).2 with
  | true => rw [to_from h]; rfl
  | false => rw [to_not h, from63]; rfl
theorem back_ok (r : Int) : okR (backR r) := by
  have := from_ok (toN r).1 (toN_lt r)
  rw [to_back] at this
  exact this
theorem sign_c8 (r : Int) : sign (c8 r) = encodeRune (backR r) := by
  unfold sign
  rw [c8_nat, to_back]
  rfl
theorem text_codes : ∀ rs : List Int, textL (rs.map c8) = bytesR (rs.map backR)
  | [] => rfl
  | r :: rs => by
    rw [List.map_cons, textL_cons, sign_c8, text_codes rs, List.map_cons, bytesR_cons]
/-- THERE AND BACK: the runes of the text of a text's codes. -/
theorem runes_back (l : List UInt8) : runesL (textL (codesL l)) = (runesL l).map backR := by
  unfold codesL
  rw [text_codes, runesL_bytes _ (fun r hr => by
    obtain ⟨x, _, rfl⟩ := List.mem_map.1 hr
    exact back_ok x)]
end Go.Proofs.YthmfkjgcbcjbaaaDoor
