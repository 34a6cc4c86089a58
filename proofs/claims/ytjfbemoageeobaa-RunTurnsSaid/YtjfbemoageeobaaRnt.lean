/-
  Layer 13, plain: kinds of runes, flanking, a text's last rune. No program in sight.
-/
import Derived.Test.YtjfbemoageeobaaUtf
namespace Go.Proofs.Ytjfbemoageeobaa
open Go Go.Lib

/-! Kinds of runes. -/
def blankP (r : Int) : Prop := r ≤ 0 ∨ (9 ≤ r ∧ r ≤ 13) ∨ r = 32 ∨ r = 160 ∨ r = 5760 ∨ (8192 ≤ r ∧ r ≤ 8202) ∨ r = 8239 ∨ r = 8287 ∨ r = 12288
def punctP (r : Int) : Prop := (33 ≤ r ∧ r ≤ 47) ∨ (58 ≤ r ∧ r ≤ 64) ∨ (91 ≤ r ∧ r ≤ 96) ∨ (123 ≤ r ∧ r ≤ 126) ∨
  (161 ≤ r ∧ r ≤ 191 ∧ r ≠ 170 ∧ r ≠ 178 ∧ r ≠ 179 ∧ r ≠ 181 ∧ r ≠ 185 ∧ r ≠ 186 ∧ r ≠ 188 ∧ r ≠ 189 ∧ r ≠ 190) ∨
  r = 215 ∨ r = 247 ∨ (8208 ≤ r ∧ r ≤ 8231) ∨ (8240 ≤ r ∧ r ≤ 8286) ∨ (8352 ≤ r ∧ r ≤ 8384) ∨ (8592 ≤ r ∧ r ≤ 9215) ∨ (9472 ≤ r ∧ r ≤ 10175) ∨ (12289 ≤ r ∧ r ≤ 12291) ∨ (12296 ≤ r ∧ r ≤ 12305)
instance (r : Int) : Decidable (blankP r) := by unfold blankP; infer_instance
instance (r : Int) : Decidable (punctP r) := by unfold punctP; infer_instance
def clsR (r : Int) : Int := if blankP r then 1 else if punctP r then 2 else 0
theorem cls_three (r : Int) : clsR r = 0 ∨ clsR r = 1 ∨ clsR r = 2 := by
  unfold clsR
  split
  · simp
  · split <;> simp
/-- Signs lean towards a rune of the kind x, with one of the kind y on their other side. -/
def leanB (x y : Int) : Bool := if x = 1 then false else if x = 2 then !decide (y = 0) else true
def fitsB (p q : Int) (a b : Bool) : Bool := (!a && !b) || !decide ((p + q) % 3 = 0) || (decide (p = 0) && decide (q = 0))
theorem fits_comm (p q : Int) (a b : Bool) : fitsB p q a b = fitsB q p b a := by
  unfold fitsB
  rw [Int.add_comm p q, Bool.and_comm (!a), Bool.and_comm (decide (p = 0))]

/-! A text's last rune. -/
def lastGo : Nat → List UInt8 → Int → Int
  | 0, _, d => d
  | n + 1, l, d => if l = [] then d else lastGo n (l.drop (decodeL l).2) ((decodeL l).1 : Int)
def lastR (l : List UInt8) (d : Int) : Int := lastGo l.length l d
theorem lastGo_nil : ∀ n d, lastGo n [] d = d
  | 0, _ => rfl
  | _ + 1, _ => by simp [lastGo]
theorem lastGo_fuel : ∀ (n m : Nat) (l : List UInt8) (d : Int), l.length ≤ n → l.length ≤ m → lastGo n l d = lastGo m l d
  | 0, m, l, d, hn, _ => by
    have : l = [] := List.eq_nil_of_length_eq_zero (by omega)
    subst this
    rw [lastGo_nil, lastGo_nil]
  | n + 1, 0, l, d, _, hm => by
    have : l = [] := List.eq_nil_of_length_eq_zero (by omega)
    subst this
    rw [lastGo_nil, lastGo_nil]
  | n + 1, m + 1, l, d, hn, hm => by
    by_cases hne : l = []
    · subst hne
      rw [lastGo_nil, lastGo_nil]
    · have hw := decodeL_width l
      have hl : 0 < l.length := List.length_pos_iff.2 hne
      simp only [lastGo, if_neg hne]
      rw [lastGo_fuel n m _ _ (by rw [List.length_drop]; omega) (by rw [List.length_drop]; omega)]
theorem lastR_nil (d : Int) : lastR [] d = d := rfl
theorem lastR_step {l : List UInt8} (hne : l ≠ []) (d : Int) : lastR l d = lastR (l.drop (decodeL l).2) ((decodeL l).1 : Int) := by
  have hw := decodeL_width l
  have hl : 0 < l.length := List.length_pos_iff.2 hne
  unfold lastR
  obtain ⟨n, hn⟩ : ∃ n, l.length = n + 1 := ⟨l.length - 1, by omega⟩
  rw [hn]
  simp only [lastGo, if_neg hne]
  rw [lastGo_fuel n _ _ _ (by rw [List.length_drop]; omega) (Nat.le_refl _)]
/-- What stands ahead of it is of no account, if there is something. -/
theorem lastR_any {l : List UInt8} (hne : l ≠ []) (d e : Int) : lastR l d = lastR l e := by rw [lastR_step hne, lastR_step hne]
/-- A byte that goes on with a rune is none by itself. -/
theorem dec_tail {b : UInt8} (h1 : 128 ≤ b.toNat) (h2 : b.toNat < 192) (t : List UInt8) : decodeL (b :: t) = (65533, 1) := by
  rw [decodeL_N]
  have hb : (b :: t).getD 0 0 = b := rfl
  rw [hb]
  have k1 := ((b :: t).getD 1 0).toNat_lt
  have k2 := ((b :: t).getD 2 0).toNat_lt
  have k3 := ((b :: t).getD 3 0).toNat_lt
  rcases decodeN_shape (b :: t).length b.toNat ((b :: t).getD 1 0).toNat ((b :: t).getD 2 0).toNat ((b :: t).getD 3 0).toNat with ⟨c, e⟩ | ⟨c1, c2, c3, cv, e⟩ | ⟨c1, c2, c3, c4, cv, cs, e⟩ | ⟨c1, c2, c3, c4, c5, cv, cw, e⟩ | e
  · omega
  · omega
  · omega
  · omega
  · exact e
/-- All bytes of a rune but its first go on with it. -/
theorem dec_tails (l : List UInt8) : ∀ i, 1 ≤ i → i < (decodeL l).2 → 128 ≤ (l.getD i 0).toNat ∧ (l.getD i 0).toNat < 192 := by
  rw [decodeL_N]
  have k0 := (l.getD 0 0).toNat_lt
  have k1 := (l.getD 1 0).toNat_lt
  have k2 := (l.getD 2 0).toNat_lt
  have k3 := (l.getD 3 0).toNat_lt
  intro i h1 h2
  rcases decodeN_shape l.length (l.getD 0 0).toNat (l.getD 1 0).toNat (l.getD 2 0).toNat (l.getD 3 0).toNat with ⟨c, e⟩ | ⟨c1, c2, c3, cv, e⟩ | ⟨c1, c2, c3, c4, cv, cs, e⟩ | ⟨c1, c2, c3, c4, c5, cv, cw, e⟩ | e
  all_goals (rw [e] at h2; dsimp only at h2)
  · omega
  · obtain rfl : i = 1 := by omega
    omega
  · obtain rfl | rfl : i = 1 ∨ i = 2 := by omega
    all_goals omega
  · obtain rfl | rfl | rfl : i = 1 ∨ i = 2 ∨ i = 3 := by omega
    all_goals omega
  · omega
theorem dec_four (l : List UInt8) : (decodeL l).2 ≤ 4 := by
  rw [decodeL_N]
  rcases decodeN_shape l.length (l.getD 0 0).toNat (l.getD 1 0).toNat (l.getD 2 0).toNat (l.getD 3 0).toNat with ⟨c, e⟩ | ⟨c1, c2, c3, cv, e⟩ | ⟨c1, c2, c3, c4, cv, cs, e⟩ | ⟨c1, c2, c3, c4, c5, cv, cw, e⟩ | e
  all_goals (rw [e]; dsimp only; omega)
theorem lastR_tails : ∀ (a l : List UInt8), (∀ b ∈ a, 128 ≤ b.toNat ∧ b.toNat < 192) → l ≠ [] → ∀ d, lastR (a ++ l) d = lastR l 0
  | [], l, _, hl, d => lastR_any hl d 0
  | b :: a, l, h, hl, d => by
    have hb := h b (List.mem_cons_self ..)
    rw [List.cons_append, lastR_step (by simp), dec_tail hb.1 hb.2]
    exact lastR_tails a l (fun x hx => h x (List.mem_cons_of_mem _ hx)) hl _
/-- THE LAST RUNE STANDS WITHIN THE LAST FOUR BYTES. -/
theorem lastR_four : ∀ (n : Nat) (l : List UInt8), l.length ≤ n → ∀ d, lastR l d = lastR (l.drop (l.length - 4)) d
  | 0, l, hn, d => by
    have : l = [] := List.eq_nil_of_length_eq_zero (by omega)
    subst this; rfl
  | n + 1, l, hn, d => by
    by_cases h4 : l.length ≤ 4
    · rw [Nat.sub_eq_zero_of_le h4, List.drop_zero]
    · have hne : l ≠ [] := fun e => by rw [e] at h4; simp at h4
      have hw := decodeL_width l
      have ht := dec_tails l
      have h5 := dec_four l
      rw [lastR_step hne]
      generalize decodeL l = x at *
      obtain ⟨r, k⟩ := x
      dsimp only at *
      have hne2 : l.drop k ≠ [] := fun e => by have := congrArg List.length e; rw [List.length_drop] at this; simp at this; omega
      have hne3 : l.drop (l.length - 4) ≠ [] := fun e => by have := congrArg List.length e; rw [List.length_drop] at this; simp at this; omega
      by_cases hj : 4 ≤ l.length - k
      · rw [lastR_four n (l.drop k) (by rw [List.length_drop]; omega)]
        rw [List.length_drop, List.drop_drop, show k + (l.length - k - 4) = l.length - 4 by omega]
        exact lastR_any hne3 _ _
      · have hsp : l.drop (l.length - 4) = (l.drop (l.length - 4)).take (k - (l.length - 4)) ++ l.drop k := by
          have q : l.drop k = (l.drop (l.length - 4)).drop (k - (l.length - 4)) := by rw [List.drop_drop]; congr 1; omega
          rw [q, List.take_append_drop]
        rw [hsp, lastR_tails _ _ (fun b hb => ?_) hne2 d]
        · exact lastR_any hne2 _ _
        · obtain ⟨i, hi, rfl⟩ := List.mem_iff_getElem.1 hb
          rw [List.length_take, List.length_drop] at hi
          have := ht (l.length - 4 + i) (by omega) (by omega)
          rw [List.getElem_take, List.getElem_drop]
          rw [List.getD_eq_getElem?_getD, List.getElem?_eq_getElem (by omega)] at this
          exact this
theorem lastR_next {l : List UInt8} {pos n : Nat} {r : Int} (hp : pos < l.length) (hd : decodeL (l.drop pos) = (r.toNat, n)) (h0 : 0 ≤ r) (d : Int) :
    lastR (l.drop pos) d = lastR (l.drop (pos + n)) r := by
  rw [lastR_step (fun e => by have := congrArg List.length e; rw [List.length_drop] at this; simp at this; omega), hd, List.drop_drop]
  dsimp only
  rw [show ((r.toNat : Nat) : Int) = r by omega]
/-- The rune ahead of a place, and the one behind it. -/
def befL (l : List UInt8) (at_ : Int) : Int := if at_ < 0 ∨ (l.length : Int) < at_ then 0 else lastR (l.take at_.toNat) 0
def aftL (l : List UInt8) (at_ : Int) : Int := if at_ < 0 ∨ (l.length : Int) < at_ then 0 else if l.drop at_.toNat = [] then 0 else ((decodeL (l.drop at_.toNat)).1 : Int)
theorem bef_zero (l : List UInt8) : befL l 0 = 0 := by unfold befL; rw [if_neg (by omega)]; rfl
theorem aft_end (l : List UInt8) : aftL l (l.length : Nat) = 0 := by
  unfold aftL
  rw [if_neg (by omega), if_pos (by rw [Int.toNat_natCast, List.drop_length])]
end Go.Proofs.Ytjfbemoageeobaa
