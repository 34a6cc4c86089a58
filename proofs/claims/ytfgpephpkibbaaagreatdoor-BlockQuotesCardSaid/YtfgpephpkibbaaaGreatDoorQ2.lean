/-
  Texts of the proof, one behind the other: Utf, Srct, Mrk, Mrh, Txt.
-/
import Derived.Lib.MapLaws
import Derived.Lib.TrimUEq
import Derived.Lib.RuneBytes
import Derived.Lib.Strings
import Derived.Lib.TrimByte
import Derived.Lib.Bytealg
import Derived.Lib.Case
import Derived.Lib.IndexMore
import Derived.Lib.ItoaNum
/-
  Plain lists of bytes: a text rune by rune, what is written is read. No program in sight.
-/
namespace Go.Proofs.YtfgpephpkibbaaaGreatDoor
open Go Go.Lib

/-- What a rune ahead is, and the bytes that it has. -/
theorem chunk (l : List UInt8) (b : UInt8) (t : List UInt8) (h : l = b :: t) :
    (b.toNat < 128 ∧ decodeL l = (b.toNat, 1)) ∨
    (128 ≤ b.toNat ∧ 128 ≤ (decodeL l).1 ∧ 1 ≤ (decodeL l).2 ∧ (decodeL l).2 ≤ l.length ∧ ∀ c ∈ l.take (decodeL l).2, 128 ≤ c.toNat) := by
  have hl : 0 < l.length := by rw [h]; simp
  have hb : l.getD 0 0 = b := by rw [h]; rfl
  rw [decodeL_N]
  have k0 := b.toNat_lt
  have k1 := (l.getD 1 0).toNat_lt
  have k2 := (l.getD 2 0).toNat_lt
  have k3 := (l.getD 3 0).toNat_lt
  rw [hb]
  by_cases c : b.toNat < 128
  · refine .inl ⟨c, ?_⟩
    unfold decodeN
    rw [if_pos c]
  · refine .inr ⟨by omega, ?_⟩
    rcases decodeN_shape l.length b.toNat (l.getD 1 0).toNat (l.getD 2 0).toNat (l.getD 3 0).toNat with ⟨c, e⟩ | ⟨c1, c2, c3, cv, e⟩ | ⟨c1, c2, c3, c4, cv, cs, e⟩ | ⟨c1, c2, c3, c4, c5, cv, cw, e⟩ | e
    · omega
    · rw [e]
      refine ⟨by omega, by omega, by omega, ?_⟩
      rw [takeB l c2, hb]
      intro x hx
      simp only [List.mem_cons, List.not_mem_nil, or_false] at hx
      rcases hx with rfl | rfl <;> omega
    · rw [e]
      refine ⟨by omega, by omega, by omega, ?_⟩
      rw [takeC l c2, hb]
      intro x hx
      simp only [List.mem_cons, List.not_mem_nil, or_false] at hx
      rcases hx with rfl | rfl | rfl <;> omega
    · rw [e]
      refine ⟨by omega, by omega, by omega, ?_⟩
      rw [takeD l c2, hb]
      intro x hx
      simp only [List.mem_cons, List.not_mem_nil, or_false] at hx
      rcases hx with rfl | rfl | rfl | rfl <;> omega
    · rw [e]
      refine ⟨by omega, by omega, by omega, ?_⟩
      rw [takeA l hl, hb]
      intro x hx
      simp only [List.mem_cons, List.not_mem_nil, or_false] at hx
      subst hx; omega

/-- A rune that may be written. -/
def okR (r : Int) : Prop := (0 ≤ r ∧ r < 55296) ∨ (57344 ≤ r ∧ r ≤ 1114111)
theorem byte_of (x : Int) (h0 : 0 ≤ x) (h1 : x < 256) : (x.toNat.toUInt8).toNat = x.toNat := by
  show (UInt8.ofNat x.toNat).toNat = x.toNat
  rw [UInt8.toNat_ofNat']
  exact Nat.mod_eq_of_lt (by omega)
/-- Whatever is decoded may be written. -/
theorem decode_ok (l : List UInt8) : okR (decodeL l).1 := by
  rw [decodeL_N]
  have k0 := (l.getD 0 0).toNat_lt
  have k1 := (l.getD 1 0).toNat_lt
  have k2 := (l.getD 2 0).toNat_lt
  have k3 := (l.getD 3 0).toNat_lt
  unfold okR
  rcases decodeN_shape l.length (l.getD 0 0).toNat (l.getD 1 0).toNat (l.getD 2 0).toNat (l.getD 3 0).toNat with ⟨c, e⟩ | ⟨c1, c2, c3, cv, e⟩ | ⟨c1, c2, c3, c4, cv, cs, e⟩ | ⟨c1, c2, c3, c4, c5, cv, cw, e⟩ | e
  all_goals (rw [e]; dsimp only; omega)

theorem decN1 {n b0 b1 b2 b3 : Nat} (h : b0 < 128) : decodeN n b0 b1 b2 b3 = (b0, 1) := by unfold decodeN; rw [if_pos h]
theorem decN2 {n b0 b1 b2 b3 : Nat} (h : b0 / 32 = 6) (hn : 1 < n) (h1 : b1 / 64 = 2) (hv : 128 ≤ b0 % 32 * 64 + b1 % 64) : decodeN n b0 b1 b2 b3 = (b0 % 32 * 64 + b1 % 64, 2) := by
  unfold decodeN; rw [if_neg (by omega), if_pos ⟨h, hn, h1⟩, if_pos hv]
theorem decN3 {n b0 b1 b2 b3 : Nat} (h : b0 / 16 = 14) (hn : 2 < n) (h1 : b1 / 64 = 2) (h2 : b2 / 64 = 2) (hv : 2048 ≤ b0 % 16 * 4096 + b1 % 64 * 64 + b2 % 64) (hs : b0 % 16 * 4096 + b1 % 64 * 64 + b2 % 64 < 55296 ∨ 57344 ≤ b0 % 16 * 4096 + b1 % 64 * 64 + b2 % 64) :
    decodeN n b0 b1 b2 b3 = (b0 % 16 * 4096 + b1 % 64 * 64 + b2 % 64, 3) := by
  unfold decodeN; rw [if_neg (by omega), if_neg (by omega), if_pos ⟨h, ⟨by omega, h1⟩, ⟨hn, h2⟩⟩, if_pos ⟨hv, by omega⟩]
theorem decN4 {n b0 b1 b2 b3 : Nat} (h : b0 / 8 = 30) (hn : 3 < n) (h1 : b1 / 64 = 2) (h2 : b2 / 64 = 2) (h3 : b3 / 64 = 2) (hv : 65536 ≤ b0 % 8 * 262144 + b1 % 64 * 4096 + b2 % 64 * 64 + b3 % 64) (hs : b0 % 8 * 262144 + b1 % 64 * 4096 + b2 % 64 * 64 + b3 % 64 ≤ 1114111) :
    decodeN n b0 b1 b2 b3 = (b0 % 8 * 262144 + b1 % 64 * 4096 + b2 % 64 * 64 + b3 % 64, 4) := by
  unfold decodeN; rw [if_neg (by omega), if_neg (by omega), if_neg (by omega), if_pos ⟨h, ⟨by omega, h1⟩, ⟨by omega, h2⟩, ⟨hn, h3⟩⟩, if_pos ⟨hv, by omega⟩]
/-- WHAT IS WRITTEN IS READ. -/
theorem dec_enc (r : Int) (h : okR r) (t : List UInt8) : decodeL (encodeRune r ++ t) = (r.toNat, (encodeRune r).length) := by
  unfold okR at h
  rw [decodeL_N]
  unfold encodeRune
  by_cases c1 : r ≤ 127
  · rw [encodeRuneZ_one (by omega) c1]
    simp only [List.map_cons, List.map_nil, List.cons_append, List.nil_append, List.getD_cons_zero, List.length_cons, List.length_nil]
    have e0 := byte_of r (by omega) (by omega)
    rw [decN1 (by omega), e0]
  · by_cases c2 : r ≤ 2047
    · rw [encodeRuneZ_two (by omega) c2]
      simp only [List.map_cons, List.map_nil, List.cons_append, List.nil_append, List.getD_cons_zero, List.getD_cons_succ, List.length_cons, List.length_nil]
      have e0 := byte_of (192 + r / 64) (by omega) (by omega)
      have e1 := byte_of (128 + r % 64) (by omega) (by omega)
      rw [decN2 (by omega) (by omega) (by omega) (by omega), e0, e1]
      simp only [Prod.mk.injEq, and_true]; omega
    · by_cases c3 : r ≤ 65535
      · rw [encodeRuneZ_three (by omega)]
        simp only [List.map_cons, List.map_nil, List.cons_append, List.nil_append, List.getD_cons_zero, List.getD_cons_succ, List.length_cons, List.length_nil]
        have e0 := byte_of (224 + r / 4096) (by omega) (by omega)
        have e1 := byte_of (128 + r / 64 % 64) (by omega) (by omega)
        have e2 := byte_of (128 + r % 64) (by omega) (by omega)
        rw [decN3 (by omega) (by omega) (by omega) (by omega) (by omega) (by omega), e0, e1, e2]
        simp only [Prod.mk.injEq, and_true]; omega
      · rw [encodeRuneZ_four (by omega) (by omega)]
        simp only [List.map_cons, List.map_nil, List.cons_append, List.nil_append, List.getD_cons_zero, List.getD_cons_succ, List.length_cons, List.length_nil]
        have e0 := byte_of (240 + r / 262144) (by omega) (by omega)
        have e1 := byte_of (128 + r / 4096 % 64) (by omega) (by omega)
        have e2 := byte_of (128 + r / 64 % 64) (by omega) (by omega)
        have e3 := byte_of (128 + r % 64) (by omega) (by omega)
        rw [decN4 (by omega) (by omega) (by omega) (by omega) (by omega) (by omega) (by omega), e0, e1, e2, e3]
        simp only [Prod.mk.injEq, and_true]; omega
theorem enc_len (r : Int) : 1 ≤ (encodeRune r).length ∧ (encodeRune r).length ≤ 4 := by
  have := encodeRuneZ_length r
  simpa [encodeRune] using this
theorem enc_ne (r : Int) : encodeRune r ≠ [] := fun e => by have := enc_len r; rw [e] at this; simp at this
/-- The bytes of a rune: its own, or great ones. -/
theorem enc_bytes (r : Int) (h : okR r) : ∀ b ∈ encodeRune r, b.toNat = r.toNat ∨ 128 ≤ b.toNat := by
  intro b hb
  cases he : encodeRune r with
  | nil => exact absurd he (enc_ne r)
  | cons c t =>
    have hd := dec_enc r h []
    rw [List.append_nil, he] at hd
    rcases chunk (c :: t) c t rfl with ⟨h1, h2⟩ | ⟨h1, h2, h3, h4, h5⟩
    · rw [h2] at hd
      simp only [Prod.mk.injEq, List.length_cons] at hd
      have ht : t = [] := List.length_eq_zero_iff.1 (by omega)
      rw [he, ht, List.mem_singleton] at hb
      subst hb
      exact .inl hd.1
    · rw [he] at hb
      refine .inr (h5 b ?_)
      rw [hd]
      simpa using hb
/-- The bytes of runes, one behind the other. -/
def bytesR (rs : List Int) : List UInt8 := rs.flatMap encodeRune
theorem bytesR_cons (r : Int) (rs : List Int) : bytesR (r :: rs) = encodeRune r ++ bytesR rs := rfl
theorem bytesR_append (a b : List Int) : bytesR (a ++ b) = bytesR a ++ bytesR b := by unfold bytesR; rw [List.flatMap_append]
end Go.Proofs.YtfgpephpkibbaaaGreatDoor

/-
  Plain lists of bytes: clean texts, lines, blanks. No program in sight.
-/
namespace Go.Proofs.YtfgpephpkibbaaaGreatDoor
open Go Go.Lib

/-! ### Clean -/
/-- What the rune ahead comes to. -/
def piece (l : List UInt8) : List UInt8 := if (decodeL l).1 = 0 then [239, 191, 189] else if (decodeL l).1 = 13 then (if hasPrefix (l.drop 1) [10] then [] else [10]) else encodeRune (decodeL l).1
def cleanGo : Nat → List UInt8 → List UInt8
  | 0, _ => []
  | n + 1, l => if l = [] then [] else piece l ++ cleanGo n (l.drop (decodeL l).2)
def cleanL (l : List UInt8) : List UInt8 := cleanGo l.length l
theorem cleanGo_nil : ∀ n, cleanGo n [] = []
  | 0 => rfl
  | _ + 1 => by simp [cleanGo]
theorem cleanGo_fuel : ∀ (n m : Nat) (l : List UInt8), l.length ≤ n → l.length ≤ m → cleanGo n l = cleanGo m l
  | 0, m, l, hn, _ => by
    have : l = [] := List.eq_nil_of_length_eq_zero (by omega)
    subst this
    rw [cleanGo_nil, cleanGo_nil]
  | n + 1, 0, l, _, hm => by
    have : l = [] := List.eq_nil_of_length_eq_zero (by omega)
    subst this
    rw [cleanGo_nil, cleanGo_nil]
  | n + 1, m + 1, l, hn, hm => by
    by_cases hne : l = []
    · subst hne
      rw [cleanGo_nil, cleanGo_nil]
    · have hw := decodeL_width l
      have hl : 0 < l.length := List.length_pos_iff.2 hne
      simp only [cleanGo, if_neg hne]
      rw [cleanGo_fuel n m _ (by rw [List.length_drop]; omega) (by rw [List.length_drop]; omega)]
theorem cleanL_nil : cleanL [] = [] := rfl
theorem cleanL_step (l : List UInt8) (hne : l ≠ []) : cleanL l = piece l ++ cleanL (l.drop (decodeL l).2) := by
  have hw := decodeL_width l
  have hl : 0 < l.length := List.length_pos_iff.2 hne
  unfold cleanL
  obtain ⟨n, hn⟩ : ∃ n, l.length = n + 1 := ⟨l.length - 1, by omega⟩
  rw [hn]
  simp only [cleanGo, if_neg hne]
  rw [cleanGo_fuel n _ _ (by rw [List.length_drop]; omega) (Nat.le_refl _)]

/-- A rune of a clean text. -/
def goodR (r : Int) : Prop := okR r ∧ r ≠ 0 ∧ r ≠ 13
theorem enc_lost : encodeRune 65533 = [239, 191, 189] := by decide +kernel
theorem enc_lf : encodeRune 10 = [10] := by decide +kernel
theorem piece_good (l : List UInt8) : ∃ rs, piece l = bytesR rs ∧ ∀ r ∈ rs, goodR r := by
  have ho := decode_ok l
  unfold piece
  split
  · exact ⟨[65533], by show _ = encodeRune 65533 ++ []; rw [enc_lost]; rfl, fun r h => by
      rw [List.mem_singleton] at h; subst h; exact ⟨by unfold okR; omega, by omega, by omega⟩⟩
  · split
    · split
      · exact ⟨[], rfl, fun r h => by cases h⟩
      · exact ⟨[10], by show _ = encodeRune 10 ++ []; rw [enc_lf]; rfl, fun r h => by
          rw [List.mem_singleton] at h; subst h; exact ⟨by unfold okR; omega, by omega, by omega⟩⟩
    · exact ⟨[((decodeL l).1 : Int)], by show _ = encodeRune _ ++ []; rw [List.append_nil], fun r h => by
        rw [List.mem_singleton] at h; subst h; exact ⟨ho, by omega, by omega⟩⟩
theorem cleanGo_good : ∀ (n : Nat) (l : List UInt8), ∃ rs, cleanGo n l = bytesR rs ∧ ∀ r ∈ rs, goodR r
  | 0, _ => ⟨[], rfl, fun _ h => by cases h⟩
  | n + 1, l => by
    unfold cleanGo
    split
    · exact ⟨[], rfl, fun _ h => by cases h⟩
    · obtain ⟨a, ea, ha⟩ := piece_good l
      obtain ⟨b, eb, hb⟩ := cleanGo_good n (l.drop (decodeL l).2)
      exact ⟨a ++ b, by rw [ea, eb, bytesR_append], fun r h => (List.mem_append.1 h).elim (ha r) (hb r)⟩
theorem cleanL_good (l : List UInt8) : ∃ rs, cleanL l = bytesR rs ∧ ∀ r ∈ rs, goodR r := cleanGo_good _ _
/-- A clean text stays as it is. -/
theorem clean_bytesR : ∀ (rs : List Int), (∀ r ∈ rs, goodR r) → cleanL (bytesR rs) = bytesR rs
  | [], _ => rfl
  | r :: rs, h => by
    obtain ⟨h1, h2, h3⟩ := h r (List.mem_cons_self ..)
    have hd := dec_enc r h1 (bytesR rs)
    have hr : ((r.toNat : Nat) : Int) = r := by unfold okR at h1; omega
    rw [bytesR_cons, cleanL_step _ (by simp [enc_ne]), hd, List.drop_left, clean_bytesR rs (fun x hx => h x (List.mem_cons_of_mem _ hx))]
    congr 1
    unfold piece
    rw [hd]
    dsimp only
    rw [if_neg (by omega), if_neg (by omega), hr]
theorem clean_clean (l : List UInt8) : cleanL (cleanL l) = cleanL l := by
  obtain ⟨rs, e, h⟩ := cleanL_good l
  rw [e, clean_bytesR rs h]
theorem clean_none (l : List UInt8) : ∀ b ∈ cleanL l, b.toNat ≠ 0 ∧ b.toNat ≠ 13 := by
  obtain ⟨rs, e, h⟩ := cleanL_good l
  rw [e]
  intro b hb
  obtain ⟨r, hr, hbr⟩ := List.mem_flatMap.1 hb
  obtain ⟨h1, h2, h3⟩ := h r hr
  have := enc_bytes r h1 b hbr
  unfold okR at h1
  omega
theorem piece_len (l : List UInt8) : (piece l).length ≤ 4 := by
  unfold piece
  have := enc_len (decodeL l).1
  split
  · simp
  · split
    · split <;> simp
    · omega
theorem cleanGo_len : ∀ (n : Nat) (l : List UInt8), (cleanGo n l).length ≤ 4 * n
  | 0, _ => by simp [cleanGo]
  | n + 1, l => by
    unfold cleanGo
    split
    · simp
    · have h1 := piece_len l
      have h2 := cleanGo_len n (l.drop (decodeL l).2)
      rw [List.length_append]
      omega
theorem cleanL_len (l : List UInt8) : (cleanL l).length ≤ 4 * l.length := cleanGo_len _ _

/-! ### Lines -/
def linesFrom : List UInt8 → List UInt8 → List (List UInt8)
  | cur, [] => if cur = [] then [] else [cur]
  | cur, b :: l => if b = 10 then cur :: linesFrom [] l else linesFrom (cur ++ [b]) l
def linesL (l : List UInt8) : List (List UInt8) := linesFrom [] l
theorem linesFrom_run : ∀ (a cur l : List UInt8), (∀ b ∈ a, b ≠ 10) → linesFrom cur (a ++ l) = linesFrom (cur ++ a) l
  | [], cur, l, _ => by simp
  | b :: a, cur, l, h => by
    rw [List.cons_append, linesFrom, if_neg (h b (List.mem_cons_self ..)), linesFrom_run a _ l (fun x hx => h x (List.mem_cons_of_mem _ hx)), List.append_assoc]
    rfl
theorem linesFrom_len : ∀ (l cur : List UInt8), (linesFrom cur l).length ≤ l.length + 1
  | [], cur => by unfold linesFrom; split <;> simp
  | b :: l, cur => by
    unfold linesFrom
    split
    · have := linesFrom_len l []; rw [List.length_cons, List.length_cons]; omega
    · have := linesFrom_len l (cur ++ [b]); rw [List.length_cons]; omega
theorem linesL_len (l : List UInt8) : (linesL l).length ≤ l.length + 1 := linesFrom_len l []
/-- No line has an LF. -/
theorem linesFrom_none : ∀ (l cur : List UInt8), (∀ b ∈ cur, b ≠ 10) → ∀ x ∈ linesFrom cur l, ∀ b ∈ x, b ≠ 10
  | [], cur, h, x, hx => by
    unfold linesFrom at hx
    split at hx
    · cases hx
    · rw [List.mem_singleton] at hx; subst hx; exact h
  | c :: l, cur, h, x, hx => by
    unfold linesFrom at hx
    split at hx
    · rcases List.mem_cons.1 hx with rfl | hx
      · exact h
      · exact linesFrom_none l [] (fun b hb => by cases hb) x hx
    · next hc =>
      refine linesFrom_none l (cur ++ [c]) (fun b hb => ?_) x hx
      rcases List.mem_append.1 hb with hb | hb
      · exact h b hb
      · rw [List.mem_singleton] at hb; subst hb; exact hc
theorem linesL_none (l : List UInt8) : ∀ x ∈ linesL l, ∀ b ∈ x, b ≠ 10 := linesFrom_none l [] (fun b hb => by cases hb)
/-- The lines, an LF behind each. -/
def joinLF (ls : List (List UInt8)) : List UInt8 := ls.flatMap fun x => x ++ [10]
theorem joinLF_from : ∀ (l cur : List UInt8), joinLF (linesFrom cur l) = cur ++ l ∨ joinLF (linesFrom cur l) = cur ++ l ++ [10]
  | [], cur => by
    unfold linesFrom
    split
    · next h => left; rw [h]; rfl
    · right; simp [joinLF]
  | b :: l, cur => by
    unfold linesFrom
    split
    · next h =>
      subst h
      have e : joinLF (cur :: linesFrom [] l) = cur ++ [10] ++ joinLF (linesFrom [] l) := by simp [joinLF]
      rw [e]
      rcases joinLF_from l [] with h | h <;> rw [h] <;> simp
    · rcases joinLF_from l (cur ++ [b]) with h | h <;> rw [h] <;> simp
theorem joinLF_lines (l : List UInt8) : joinLF (linesL l) = l ∨ joinLF (linesL l) = l ++ [10] := by
  have := joinLF_from l []
  simpa [linesL] using this
/-- Two texts with an LF between. -/
theorem linesFrom_join : ∀ (a cur b : List UInt8), (∀ (h : a ≠ []), a.getLast h ≠ 10) → (a = [] → cur ≠ []) → linesFrom cur (a ++ 10 :: b) = linesFrom cur a ++ linesFrom [] b
  | [], cur, b, _, h2 => by
    have e1 : linesFrom cur (10 :: b) = cur :: linesFrom [] b := by rw [linesFrom, if_pos rfl]
    have e2 : linesFrom cur [] = [cur] := by rw [linesFrom, if_neg (h2 rfl)]
    rw [List.nil_append, e1, e2]; rfl
  | c :: a, cur, b, h1, _ => by
    have hlast : ∀ (h : a ≠ []), a.getLast h ≠ 10 := fun h => by
      have := h1 (by simp)
      rwa [List.getLast_cons h] at this
    rw [List.cons_append, linesFrom, linesFrom]
    by_cases hc : c = 10
    · rw [if_pos hc, if_pos hc]
      have ha : a ≠ [] := fun e => by
        subst e
        exact h1 (by simp) (by simpa using hc)
      rw [linesFrom_join a [] b hlast (fun e => absurd e ha)]
      rfl
    · rw [if_neg hc, if_neg hc, linesFrom_join a (cur ++ [c]) b hlast (fun _ => by simp)]
theorem lines_join (a b : List UInt8) (h0 : a ≠ []) (h1 : a.getLast h0 ≠ 10) : linesL (a ++ 10 :: b) = linesL a ++ linesL b :=
  linesFrom_join a [] b (fun _ => h1) (fun e => absurd e h0)

/-! ### Blank, Trim -/
def isB (b : UInt8) : Bool := decide (b.toNat = 32) || decide (b.toNat = 9)
def ws (b : UInt8) : Bool := isB b || decide (b.toNat = 10)
def blankL (l : List UInt8) : Bool := l.all isB
theorem isB_big {b : UInt8} (h : 128 ≤ b.toNat) : isB b = false := by unfold isB; rw [decide_eq_false (by omega), decide_eq_false (by omega)]; rfl
theorem ws_big {b : UInt8} (h : 128 ≤ b.toNat) : ws b = false := by unfold ws; rw [isB_big h, decide_eq_false (by omega)]; rfl
theorem blank_snoc (l : List UInt8) (b : UInt8) : blankL (l ++ [b]) = (blankL l && isB b) := by unfold blankL; simp
theorem blank_no {l : List UInt8} {b : UInt8} (h : b ∈ l) (hb : isB b = false) : blankL l = false := by
  unfold blankL
  rw [← Bool.not_eq_true, List.all_eq_true]
  intro k
  rw [k b h] at hb
  cases hb

def trimL (l : List UInt8) : List UInt8 := ((l.dropWhile ws).reverse.dropWhile ws).reverse
/-- Nothing, or what begins and ends with what is no blank. -/
def Core (m : List UInt8) : Prop := m = [] ∨ ((∃ a t, m = a :: t ∧ ws a = false) ∧ ∃ t z, m = t ++ [z] ∧ ws z = false)
theorem dropWhile_all {a : List UInt8} (h : ∀ b ∈ a, ws b = true) (l : List UInt8) : (a ++ l).dropWhile ws = l.dropWhile ws := by
  induction a with
  | nil => rfl
  | cons b a ih =>
    rw [List.cons_append, List.dropWhile_cons, if_pos (h b (List.mem_cons_self ..))]
    exact ih fun x hx => h x (List.mem_cons_of_mem _ hx)
theorem dropWhile_none {a : List UInt8} (h : ∀ b ∈ a, ws b = true) : a.dropWhile ws = [] := by
  have := dropWhile_all h []
  simpa using this
theorem trim_of {a m b : List UInt8} (ha : ∀ x ∈ a, ws x = true) (hb : ∀ x ∈ b, ws x = true) (hm : Core m) : trimL (a ++ m ++ b) = m := by
  have hbr : ∀ x ∈ b.reverse, ws x = true := fun x hx => hb x (List.mem_reverse.1 hx)
  unfold trimL
  rw [List.append_assoc, dropWhile_all ha]
  rcases hm with rfl | ⟨⟨c, t, e1, w1⟩, t2, z, e2, w2⟩
  · rw [List.nil_append, dropWhile_none hb]; rfl
  · have e3 : (m ++ b).dropWhile ws = m ++ b := by
      rw [e1, List.cons_append, List.dropWhile_cons, w1]; simp
    rw [e3, List.reverse_append, dropWhile_all hbr, e2, List.reverse_append, List.reverse_singleton, List.singleton_append, List.dropWhile_cons, w2]
    simp
theorem split_head : ∀ l : List UInt8, ∃ a r, l = a ++ r ∧ (∀ x ∈ a, ws x = true) ∧ (r = [] ∨ ∃ c t, r = c :: t ∧ ws c = false)
  | [] => ⟨[], [], rfl, (fun _ h => by cases h), .inl rfl⟩
  | b :: l => by
    cases hb : ws b with
    | false => exact ⟨[], b :: l, rfl, fun _ h => (by cases h), .inr ⟨b, l, rfl, hb⟩⟩
    | true =>
      obtain ⟨a, r, e, h1, h2⟩ := split_head l
      exact ⟨b :: a, r, by rw [e]; rfl, fun x hx => (List.mem_cons.1 hx).elim (fun e => e ▸ hb) (h1 x), h2⟩
theorem split_trim (l : List UInt8) : ∃ a m b, l = a ++ m ++ b ∧ (∀ x ∈ a, ws x = true) ∧ (∀ x ∈ b, ws x = true) ∧ Core m := by
  obtain ⟨a, r, e, h1, h2⟩ := split_head l
  rcases h2 with rfl | ⟨c, t, rfl, hc⟩
  · exact ⟨a, [], [], by rw [e]; simp, h1, (fun _ h => by cases h), .inl rfl⟩
  · obtain ⟨b', m', e', k1, k2⟩ := split_head (c :: t).reverse
    have e2 : c :: t = m'.reverse ++ b'.reverse := by
      have := congrArg List.reverse e'
      simpa using this
    refine ⟨a, m'.reverse, b'.reverse, by rw [e, e2, List.append_assoc], h1, fun x hx => k1 x (List.mem_reverse.1 hx), ?_⟩
    rcases k2 with rfl | ⟨z, t', rfl, hz⟩
    · rw [List.reverse_nil, List.nil_append] at e2
      have := k1 c (List.mem_reverse.1 (e2 ▸ List.mem_cons_self ..))
      rw [hc] at this
      cases this
    · refine .inr ⟨?_, ⟨t'.reverse, z, by rw [List.reverse_cons], hz⟩⟩
      rw [List.reverse_cons] at e2 ⊢
      cases ht : t'.reverse with
      | nil =>
        rw [ht] at e2
        simp only [List.nil_append, List.singleton_append, List.cons.injEq] at e2
        exact ⟨z, [], rfl, hz⟩
      | cons d u =>
        rw [ht] at e2
        simp only [List.cons_append, List.cons.injEq] at e2
        exact ⟨d, u ++ [z], rfl, e2.1 ▸ hc⟩
theorem trim_core (l : List UInt8) : Core (trimL l) := by
  obtain ⟨a, m, b, e, h1, h2, h3⟩ := split_trim l
  rw [e, trim_of h1 h2 h3]; exact h3
theorem trim_trim (l : List UInt8) : trimL (trimL l) = trimL l := by
  have := trim_of (a := []) (b := []) (fun _ h => by cases h) (fun _ h => by cases h) (trim_core l)
  simpa using this
theorem trim_more (l a b : List UInt8) (ha : ∀ x ∈ a, ws x = true) (hb : ∀ x ∈ b, ws x = true) : trimL (a ++ l ++ b) = trimL l := by
  obtain ⟨a', m, b', e, h1, h2, h3⟩ := split_trim l
  have e2 : a ++ (a' ++ m ++ b') ++ b = (a ++ a') ++ m ++ (b' ++ b) := by simp
  rw [e, e2, trim_of h1 h2 h3]
  exact trim_of (fun x hx => (List.mem_append.1 hx).elim (ha x) (h1 x)) (fun x hx => (List.mem_append.1 hx).elim (h2 x) (hb x)) h3
theorem trim_blank (l : List UInt8) (h : blankL l = true) : trimL l = [] := by
  have := trim_of (a := l) (m := []) (b := []) (fun x hx => by
    have := List.all_eq_true.1 h x hx
    unfold ws; rw [this]; rfl) (fun _ h => by cases h) (.inl rfl)
  simpa using this
theorem trim_len (l : List UInt8) : (trimL l).length ≤ l.length := by
  obtain ⟨a, m, b, e, h1, h2, h3⟩ := split_trim l
  rw [e, trim_of h1 h2 h3, List.length_append, List.length_append]; omega
theorem trim_first {l : List UInt8} (h : trimL l ≠ []) : blankL ((trimL l).take 1) = false := by
  rcases trim_core l with e | ⟨⟨a, t, e, w⟩, _⟩
  · exact absurd e h
  · rw [e]
    refine blank_no (b := a) (by simp) ?_
    unfold ws at w
    rw [Bool.or_eq_false_iff] at w
    exact w.1
theorem trim_last {l : List UInt8} (h : trimL l ≠ []) : blankL ((trimL l).drop ((trimL l).length - 1)) = false := by
  rcases trim_core l with e | ⟨_, t, z, e, w⟩
  · exact absurd e h
  · rw [e]
    refine blank_no (b := z) (by simp) ?_
    unfold ws at w
    rw [Bool.or_eq_false_iff] at w
    exact w.1
end Go.Proofs.YtfgpephpkibbaaaGreatDoor

/-
  What a line begins, plainly: signs counted, rules, headings, lines under them, fences, items' marks; with no program.
-/
namespace Go.Proofs.YtfgpephpkibbaaaGreatDoor
open Go Go.Lib

/-- How many of c stand at the beginning. -/
def cntL (c : UInt8) : List UInt8 → Nat
  | [] => 0
  | b :: l => if b = c then cntL c l + 1 else 0
theorem cnt_nil (c : UInt8) : cntL c [] = 0 := rfl
theorem cnt_cons (c b : UInt8) (l : List UInt8) : cntL c (b :: l) = if b = c then cntL c l + 1 else 0 := rfl
theorem cnt_le (c : UInt8) : ∀ l, cntL c l ≤ l.length
  | [] => Nat.le_refl _
  | b :: l => by
    rw [cnt_cons, List.length_cons]
    split
    · have := cnt_le c l; omega
    · omega
theorem cnt_rep (c : UInt8) (r : List UInt8) : ∀ n, cntL c (List.replicate n c ++ r) = n + cntL c r
  | 0 => by rw [List.replicate_zero, List.nil_append, Nat.zero_add]
  | n + 1 => by rw [List.replicate_succ, List.cons_append, cnt_cons, if_pos rfl, cnt_rep c r n]; omega
theorem cnt_other {c b : UInt8} (h : b ≠ c) (l : List UInt8) : cntL c (b :: l) = 0 := by rw [cnt_cons, if_neg h]
theorem drop_rep (c : UInt8) (n : Nat) (r : List UInt8) : (List.replicate n c ++ r).drop n = r := by
  exact List.drop_left' (List.length_replicate ..)
/-- A round of the loop that counts. -/
theorem cnt_more {c : UInt8} {l : List UInt8} {k : Nat} (e : cntL c l = k + cntL c (l.drop k)) (h : k < l.length) (hc : l[k] = c) : cntL c l = k + 1 + cntL c (l.drop (k + 1)) := by
  rw [List.drop_eq_getElem_cons h, cnt_cons, if_pos hc] at e
  omega
theorem cnt_stop {c : UInt8} {l : List UInt8} {k : Nat} (e : cntL c l = k + cntL c (l.drop k)) (h : k < l.length) (hc : ¬ l[k] = c) : cntL c l = k := by
  rw [List.drop_eq_getElem_cons h, cnt_cons, if_neg hc] at e
  omega
theorem cnt_end {c : UInt8} {l : List UInt8} {k : Nat} (e : cntL c l = k + cntL c (l.drop k)) (h : l.length ≤ k) : cntL c l = k := by
  rw [List.drop_eq_nil_of_le h, cnt_nil] at e
  exact e

/-- Nothing, or a blank ahead. -/
def apartL : List UInt8 → Bool
  | [] => true
  | b :: _ => isB b
/-- m or more of c, and blanks behind. -/
def stretchL (c : UInt8) (m : Int) (l : List UInt8) : Bool := decide (m ≤ (cntL c l : Int)) && blankL (l.drop (cntL c l))
theorem stretch_rep (c : UInt8) (m : Int) (n : Nat) (r : List UInt8) (h : cntL c r = 0) : stretchL c m (List.replicate n c ++ r) = (decide (m ≤ (n : Int)) && blankL r) := by
  unfold stretchL
  rw [cnt_rep, h, Nat.add_zero, drop_rep]
theorem stretch_none {c : UInt8} {m : Int} {l : List UInt8} (h : cntL c l = 0) (hm : 0 < m) : stretchL c m l = false := by
  unfold stretchL
  rw [h, decide_eq_false (by omega)]
  rfl
theorem blank_app (a b : List UInt8) : blankL (a ++ b) = (blankL a && blankL b) := by unfold blankL; exact List.all_append ..
theorem blank_rep (n : Nat) : blankL (List.replicate n 32) = true := by
  unfold blankL
  rw [List.all_eq_true]
  intro b hb
  rw [(List.mem_replicate.1 hb).2]
  rfl

/-! Rules. -/
def sgB (b : UInt8) : Bool := decide (b.toNat = 42) || decide (b.toNat = 95) || decide (b.toNat = 45)
def okRule (h b : UInt8) : Bool := isB b || (sgB b && decide (b = h))
def ruleN (l : List UInt8) : Nat := l.countP (fun b => !isB b)
def ruleL (l : List UInt8) : Bool := l.all (okRule (l.headD 0)) && decide (3 ≤ ruleN l)
theorem ruleN_snoc (l : List UInt8) (b : UInt8) : ruleN (l ++ [b]) = ruleN l + if isB b then 0 else 1 := by
  unfold ruleN
  rw [List.countP_append]
  cases h : isB b <;> simp [h]
theorem rule_no {l : List UInt8} {b : UInt8} (h : b ∈ l) (hb : okRule (l.headD 0) b = false) : ruleL l = false := by
  have : l.all (okRule (l.headD 0)) = false := by
    rw [← Bool.not_eq_true, List.all_eq_true]
    intro k
    rw [k b h] at hb
    cases hb
  unfold ruleL
  rw [this]; rfl

/-! Headings. -/
/-- Nothing, or a blank at its end. -/
def lastB (l : List UInt8) : Bool := match l.getLast? with
  | some b => isB b
  | none => true
def headTextL (l : List UInt8) : List UInt8 := if lastB (trimRightB (trimL l) 35) then trimL (trimRightB (trimL l) 35) else trimL l
def headN (l : List UInt8) : Nat := if cntL 35 l < 1 ∨ 6 < cntL 35 l ∨ apartL (l.drop (cntL 35 l)) = false then 0 else cntL 35 l
def headL (l : List UInt8) : List UInt8 := if headN l = 0 then [] else headTextL (l.drop (cntL 35 l))
theorem trimRight_snoc {l : List UInt8} {c b : UInt8} (h : b ≠ c) : trimRightB (l ++ [b]) c = l ++ [b] := by
  unfold trimRightB
  rw [List.reverse_append, List.reverse_singleton, List.singleton_append, List.dropWhile_cons, if_neg (by simpa using h), List.reverse_cons, List.reverse_reverse]
theorem trimRight_rep (l : List UInt8) (c : UInt8) : ∀ n, trimRightB (l ++ List.replicate n c) c = trimRightB l c
  | 0 => by rw [List.replicate_zero, List.append_nil]
  | n + 1 => by
    have e : l ++ List.replicate (n + 1) c = (l ++ List.replicate n c) ++ [c] := by rw [List.replicate_succ']; simp
    rw [e]
    unfold trimRightB
    rw [List.reverse_append, List.reverse_singleton, List.singleton_append, List.dropWhile_cons, if_pos (by simp)]
    exact trimRight_rep l c n
theorem trimRight_len (l : List UInt8) (c : UInt8) : (trimRightB l c).length ≤ l.length := by
  unfold trimRightB
  rw [List.length_reverse]
  have := (List.dropWhile_sublist (· == c) (l := l.reverse)).length_le
  rw [List.length_reverse] at this
  exact this
theorem headText_len (l : List UInt8) : (headTextL l).length ≤ l.length := by
  unfold headTextL
  have h1 := trim_len l
  have h2 := trimRight_len (trimL l) 35
  have h3 := trim_len (trimRightB (trimL l) 35)
  split <;> omega

/-! Lines under headings. -/
def underL (l : List UInt8) : Nat := if stretchL 61 1 l then 1 else if stretchL 45 1 l then 2 else 0

/-! Items' marks. -/
def dgB (b : UInt8) : Bool := decide (48 ≤ b.toNat) && decide (b.toNat ≤ 57)
/-- The number of the digits at the beginning, m at most, behind v. -/
def decV : Nat → Nat → List UInt8 → Nat
  | 0, v, _ => v
  | _ + 1, v, [] => v
  | m + 1, v, b :: l => if dgB b then decV m (v * 10 + (b.toNat - 48)) l else v
/-- How many they are. -/
def decC : Nat → List UInt8 → Nat
  | 0, _ => 0
  | _ + 1, [] => 0
  | m + 1, b :: l => if dgB b then decC m l + 1 else 0
theorem decV_cons (m v : Nat) (b : UInt8) (l : List UInt8) : decV (m + 1) v (b :: l) = if dgB b then decV m (v * 10 + (b.toNat - 48)) l else v := rfl
theorem decC_cons (m : Nat) (b : UInt8) (l : List UInt8) : decC (m + 1) (b :: l) = if dgB b then decC m l + 1 else 0 := rfl
theorem decV_nil (m v : Nat) : decV m v [] = v := by cases m <;> rfl
theorem decC_nil (m : Nat) : decC m [] = 0 := by cases m <;> rfl
theorem decC_le : ∀ (m : Nat) (l : List UInt8), decC m l ≤ m ∧ decC m l ≤ l.length
  | 0, l => ⟨Nat.le_refl _, Nat.zero_le _⟩
  | m + 1, [] => ⟨Nat.zero_le _, Nat.le_refl _⟩
  | m + 1, b :: l => by
    rw [decC_cons, List.length_cons]
    have := decC_le m l
    split <;> omega
theorem decV_lt : ∀ (m v k : Nat) (l : List UInt8), v < 10 ^ k → decV m v l < 10 ^ (k + m)
  | 0, v, k, l, h => h
  | m + 1, v, k, [], h => by rw [decV_nil]; exact Nat.lt_of_lt_of_le h (Nat.pow_le_pow_right (by omega) (by omega))
  | m + 1, v, k, b :: l, h => by
    rw [decV_cons]
    split
    · next hb =>
      have hb2 : b.toNat ≤ 57 := by
        unfold dgB at hb
        rw [Bool.and_eq_true, decide_eq_true_eq, decide_eq_true_eq] at hb
        exact hb.2
      have h2 := decV_lt m (v * 10 + (b.toNat - 48)) (k + 1) l (by rw [Nat.pow_succ]; omega)
      rw [show k + 1 + m = k + (m + 1) by omega] at h2
      exact h2
    · exact Nat.lt_of_lt_of_le h (Nat.pow_le_pow_right (by omega) (by omega))
/-- The mark: is it numbered, its number, its sign, its width; width 0: there is none. -/
def sgnL (l : List UInt8) : Bool × Nat × Nat × Nat :=
  match l.drop (decC 9 l) with
  | [] => (false, 0, 0, 0)
  | c :: _ => if decC 9 l = 0 then (if c.toNat = 45 ∨ c.toNat = 43 ∨ c.toNat = 42 then (false, 0, c.toNat, 1) else (false, 0, 0, 0))
    else if c.toNat = 46 ∨ c.toNat = 41 then (true, decV 9 0 l, c.toNat, decC 9 l + 1) else (false, 0, 0, 0)
def lstB (l : List UInt8) : Bool := decide ((sgnL l).2.2.2 ≠ 0) && apartL (l.drop (sgnL l).2.2.2)
def lstL (l : List UInt8) : Bool × Nat × Nat × Nat := if lstB l then sgnL l else (false, 0, 0, 0)
theorem sgn_le (l : List UInt8) : (sgnL l).2.2.2 ≤ l.length := by
  unfold sgnL
  have h := decC_le 9 l
  cases e : l.drop (decC 9 l) with
  | nil => exact Nat.zero_le _
  | cons c t =>
    have h2 := congrArg List.length e
    rw [List.length_drop, List.length_cons] at h2
    dsimp only
    split
    · split
      · show 1 ≤ _; omega
      · exact Nat.zero_le _
    · split
      · show decC 9 l + 1 ≤ _; omega
      · exact Nat.zero_le _
/-- Digits, and what is none behind. -/
theorem dec_digits : ∀ (d : List UInt8) (m v : Nat) (c : UInt8) (r : List UInt8), (∀ b ∈ d, dgB b = true) → dgB c = false → d.length ≤ m → decC m (d ++ c :: r) = d.length ∧ decV m v (d ++ c :: r) = d.foldl (fun a b => a * 10 + (b.toNat - 48)) v
  | [], m, v, c, r, _, hc, _ => by
    cases m with
    | zero => exact ⟨rfl, rfl⟩
    | succ m =>
      rw [List.nil_append, decC_cons, decV_cons, hc]
      exact ⟨rfl, rfl⟩
  | b :: d, m, v, c, r, hd, hc, hm => by
    rw [List.length_cons] at hm
    obtain ⟨m, rfl⟩ : ∃ k, m = k + 1 := ⟨m - 1, by omega⟩
    obtain ⟨h1, h2⟩ := dec_digits d m (v * 10 + (b.toNat - 48)) c r (fun x hx => hd x (List.mem_cons_of_mem _ hx)) hc (by omega)
    rw [List.cons_append, decC_cons, decV_cons, if_pos (hd b (List.mem_cons_self ..)), if_pos (hd b (List.mem_cons_self ..)), h1, h2]
    exact ⟨by rw [List.length_cons], rfl⟩
/-- Rounds of the loop that reads digits. -/
theorem dec_more {l : List UInt8} {k v : Nat} (hv : decV 9 0 l = decV (9 - k) v (l.drop k)) (hc : decC 9 l = k + decC (9 - k) (l.drop k)) (h9 : k < 9) (h : k < l.length) (hb : dgB l[k] = true) :
    decV 9 0 l = decV (9 - (k + 1)) (v * 10 + (l[k].toNat - 48)) (l.drop (k + 1)) ∧ decC 9 l = k + 1 + decC (9 - (k + 1)) (l.drop (k + 1)) := by
  rw [List.drop_eq_getElem_cons h, show 9 - k = (9 - (k + 1)) + 1 by omega] at hv hc
  rw [decV_cons, if_pos hb] at hv
  rw [decC_cons, if_pos hb] at hc
  exact ⟨hv, by omega⟩
theorem dec_stop {l : List UInt8} {k v : Nat} (hv : decV 9 0 l = decV (9 - k) v (l.drop k)) (hc : decC 9 l = k + decC (9 - k) (l.drop k)) (h : k < l.length) (hb : dgB l[k] = false) : decV 9 0 l = v ∧ decC 9 l = k := by
  rw [List.drop_eq_getElem_cons h] at hv hc
  cases hm : 9 - k with
  | zero => rw [hm] at hv hc; exact ⟨hv, hc⟩
  | succ m =>
    rw [hm] at hv hc
    rw [decV_cons, hb] at hv
    rw [decC_cons, hb] at hc
    exact ⟨hv, hc⟩
theorem dec_end {l : List UInt8} {k v : Nat} (hv : decV 9 0 l = decV (9 - k) v (l.drop k)) (hc : decC 9 l = k + decC (9 - k) (l.drop k)) (h : k = 9 ∨ l.length ≤ k) : decV 9 0 l = v ∧ decC 9 l = k := by
  rcases h with h | h
  · subst h
    exact ⟨hv, hc⟩
  · rw [List.drop_eq_nil_of_le h] at hv hc
    rw [decV_nil] at hv
    rw [decC_nil] at hc
    exact ⟨hv, hc⟩
end Go.Proofs.YtfgpephpkibbaaaGreatDoor

/-
  HTML's beginnings and ends, plainly; with no program.
-/
namespace Go.Proofs.YtfgpephpkibbaaaGreatDoor
open Go Go.Lib

def ltrB (b : UInt8) : Bool := (decide (97 ≤ b.toNat) && decide (b.toNat ≤ 122)) || (decide (65 ≤ b.toNat) && decide (b.toNat ≤ 90))
def anB (b : UInt8) : Bool := ltrB b || dgB b
/-- How many letters and digits stand at the beginning; they, small; what stands behind. -/
def nmC : List UInt8 → Nat
  | [] => 0
  | b :: l => if anB b then nmC l + 1 else 0
def nmL (l : List UInt8) : List UInt8 := toLowerA (l.take (nmC l))
def nmR (l : List UInt8) : List UInt8 := l.drop (nmC l)
theorem nmC_cons (b : UInt8) (l : List UInt8) : nmC (b :: l) = if anB b then nmC l + 1 else 0 := rfl
theorem nmC_le : ∀ l, nmC l ≤ l.length
  | [] => Nat.le_refl _
  | b :: l => by
    rw [nmC_cons, List.length_cons]
    have := nmC_le l
    split <;> omega
theorem nmL_yes {b : UInt8} (h : anB b = true) (l : List UInt8) : nmL (b :: l) = lowerB b :: nmL l := by
  unfold nmL
  rw [nmC_cons, if_pos h, List.take_succ_cons]
  rfl
theorem nmL_no {b : UInt8} (h : ¬ anB b = true) (l : List UInt8) : nmL (b :: l) = [] := by
  unfold nmL
  rw [nmC_cons, if_neg h, List.take_zero]
  rfl
theorem nmR_yes {b : UInt8} (h : anB b = true) (l : List UInt8) : nmR (b :: l) = nmR l := by
  unfold nmR
  rw [nmC_cons, if_pos h, List.drop_succ_cons]
theorem nmR_no {b : UInt8} (h : ¬ anB b = true) (l : List UInt8) : nmR (b :: l) = b :: l := by
  unfold nmR
  rw [nmC_cons, if_neg h, List.drop_zero]
theorem nm_more {l : List UInt8} {k : Nat} (e : nmC l = k + nmC (l.drop k)) (h : k < l.length) (hc : anB l[k] = true) : nmC l = k + 1 + nmC (l.drop (k + 1)) := by
  rw [List.drop_eq_getElem_cons h, nmC_cons, if_pos hc] at e
  omega
theorem nm_stop {l : List UInt8} {k : Nat} (e : nmC l = k + nmC (l.drop k)) (h : k < l.length) (hc : anB l[k] = false) : nmC l = k := by
  rw [List.drop_eq_getElem_cons h, nmC_cons, hc] at e
  simpa using e
theorem nm_end {l : List UInt8} {k : Nat} (e : nmC l = k + nmC (l.drop k)) (h : l.length ≤ k) : nmC l = k := by
  rw [List.drop_eq_nil_of_le h] at e
  exact e
theorem nm_ascii (l : List UInt8) : ∀ b ∈ l.take (nmC l), b.toNat < 128 := by
  induction l with
  | nil => intro b hb; cases hb
  | cons a l ih =>
    rw [nmC_cons]
    split
    · next h =>
      intro b hb
      rw [List.take_succ_cons] at hb
      rcases List.mem_cons.1 hb with rfl | hb
      · unfold anB ltrB dgB at h
        simp only [Bool.or_eq_true, Bool.and_eq_true, decide_eq_true_eq] at h
        omega
      · exact ih b hb
    · intro b hb; cases hb

/-! Ends of raw text. -/
def sName : List UInt8 := [115, 99, 114, 105, 112, 116]
def pName : List UInt8 := [112, 114, 101]
def yName : List UInt8 := [115, 116, 121, 108, 101]
def tName : List UInt8 := [116, 101, 120, 116, 97, 114, 101, 97]
def rawN (n : List UInt8) : Bool := n == sName || n == pName || n == yName || n == tName
def endOf (n : List UInt8) : List UInt8 := 60 :: 47 :: (n ++ [62])
/-- Behind a </: a name of raw text, and a >. -/
def rawIn (l : List UInt8) : Bool := rawN (nmL l) && hasPrefix (nmR l) [62]
def rawAt (l : List UInt8) : Bool := hasPrefix l [60, 47] && rawIn (l.drop 2)
def rawEndL : List UInt8 → Bool
  | [] => false
  | b :: l => rawAt (b :: l) || rawEndL l
theorem raw_cons (b : UInt8) (l : List UInt8) : rawEndL (b :: l) = (rawAt (b :: l) || rawEndL l) := rfl
theorem upper_an {b : UInt8} (h : isUpperB b = true) : anB b = true ∧ 65 ≤ b.toNat := by
  have := isUpperB_int b
  rw [h] at this
  have h2 : decide ((65 : Int) ≤ (b.toNat : Int)) = true ∧ decide ((b.toNat : Int) ≤ 90) = true := by
    cases h3 : decide ((65 : Int) ≤ (b.toNat : Int)) <;> cases h4 : decide ((b.toNat : Int) ≤ 90) <;> rw [h3, h4] at this <;> simp at this ⊢
  rw [decide_eq_true_eq, decide_eq_true_eq] at h2
  refine ⟨?_, by omega⟩
  unfold anB ltrB
  rw [show decide (65 ≤ b.toNat) = true from decide_eq_true (by omega), show decide (b.toNat ≤ 90) = true from decide_eq_true (by omega)]
  simp
theorem low_no {b : UInt8} (h : ¬ anB b = true) : lowerB b = b := lowerB_of_not b (by
  cases hu : isUpperB b with
  | false => rfl
  | true => exact absurd (upper_an hu).1 h)
theorem low_eq {c : UInt8} (hc : c.toNat < 65) (b : UInt8) : (c == lowerB b) = (c == b) := by
  cases hu : isUpperB b with
  | false => rw [lowerB_of_not b hu]
  | true =>
    have h1 := (upper_an hu).2
    have h2 := lowerB_int b hu
    rw [beq_eq_false_iff_ne.2 (show c ≠ b from fun e => by rw [e] at hc; omega), beq_eq_false_iff_ne.2 (show c ≠ lowerB b from fun e => by rw [e] at hc; omega)]
theorem an_ne {b c : UInt8} (h : anB b = true) (hc : anB c = false) : b ≠ c := fun e => by rw [e, hc] at h; cases h
theorem low_an {b : UInt8} (h : anB b = true) : lowerB b ≠ 62 := fun e => by
  have h1 := low_eq (c := 62) (by decide) b
  rw [e] at h1
  have h2 : (62 : UInt8) = b := by simpa using h1
  rw [← h2] at h
  exact absurd h (by decide)
/-- A name, small, and a >. -/
theorem pre_name : ∀ (w l : List UInt8), (∀ b ∈ w, anB b = true) → (w ++ [62]).isPrefixOf (toLowerA l) = (decide (nmL l = w) && hasPrefix (nmR l) [62])
  | [], [], _ => rfl
  | [], b :: l, _ => by
    show ((62 : UInt8) == lowerB b && [].isPrefixOf (toLowerA l)) = _
    by_cases h : anB b = true
    · rw [nmL_yes h, show ((62 : UInt8) == lowerB b) = false from beq_eq_false_iff_ne.2 (fun e => low_an h e.symm)]
      simp
    · rw [nmL_no h, nmR_no h, low_no h]
      show _ = (decide True && ((62 : UInt8) == b && [].isPrefixOf l))
      simp
  | c :: w, [], _ => by
    show false = _
    simp [nmL, nmC, toLowerA]
  | c :: w, b :: l, hw => by
    show (c == lowerB b && (w ++ [62]).isPrefixOf (toLowerA l)) = _
    rw [pre_name w l (fun x hx => hw x (List.mem_cons_of_mem _ hx))]
    by_cases h : anB b = true
    · rw [nmL_yes h, nmR_yes h]
      have e : decide (lowerB b :: nmL l = c :: w) = ((c == lowerB b) && decide (nmL l = w)) := by
        rw [Bool.eq_iff_iff]
        simp only [decide_eq_true_eq, List.cons.injEq, Bool.and_eq_true, beq_iff_eq]
        exact ⟨fun ⟨a, b⟩ => ⟨a.symm, b⟩, fun ⟨a, b⟩ => ⟨a.symm, b⟩⟩
      rw [e, Bool.and_assoc]
    · rw [nmL_no h, low_no h, show (c == b) = false from beq_eq_false_iff_ne.2 (an_ne (hw c (List.mem_cons_self ..)) (by simpa using h))]
      simp
theorem contains_nil {sub : List UInt8} (h : sub ≠ []) : contains [] sub = false := by
  unfold contains index
  cases sub with
  | nil => exact absurd rfl h
  | cons a t => rfl
theorem contains_cons (b : UInt8) (l sub : List UInt8) : contains (b :: l) sub = (sub.isPrefixOf (b :: l) || contains l sub) := by
  unfold contains
  rw [index]
  have hg := index_ge l sub
  cases hp : sub.isPrefixOf (b :: l) with
  | true => simp
  | false =>
    by_cases h : index l sub = -1
    · simp [h]
    · rw [if_neg (by simp), if_neg (by simpa using h), Bool.false_or, Bool.eq_iff_iff, decide_eq_true_eq, decide_eq_true_eq]
      omega
theorem preEnd_eq (n l : List UInt8) (hn : ∀ b ∈ n, anB b = true) : (endOf n).isPrefixOf (toLowerA l) = (hasPrefix l [60, 47] && (decide (nmL (l.drop 2) = n) && hasPrefix (nmR (l.drop 2)) [62])) := by
  match l with
  | [] => rfl
  | [b] =>
    show ((60 : UInt8) == lowerB b && (47 :: (n ++ [62])).isPrefixOf []) = (((60 : UInt8) == b && [47].isPrefixOf []) && _)
    simp [List.isPrefixOf]
  | b :: c :: t =>
    show ((60 : UInt8) == lowerB b && ((47 : UInt8) == lowerB c && (n ++ [62]).isPrefixOf (toLowerA t))) = (((60 : UInt8) == b && ((47 : UInt8) == c && [].isPrefixOf t)) && (decide (nmL t = n) && hasPrefix (nmR t) [62]))
    rw [pre_name n t hn, low_eq (by decide), low_eq (by decide)]
    simp [Bool.and_assoc]
theorem rawAt_eq (l : List UInt8) : rawAt l = ((endOf sName).isPrefixOf (toLowerA l) || (endOf pName).isPrefixOf (toLowerA l) || (endOf yName).isPrefixOf (toLowerA l) || (endOf tName).isPrefixOf (toLowerA l)) := by
  rw [preEnd_eq sName l (by decide), preEnd_eq pName l (by decide), preEnd_eq yName l (by decide), preEnd_eq tName l (by decide)]
  unfold rawAt rawIn rawN
  have e : ∀ x y : List UInt8, (x == y) = decide (x = y) := fun x y => by rw [Bool.eq_iff_iff]; simp
  rw [e, e, e, e]
  generalize hasPrefix l [60, 47] = a
  generalize hasPrefix (nmR (l.drop 2)) [62] = b
  generalize decide (nmL (l.drop 2) = sName) = c1
  generalize decide (nmL (l.drop 2) = pName) = c2
  generalize decide (nmL (l.drop 2) = yName) = c3
  generalize decide (nmL (l.drop 2) = tName) = c4
  revert a b c1 c2 c3 c4
  decide
/-- The document's words for it. -/
theorem rawEnd_eq : ∀ l : List UInt8, rawEndL l = (contains (toLowerA l) (endOf sName) || contains (toLowerA l) (endOf pName) || contains (toLowerA l) (endOf yName) || contains (toLowerA l) (endOf tName))
  | [] => by
    show false = (contains [] _ || contains [] _ || contains [] _ || contains [] _)
    rw [contains_nil (by simp [endOf]), contains_nil (by simp [endOf]), contains_nil (by simp [endOf]), contains_nil (by simp [endOf])]
    rfl
  | b :: l => by
    have e : toLowerA (b :: l) = lowerB b :: toLowerA l := rfl
    rw [raw_cons, rawEnd_eq l, rawAt_eq, e, contains_cons, contains_cons, contains_cons, contains_cons]
    generalize (endOf sName).isPrefixOf (lowerB b :: toLowerA l) = a1
    generalize (endOf pName).isPrefixOf (lowerB b :: toLowerA l) = a2
    generalize (endOf yName).isPrefixOf (lowerB b :: toLowerA l) = a3
    generalize (endOf tName).isPrefixOf (lowerB b :: toLowerA l) = a4
    generalize contains (toLowerA l) (endOf sName) = c1
    generalize contains (toLowerA l) (endOf pName) = c2
    generalize contains (toLowerA l) (endOf yName) = c3
    generalize contains (toLowerA l) (endOf tName) = c4
    revert a1 a2 a3 a4 c1 c2 c3 c4
    decide
/-- A round of the loop: to the first </, past the name behind it. -/
theorem raw_cut : ∀ l : List UInt8, rawEndL l = if index l [60, 47] = -1 then false else rawEndL (l.drop (index l [60, 47]).toNat)
  | [] => rfl
  | b :: l => by
    have hg := index_ge l [60, 47]
    rw [index]
    cases hp : ([60, 47] : List UInt8).isPrefixOf (b :: l) with
    | true => simp
    | false =>
      have h0 : rawAt (b :: l) = false := by
        unfold rawAt hasPrefix
        rw [hp]; rfl
      rw [raw_cons, h0, Bool.false_or, raw_cut l]
      by_cases h : index l [60, 47] = -1
      · simp [h]
      · have e : (if false = true then (0 : Int) else if (index l [60, 47] == -1) = true then -1 else index l [60, 47] + 1) = index l [60, 47] + 1 := by simp [h]
        rw [e, if_neg h, if_neg (by omega), show (index l [60, 47] + 1).toNat = (index l [60, 47]).toNat + 1 by omega, List.drop_succ_cons]
theorem raw_pass {b : UInt8} (h : b ≠ 60) (l : List UInt8) : rawEndL (b :: l) = rawEndL l := by
  have h0 : rawAt (b :: l) = false := by
    unfold rawAt hasPrefix
    show (((60 : UInt8) == b && _) && _) = _
    rw [beq_eq_false_iff_ne.2 (fun e => h e.symm)]; rfl
  rw [raw_cons, h0, Bool.false_or]
theorem raw_name : ∀ l : List UInt8, rawEndL (nmR l) = rawEndL l
  | [] => rfl
  | b :: l => by
    by_cases h : anB b = true
    · rw [nmR_yes h, raw_name l, raw_pass (an_ne h (by decide))]
    · rw [nmR_no h]
theorem raw_none {l : List UInt8} (h : index l [60, 47] = -1) : rawEndL l = false := by rw [raw_cut, if_pos h]
theorem raw_some {l : List UInt8} {i : Nat} (h : index l [60, 47] = i) : rawEndL l = (rawIn (l.drop (i + 2)) || rawEndL (nmR (l.drop (i + 2)))) := by
  have ho : occAt l [60, 47] i = true := by
    rcases index_spec l [60, 47] with ⟨e, _⟩ | ⟨j, e, _, ho, _⟩
    · omega
    · have : i = j := by omega
      rw [this]; exact ho
  rw [raw_cut, if_neg (by omega), h, Int.toNat_natCast, raw_name, ← List.drop_drop]
  unfold occAt at ho
  generalize l.drop i = m at *
  match m, ho with
  | b :: c :: t, ho =>
    have ho : ((60 : UInt8) == b && ((47 : UInt8) == c && [].isPrefixOf t)) = true := ho
    simp only [Bool.and_eq_true, beq_iff_eq] at ho
    obtain ⟨rfl, rfl, _⟩ := ho
    rw [raw_cons, raw_pass (by decide)]
    rfl
  | [b], ho =>
    have ho : ((60 : UInt8) == b && [47].isPrefixOf ([] : List UInt8)) = true := ho
    simp [List.isPrefixOf] at ho
/-- What ends HTML of a kind. -/
def htmlEndL (k : Int) (l : List UInt8) : Bool :=
  if k = 1 then rawEndL l else if k = 2 then contains l [45, 45, 62] else if k = 3 then contains l [63, 62] else if k = 4 then contains l [62] else if k = 5 then contains l [93, 93, 62] else false

/-! What begins HTML. -/
def letFirst : List UInt8 → Bool
  | [] => false
  | b :: _ => ltrB b
def declL (l : List UInt8) : Bool := hasPrefix l [33] && letFirst (trimPrefix l [33])
/-- The names of blocks. -/
def blockN (n : List UInt8) : Bool :=
  n == [97, 100, 100, 114, 101, 115, 115] || n == [97, 114, 116, 105, 99, 108, 101] || n == [97, 115, 105, 100, 101] || n == [98, 97, 115, 101] ||
  n == [98, 108, 111, 99, 107, 113, 117, 111, 116, 101] || n == [98, 111, 100, 121] || n == [99, 97, 112, 116, 105, 111, 110] || n == [99, 101, 110, 116, 101, 114] ||
  n == [99, 111, 108] || n == [99, 111, 108, 103, 114, 111, 117, 112] || n == [100, 100] || n == [100, 101, 116, 97, 105, 108, 115] ||
  n == [100, 105, 97, 108, 111, 103] || n == [100, 105, 114] || n == [100, 105, 118] || n == [100, 108] ||
  n == [100, 116] || n == [102, 105, 101, 108, 100, 115, 101, 116] || n == [102, 105, 103, 99, 97, 112, 116, 105, 111, 110] || n == [102, 105, 103, 117, 114, 101] ||
  n == [102, 111, 111, 116, 101, 114] || n == [102, 111, 114, 109] || n == [102, 114, 97, 109, 101] || n == [102, 114, 97, 109, 101, 115, 101, 116] ||
  n == [104, 49] || n == [104, 50] || n == [104, 51] || n == [104, 52] ||
  n == [104, 53] || n == [104, 54] || n == [104, 101, 97, 100] || n == [104, 101, 97, 100, 101, 114] ||
  n == [104, 114] || n == [104, 116, 109, 108] || n == [105, 102, 114, 97, 109, 101] || n == [108, 101, 103, 101, 110, 100] ||
  n == [108, 105] || n == [108, 105, 110, 107] || n == [109, 97, 105, 110] || n == [109, 101, 110, 117] ||
  n == [109, 101, 110, 117, 105, 116, 101, 109] || n == [110, 97, 118] || n == [110, 111, 102, 114, 97, 109, 101, 115] || n == [111, 108] ||
  n == [111, 112, 116, 103, 114, 111, 117, 112] || n == [111, 112, 116, 105, 111, 110] || n == [112] || n == [112, 97, 114, 97, 109] ||
  n == [115, 101, 97, 114, 99, 104] || n == [115, 101, 99, 116, 105, 111, 110] || n == [115, 117, 109, 109, 97, 114, 121] || n == [116, 97, 98, 108, 101] ||
  n == [116, 98, 111, 100, 121] || n == [116, 100] || n == [116, 102, 111, 111, 116] || n == [116, 104] ||
  n == [116, 104, 101, 97, 100] || n == [116, 105, 116, 108, 101] || n == [116, 114] || n == [116, 114, 97, 99, 107] ||
  n == [117, 108]
def beginRaw (l : List UInt8) : Bool := rawN (nmL l) && (apartL (nmR l) || hasPrefix (nmR l) [62])
def beginElem (l : List UInt8) : Bool := blockN (nmL l) && (apartL (nmR l) || hasPrefix (nmR l) [62] || hasPrefix (nmR l) [47, 62])
def htmlIn (l : List UInt8) : Nat :=
  if beginRaw l then 1 else if hasPrefix l [33, 45, 45] then 2 else if hasPrefix l [63] then 3 else if hasPrefix l [33, 91, 67, 68, 65, 84, 65, 91] then 5 else if declL l then 4 else if beginElem (trimPrefix l [47]) then 6 else 0
def htmlL (l : List UInt8) : Nat := if hasPrefix l [60] then htmlIn (trimPrefix l [60]) else 0
end Go.Proofs.YtfgpephpkibbaaaGreatDoor

/-
  Plain lists of bytes: digits ahead, decimal numbers as they are read and as they are written. No program in sight.
-/
namespace Go.Proofs.YtfgpephpkibbaaaGreatDoor
open Go

def isD (b : UInt8) : Bool := decide (48 ≤ b.toNat) && decide (b.toNat ≤ 57)
/-- The digits that a text begins with, so many of them at most. -/
def digs (l : List UInt8) (lim : Nat) : List UInt8 := (l.take lim).takeWhile isD

theorem isD_yes {b : UInt8} (h1 : 48 ≤ b.toNat) (h2 : b.toNat ≤ 57) : isD b = true := by unfold isD; rw [decide_eq_true h1, decide_eq_true h2]; rfl
theorem isD_lo {b : UInt8} (h1 : ¬ 48 ≤ b.toNat) : isD b = false := by unfold isD; rw [decide_eq_false h1]; rfl
theorem isD_hi {b : UInt8} (h1 : ¬ b.toNat ≤ 57) : isD b = false := by unfold isD; rw [decide_eq_false h1, Bool.and_false]
theorem isD_of {b : UInt8} (h : isD b = true) : 48 ≤ b.toNat ∧ b.toNat ≤ 57 := by
  unfold isD at h
  simpa using h

theorem takeWhile_take {p : UInt8 → Bool} : ∀ (k : Nat) (l : List UInt8), (∀ (j : Nat) (h : j < l.length), j < k → p l[j] = true) → (∀ (h : k < l.length), p l[k] = false) → l.takeWhile p = l.take k
  | _, [], _, _ => by simp
  | 0, b :: l, _, h2 => by
    have := h2 (by simp)
    simp only [List.getElem_cons_zero] at this
    rw [List.takeWhile_cons, this]; rfl
  | k + 1, b :: l, h1, h2 => by
    have hb : p b = true := h1 0 (by simp) (by omega)
    rw [List.takeWhile_cons, hb, List.take_succ_cons]
    simp only [if_true]
    rw [takeWhile_take k l (fun j h hj => h1 (j + 1) (Nat.succ_lt_succ h) (by omega)) (fun h => h2 (Nat.succ_lt_succ h))]

/-- Where the loop over the digits stands still. -/
theorem digs_stop (l : List UInt8) (lim k : Nat) (hk : k ≤ lim) (h1 : ∀ (j : Nat) (h : j < l.length), j < k → isD l[j] = true) (h2 : k = lim ∨ ∀ (h : k < l.length), isD l[k] = false) : digs l lim = l.take k := by
  unfold digs
  rw [takeWhile_take k]
  · rw [List.take_take, Nat.min_eq_left hk]
  · intro j h hj
    rw [List.getElem_take]
    exact h1 j _ hj
  · intro h
    rw [List.length_take] at h
    rcases h2 with e | e
    · omega
    · rw [List.getElem_take]; exact e _

def val (l : List UInt8) : Nat := l.foldl (fun n b => n * 10 + (b.toNat - 48)) 0
theorem val_snoc (l : List UInt8) (b : UInt8) : val (l ++ [b]) = val l * 10 + (b.toNat - 48) := by unfold val; rw [List.foldl_append]; rfl
theorem val_from : ∀ (l : List UInt8) (a : Nat), (∀ b ∈ l, isD b = true) → l.foldl (fun n b => n * 10 + (b.toNat - 48)) a < (a + 1) * 10 ^ l.length
  | [], a, _ => by simp
  | b :: l, a, h => by
    have h1 := val_from l (a * 10 + (b.toNat - 48)) (fun x hx => h x (List.mem_cons_of_mem _ hx))
    have h2 := isD_of (h b (List.mem_cons_self ..))
    rw [List.foldl_cons, List.length_cons, Nat.pow_succ, Nat.mul_comm (10 ^ l.length), ← Nat.mul_assoc]
    refine Nat.lt_of_lt_of_le h1 (Nat.mul_le_mul_right _ ?_)
    omega
theorem val_lt (l : List UInt8) (h : ∀ b ∈ l, isD b = true) : val l < 10 ^ l.length := by
  have := val_from l 0 h
  rw [Nat.zero_add, Nat.one_mul] at this
  exact this
theorem digs_all (l : List UInt8) (lim : Nat) : ∀ b ∈ digs l lim, isD b = true := by
  intro b hb
  unfold digs at hb
  exact List.all_eq_true.1 (List.all_takeWhile (p := isD) (l := l.take lim)) b hb
theorem digs_length (l : List UInt8) (lim : Nat) : (digs l lim).length ≤ lim ∧ (digs l lim).length ≤ l.length := by
  have h : (digs l lim).length ≤ (l.take lim).length := (List.takeWhile_prefix _).length_le
  rw [List.length_take] at h
  omega
theorem digs_prefix (l : List UInt8) (lim : Nat) : digs l lim = l.take (digs l lim).length := by
  have h1 : digs l lim <+: l := (List.takeWhile_prefix _).trans (List.take_prefix _ _)
  exact List.prefix_iff_eq_take.1 h1

/-- The digits behind a point. -/
def decs (l : List UInt8) : List UInt8 := if Lib.hasPrefix l [46] then digs (l.drop 1) 3 else []

/-- What a text begins with: its thousandths, and how many bytes they have. -/
def sgn (l : List UInt8) : Nat := if Lib.hasPrefix l [45] then 1 else 0
def wholeOf (l : List UInt8) : List UInt8 := digs (l.drop (sgn l)) 15
def restOf (l : List UInt8) : List UInt8 := decs (l.drop (sgn l + (wholeOf l).length))
def numOf (l : List UInt8) : Nat := val (wholeOf l ++ (restOf l ++ [48, 48, 48]).take 3)
def parseN (l : List UInt8) : Int := if wholeOf l = [] then 0 else if Lib.hasPrefix l [45] then -(numOf l : Int) else numOf l
def parseK (l : List UInt8) : Nat := if wholeOf l = [] then 0 else sgn l + (wholeOf l).length + (if restOf l = [] then 0 else 1 + (restOf l).length)

/-- Thousandths, as they are written. -/
def printD (u : Nat) : List UInt8 := Lib.decDigits (u / 1000) ++ (if u % 1000 = 0 then [] else [46] ++ Lib.trimRightB ((Lib.decDigits (1000 + u % 1000)).drop 1) 48)
def printT (n : Int) : List UInt8 := (if n < 0 then [45] else []) ++ printD n.natAbs

theorem dd_small {u : Nat} (h : u < 10) : Lib.decDigits u = [UInt8.ofNat (48 + u)] := by rw [Lib.decDigits, dif_pos h]
theorem dd_big {u : Nat} (h : ¬ u < 10) : Lib.decDigits u = Lib.decDigits (u / 10) ++ [UInt8.ofNat (48 + u % 10)] := by rw [Lib.decDigits, dif_neg h]
theorem of48 {d : Nat} (h : d < 10) : (UInt8.ofNat (48 + d)).toNat = 48 + d := by
  rw [UInt8.toNat_ofNat']; exact Nat.mod_eq_of_lt (by omega)
theorem dd_len : ∀ (k u : Nat), u < 10 ^ (k + 1) → (Lib.decDigits u).length ≤ k + 1
  | 0, u, h => by rw [dd_small (by omega)]; simp
  | k + 1, u, h => by
    by_cases hu : u < 10
    · rw [dd_small hu]; simp
    · rw [dd_big hu, List.length_append, List.length_singleton]
      have := dd_len k (u / 10) (by rw [Nat.div_lt_iff_lt_mul (by omega), ← Nat.pow_succ]; exact h)
      omega
theorem dd_all (u : Nat) : ∀ b ∈ Lib.decDigits u, isD b = true := by
  induction u using Nat.strongRecOn with
  | ind u ih =>
    intro b hb
    by_cases hu : u < 10
    · rw [dd_small hu, List.mem_singleton] at hb
      subst hb
      have := of48 hu
      exact isD_yes (by omega) (by omega)
    · rw [dd_big hu, List.mem_append, List.mem_singleton] at hb
      rcases hb with hb | hb
      · exact ih (u / 10) (by omega) b hb
      · subst hb
        have := of48 (Nat.mod_lt u (show 10 > 0 by omega))
        exact isD_yes (by omega) (by omega)
theorem dd_val (u : Nat) : val (Lib.decDigits u) = u := by
  induction u using Nat.strongRecOn with
  | ind u ih =>
    by_cases hu : u < 10
    · rw [dd_small hu]
      have := of48 hu
      show 0 * 10 + ((UInt8.ofNat (48 + u)).toNat - 48) = u
      omega
    · rw [dd_big hu, val_snoc, ih (u / 10) (by omega)]
      have := of48 (Nat.mod_lt u (show 10 > 0 by omega))
      omega
theorem dd_pos (u : Nat) : 1 ≤ (Lib.decDigits u).length := by
  by_cases hu : u < 10
  · rw [dd_small hu]; simp
  · rw [dd_big hu]; simp
end Go.Proofs.YtfgpephpkibbaaaGreatDoor

