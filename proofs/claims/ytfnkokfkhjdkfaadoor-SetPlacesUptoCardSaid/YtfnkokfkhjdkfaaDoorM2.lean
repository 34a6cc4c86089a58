/-
  Texts of the proof, one behind the other: Utf.
-/
import Derived.Lib.MapLaws
import Derived.Lib.TrimUEq
import Derived.Lib.RuneBytes
import Derived.Lib.Strings
/-
  Plain lists of bytes: a text rune by rune, what is written is read. No program in sight.
-/
namespace Go.Proofs.YtfnkokfkhjdkfaaDoor
open Go Go.Lib

/-- What a rune ahead is, and the bytes that it has. -/
theorem chunk (l : List UInt8) (b : UInt8) (t : List UInt8) (h : l = b :: t) :
    (b.toNat < 128 ∧ decodeL l = (b.toNat, 1)) ∨
    (128 ≤ b.toNat ∧ 128 ≤ (decodeL l).1 ∧ 1 ≤ (decodeL l).2 ∧ (decodeL l).2 ≤ l.length ∧ ∀ c ∈ l.take (decodeL l).2, 128 ≤ c.toNat) := by
  have hl : 0 < l.length := by rw [h]; simp
  have hb : l.getD 0 0 = b := by rw [h]; rfl
  rw [decodeL_N]
  have k0 := b.toNat_lt
  have k1 := (l.getD 1 0).toNat_lt
  have k2 := (l.getD 2 0).toNat_lt
  have k3 := (l.getD 3 0).toNat_lt
  rw [hb]
  by_cases c : b.toNat < 128
  · refine .inl ⟨c, ?_⟩
    unfold decodeN
    rw [if_pos c]
  · refine .inr ⟨by omega, ?_⟩
    rcases decodeN_shape l.length b.toNat (l.getD 1 0).toNat (l.getD 2 0).toNat (l.getD 3 0).toNat with ⟨c, e⟩ | ⟨c1, c2, c3, cv, e⟩ | ⟨c1, c2, c3, c4, cv, cs, e⟩ | ⟨c1, c2, c3, c4, c5, cv, cw, e⟩ | e
    · omega
    · rw [e]
      refine ⟨by omega, by omega, by omega, ?_⟩
      rw [takeB l c2, hb]
      intro x hx
      simp only [List.mem_cons, List.not_mem_nil, or_false] at hx
      rcases hx with rfl | rfl <;> omega
    · rw [e]
      refine ⟨by omega, by omega, by omega, ?_⟩
      rw [takeC l c2, hb]
      intro x hx
      simp only [List.mem_cons, List.not_mem_nil, or_false] at hx
      rcases hx with rfl | rfl | rfl <;> omega
    · rw [e]
      refine ⟨by omega, by omega, by omega, ?_⟩
      rw [takeD l c2, hb]
      intro x hx
      simp only [List.mem_cons, List.not_mem_nil, or_false] at hx
      rcases hx with rfl | rfl | rfl | rfl <;> omega
    · rw [e]
      refine ⟨by omega, by omega, by omega, ?_⟩
      rw [takeA l hl, hb]
      intro x hx
      simp only [List.mem_cons, List.not_mem_nil, or_false] at hx
      subst hx; omega

/-- A rune that may be written. -/
def okR (r : Int) : Prop := (0 ≤ r ∧ r < 55296) ∨ (57344 ≤ r ∧ r ≤ 1114111)
theorem byte_of (x : Int) (h0 : 0 ≤ x) (h1 : x < 256) : (x.toNat.toUInt8).toNat = x.toNat := by
  show (UInt8.ofNat x.toNat).toNat = x.toNat
  rw [UInt8.toNat_ofNat']
  exact Nat.mod_eq_of_lt (by omega)
/-- Whatever is decoded may be written. -/
theorem decode_ok (l : List UInt8) : okR (decodeL l).1 := by
  rw [decodeL_N]
  have k0 := (l.getD 0 0).toNat_lt
  have k1 := (l.getD 1 0).toNat_lt
  have k2 := (l.getD 2 0).toNat_lt
  have k3 := (l.getD 3 0).toNat_lt
  unfold okR
  rcases decodeN_shape l.length (l.getD 0 0).toNat (l.getD 1 0).toNat (l.getD 2 0).toNat (l.getD 3 0).toNat with ⟨c, e⟩ | ⟨c1, c2, c3, cv, e⟩ | ⟨c1, c2, c3, c4, cv, cs, e⟩ | ⟨c1, c2, c3, c4, c5, cv, cw, e⟩ | e
  all_goals (rw [e]; dsimp only; omega)

theorem decN1 {n b0 b1 b2 b3 : Nat} (h : b0 < 128) : decodeN n b0 b1 b2 b3 = (b0, 1) := by unfold decodeN; rw [if_pos h]
theorem decN2 {n b0 b1 b2 b3 : Nat} (h : b0 / 32 = 6) (hn : 1 < n) (h1 : b1 / 64 = 2) (hv : 128 ≤ b0 % 32 * 64 + b1 % 64) : decodeN n b0 b1 b2 b3 = (b0 % 32 * 64 + b1 % 64, 2) := by
  unfold decodeN; rw [if_neg (by omega), if_pos ⟨h, hn, h1⟩, if_pos hv]
theorem decN3 {n b0 b1 b2 b3 : Nat} (h : b0 / 16 = 14) (hn : 2 < n) (h1 : b1 / 64 = 2) (h2 : b2 / 64 = 2) (hv : 2048 ≤ b0 % 16 * 4096 + b1 % 64 * 64 + b2 % 64) (hs : b0 % 16 * 4096 + b1 % 64 * 64 + b2 % 64 < 55296 ∨ 57344 ≤ b0 % 16 * 4096 + b1 % 64 * 64 + b2 % 64) :
    decodeN n b0 b1 b2 b3 = (b0 % 16 * 4096 + b1 % 64 * 64 + b2 % 64, 3) := by
  unfold decodeN; rw [if_neg (by omega), if_neg (by omega), if_pos ⟨h, ⟨by omega, h1⟩, ⟨hn, h2⟩⟩, if_pos ⟨hv, by omega⟩]
theorem decN4 {n b0 b1 b2 b3 : Nat} (h : b0 / 8 = 30) (hn : 3 < n) (h1 : b1 / 64 = 2) (h2 : b2 / 64 = 2) (h3 : b3 / 64 = 2) (hv : 65536 ≤ b0 % 8 * 262144 + b1 % 64 * 4096 + b2 % 64 * 64 + b3 % 64) (hs : b0 % 8 * 262144 + b1 % 64 * 4096 + b2 % 64 * 64 + b3 % 64 ≤ 1114111) :
    decodeN n b0 b1 b2 b3 = (b0 % 8 * 262144 + b1 % 64 * 4096 + b2 % 64 * 64 + b3 % 64, 4) := by
  unfold decodeN; rw [if_neg (by omega), if_neg (by omega), if_neg (by omega), if_pos ⟨h, ⟨by omega, h1⟩, ⟨by omega, h2⟩, ⟨hn, h3⟩⟩, if_pos ⟨hv, by omega⟩]
/-- WHAT IS WRITTEN IS READ. -/
theorem dec_enc (r : Int) (h : okR r) (t : List UInt8) : decodeL (encodeRune r ++ t) = (r.toNat, (encodeRune r).length) := by
  unfold okR at h
  rw [decodeL_N]
  unfold encodeRune
  by_cases c1 : r ≤ 127
  · rw [encodeRuneZ_one (by omega) c1]
    simp only [List.map_cons, List.map_nil, List.cons_append, List.nil_append, List.getD_cons_zero, List.length_cons, List.length_nil]
    have e0 := byte_of r (by omega) (by omega)
    rw [decN1 (by omega), e0]
  · by_cases c2 : r ≤ 2047
    · rw [encodeRuneZ_two (by omega) c2]
      simp only [List.map_cons, List.map_nil, List.cons_append, List.nil_append, List.getD_cons_zero, List.getD_cons_succ, List.length_cons, List.length_nil]
      have e0 := byte_of (192 + r / 64) (by omega) (by omega)
      have e1 := byte_of (128 + r % 64) (by omega) (by omega)
      rw [decN2 (by omega) (by omega) (by omega) (by omega), e0, e1]
      simp only [Prod.mk.injEq, and_true]; omega
    · by_cases c3 : r ≤ 65535
      · rw [encodeRuneZ_three (by omega)]
        simp only [List.map_cons, List.map_nil, List.cons_append, List.nil_append, List.getD_cons_zero, List.getD_cons_succ, List.length_cons, List.length_nil]
        have e0 := byte_of (224 + r / 4096) (by omega) (by omega)
        have e1 := byte_of (128 + r / 64 % 64) (by omega) (by omega)
        have e2 := byte_of (128 + r % 64) (by omega) (by omega)
        rw [decN3 (by omega) (by omega) (by omega) (by omega) (by omega) (by omega), e0, e1, e2]
        simp only [Prod.mk.injEq, and_true]; omega
      · rw [encodeRuneZ_four (by omega) (by omega)]
        simp only [List.map_cons, List.map_nil, List.cons_append, List.nil_append, List.getD_cons_zero, List.getD_cons_succ, List.length_cons, List.length_nil]
        have e0 := byte_of (240 + r / 262144) (by omega) (by omega)
        have e1 := byte_of (128 + r / 4096 % 64) (by omega) (by omega)
        have e2 := byte_of (128 + r / 64 % 64) (by omega) (by omega)
        have e3 := byte_of (128 + r % 64) (by omega) (by omega)
        rw [decN4 (by omega) (by omega) (by omega) (by omega) (by omega) (by omega) (by omega), e0, e1, e2, e3]
        simp only [Prod.mk.injEq, and_true]; omega
theorem enc_len (r : Int) : 1 ≤ (encodeRune r).length ∧ (encodeRune r).length ≤ 4 := by
  have := encodeRuneZ_length r
  simpa [encodeRune] using this
theorem enc_ne (r : Int) : encodeRune r ≠ [] := fun e => by have := enc_len r; rw [e] at this; simp at this
/-- The bytes of a rune: its own, or great ones. -/
theorem enc_bytes (r : Int) (h : okR r) : ∀ b ∈ encodeRune r, b.toNat = r.toNat ∨ 128 ≤ b.toNat := by
  intro b hb
  cases he : encodeRune r with
  | nil => exact absurd he (enc_ne r)
  | cons c t =>
    have hd := dec_enc r h []
    rw [List.append_nil, he] at hd
    rcases chunk (c :: t) c t rfl with ⟨h1, h2⟩ | ⟨h1, h2, h3, h4, h5⟩
    · rw [h2] at hd
      simp only [Prod.mk.injEq, List.length_cons] at hd
      have ht : t = [] := List.length_eq_zero_iff.1 (by omega)
      rw [he, ht, List.mem_singleton] at hb
      subst hb
      exact .inl hd.1
    · rw [he] at hb
      refine .inr (h5 b ?_)
      rw [hd]
      simpa using hb
/-- The bytes of runes, one behind the other. -/
def bytesR (rs : List Int) : List UInt8 := rs.flatMap encodeRune
theorem bytesR_cons (r : Int) (rs : List Int) : bytesR (r :: rs) = encodeRune r ++ bytesR rs := rfl
theorem bytesR_append (a b : List Int) : bytesR (a ++ b) = bytesR a ++ bytesR b := by unfold bytesR; rw [List.flatMap_append]
end Go.Proofs.YtfnkokfkhjdkfaaDoor

