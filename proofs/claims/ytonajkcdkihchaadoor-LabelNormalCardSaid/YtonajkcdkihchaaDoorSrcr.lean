/-
  Runes there and back: []rune(s), string(runes), where each rune may be written.
-/
import Derived.Test.YtonajkcdkihchaaDoorWlk
import Derived.Laws.Cover4
import Derived.Laws.IdiomStrings
namespace Go.Proofs.YtonajkcdkihchaaDoor
open Go.RowKit Go.Lib

theorem enc_eq (r : Int) (h : okR r) : (Utf8.encode r).data.toList = encodeRune r := by
  unfold okR at h
  have hv : Utf8.valid r = true := by
    unfold Utf8.valid
    rcases h with ⟨h1, h2⟩ | ⟨h1, h2⟩
    · rw [decide_eq_true (by omega : (0 : Int) ≤ r), decide_eq_true (by omega : r < 55296)]; rfl
    · rw [decide_eq_true (by omega : (57344 : Int) ≤ r), decide_eq_true (by omega : r ≤ 1114111)]; simp
  have e : ∀ (n : Nat) (x : Int), x.toNat = n → (UInt8.ofNat n : UInt8) = x.toNat.toUInt8 := fun n x h => by rw [h]
  unfold Utf8.encode
  simp only [hv, if_true]
  unfold encodeRune
  by_cases c1 : r ≤ 127
  · rw [if_pos (by omega), encodeRuneZ_one (by omega) c1]
    rfl
  · rw [if_neg (by omega)]
    by_cases c2 : r ≤ 2047
    · rw [if_pos (by omega), encodeRuneZ_two (by omega) c2]
      simp only [List.map_cons, List.map_nil]
      rw [e _ (192 + r / 64) (by omega), e _ (128 + r % 64) (by omega)]
    · rw [if_neg (by omega)]
      by_cases c3 : r ≤ 65535
      · rw [if_pos (by omega), encodeRuneZ_three (by omega)]
        simp only [List.map_cons, List.map_nil]
        rw [e _ (224 + r / 4096) (by omega), e _ (128 + r / 64 % 64) (by omega), e _ (128 + r % 64) (by omega)]
      · rw [if_neg (by omega), encodeRuneZ_four (by omega) (by omega)]
        simp only [List.map_cons, List.map_nil]
        rw [e _ (240 + r / 262144) (by omega), e _ (128 + r / 4096 % 64) (by omega), e _ (128 + r / 64 % 64) (by omega), e _ (128 + r % 64) (by omega)]
theorem fold_bytes : ∀ (rs : List Int) (a : ByteArray), (∀ r ∈ rs, okR r) → (rs.foldl (fun r n => r ++ Utf8.encode n) a).data.toList = a.data.toList ++ bytesR rs
  | [], a, _ => by simp [bytesR]
  | r :: rs, a, h => by
    rw [List.foldl_cons, fold_bytes rs _ (fun x hx => h x (List.mem_cons_of_mem _ hx)), bytesR_cons, ← enc_eq r (h r (List.mem_cons_self ..))]
    simp
theorem runesBytes_eq (rs : List Int) (h : ∀ r ∈ rs, okR r) : runesBytes rs = ⟨(bytesR rs).toArray⟩ := bytes_eq (by
  unfold runesBytes
  rw [fold_bytes rs _ h]
  rfl)
theorem runesFrom_eq (s : ByteArray) : ∀ (rs : List Int) (n i : Nat) (acc : Array Value), s.data.toList.drop i = bytesR rs → (∀ r ∈ rs, okR r) → rs.length ≤ n →
    (Conv.runesFrom s n i acc).toList = acc.toList ++ rs.map (Value.int .i32)
  | [], n, i, acc, h, _, _ => by
    have hi : ¬ i < s.size := by
      have := congrArg List.length h
      rw [List.length_drop, bytes_len] at this
      simp [bytesR] at this
      omega
    cases n with
    | zero => simp [Conv.runesFrom]
    | succ n => simp [Conv.runesFrom, hi]
  | r :: rs, n, i, acc, h, hr, hn => by
    obtain ⟨m, rfl⟩ : ∃ m, n = m + 1 := ⟨n - 1, by simp at hn; omega⟩
    have ho := hr r (List.mem_cons_self ..)
    have hd := dec_enc r ho (bytesR rs)
    rw [bytesR_cons] at h
    rw [← h, decodeL_drop] at hd
    have hi : i < s.size := by
      have h1 := congrArg List.length h
      have h2 := enc_len r
      rw [List.length_drop, bytes_len, List.length_append] at h1
      omega
    have hnext : s.data.toList.drop (i + (encodeRune r).length) = bytesR rs := by
      rw [← List.drop_drop, h, List.drop_left]
    have hc : Int.ofNat r.toNat = r := by unfold okR at ho; show ((r.toNat : Nat) : Int) = r; omega
    unfold Conv.runesFrom
    rw [if_pos hi, hd]
    dsimp only
    rw [hc, runesFrom_eq s rs m _ _ hnext (fun x hx => hr x (List.mem_cons_of_mem _ hx)) (by simp at hn; omega)]
    simp
theorem bytesR_len : ∀ rs : List Int, rs.length ≤ (bytesR rs).length
  | [] => Nat.le_refl _
  | r :: rs => by
    have h1 := enc_len r
    have h2 := bytesR_len rs
    rw [bytesR_cons, List.length_append, List.length_cons]; omega
/-- []rune(s) of a text of runes. -/
theorem runes_of (s : ByteArray) (rs : List Int) (h : s.data.toList = bytesR rs) (hr : ∀ r ∈ rs, okR r) : Conv.runesFrom s s.size 0 #[] = (rs.map (Value.int .i32)).toArray := by
  have := runesFrom_eq s rs s.size 0 #[] (by simpa using h) hr (by have h1 := bytesR_len rs; rw [← h, bytes_len] at h1; exact h1)
  apply Array.ext'
  simpa using this
end Go.Proofs.YtonajkcdkihchaaDoor
