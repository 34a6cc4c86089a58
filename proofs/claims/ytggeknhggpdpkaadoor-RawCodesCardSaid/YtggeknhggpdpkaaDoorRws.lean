/-
  Plain lists of bytes: links with a scheme, and code between as many signs. No program in sight.
-/
import Derived.Test.YtggeknhggpdpkaaDoorRwp
namespace Go.Proofs.YtggeknhggpdpkaaDoor
open Go Go.Lib

/-! ### Links -/
/-- So many letters, a to j, from the beginning again and again. -/
def abcL (n : Nat) : List UInt8 := (List.range n).map (fun j => UInt8.ofNat (97 + j % 10))
theorem abc_succ (n : Nat) : abcL (n + 1) = abcL n ++ [UInt8.ofNat (97 + n % 10)] := by simp [abcL, List.range_succ]
theorem abc_len (n : Nat) : (abcL n).length = n := by simp [abcL]
theorem abc_byte : ∀ u : Fin 10, rLnk (UInt8.ofNat (97 + u.val)) = true ∧ rSch (UInt8.ofNat (97 + u.val)) = true ∧ rLet (UInt8.ofNat (97 + u.val)) = true ∧ notAt (UInt8.ofNat (97 + u.val)) = true ∧ rUsr (UInt8.ofNat (97 + u.val)) = true := by decide
theorem abc_mem {n : Nat} {b : UInt8} (h : b ∈ abcL n) : rLnk b = true ∧ rSch b = true ∧ rLet b = true ∧ notAt b = true ∧ rUsr b = true := by
  obtain ⟨j, _, rfl⟩ := List.mem_map.1 h
  exact abc_byte ⟨j % 10, Nat.mod_lt _ (by omega)⟩
theorem abc_first {n : Nat} (h : 0 < n) (r : List UInt8) : frP rLet (abcL n ++ r) = true := by
  cases e : abcL n with
  | nil =>
    have := abc_len n
    rw [e] at this
    simp at this
    omega
  | cons b l => exact (abc_mem (n := n) (by rw [e]; exact List.mem_cons_self ..)).2.2.1
theorem enc_link {u : List UInt8} (r : List UInt8) (h : ∀ b ∈ u, rLnk b = true) : encT (60 :: (u ++ 62 :: r)) = u := by
  unfold encT
  have e1 : ((60 : UInt8) :: (u ++ 62 :: r)).drop 1 = u ++ 62 :: r := rfl
  have e2 : cntP rLnk (u ++ 62 :: r) = u.length := by
    rw [cntP_app _ h, cntP_no _ (by decide), Nat.add_zero]
  rw [if_pos (by cases u <;> rfl), e1, e2, List.drop_left, if_pos (by rfl), List.take_left]
theorem sch_link (n : Nat) (s : List UInt8) : schB (abcL n ++ 58 :: s) = (decide (2 ≤ n) && decide (n ≤ 32)) := by
  have e : cntP rSch (abcL n ++ 58 :: s) = n := by
    rw [cntP_app _ (fun b hb => (abc_mem hb).2.1), cntP_no _ (by decide), abc_len]
    rfl
  have e2 : frP (fun b => decide (b.toNat = 58)) ((abcL n ++ 58 :: s).drop n) = true := by
    have : (abcL n ++ 58 :: s).drop n = 58 :: s := by
      have := List.drop_left (l₁ := abcL n) (l₂ := 58 :: s)
      rwa [abc_len] at this
    rw [this]
    rfl
  unfold schB
  rw [e, e2, Bool.and_true]
  by_cases c : 2 ≤ n
  · rw [abc_first (by omega), Bool.and_true]
  · rw [decide_eq_false c]
    rfl
theorem cntP_until {p : UInt8 → Bool} : ∀ {l : List UInt8} {k : Nat} {b : UInt8}, l[k]? = some b → p b = false → cntP p l ≤ k
  | [], k, b, h, _ => by simp at h
  | c :: l, 0, b, h, hb => by
    have : c = b := by simpa using h
    subst this
    rw [cntP_no _ hb]
    omega
  | c :: l, k + 1, b, h, hb => by
    have h2 : l[k]? = some b := by simpa using h
    have := cntP_until h2 hb
    rw [cntP]
    split <;> omega
theorem adr_link (n : Nat) (s : List UInt8) : adrB (abcL n ++ 58 :: s) = false := by
  obtain ⟨t, ht⟩ : ∃ t, abcL n ++ 58 :: s = t := ⟨_, rfl⟩
  have at_ : t[n]? = some 58 := by
    rw [← ht, List.getElem?_append_right (by rw [abc_len]; omega), abc_len, Nat.sub_self]
    rfl
  have ge : n + 1 ≤ cntP notAt t := by
    rw [← ht, cntP_app _ (fun b hb => (abc_mem hb).2.2.2.1), abc_len, cntP_yes _ (by decide)]
    omega
  have le : cntP rUsr (adrU t) ≤ n := cntP_until (b := 58) (by unfold adrU; rw [List.getElem?_take_of_lt (by omega)]; exact at_) (by decide)
  have len : n < (adrU t).length := by
    have := cntP_le notAt t
    unfold adrU
    rw [List.length_take]
    omega
  rw [ht]
  unfold adrB
  rw [decide_eq_false (show ¬ cntP rUsr (adrU t) = (adrU t).length by omega), Bool.and_false, Bool.false_and]

/-! ### Code -/
theorem up_len (a b : Nat) (n : Nat) : upN a (upN b n) = upN (a + b) n := up_up a b n
theorem cd_skip {k : Nat} (hk : k ≠ 0) : ∀ {a : List UInt8} (l : List UInt8), (∀ b ∈ a, rTik b = false) → cdE k (a ++ l) = upN a.length (cdE k l)
  | [], l, _ => by rw [List.nil_append, List.length_nil, up_zero]
  | b :: a, l, h => by
    have hb := h b (List.mem_cons_self ..)
    have e : cntP rTik (b :: a ++ l) = 0 := cntP_no _ hb
    rw [cdE_go (by simp) (by rw [e]; omega), e]
    show upN 1 (cdE k (a ++ l)) = _
    rw [cd_skip hk l (fun c hc => h c (List.mem_cons_of_mem _ hc)), up_len, List.length_cons, Nat.add_comm]
theorem tik_rep (k : Nat) (l : List UInt8) : cntP rTik (List.replicate k 96 ++ l) = k + cntP rTik l := by
  have := cntP_app (p := rTik) (a := List.replicate k 96) l (fun b hb => by rw [(List.mem_replicate.1 hb).2]; decide)
  rwa [List.length_replicate] at this
/-- A stretch of just as many. -/
theorem cd_rep {k : Nat} (hk : k ≠ 0) {l : List UInt8} (hl : noP rTik l) : cdE k (List.replicate k 96 ++ l) = 1 := by
  refine cdE_hit (fun e => ?_) (by rw [tik_rep, cntP_zero hl, Nat.add_zero])
  have := congrArg List.length e
  simp at this
  omega
/-- A stretch of one more. -/
theorem cd_more {k : Nat} : cdE k (List.replicate k 96 ++ [96]) = 0 := by
  have e : cntP rTik (List.replicate k 96 ++ [96]) = k + 1 := by rw [tik_rep]; rfl
  rw [cdE_go (by simp) (by rw [e]; omega), e, List.drop_eq_nil_of_le (by simp), cdE_nil, up_none]
/-- A text in code: no sign with the number 96 in it, and one at least. -/
theorem cod_open {k : Nat} {s r : List UInt8} (hs : ∀ b ∈ s, rTik b = false) (h0 : s ≠ []) : codO (List.replicate k 96 ++ (s ++ r)) = k := by
  unfold codO
  rw [tik_rep, cntP_zero (fun b q e => ?_), Nat.add_zero]
  cases s with
  | nil => exact absurd rfl h0
  | cons c s =>
    injection e with e1 _
    rw [← e1]
    exact hs c (List.mem_cons_self ..)
theorem cod_drop (k : Nat) (l : List UInt8) : (List.replicate k 96 ++ l).drop k = l := by
  have := List.drop_left (l₁ := List.replicate k (96 : UInt8)) (l₂ := l)
  rwa [List.length_replicate] at this
theorem cod_found {k : Nat} (hk : k ≠ 0) {s r : List UInt8} (hs : ∀ b ∈ s, rTik b = false) (h0 : s ≠ []) (hr : noP rTik r) :
    codT (List.replicate k 96 ++ (s ++ (List.replicate k 96 ++ r))) = ctT s ∧ codN (List.replicate k 96 ++ (s ++ (List.replicate k 96 ++ r))) = k + s.length + k := by
  have eO : codO (List.replicate k 96 ++ (s ++ (List.replicate k 96 ++ r))) = k := cod_open hs h0
  have eK : codK (List.replicate k 96 ++ (s ++ (List.replicate k 96 ++ r))) = s.length + 1 := by
    unfold codK
    rw [eO, cod_drop, cd_skip hk _ hs, cd_rep hk hr, up_pos _ (by decide), Nat.add_comm]
  unfold codT codN
  rw [eO, eK, if_neg hk, if_neg hk, if_neg (by omega), if_neg (by omega), cod_drop, Nat.add_sub_cancel, List.take_left]
  exact ⟨rfl, rfl⟩
theorem cod_none {k : Nat} (hk : k ≠ 0) {s : List UInt8} (hs : ∀ b ∈ s, rTik b = false) (h0 : s ≠ []) :
    codT (List.replicate k 96 ++ (s ++ (List.replicate k 96 ++ [96]))) = [] ∧ codN (List.replicate k 96 ++ (s ++ (List.replicate k 96 ++ [96]))) = 0 := by
  have eO : codO (List.replicate k 96 ++ (s ++ (List.replicate k 96 ++ [96]))) = k := cod_open hs h0
  have eK : codK (List.replicate k 96 ++ (s ++ (List.replicate k 96 ++ [96]))) = 0 := by
    unfold codK
    rw [eO, cod_drop, cd_skip hk _ hs, cd_more, up_none]
  unfold codT codN
  rw [eO, eK, if_neg hk, if_neg hk, if_pos rfl, if_pos rfl]
  exact ⟨rfl, rfl⟩
theorem ctU_own {s : List UInt8} (h : ∀ b ∈ s, b.toNat ≠ 10) : ctU s = s := by
  unfold ctU
  have : ∀ b ∈ s, lfB b = b := fun b hb => by
    unfold lfB
    rw [if_neg (fun e => h b hb (by rw [e]; rfl))]
  rw [List.map_congr_left this, List.map_id']
/-- No blanks at both ends. -/
theorem ctT_own {s : List UInt8} (h : ∀ b ∈ s, b.toNat ≠ 10) (hb : hasPrefix s [32] = false ∨ hasSuffix s [32] = false) : ctT s = s := by
  have e := ctU_own h
  unfold ctT
  rw [e, if_neg]
  unfold ctK
  rcases hb with hb | hb
  · rw [hb]; simp
  · rw [hb]; simp
/-- A blank at both ends, and something else between. -/
theorem ctT_blanks {s : List UInt8} (h : ∀ b ∈ s, b.toNat ≠ 10) (ha : s.any (fun b => decide (b ≠ 32)) = true) : ctT (32 :: (s ++ [32])) = s := by
  have h2 : ∀ b ∈ 32 :: (s ++ [32]), b.toNat ≠ 10 := fun b hb => by
    rcases List.mem_cons.1 hb with e | hb
    · rw [e]; decide
    · rcases List.mem_append.1 hb with hb | hb
      · exact h b hb
      · rw [List.mem_singleton.1 hb]; decide
  have e := ctU_own h2
  have k : ctK (32 :: (s ++ [32])) = true := by
    unfold ctK
    have k1 : hasPrefix (32 :: (s ++ [32])) [32] = true := by cases s <;> rfl
    have k2 : hasSuffix (32 :: (s ++ [32])) [32] = true := List.isSuffixOf_iff_suffix.2 ⟨32 :: s, rfl⟩
    have k3 : (32 :: (s ++ [32])).any (fun b => decide (b ≠ 32)) = true := by
      rw [List.any_cons, List.any_append, ha]
      simp
    rw [k1, k2, k3]
    rfl
  unfold ctT
  rw [e, if_pos k]
  show (s ++ [32]).dropLast = s
  simp
end Go.Proofs.YtggeknhggpdpkaaDoor
