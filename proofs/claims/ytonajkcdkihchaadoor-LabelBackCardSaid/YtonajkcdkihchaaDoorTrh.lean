/-
  Plain lists of bytes: what is told of hidden texts in < and >, in " or ( and ), and of letters with ( and ). No program in sight.
-/
import Derived.Test.YtonajkcdkihchaaDoorTrg
namespace Go.Proofs.YtonajkcdkihchaaDoor
open Go Go.Lib

theorem hide_cons (b : UInt8) (l : List UInt8) : hideL (b :: l) = hideB b ++ hideL l := rfl
theorem sign_not {b : UInt8} (h : signB b = false) : b.toNat ≠ 92 ∧ b.toNat ≠ 60 ∧ b.toNat ≠ 62 ∧ b.toNat ≠ 34 ∧ b.toNat ≠ 40 ∧ b.toNat ≠ 41 ∧ b.toNat ≠ 38 := by
  unfold signB at h
  simp only [Bool.or_eq_false_iff, Bool.and_eq_false_iff, decide_eq_false_iff_not] at h
  omega
theorem wid_one {b : UInt8} (l : List UInt8) (h : b.toNat ≠ 92) : widN (b :: l) = 1 := by
  unfold widN
  rw [esc_ne l (fun e => h (by rw [e]; rfl))]
  rfl
theorem wid_two {c : UInt8} (t : List UInt8) (h : signB c = true) : widN (92 :: c :: t) = 2 := by
  unfold widN
  rw [esc_two t h]
  rfl
theorem up_add (a n : Nat) (h : n ≠ 0) : upN a n = n + a := up_pos a h
/-- A hidden text without LFs, and a >. -/
theorem enc_hide : ∀ (d r : List UInt8), (∀ b ∈ d, b.toNat ≠ 10) → encN (hideL d ++ 62 :: r) = (hideL d).length + 1
  | [], r, _ => enc_last r 62 rfl
  | b :: d, r, hd => by
    have ih := enc_hide d r (fun c hc => hd c (List.mem_cons_of_mem _ hc))
    have hb := hd b (List.mem_cons_self ..)
    rw [hide_cons]
    cases h : signB b with
    | true =>
      rw [hide_yes h]
      show encN (92 :: b :: (hideL d ++ 62 :: r)) = (hideL d).length + 1 + 1 + 1
      rw [enc_go _ _ (by decide) (by decide), wid_two _ h]
      show upN 2 (encN (hideL d ++ 62 :: r)) = _
      rw [ih, up_pos 2 (by omega)]
    | false =>
      have hn := sign_not h
      rw [hide_not h]
      show encN (b :: (hideL d ++ 62 :: r)) = (hideL d).length + 1 + 1
      rw [enc_go _ _ (by omega) (by omega), wid_one _ hn.1]
      show upN 1 (encN (hideL d ++ 62 :: r)) = _
      rw [ih, up_pos 1 (by omega)]
theorem ne_by {a b : UInt8} (h : a.toNat ≠ b.toNat) : a ≠ b := fun e => h (by rw [e])
/-- A hidden text without LFs, and a title's last sign. -/
theorem tls_hide {f e : UInt8} (he : e.toNat = 34 ∨ e.toNat = 41) (hf : f.toNat = 34 ∨ f.toNat = 40) : ∀ (d r : List UInt8) (k : Bool), (∀ b ∈ d, b.toNat ≠ 10) → tlsN f e k (hideL d ++ e :: r) = (hideL d).length + 1
  | [], r, k, _ => tls_last k r rfl
  | b :: d, r, k, hd => by
    have ih := fun k => tls_hide he hf d r k (fun c hc => hd c (List.mem_cons_of_mem _ hc))
    have hb := hd b (List.mem_cons_self ..)
    rw [hide_cons]
    cases h : signB b with
    | true =>
      rw [hide_yes h]
      show tlsN f e k (92 :: b :: (hideL d ++ e :: r)) = (hideL d).length + 1 + 1 + 1
      have e1 : (92 : UInt8) ≠ e := ne_by (by show 92 ≠ _; omega)
      have e2 : (92 : UInt8) ≠ f := ne_by (by show 92 ≠ _; omega)
      rw [tls_go k _ e1 e2 (by decide) (by decide), wid_two _ h]
      show upN 2 (tlsN f e false (hideL d ++ e :: r)) = _
      rw [ih, up_pos 2 (by omega)]
    | false =>
      have hn := sign_not h
      rw [hide_not h]
      show tlsN f e k (b :: (hideL d ++ e :: r)) = (hideL d).length + 1 + 1
      have e1 : b ≠ e := ne_by (by omega)
      have e2 : b ≠ f := ne_by (by omega)
      by_cases hs : b.toNat = 32 ∨ b.toNat = 9
      · rw [tls_space k _ e1 e2 hs, ih, up_pos 1 (by omega)]
      · rw [tls_go k _ e1 e2 hb hs, wid_one _ hn.1]
        show upN 1 (tlsN f e false (hideL d ++ e :: r)) = _
        rw [ih, up_pos 1 (by omega)]
/-- A text in < and >, and one in a title's signs. -/
def angL (d : List UInt8) : List UInt8 := 60 :: (hideL d ++ [62])
def wrapL (f e : UInt8) (t : List UInt8) : List UInt8 := f :: (hideL t ++ [e])
theorem ang_len (d : List UInt8) : (angL d).length = (hideL d).length + 2 := by simp [angL]
theorem wrap_len (f e : UInt8) (t : List UInt8) : (wrapL f e t).length = (hideL t).length + 2 := by simp [wrapL]
theorem ang_at (d r : List UInt8) : angL d ++ r = 60 :: (hideL d ++ 62 :: r) := by simp [angL]
theorem wrap_at (f e : UInt8) (d r : List UInt8) : wrapL f e d ++ r = f :: (hideL d ++ e :: r) := by simp [wrapL]
theorem dst_ang (d r : List UInt8) (hd : ∀ b ∈ d, b.toNat ≠ 10) : dstB (angL d ++ r) = true ∧ dstN (angL d ++ r) = (angL d).length ∧ dstT (angL d ++ r) = d := by
  have hp : hasPrefix (angL d ++ r) [60] = true := by rw [ang_at, pre1_cons]; rfl
  have hdr : (angL d ++ r).drop 1 = hideL d ++ 62 :: r := by rw [ang_at]; rfl
  unfold dstB dstN dstT
  rw [if_pos hp, if_pos hp, if_pos hp, hdr, enc_hide d r hd, ang_len]
  refine ⟨by simp, by rw [up_pos 1 (by omega)], ?_⟩
  rw [Nat.add_sub_cancel, List.take_left' rfl, plain_hide]
theorem endC_q (l : List UInt8) : endC (34 :: l) = 34 := rfl
theorem endC_p (l : List UInt8) : endC (40 :: l) = 41 := rfl
theorem tit_wrap (f e : UInt8) (hfe : (f = 34 ∧ e = 34) ∨ (f = 40 ∧ e = 41)) (t r : List UInt8) (ht : ∀ b ∈ t, b.toNat ≠ 10) : titN (wrapL f e t ++ r) = (wrapL f e t).length ∧ titT (wrapL f e t ++ r) = t := by
  have hn : titN (wrapL f e t ++ r) = (wrapL f e t).length := by
    rw [wrap_len, wrap_at]
    unfold titN
    rcases hfe with ⟨rfl, rfl⟩ | ⟨rfl, rfl⟩
    · rw [endC_q, if_neg (by decide)]
      show upN 1 (tlsN 34 34 false (hideL t ++ 34 :: r)) = _
      rw [tls_hide (.inl rfl) (.inl rfl) t r false ht, up_pos 1 (by omega)]
    · rw [endC_p, if_neg (by decide)]
      show upN 1 (tlsN 40 41 false (hideL t ++ 41 :: r)) = _
      rw [tls_hide (.inr rfl) (.inr rfl) t r false ht, up_pos 1 (by omega)]
  refine ⟨hn, ?_⟩
  unfold titT
  rw [hn, wrap_len, Nat.add_sub_cancel, wrap_at]
  show plainL ((hideL t ++ e :: r).take _) = t
  rw [List.take_left' rfl, plain_hide]
theorem spc_none (one e : Bool) (b : UInt8) (l : List UInt8) (h : b.toNat ≠ 32 ∧ b.toNat ≠ 9 ∧ b.toNat ≠ 10) : spcN one e (b :: l) = 0 := by
  rw [spcN, if_neg (by omega), if_neg (by omega)]
theorem spc_one (one e : Bool) (l : List UInt8) : spcN one e (32 :: l) = spcN one e l + 1 := by
  rw [spcN, if_pos (.inl rfl)]
/-- A link: a destination in < and >, a blank, a title. -/
theorem inl_both (f e : UInt8) (hfe : (f = 34 ∧ e = 34) ∨ (f = 40 ∧ e = 41)) (d t r : List UInt8) (hd : ∀ b ∈ d, b.toNat ≠ 10) (ht : ∀ b ∈ t, b.toNat ≠ 10) :
    inlN (40 :: (angL d ++ 32 :: (wrapL f e t ++ 41 :: r))) = (angL d).length + (wrapL f e t).length + 3 ∧ inlD (40 :: (angL d ++ 32 :: (wrapL f e t ++ 41 :: r))) = d ∧ inlT (40 :: (angL d ++ 32 :: (wrapL f e t ++ 41 :: r))) = t := by
  obtain ⟨L, hL⟩ : ∃ L, 40 :: (angL d ++ 32 :: (wrapL f e t ++ 41 :: r)) = L := ⟨_, rfl⟩
  have hf : f.toNat ≠ 32 ∧ f.toNat ≠ 9 ∧ f.toNat ≠ 10 := by rcases hfe with ⟨rfl, _⟩ | ⟨rfl, _⟩ <;> decide
  have d1 : L.drop 1 = angL d ++ 32 :: (wrapL f e t ++ 41 :: r) := by rw [← hL]; rfl
  have hA : inlA L = 1 := by
    unfold inlA
    rw [d1, ang_at, spc_none false false 60 _ (by decide)]
  obtain ⟨D1, D2, D3⟩ := dst_ang d (32 :: (wrapL f e t ++ 41 :: r)) hd
  have hM : inlM L = 1 + (angL d).length := by unfold inlM; rw [hA, d1, D2]
  have d2 : L.drop (1 + (angL d).length) = 32 :: (wrapL f e t ++ 41 :: r) := by rw [← List.drop_drop, d1, List.drop_left' rfl]
  have hs : spcN false false (32 :: (wrapL f e t ++ 41 :: r)) = 1 := by rw [spc_one, wrap_at, spc_none _ _ f _ hf]
  obtain ⟨T1, T2⟩ := tit_wrap f e hfe t (41 :: r) ht
  have hSN : sptN (32 :: (wrapL f e t ++ 41 :: r)) = 1 + (wrapL f e t).length := by
    unfold sptN
    rw [hs, if_neg (by decide)]
    show 1 + titN (wrapL f e t ++ 41 :: r) + spcN false false ((32 :: (wrapL f e t ++ 41 :: r)).drop (1 + titN (wrapL f e t ++ 41 :: r))) = _
    rw [T1, ← List.drop_drop]
    show 1 + _ + spcN false false ((wrapL f e t ++ 41 :: r).drop _) = _
    rw [List.drop_left' rfl, spc_none _ _ 41 _ (by decide)]
    rfl
  have hST : sptT (32 :: (wrapL f e t ++ 41 :: r)) = t := by
    unfold sptT
    rw [hs, if_neg (by decide)]
    exact T2
  have hE : inlE L = 1 + (angL d).length + (1 + (wrapL f e t).length) := by unfold inlE; rw [hM, d2, hSN]
  have d3 : L.drop (1 + (angL d).length + (1 + (wrapL f e t).length)) = 41 :: r := by
    rw [← List.drop_drop, d2, ← List.drop_drop]
    show (wrapL f e t ++ 41 :: r).drop _ = _
    rw [List.drop_left' rfl]
  have hB : inlB L = true := by
    unfold inlB
    rw [hA, hE, d1, d3, D1, ← hL, pre1_cons, pre1_cons]
    rfl
  rw [hL]
  unfold inlN inlD inlT
  rw [if_pos hB, if_pos hB, if_pos hB, hA, hM, hE, d1, d2]
  exact ⟨by omega, D3, hST⟩
/-- A link: two blanks, a destination in < and >. -/
theorem inl_alone (d r : List UInt8) (hd : ∀ b ∈ d, b.toNat ≠ 10) :
    inlN (40 :: 32 :: 32 :: (angL d ++ 41 :: r)) = (angL d).length + 4 ∧ inlD (40 :: 32 :: 32 :: (angL d ++ 41 :: r)) = d ∧ inlT (40 :: 32 :: 32 :: (angL d ++ 41 :: r)) = [] := by
  obtain ⟨L, hL⟩ : ∃ L, 40 :: 32 :: 32 :: (angL d ++ 41 :: r) = L := ⟨_, rfl⟩
  have d1 : L.drop 3 = angL d ++ 41 :: r := by rw [← hL]; rfl
  have hA : inlA L = 3 := by
    unfold inlA
    rw [← hL]
    show 1 + spcN false false (32 :: 32 :: (angL d ++ 41 :: r)) = 3
    rw [spc_one, spc_one, ang_at, spc_none false false 60 _ (by decide)]
  obtain ⟨D1, D2, D3⟩ := dst_ang d (41 :: r) hd
  have hM : inlM L = 3 + (angL d).length := by unfold inlM; rw [hA, d1, D2]
  have d2 : L.drop (3 + (angL d).length) = 41 :: r := by rw [← List.drop_drop, d1, List.drop_left' rfl]
  have hs : spcN false false (41 :: r) = 0 := spc_none _ _ 41 _ (by decide)
  have hSN : sptN (41 :: r) = 0 := by unfold sptN; rw [if_pos hs]
  have hST : sptT (41 :: r) = [] := by unfold sptT; rw [if_pos hs]
  have hE : inlE L = 3 + (angL d).length := by unfold inlE; rw [hM, d2, hSN]; rfl
  have hB : inlB L = true := by
    unfold inlB
    rw [hA, hE, d1, d2, D1, ← hL, pre1_cons, pre1_cons]
    rfl
  rw [hL]
  unfold inlN inlD inlT
  rw [if_pos hB, if_pos hB, if_pos hB, hA, hM, hE, d1, d2]
  exact ⟨by omega, D3, hST⟩

/-! ### Letters and digits, ( and ) -/
def ldB (b : UInt8) : Bool := (decide (97 ≤ b.toNat) && decide (b.toNat ≤ 122)) || (decide (48 ≤ b.toNat) && decide (b.toNat ≤ 57))
theorem ld_facts {b : UInt8} (h : ldB b = true) : stdB b = true ∧ b.toNat ≠ 41 ∧ b.toNat ≠ 40 ∧ b.toNat ≠ 92 ∧ b.toNat ≠ 38 ∧ b.toNat ≠ 60 := by
  unfold ldB at h
  unfold stdB
  simp only [Bool.or_eq_true, Bool.and_eq_true, decide_eq_true_eq] at h ⊢
  omega
theorem bar_letters (o : Nat) : ∀ (s r : List UInt8), (∀ b ∈ s, ldB b = true) → barN o (s ++ r) = upN s.length (barN o r)
  | [], r, _ => (up_zero _).symm
  | b :: s, r, hs => by
    have hb := ld_facts (hs b (List.mem_cons_self ..))
    rw [List.cons_append, bar_go o b _ hb.1 hb.2.1 hb.2.2.1, wid_one _ hb.2.2.2.1]
    show upN 1 (barN o (s ++ r)) = _
    rw [bar_letters o s r (fun c hc => hs c (List.mem_cons_of_mem _ hc)), up_up, List.length_cons, Nat.add_comm 1]
theorem bar_opens : ∀ (k o : Nat) (r : List UInt8), o + k ≤ 32 → barN o (List.replicate k 40 ++ r) = upN k (barN (o + k) r)
  | 0, o, r, _ => (up_zero _).symm
  | k + 1, o, r, h => by
    rw [List.replicate_succ, List.cons_append, bar_open o 40 _ (by decide) rfl (by omega), bar_opens k (o + 1) r (by omega), up_up, Nat.add_comm 1 k, show o + 1 + k = o + (k + 1) by omega]
theorem bar_tooMany : ∀ (k o : Nat) (r : List UInt8), o ≤ 32 → 32 < o + k → barN o (List.replicate k 40 ++ r) = 0
  | 0, o, r, h1, h2 => absurd h2 (by omega)
  | k + 1, o, r, h1, h2 => by
    rw [List.replicate_succ, List.cons_append]
    by_cases h : 32 ≤ o
    · exact bar_many o 40 _ (by decide) rfl h
    · rw [bar_open o 40 _ (by decide) rfl (by omega), bar_tooMany k (o + 1) r (by omega) (by omega)]
      rfl
theorem bar_shuts : ∀ (k o : Nat) (r : List UInt8), barN (o + k) (List.replicate k 41 ++ r) = upN k (barN o r)
  | 0, o, r => (up_zero _).symm
  | k + 1, o, r => by
    rw [List.replicate_succ, List.cons_append, show o + (k + 1) = (o + k) + 1 by omega, bar_shut (o + k) 41 _ (by decide) rfl, bar_shuts k o r, up_up, Nat.add_comm 1 k]
theorem plain_same : ∀ l : List UInt8, (∀ b ∈ l, b.toNat ≠ 92 ∧ b.toNat ≠ 38) → plainL l = l
  | [], _ => rfl
  | b :: l, h => by
    have hb := h b (List.mem_cons_self ..)
    rw [plain_own b l (fun e => hb.1 (by rw [e]; rfl)) (fun e => hb.2 (by rw [e]; rfl)), plain_same l (fun c hc => h c (List.mem_cons_of_mem _ hc))]
/-- Letters and digits, so many ( and ). -/
def parL (s : List UInt8) (k : Nat) : List UInt8 := s ++ List.replicate k 40 ++ List.replicate k 41
theorem par_len (s : List UInt8) (k : Nat) : (parL s k).length = s.length + k + k := by simp [parL]; omega
theorem par_own (s : List UInt8) (k : Nat) (hs : ∀ b ∈ s, ldB b = true) : plainL (parL s k) = parL s k := by
  refine plain_same _ fun b hb => ?_
  unfold parL at hb
  simp only [List.mem_append, List.mem_replicate] at hb
  rcases hb with (hb | ⟨_, rfl⟩) | ⟨_, rfl⟩
  · have := ld_facts (hs b hb); exact ⟨this.2.2.2.1, this.2.2.2.2.1⟩
  · decide
  · decide
theorem par_bar (s : List UInt8) (k : Nat) (r : List UInt8) (hs : ∀ b ∈ s, ldB b = true) : barN 0 (parL s k ++ 32 :: r) = if k ≤ 32 then (parL s k).length + 1 else 0 := by
  have e : parL s k ++ 32 :: r = s ++ (List.replicate k 40 ++ (List.replicate k 41 ++ 32 :: r)) := by simp [parL]
  rw [e, bar_letters 0 s _ hs]
  split
  · next h =>
    rw [bar_opens k 0 _ (by omega), bar_shuts k 0, bar_stop 0 32 r (by decide), if_pos rfl, up_up, up_up, par_len, up_pos _ (by decide)]
    omega
  · next h =>
    rw [bar_tooMany k 0 _ (by omega) (by omega)]
    rfl
theorem no_ang (s r : List UInt8) (b : UInt8) (hs : ∀ b ∈ s, ldB b = true) (hb : b.toNat ≠ 60) : hasPrefix (s ++ b :: r) [60] = false := by
  cases s with
  | nil => rw [List.nil_append, pre1_cons]; exact beq_eq_false_iff_ne.2 (fun e => hb (by rw [← e]; rfl))
  | cons c s =>
    have := ld_facts (hs c (List.mem_cons_self ..))
    rw [List.cons_append, pre1_cons]
    exact beq_eq_false_iff_ne.2 (fun e => this.2.2.2.2.2 (by rw [← e]; rfl))
theorem par_ang (s : List UInt8) (k : Nat) (r : List UInt8) (hs : ∀ b ∈ s, ldB b = true) : hasPrefix (parL s k ++ 32 :: r) [60] = false := by
  have e : parL s k ++ 32 :: r = s ++ (List.replicate k 40 ++ (List.replicate k 41 ++ 32 :: r)) := by simp [parL]
  rw [e]
  cases k with
  | zero => exact no_ang s r 32 hs (by decide)
  | succ k => rw [List.replicate_succ, List.cons_append]; exact no_ang s _ 40 hs (by decide)
theorem dst_par (s : List UInt8) (k : Nat) (r : List UInt8) (hs : ∀ b ∈ s, ldB b = true) (hk : k ≤ 32) : dstB (parL s k ++ 32 :: r) = true ∧ dstN (parL s k ++ 32 :: r) = (parL s k).length ∧ dstT (parL s k ++ 32 :: r) = parL s k := by
  have hp : ¬ hasPrefix (parL s k ++ 32 :: r) [60] = true := by rw [par_ang s k r hs]; decide
  unfold dstB dstN dstT
  rw [if_neg hp, if_neg hp, if_neg hp, par_bar s k r hs, if_pos hk]
  refine ⟨by simp, by omega, ?_⟩
  rw [Nat.add_sub_cancel, List.take_left' rfl, par_own s k hs]
theorem dst_tooMany (s : List UInt8) (k : Nat) (r : List UInt8) (hs : ∀ b ∈ s, ldB b = true) (hk : 32 < k) : dstB (parL s k ++ 32 :: r) = false := by
  have hp : ¬ hasPrefix (parL s k ++ 32 :: r) [60] = true := by rw [par_ang s k r hs]; decide
  unfold dstB
  rw [if_neg hp, par_bar s k r hs, if_neg (by omega)]
  rfl
theorem dst_shut (s : List UInt8) (hs : ∀ b ∈ s, ldB b = true) : dstB (s ++ [41]) = true ∧ dstN (s ++ [41]) = s.length ∧ dstT (s ++ [41]) = s := by
  have hp : ¬ hasPrefix (s ++ [41]) [60] = true := by rw [no_ang s [] 41 hs (by decide)]; decide
  have hb : barN 0 (s ++ [41]) = s.length + 1 := by rw [bar_letters 0 s _ hs, bar_shut0 41 [] (by decide) rfl, up_pos _ (by decide)]; omega
  unfold dstB dstN dstT
  rw [if_neg hp, if_neg hp, if_neg hp, hb]
  refine ⟨by simp, by omega, ?_⟩
  rw [Nat.add_sub_cancel, List.take_left' rfl]
  exact plain_same _ fun b hb => by have := ld_facts (hs b hb); exact ⟨this.2.2.2.1, this.2.2.2.2.1⟩
end Go.Proofs.YtonajkcdkihchaaDoor
