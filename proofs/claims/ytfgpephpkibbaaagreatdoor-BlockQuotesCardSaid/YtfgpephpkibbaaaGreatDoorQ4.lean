/-
  Texts of the proof, one behind the other: Trh, Lbt, Rwt.
-/
import Derived.Test.YtfgpephpkibbaaaGreatDoorQ3
import Derived.Test.YtfgpephpkibbaaaGreatDoorQ2
import Derived.Lib.IndexBytes
import Derived.Lib.IndexMore
import Derived.Lib.IndexLaws
/-
  Plain lists of bytes: what is told of hidden texts in < and >, in " or ( and ), and of letters with ( and ). No program in sight.
-/
namespace Go.Proofs.YtfgpephpkibbaaaGreatDoor
open Go Go.Lib

theorem hide_cons (b : UInt8) (l : List UInt8) : hideL (b :: l) = hideB b ++ hideL l := rfl
theorem sign_not {b : UInt8} (h : signB b = false) : b.toNat ≠ 92 ∧ b.toNat ≠ 60 ∧ b.toNat ≠ 62 ∧ b.toNat ≠ 34 ∧ b.toNat ≠ 40 ∧ b.toNat ≠ 41 ∧ b.toNat ≠ 38 := by
  unfold signB at h
  simp only [Bool.or_eq_false_iff, Bool.and_eq_false_iff, decide_eq_false_iff_not] at h
  omega
theorem wid_one {b : UInt8} (l : List UInt8) (h : b.toNat ≠ 92) : widN (b :: l) = 1 := by
  unfold widN
  rw [esc_ne l (fun e => h (by rw [e]; rfl))]
  rfl
theorem wid_two {c : UInt8} (t : List UInt8) (h : signB c = true) : widN (92 :: c :: t) = 2 := by
  unfold widN
  rw [esc_two t h]
  rfl
theorem up_add (a n : Nat) (h : n ≠ 0) : upN a n = n + a := up_pos a h
/-- A hidden text without LFs, and a >. -/
theorem enc_hide : ∀ (d r : List UInt8), (∀ b ∈ d, b.toNat ≠ 10) → encN (hideL d ++ 62 :: r) = (hideL d).length + 1
  | [], r, _ => enc_last r 62 rfl
  | b :: d, r, hd => by
    have ih := enc_hide d r (fun c hc => hd c (List.mem_cons_of_mem _ hc))
    have hb := hd b (List.mem_cons_self ..)
    rw [hide_cons]
    cases h : signB b with
    | true =>
      rw [hide_yes h]
      show encN (92 :: b :: (hideL d ++ 62 :: r)) = (hideL d).length + 1 + 1 + 1
      rw [enc_go _ _ (by decide) (by decide), wid_two _ h]
      show upN 2 (encN (hideL d ++ 62 :: r)) = _
      rw [ih, up_pos 2 (by omega)]
    | false =>
      have hn := sign_not h
      rw [hide_not h]
      show encN (b :: (hideL d ++ 62 :: r)) = (hideL d).length + 1 + 1
      rw [enc_go _ _ (by omega) (by omega), wid_one _ hn.1]
      show upN 1 (encN (hideL d ++ 62 :: r)) = _
      rw [ih, up_pos 1 (by omega)]
theorem ne_by {a b : UInt8} (h : a.toNat ≠ b.toNat) : a ≠ b := fun e => h (by rw [e])
/-- A hidden text without LFs, and a title's last sign. -/
theorem tls_hide {f e : UInt8} (he : e.toNat = 34 ∨ e.toNat = 41) (hf : f.toNat = 34 ∨ f.toNat = 40) : ∀ (d r : List UInt8) (k : Bool), (∀ b ∈ d, b.toNat ≠ 10) → tlsN f e k (hideL d ++ e :: r) = (hideL d).length + 1
  | [], r, k, _ => tls_last k r rfl
  | b :: d, r, k, hd => by
    have ih := fun k => tls_hide he hf d r k (fun c hc => hd c (List.mem_cons_of_mem _ hc))
    have hb := hd b (List.mem_cons_self ..)
    rw [hide_cons]
    cases h : signB b with
    | true =>
      rw [hide_yes h]
      show tlsN f e k (92 :: b :: (hideL d ++ e :: r)) = (hideL d).length + 1 + 1 + 1
      have e1 : (92 : UInt8) ≠ e := ne_by (by show 92 ≠ _; omega)
      have e2 : (92 : UInt8) ≠ f := ne_by (by show 92 ≠ _; omega)
      rw [tls_go k _ e1 e2 (by decide) (by decide), wid_two _ h]
      show upN 2 (tlsN f e false (hideL d ++ e :: r)) = _
      rw [ih, up_pos 2 (by omega)]
    | false =>
      have hn := sign_not h
      rw [hide_not h]
      show tlsN f e k (b :: (hideL d ++ e :: r)) = (hideL d).length + 1 + 1
      have e1 : b ≠ e := ne_by (by omega)
      have e2 : b ≠ f := ne_by (by omega)
      by_cases hs : b.toNat = 32 ∨ b.toNat = 9
      · rw [tls_space k _ e1 e2 hs, ih, up_pos 1 (by omega)]
      · rw [tls_go k _ e1 e2 hb hs, wid_one _ hn.1]
        show upN 1 (tlsN f e false (hideL d ++ e :: r)) = _
        rw [ih, up_pos 1 (by omega)]
/-- A text in < and >, and one in a title's signs. -/
def angL (d : List UInt8) : List UInt8 := 60 :: (hideL d ++ [62])
def wrapL (f e : UInt8) (t : List UInt8) : List UInt8 := f :: (hideL t ++ [e])
theorem ang_len (d : List UInt8) : (angL d).length = (hideL d).length + 2 := by simp [angL]
theorem wrap_len (f e : UInt8) (t : List UInt8) : (wrapL f e t).length = (hideL t).length + 2 := by simp [wrapL]
theorem ang_at (d r : List UInt8) : angL d ++ r = 60 :: (hideL d ++ 62 :: r) := by simp [angL]
theorem wrap_at (f e : UInt8) (d r : List UInt8) : wrapL f e d ++ r = f :: (hideL d ++ e :: r) := by simp [wrapL]
theorem dst_ang (d r : List UInt8) (hd : ∀ b ∈ d, b.toNat ≠ 10) : dstB (angL d ++ r) = true ∧ dstN (angL d ++ r) = (angL d).length ∧ dstT (angL d ++ r) = d := by
  have hp : hasPrefix (angL d ++ r) [60] = true := by rw [ang_at, pre1_cons]; rfl
  have hdr : (angL d ++ r).drop 1 = hideL d ++ 62 :: r := by rw [ang_at]; rfl
  unfold dstB dstN dstT
  rw [if_pos hp, if_pos hp, if_pos hp, hdr, enc_hide d r hd, ang_len]
  refine ⟨by simp, by rw [up_pos 1 (by omega)], ?_⟩
  rw [Nat.add_sub_cancel, List.take_left' rfl, plain_hide]
theorem endC_q (l : List UInt8) : endC (34 :: l) = 34 := rfl
theorem endC_p (l : List UInt8) : endC (40 :: l) = 41 := rfl
theorem tit_wrap (f e : UInt8) (hfe : (f = 34 ∧ e = 34) ∨ (f = 40 ∧ e = 41)) (t r : List UInt8) (ht : ∀ b ∈ t, b.toNat ≠ 10) : titN (wrapL f e t ++ r) = (wrapL f e t).length ∧ titT (wrapL f e t ++ r) = t := by
  have hn : titN (wrapL f e t ++ r) = (wrapL f e t).length := by
    rw [wrap_len, wrap_at]
    unfold titN
    rcases hfe with ⟨rfl, rfl⟩ | ⟨rfl, rfl⟩
    · rw [endC_q, if_neg (by decide)]
      show upN 1 (tlsN 34 34 false (hideL t ++ 34 :: r)) = _
      rw [tls_hide (.inl rfl) (.inl rfl) t r false ht, up_pos 1 (by omega)]
    · rw [endC_p, if_neg (by decide)]
      show upN 1 (tlsN 40 41 false (hideL t ++ 41 :: r)) = _
      rw [tls_hide (.inr rfl) (.inr rfl) t r false ht, up_pos 1 (by omega)]
  refine ⟨hn, ?_⟩
  unfold titT
  rw [hn, wrap_len, Nat.add_sub_cancel, wrap_at]
  show plainL ((hideL t ++ e :: r).take _) = t
  rw [List.take_left' rfl, plain_hide]
theorem spc_none (one e : Bool) (b : UInt8) (l : List UInt8) (h : b.toNat ≠ 32 ∧ b.toNat ≠ 9 ∧ b.toNat ≠ 10) : spcN one e (b :: l) = 0 := by
  rw [spcN, if_neg (by omega), if_neg (by omega)]
theorem spc_one (one e : Bool) (l : List UInt8) : spcN one e (32 :: l) = spcN one e l + 1 := by
  rw [spcN, if_pos (.inl rfl)]
/-- A link: a destination in < and >, a blank, a title. -/
theorem inl_both (f e : UInt8) (hfe : (f = 34 ∧ e = 34) ∨ (f = 40 ∧ e = 41)) (d t r : List UInt8) (hd : ∀ b ∈ d, b.toNat ≠ 10) (ht : ∀ b ∈ t, b.toNat ≠ 10) :
    inlN (40 :: (angL d ++ 32 :: (wrapL f e t ++ 41 :: r))) = (angL d).length + (wrapL f e t).length + 3 ∧ inlD (40 :: (angL d ++ 32 :: (wrapL f e t ++ 41 :: r))) = d ∧ inlT (40 :: (angL d ++ 32 :: (wrapL f e t ++ 41 :: r))) = t := by
  obtain ⟨L, hL⟩ : ∃ L, 40 :: (angL d ++ 32 :: (wrapL f e t ++ 41 :: r)) = L := ⟨_, rfl⟩
  have hf : f.toNat ≠ 32 ∧ f.toNat ≠ 9 ∧ f.toNat ≠ 10 := by rcases hfe with ⟨rfl, _⟩ | ⟨rfl, _⟩ <;> decide
  have d1 : L.drop 1 = angL d ++ 32 :: (wrapL f e t ++ 41 :: r) := by rw [← hL]; rfl
  have hA : inlA L = 1 := by
    unfold inlA
    rw [d1, ang_at, spc_none false false 60 _ (by decide)]
  obtain ⟨D1, D2, D3⟩ := dst_ang d (32 :: (wrapL f e t ++ 41 :: r)) hd
  have hM : inlM L = 1 + (angL d).length := by unfold inlM; rw [hA, d1, D2]
  have d2 : L.drop (1 + (angL d).length) = 32 :: (wrapL f e t ++ 41 :: r) := by rw [← List.drop_drop, d1, List.drop_left' rfl]
  have hs : spcN false false (32 :: (wrapL f e t ++ 41 :: r)) = 1 := by rw [spc_one, wrap_at, spc_none _ _ f _ hf]
  obtain ⟨T1, T2⟩ := tit_wrap f e hfe t (41 :: r) ht
  have hSN : sptN (32 :: (wrapL f e t ++ 41 :: r)) = 1 + (wrapL f e t).length := by
    unfold sptN
    rw [hs, if_neg (by decide)]
    show 1 + titN (wrapL f e t ++ 41 :: r) + spcN false false ((32 :: (wrapL f e t ++ 41 :: r)).drop (1 + titN (wrapL f e t ++ 41 :: r))) = _
    rw [T1, ← List.drop_drop]
    show 1 + _ + spcN false false ((wrapL f e t ++ 41 :: r).drop _) = _
    rw [List.drop_left' rfl, spc_none _ _ 41 _ (by decide)]
    rfl
  have hST : sptT (32 :: (wrapL f e t ++ 41 :: r)) = t := by
    unfold sptT
    rw [hs, if_neg (by decide)]
    exact T2
  have hE : inlE L = 1 + (angL d).length + (1 + (wrapL f e t).length) := by unfold inlE; rw [hM, d2, hSN]
  have d3 : L.drop (1 + (angL d).length + (1 + (wrapL f e t).length)) = 41 :: r := by
    rw [← List.drop_drop, d2, ← List.drop_drop]
    show (wrapL f e t ++ 41 :: r).drop _ = _
    rw [List.drop_left' rfl]
  have hB : inlB L = true := by
    unfold inlB
    rw [hA, hE, d1, d3, D1, ← hL, pre1_cons, pre1_cons]
    rfl
  rw [hL]
  unfold inlN inlD inlT
  rw [if_pos hB, if_pos hB, if_pos hB, hA, hM, hE, d1, d2]
  exact ⟨by omega, D3, hST⟩
/-- A link: two blanks, a destination in < and >. -/
theorem inl_alone (d r : List UInt8) (hd : ∀ b ∈ d, b.toNat ≠ 10) :
    inlN (40 :: 32 :: 32 :: (angL d ++ 41 :: r)) = (angL d).length + 4 ∧ inlD (40 :: 32 :: 32 :: (angL d ++ 41 :: r)) = d ∧ inlT (40 :: 32 :: 32 :: (angL d ++ 41 :: r)) = [] := by
  obtain ⟨L, hL⟩ : ∃ L, 40 :: 32 :: 32 :: (angL d ++ 41 :: r) = L := ⟨_, rfl⟩
  have d1 : L.drop 3 = angL d ++ 41 :: r := by rw [← hL]; rfl
  have hA : inlA L = 3 := by
    unfold inlA
    rw [← hL]
    show 1 + spcN false false (32 :: 32 :: (angL d ++ 41 :: r)) = 3
    rw [spc_one, spc_one, ang_at, spc_none false false 60 _ (by decide)]
  obtain ⟨D1, D2, D3⟩ := dst_ang d (41 :: r) hd
  have hM : inlM L = 3 + (angL d).length := by unfold inlM; rw [hA, d1, D2]
  have d2 : L.drop (3 + (angL d).length) = 41 :: r := by rw [← List.drop_drop, d1, List.drop_left' rfl]
  have hs : spcN false false (41 :: r) = 0 := spc_none _ _ 41 _ (by decide)
  have hSN : sptN (41 :: r) = 0 := by unfold sptN; rw [if_pos hs]
  have hST : sptT (41 :: r) = [] := by unfold sptT; rw [if_pos hs]
  have hE : inlE L = 3 + (angL d).length := by unfold inlE; rw [hM, d2, hSN]; rfl
  have hB : inlB L = true := by
    unfold inlB
    rw [hA, hE, d1, d2, D1, ← hL, pre1_cons, pre1_cons]
    rfl
  rw [hL]
  unfold inlN inlD inlT
  rw [if_pos hB, if_pos hB, if_pos hB, hA, hM, hE, d1, d2]
  exact ⟨by omega, D3, hST⟩

/-! ### Letters and digits, ( and ) -/
def ldB (b : UInt8) : Bool := (decide (97 ≤ b.toNat) && decide (b.toNat ≤ 122)) || (decide (48 ≤ b.toNat) && decide (b.toNat ≤ 57))
theorem ld_facts {b : UInt8} (h : ldB b = true) : stdB b = true ∧ b.toNat ≠ 41 ∧ b.toNat ≠ 40 ∧ b.toNat ≠ 92 ∧ b.toNat ≠ 38 ∧ b.toNat ≠ 60 := by
  unfold ldB at h
  unfold stdB
  simp only [Bool.or_eq_true, Bool.and_eq_true, decide_eq_true_eq] at h ⊢
  omega
theorem bar_letters (o : Nat) : ∀ (s r : List UInt8), (∀ b ∈ s, ldB b = true) → barN o (s ++ r) = upN s.length (barN o r)
  | [], r, _ => (up_zero _).symm
  | b :: s, r, hs => by
    have hb := ld_facts (hs b (List.mem_cons_self ..))
    rw [List.cons_append, bar_go o b _ hb.1 hb.2.1 hb.2.2.1, wid_one _ hb.2.2.2.1]
    show upN 1 (barN o (s ++ r)) = _
    rw [bar_letters o s r (fun c hc => hs c (List.mem_cons_of_mem _ hc)), up_up, List.length_cons, Nat.add_comm 1]
theorem bar_opens : ∀ (k o : Nat) (r : List UInt8), o + k ≤ 32 → barN o (List.replicate k 40 ++ r) = upN k (barN (o + k) r)
  | 0, o, r, _ => (up_zero _).symm
  | k + 1, o, r, h => by
    rw [List.replicate_succ, List.cons_append, bar_open o 40 _ (by decide) rfl (by omega), bar_opens k (o + 1) r (by omega), up_up, Nat.add_comm 1 k, show o + 1 + k = o + (k + 1) by omega]
theorem bar_tooMany : ∀ (k o : Nat) (r : List UInt8), o ≤ 32 → 32 < o + k → barN o (List.replicate k 40 ++ r) = 0
  | 0, o, r, h1, h2 => absurd h2 (by omega)
  | k + 1, o, r, h1, h2 => by
    rw [List.replicate_succ, List.cons_append]
    by_cases h : 32 ≤ o
    · exact bar_many o 40 _ (by decide) rfl h
    · rw [bar_open o 40 _ (by decide) rfl (by omega), bar_tooMany k (o + 1) r (by omega) (by omega)]
      rfl
theorem bar_shuts : ∀ (k o : Nat) (r : List UInt8), barN (o + k) (List.replicate k 41 ++ r) = upN k (barN o r)
  | 0, o, r => (up_zero _).symm
  | k + 1, o, r => by
    rw [List.replicate_succ, List.cons_append, show o + (k + 1) = (o + k) + 1 by omega, bar_shut (o + k) 41 _ (by decide) rfl, bar_shuts k o r, up_up, Nat.add_comm 1 k]
theorem plain_same : ∀ l : List UInt8, (∀ b ∈ l, b.toNat ≠ 92 ∧ b.toNat ≠ 38) → plainL l = l
  | [], _ => rfl
  | b :: l, h => by
    have hb := h b (List.mem_cons_self ..)
    rw [plain_own b l (fun e => hb.1 (by rw [e]; rfl)) (fun e => hb.2 (by rw [e]; rfl)), plain_same l (fun c hc => h c (List.mem_cons_of_mem _ hc))]
/-- Letters and digits, so many ( and ). -/
def parL (s : List UInt8) (k : Nat) : List UInt8 := s ++ List.replicate k 40 ++ List.replicate k 41
theorem par_len (s : List UInt8) (k : Nat) : (parL s k).length = s.length + k + k := by simp [parL]; omega
theorem par_own (s : List UInt8) (k : Nat) (hs : ∀ b ∈ s, ldB b = true) : plainL (parL s k) = parL s k := by
  refine plain_same _ fun b hb => ?_
  unfold parL at hb
  simp only [List.mem_append, List.mem_replicate] at hb
  rcases hb with (hb | ⟨_, rfl⟩) | ⟨_, rfl⟩
  · have := ld_facts (hs b hb); exact ⟨this.2.2.2.1, this.2.2.2.2.1⟩
  · decide
  · decide
theorem par_bar (s : List UInt8) (k : Nat) (r : List UInt8) (hs : ∀ b ∈ s, ldB b = true) : barN 0 (parL s k ++ 32 :: r) = if k ≤ 32 then (parL s k).length + 1 else 0 := by
  have e : parL s k ++ 32 :: r = s ++ (List.replicate k 40 ++ (List.replicate k 41 ++ 32 :: r)) := by simp [parL]
  rw [e, bar_letters 0 s _ hs]
  split
  · next h =>
    rw [bar_opens k 0 _ (by omega), bar_shuts k 0, bar_stop 0 32 r (by decide), if_pos rfl, up_up, up_up, par_len, up_pos _ (by decide)]
    omega
  · next h =>
    rw [bar_tooMany k 0 _ (by omega) (by omega)]
    rfl
theorem no_ang (s r : List UInt8) (b : UInt8) (hs : ∀ b ∈ s, ldB b = true) (hb : b.toNat ≠ 60) : hasPrefix (s ++ b :: r) [60] = false := by
  cases s with
  | nil => rw [List.nil_append, pre1_cons]; exact beq_eq_false_iff_ne.2 (fun e => hb (by rw [← e]; rfl))
  | cons c s =>
    have := ld_facts (hs c (List.mem_cons_self ..))
    rw [List.cons_append, pre1_cons]
    exact beq_eq_false_iff_ne.2 (fun e => this.2.2.2.2.2 (by rw [← e]; rfl))
theorem par_ang (s : List UInt8) (k : Nat) (r : List UInt8) (hs : ∀ b ∈ s, ldB b = true) : hasPrefix (parL s k ++ 32 :: r) [60] = false := by
  have e : parL s k ++ 32 :: r = s ++ (List.replicate k 40 ++ (List.replicate k 41 ++ 32 :: r)) := by simp [parL]
  rw [e]
  cases k with
  | zero => exact no_ang s r 32 hs (by decide)
  | succ k => rw [List.replicate_succ, List.cons_append]; exact no_ang s _ 40 hs (by decide)
theorem dst_par (s : List UInt8) (k : Nat) (r : List UInt8) (hs : ∀ b ∈ s, ldB b = true) (hk : k ≤ 32) : dstB (parL s k ++ 32 :: r) = true ∧ dstN (parL s k ++ 32 :: r) = (parL s k).length ∧ dstT (parL s k ++ 32 :: r) = parL s k := by
  have hp : ¬ hasPrefix (parL s k ++ 32 :: r) [60] = true := by rw [par_ang s k r hs]; decide
  unfold dstB dstN dstT
  rw [if_neg hp, if_neg hp, if_neg hp, par_bar s k r hs, if_pos hk]
  refine ⟨by simp, by omega, ?_⟩
  rw [Nat.add_sub_cancel, List.take_left' rfl, par_own s k hs]
theorem dst_tooMany (s : List UInt8) (k : Nat) (r : List UInt8) (hs : ∀ b ∈ s, ldB b = true) (hk : 32 < k) : dstB (parL s k ++ 32 :: r) = false := by
  have hp : ¬ hasPrefix (parL s k ++ 32 :: r) [60] = true := by rw [par_ang s k r hs]; decide
  unfold dstB
  rw [if_neg hp, par_bar s k r hs, if_neg (by omega)]
  rfl
theorem dst_shut (s : List UInt8) (hs : ∀ b ∈ s, ldB b = true) : dstB (s ++ [41]) = true ∧ dstN (s ++ [41]) = s.length ∧ dstT (s ++ [41]) = s := by
  have hp : ¬ hasPrefix (s ++ [41]) [60] = true := by rw [no_ang s [] 41 hs (by decide)]; decide
  have hb : barN 0 (s ++ [41]) = s.length + 1 := by rw [bar_letters 0 s _ hs, bar_shut0 41 [] (by decide) rfl, up_pos _ (by decide)]; omega
  unfold dstB dstN dstT
  rw [if_neg hp, if_neg hp, if_neg hp, hb]
  refine ⟨by simp, by omega, ?_⟩
  rw [Nat.add_sub_cancel, List.take_left' rfl]
  exact plain_same _ fun b hb => by have := ld_facts (hs b hb); exact ⟨this.2.2.2.1, this.2.2.2.2.1⟩
end Go.Proofs.YtfgpephpkibbaaaGreatDoor

/-
  Plain lists of bytes: labels, a label as it is looked for, lines, definitions. No program in sight.
-/
namespace Go.Proofs.YtfgpephpkibbaaaGreatDoor
open Go Go.Lib

/-! ### A label -/
/-- How many bytes there are up to the ], with it; 0: none. k: how many stand ahead; h: whether the next sign is hidden. -/
def labS : Nat → Bool → List UInt8 → Nat
  | _, _, [] => 0
  | k, h, b :: l => if 999 < k then 0 else if h then labS (k + 1) false l else if b.toNat = 92 then labS (k + 1) true l else if b.toNat = 91 then 0 else if b.toNat = 93 then k + 1 else labS (k + 1) false l
theorem labS_far (k : Nat) (h : Bool) (l : List UInt8) (hk : 999 < k) : labS k h l = 0 := by
  cases l with
  | nil => rfl
  | cons b l => rw [labS, if_pos hk]
theorem labS_hid {k : Nat} (b : UInt8) (l : List UInt8) (hk : ¬ 999 < k) : labS k true (b :: l) = labS (k + 1) false l := by rw [labS, if_neg hk, if_pos rfl]
theorem labS_back {k : Nat} (b : UInt8) (l : List UInt8) (hk : ¬ 999 < k) (hb : b.toNat = 92) : labS k false (b :: l) = labS (k + 1) true l := by rw [labS, if_neg hk, if_neg (by decide), if_pos hb]
theorem labS_open {k : Nat} (b : UInt8) (l : List UInt8) (hk : ¬ 999 < k) (hb : b.toNat = 91) : labS k false (b :: l) = 0 := by rw [labS, if_neg hk, if_neg (by decide), if_neg (by omega), if_pos hb]
theorem labS_shut {k : Nat} (b : UInt8) (l : List UInt8) (hk : ¬ 999 < k) (hb : b.toNat = 93) : labS k false (b :: l) = k + 1 := by rw [labS, if_neg hk, if_neg (by decide), if_neg (by omega), if_neg (by omega), if_pos hb]
theorem labS_go {k : Nat} (b : UInt8) (l : List UInt8) (hk : ¬ 999 < k) (h1 : b.toNat ≠ 92) (h2 : b.toNat ≠ 91) (h3 : b.toNat ≠ 93) : labS k false (b :: l) = labS (k + 1) false l := by rw [labS, if_neg hk, if_neg (by decide), if_neg h1, if_neg h2, if_neg h3]
/-- Bytes of a rune that isn't ASCII. -/
theorem labS_big : ∀ (c : List UInt8) (k : Nat) (h : Bool) (l : List UInt8), c ≠ [] → ¬ 999 < k → (∀ b ∈ c, 128 ≤ b.toNat) → labS k h (c ++ l) = labS (k + c.length) false l
  | [], _, _, _, hc, _, _ => absurd rfl hc
  | b :: c, k, h, l, _, hk, hb => by
    have h1 := hb b (List.mem_cons_self ..)
    have e : labS k h (b :: (c ++ l)) = labS (k + 1) false (c ++ l) := by
      cases h with
      | true => exact labS_hid b _ hk
      | false => exact labS_go b _ hk (by omega) (by omega) (by omega)
    rw [List.cons_append, e]
    by_cases hc : c = []
    · subst hc; rfl
    · by_cases hf : 999 < k + 1
      · rw [labS_far _ _ _ hf, labS_far _ _ _ (by rw [List.length_cons]; omega)]
      · rw [labS_big c (k + 1) false l hc hf (fun x hx => hb x (List.mem_cons_of_mem _ hx)), List.length_cons, show k + 1 + c.length = k + (c.length + 1) by omega]
theorem labS_le : ∀ (l : List UInt8) (k : Nat) (h : Bool), labS k h l ≤ k + l.length
  | [], _, _ => Nat.zero_le _
  | b :: l, k, h => by
    have h1 := labS_le l (k + 1) false
    have h2 := labS_le l (k + 1) true
    rw [labS, List.length_cons]
    split
    · omega
    · split
      · omega
      · split
        · omega
        · split
          · omega
          · split <;> omega
/-- What stands in the [ and ] ahead; nothing, if there is no label. -/
def lblI (l : List UInt8) : List UInt8 := if hasPrefix l [91] then (l.drop 1).take (labS 0 false (l.drop 1) - 1) else []
def lblT (l : List UInt8) : List UInt8 := if trimL (lblI l) = [] then [] else lblI l
def lblN (l : List UInt8) : Nat := if trimL (lblI l) = [] then 0 else (lblI l).length + 2
theorem lblI_le (l : List UInt8) : lblI l = [] ∨ (lblI l).length + 2 ≤ l.length := by
  unfold lblI
  split
  · by_cases h0 : labS 0 false (l.drop 1) = 0
    · rw [h0]; exact .inl rfl
    · have h := labS_le (l.drop 1) 0 false
      refine .inr ?_
      rw [List.length_take]
      rw [List.length_drop] at *
      omega
  · exact .inl rfl
theorem trim_nil : trimL [] = [] := rfl
theorem lbl_le (l : List UInt8) : (lblT l).length ≤ l.length ∧ lblN l ≤ l.length := by
  unfold lblT lblN
  rcases lblI_le l with e | h
  · rw [e, trim_nil, if_pos rfl, if_pos rfl]; exact ⟨Nat.zero_le _, Nat.zero_le _⟩
  · split
    · exact ⟨Nat.zero_le _, Nat.zero_le _⟩
    · omega

/-! ### As it is looked for -/
def smR (r : Int) : Int := if (65 ≤ r ∧ r ≤ 90) ∨ (192 ≤ r ∧ r ≤ 222 ∧ r ≠ 215) then r + 32 else r
def wsR (r : Int) : Bool := decide (r = 32) || decide (r = 9) || decide (r = 10)
def gapL (g : Bool) : List UInt8 := if g then [32] else []
def nrmGo : Nat → Bool → List UInt8 → List UInt8
  | 0, _, _ => []
  | n + 1, g, l => if l = [] then [] else if wsR (decodeL l).1 then nrmGo n true (l.drop (decodeL l).2) else gapL g ++ encodeRune (smR (decodeL l).1) ++ nrmGo n false (l.drop (decodeL l).2)
def nrmF (g : Bool) (l : List UInt8) : List UInt8 := nrmGo l.length g l
def nrmL (l : List UInt8) : List UInt8 := nrmF false (trimL l)
theorem nrmGo_nil : ∀ n g, nrmGo n g [] = []
  | 0, _ => rfl
  | _ + 1, _ => by simp [nrmGo]
theorem nrmGo_fuel : ∀ (n m : Nat) (g : Bool) (l : List UInt8), l.length ≤ n → l.length ≤ m → nrmGo n g l = nrmGo m g l
  | 0, m, g, l, hn, _ => by
    have : l = [] := List.eq_nil_of_length_eq_zero (by omega)
    subst this
    rw [nrmGo_nil, nrmGo_nil]
  | n + 1, 0, g, l, _, hm => by
    have : l = [] := List.eq_nil_of_length_eq_zero (by omega)
    subst this
    rw [nrmGo_nil, nrmGo_nil]
  | n + 1, m + 1, g, l, hn, hm => by
    by_cases hne : l = []
    · subst hne
      rw [nrmGo_nil, nrmGo_nil]
    · have hw := decodeL_width l
      have hl : 0 < l.length := List.length_pos_iff.2 hne
      simp only [nrmGo, if_neg hne]
      rw [nrmGo_fuel n m true _ (by rw [List.length_drop]; omega) (by rw [List.length_drop]; omega), nrmGo_fuel n m false _ (by rw [List.length_drop]; omega) (by rw [List.length_drop]; omega)]
theorem nrmF_nil (g : Bool) : nrmF g [] = [] := rfl
theorem nrmF_step (g : Bool) (l : List UInt8) (hne : l ≠ []) : nrmF g l = if wsR (decodeL l).1 then nrmF true (l.drop (decodeL l).2) else gapL g ++ encodeRune (smR (decodeL l).1) ++ nrmF false (l.drop (decodeL l).2) := by
  have hw := decodeL_width l
  have hl : 0 < l.length := List.length_pos_iff.2 hne
  unfold nrmF
  obtain ⟨n, hn⟩ : ∃ n, l.length = n + 1 := ⟨l.length - 1, by omega⟩
  rw [hn]
  simp only [nrmGo, if_neg hne]
  rw [nrmGo_fuel n _ true _ (by rw [List.length_drop]; omega) (Nat.le_refl _), nrmGo_fuel n _ false _ (by rw [List.length_drop]; omega) (Nat.le_refl _)]
theorem gap_len (g : Bool) : (gapL g).length ≤ 1 := by cases g <;> decide
theorem nrmGo_len : ∀ (n : Nat) (g : Bool) (l : List UInt8), (nrmGo n g l).length ≤ 5 * n
  | 0, _, _ => by simp [nrmGo]
  | n + 1, g, l => by
    have h1 := nrmGo_len n true (l.drop (decodeL l).2)
    have h2 := nrmGo_len n false (l.drop (decodeL l).2)
    have h3 := gap_len g
    have h4 := enc_len (smR (decodeL l).1)
    unfold nrmGo
    split
    · simp
    · split
      · omega
      · rw [List.length_append, List.length_append]; omega
theorem nrm_len (l : List UInt8) : (nrmL l).length ≤ 5 * l.length := by
  have h1 := nrmGo_len (trimL l).length false (trimL l)
  have h2 := trim_len l
  unfold nrmL nrmF
  omega

/-! ### .. of ASCII -/
def lowB (b : UInt8) : UInt8 := if 65 ≤ b.toNat ∧ b.toNat ≤ 90 then b + 32 else b
theorem low_toNat (b : UInt8) : (lowB b).toNat = if 65 ≤ b.toNat ∧ b.toNat ≤ 90 then b.toNat + 32 else b.toNat := by
  unfold lowB
  split
  · rw [UInt8.toNat_add]; show (b.toNat + 32) % 256 = _; omega
  · rfl
theorem low_low (b : UInt8) : lowB (lowB b) = lowB b := by
  refine UInt8.toNat_inj.1 ?_
  rw [low_toNat (lowB b), low_toNat b]
  by_cases c : 65 ≤ b.toNat ∧ b.toNat ≤ 90
  · rw [if_pos c, if_neg (by omega)]
  · rw [if_neg c, if_neg c]
theorem ws_iff (b : UInt8) : ws b = true ↔ (b.toNat = 32 ∨ b.toNat = 9 ∨ b.toNat = 10) := by
  unfold ws isB
  simp only [Bool.or_eq_true, decide_eq_true_eq, or_assoc]
theorem wsN_iff (b : UInt8) : ws b = false ↔ ¬ (b.toNat = 32 ∨ b.toNat = 9 ∨ b.toNat = 10) := by
  rw [← ws_iff, Bool.not_eq_true]
theorem low_ws (b : UInt8) : ws (lowB b) = ws b := by
  rw [Bool.eq_iff_iff, ws_iff, ws_iff, low_toNat]
  split <;> omega
def nA : Bool → List UInt8 → List UInt8
  | _, [] => []
  | g, b :: l => if ws b then nA true l else gapL g ++ lowB b :: nA false l
theorem nA_ws {b : UInt8} (g : Bool) (l : List UInt8) (h : ws b = true) : nA g (b :: l) = nA true l := by rw [nA, if_pos h]
theorem nA_no {b : UInt8} (g : Bool) (l : List UInt8) (h : ws b = false) : nA g (b :: l) = gapL g ++ lowB b :: nA false l := by rw [nA, if_neg (by rw [h]; decide)]
theorem nA_len : ∀ (l : List UInt8) (g : Bool), (nA g l).length ≤ l.length + (gapL g).length
  | [], g => by simp [nA]
  | b :: l, g => by
    cases h : ws b with
    | true =>
      have := nA_len l true
      rw [nA_ws g l h, List.length_cons]
      have e : (gapL true).length = 1 := rfl
      omega
    | false =>
      have := nA_len l false
      rw [nA_no g l h, List.length_append, List.length_cons, List.length_cons]
      have e : (gapL false).length = 0 := rfl
      omega
theorem nA_big : ∀ (l : List UInt8) (g : Bool), (∀ b ∈ l, b.toNat < 128) → ∀ b ∈ nA g l, b.toNat < 128
  | [], g, _, b, hb => by cases hb
  | c :: l, g, h, b, hb => by
    have ht := fun x hx => h x (List.mem_cons_of_mem _ hx)
    have hc := h c (List.mem_cons_self ..)
    cases hw : ws c with
    | true => rw [nA_ws g l hw] at hb; exact nA_big l true ht b hb
    | false =>
      rw [nA_no g l hw] at hb
      rcases List.mem_append.1 hb with hb | hb
      · cases g with
        | true => rw [List.mem_singleton.1 hb]; decide
        | false => cases hb
      · rcases List.mem_cons.1 hb with rfl | hb
        · rw [low_toNat]; split <;> omega
        · exact nA_big l false ht b hb
theorem nA_nA : ∀ (l : List UInt8) (g : Bool), nA false (nA g l) = nA g l
  | [], g => rfl
  | b :: l, g => by
    cases h : ws b with
    | true => rw [nA_ws g l h, nA_nA l true]
    | false =>
      rw [nA_no g l h]
      have h2 : ws (lowB b) = false := by rw [low_ws]; exact h
      cases g with
      | true =>
        show nA false (32 :: lowB b :: nA false l) = 32 :: lowB b :: nA false l
        rw [nA_ws false _ (by decide), nA_no true _ h2, low_low, nA_nA l false]; rfl
      | false =>
        show nA false (lowB b :: nA false l) = lowB b :: nA false l
        rw [nA_no false _ h2, low_low, nA_nA l false]; rfl
theorem nA_last : ∀ (l : List UInt8) (g : Bool), nA g l = [] ∨ ∃ t z, nA g l = t ++ [z] ∧ ws z = false
  | [], _ => .inl rfl
  | b :: l, g => by
    cases h : ws b with
    | true => rw [nA_ws g l h]; exact nA_last l true
    | false =>
      have h2 : ws (lowB b) = false := by rw [low_ws]; exact h
      rw [nA_no g l h]
      rcases nA_last l false with e | ⟨t, z, e, hz⟩
      · rw [e]; exact .inr ⟨gapL g, lowB b, rfl, h2⟩
      · rw [e]; exact .inr ⟨gapL g ++ lowB b :: t, z, by simp, hz⟩
theorem nA_core {m : List UInt8} (h : Core m) : Core (nA false m) := by
  rcases h with rfl | ⟨⟨a, t, rfl, wa⟩, _⟩
  · exact .inl rfl
  · rcases nA_last (a :: t) false with e | h2
    · exact .inl e
    · refine .inr ⟨⟨lowB a, nA false t, nA_no false t wa, by rw [low_ws]; exact wa⟩, h2⟩
theorem trim_of_core {m : List UInt8} (h : Core m) : trimL m = m := by
  have := trim_of (a := []) (b := []) (fun _ h => by cases h) (fun _ h => by cases h) h
  simpa using this
theorem enc_ascii {b : UInt8} (h : b.toNat < 128) : encodeRune (b.toNat : Int) = [b] := by
  unfold encodeRune
  rw [encodeRuneZ_one (by omega) (by omega)]
  simp
theorem sm_ascii {b : UInt8} (h : b.toNat < 128) : smR (b.toNat : Int) = ((lowB b).toNat : Int) := by
  unfold smR
  rw [low_toNat]
  split <;> split <;> omega
theorem wsR_ascii (b : UInt8) : wsR (b.toNat : Int) = ws b := by
  rw [Bool.eq_iff_iff, ws_iff]
  unfold wsR
  simp only [Bool.or_eq_true, decide_eq_true_eq]
  omega
theorem nrm_ascii : ∀ (l : List UInt8) (g : Bool), (∀ b ∈ l, b.toNat < 128) → nrmF g l = nA g l
  | [], _, _ => rfl
  | b :: l, g, h => by
    have hb := h b (List.mem_cons_self ..)
    have ht := fun x hx => h x (List.mem_cons_of_mem _ hx)
    have hd : decodeL (b :: l) = (b.toNat, 1) := by
      rcases chunk _ b l rfl with ⟨_, e⟩ | ⟨h1, _⟩
      · exact e
      · omega
    rw [nrmF_step g _ (by simp), hd]
    dsimp only
    rw [wsR_ascii, List.drop_one, List.tail_cons, nrm_ascii l true ht, nrm_ascii l false ht, sm_ascii hb, enc_ascii (by rw [low_toNat]; split <;> omega)]
    rw [nA]
    split
    · rfl
    · simp
theorem trim_mem {l : List UInt8} {b : UInt8} (h : b ∈ trimL l) : b ∈ l := by
  obtain ⟨a, m, c, e, h1, h2, h3⟩ := split_trim l
  rw [e, trim_of h1 h2 h3] at h
  rw [e]
  exact List.mem_append_left _ (List.mem_append_right _ h)
theorem nrmL_ascii {l : List UInt8} (h : ∀ b ∈ l, b.toNat < 128) : nrmL l = nA false (trimL l) := nrm_ascii _ false fun b hb => h b (trim_mem hb)
theorem nrmL_big {l : List UInt8} (h : ∀ b ∈ l, b.toNat < 128) : ∀ b ∈ nrmL l, b.toNat < 128 := by
  rw [nrmL_ascii h]; exact nA_big _ _ fun b hb => h b (trim_mem hb)
theorem nrm_size {l : List UInt8} (h : ∀ b ∈ l, b.toNat < 128) : (nrmL l).length ≤ l.length := by
  rw [nrmL_ascii h]
  have h1 := nA_len (trimL l) false
  have h2 := trim_len l
  have e : (gapL false).length = 0 := rfl
  omega
/-- AS IT IS LOOKED FOR, AGAIN. -/
theorem nrm_nrm {l : List UInt8} (h : ∀ b ∈ l, b.toNat < 128) : nrmL (nrmL l) = nrmL l := by
  rw [nrmL_ascii (nrmL_big h), nrmL_ascii h, trim_of_core (nA_core (trim_core l)), nA_nA]
/-- BLANKS ABOUT IT. -/
theorem nrm_about {l a b : List UInt8} (ha : ∀ x ∈ a, ws x = true) (hb : ∀ x ∈ b, ws x = true) : nrmL (a ++ l ++ b) = nrmL l := by
  unfold nrmL
  rw [trim_more l a b ha hb]
/-- GREAT LETTERS, LFs FOR BLANKS. -/
def upB (b : UInt8) : UInt8 := if 97 ≤ b.toNat ∧ b.toNat ≤ 122 then b - 32 else if b.toNat = 32 then 10 else b
theorem upB_toNat (b : UInt8) : (upB b).toNat = if 97 ≤ b.toNat ∧ b.toNat ≤ 122 then b.toNat - 32 else if b.toNat = 32 then 10 else b.toNat := by
  unfold upB
  split
  · next h =>
    rw [UInt8.toNat_sub]
    show (256 - 32 + b.toNat) % 256 = _
    omega
  · split <;> rfl
theorem upB_ws (b : UInt8) : ws (upB b) = ws b := by
  rw [Bool.eq_iff_iff, ws_iff, ws_iff, upB_toNat]
  split
  · omega
  · split <;> omega
theorem upB_low {b : UInt8} (h : ws b = false) : lowB (upB b) = lowB b := by
  rw [wsN_iff] at h
  refine UInt8.toNat_inj.1 ?_
  rw [low_toNat, low_toNat, upB_toNat]
  split
  · split <;> split <;> omega
  · split
    · omega
    · rfl
theorem nA_map : ∀ (l : List UInt8) (g : Bool), nA g (l.map upB) = nA g l
  | [], _ => rfl
  | b :: l, g => by
    rw [List.map_cons]
    cases h : ws b with
    | true => rw [nA_ws g _ h, nA_ws g _ (by rw [upB_ws]; exact h), nA_map l true]
    | false => rw [nA_no g _ h, nA_no g _ (by rw [upB_ws]; exact h), nA_map l false, upB_low h]
theorem trim_map (l : List UInt8) : trimL (l.map upB) = (trimL l).map upB := by
  obtain ⟨a, m, b, e, h1, h2, h3⟩ := split_trim l
  rw [e, trim_of h1 h2 h3, List.map_append, List.map_append]
  refine trim_of (fun x hx => ?_) (fun x hx => ?_) ?_
  · obtain ⟨y, hy, rfl⟩ := List.mem_map.1 hx; rw [upB_ws]; exact h1 y hy
  · obtain ⟨y, hy, rfl⟩ := List.mem_map.1 hx; rw [upB_ws]; exact h2 y hy
  · rcases h3 with rfl | ⟨⟨c, t, rfl, w1⟩, t2, z, e2, w2⟩
    · exact .inl rfl
    · exact .inr ⟨⟨upB c, t.map upB, rfl, by rw [upB_ws]; exact w1⟩, t2.map upB, upB z, by rw [e2, List.map_append]; rfl, by rw [upB_ws]; exact w2⟩
theorem up_big {l : List UInt8} (h : ∀ b ∈ l, b.toNat < 128) : ∀ b ∈ l.map upB, b.toNat < 128 := fun b hb => by
  obtain ⟨y, hy, rfl⟩ := List.mem_map.1 hb
  have := h y hy
  rw [upB_toNat]
  split
  · omega
  · split <;> omega
theorem nrm_up {l : List UInt8} (h : ∀ b ∈ l, b.toNat < 128) : nrmL (l.map upB) = nrmL l := by
  rw [nrmL_ascii (up_big h), nrmL_ascii h, trim_map, nA_map]

/-! ### Definitions -/
/-- The line ahead, without its LF; how many bytes it has with it. -/
def lneL (l : List UInt8) : List UInt8 := l.takeWhile fun b => !decide (b.toNat = 10)
def lneN (l : List UInt8) : Nat := if (lneL l).length < l.length then (lneL l).length + 1 else (lneL l).length
theorem lne_len : ∀ l : List UInt8, (lneL l).length ≤ l.length
  | [] => Nat.le_refl _
  | b :: l => by
    have := lne_len l
    unfold lneL at *
    rw [List.takeWhile_cons]
    split
    · rw [List.length_cons, List.length_cons]; omega
    · simp
theorem lne_le (l : List UInt8) : lneN l ≤ l.length := by
  have := lne_len l
  unfold lneN
  split <;> omega
/-- A title behind spaces, up to its line's end. -/
def ttA (l : List UInt8) : Nat := spcN true false l
def ttM (l : List UInt8) : Nat := titN (l.drop (ttA l))
def ttB (l : List UInt8) : Bool := !decide (ttA l = 0) && !decide (ttM l = 0)
def ttE (l : List UInt8) : List UInt8 := l.drop (ttA l + ttM l)
def ttK (l : List UInt8) : Bool := ttB l && blankL (lneL (ttE l))
def ttT (l : List UInt8) : List UInt8 := if ttB l then titT (l.drop (ttA l)) else []
def ttN (l : List UInt8) : Nat := if ttB l then ttA l + ttM l + lneN (ttE l) else 0
theorem tt_le (l : List UInt8) : ttA l + ttM l ≤ l.length ∧ ttN l ≤ l.length := by
  have h1 : ttA l ≤ l.length := spc_le true l false
  have h2 : ttM l ≤ (l.drop (ttA l)).length := (tit_le _).1
  have h3 := lne_le (ttE l)
  unfold ttE at *
  rw [List.length_drop] at *
  unfold ttN ttE
  split <;> omega
/-- What ends a definition. -/
def edT (l : List UInt8) : List UInt8 := if ttK l then ttT l else []
def edN (l : List UInt8) : Nat := if ttK l then ttN l else lneN l
def edB (l : List UInt8) : Bool := ttK l || blankL (lneL l)
theorem ed_le (l : List UInt8) : edN l ≤ l.length := by
  have h1 := (tt_le l).2
  have h2 := lne_le l
  unfold edN
  split <;> omega
/-- A definition. -/
def dfC (l : List UInt8) : Bool := !decide (lblN l = 0) && hasPrefix (l.drop (lblN l)) [58]
def dfA (l : List UInt8) : Nat := lblN l + 1 + spcN true false (l.drop (lblN l + 1))
def dfM (l : List UInt8) : Nat := dstN (l.drop (dfA l))
def dfE (l : List UInt8) : List UInt8 := l.drop (dfA l + dfM l)
def dfB (l : List UInt8) : Bool := dfC l && !decide (dfM l = 0) && edB (dfE l)
def dfN (l : List UInt8) : Nat := if dfB l then dfA l + dfM l + edN (dfE l) else 0
def dfL (l : List UInt8) : List UInt8 := if dfB l then nrmL (lblT l) else []
def dfD (l : List UInt8) : List UInt8 := if dfB l then dstT (l.drop (dfA l)) else []
def dfT (l : List UInt8) : List UInt8 := if dfB l then edT (dfE l) else []
theorem dfC_lt {l : List UInt8} (h : dfC l = true) : 0 < lblN l ∧ lblN l + 1 ≤ l.length := by
  unfold dfC at h
  rw [Bool.and_eq_true] at h
  obtain ⟨h1, h2⟩ := h
  refine ⟨by simp at h1; omega, ?_⟩
  cases hd : l.drop (lblN l) with
  | nil => rw [hd] at h2; cases h2
  | cons b t =>
    have := congrArg List.length hd
    rw [List.length_drop, List.length_cons] at this
    omega
theorem dfA_le {l : List UInt8} (h : dfC l = true) : dfA l ≤ l.length := by
  have h1 := (dfC_lt h).2
  have h2 := spc_le true (l.drop (lblN l + 1)) false
  rw [List.length_drop] at h2
  unfold dfA
  omega
theorem dfE_le {l : List UInt8} (h : dfC l = true) : dfA l + dfM l ≤ l.length := by
  have h1 := dfA_le h
  have h2 := dst_le (l.drop (dfA l))
  rw [List.length_drop] at h2
  unfold dfM
  omega
theorem df_le (l : List UInt8) : dfN l ≤ l.length := by
  unfold dfN
  split
  · next h =>
    have hc : dfC l = true := by unfold dfB at h; simp only [Bool.and_eq_true] at h; exact h.1.1
    have h1 := dfE_le hc
    have h2 := ed_le (dfE l)
    unfold dfE at *
    rw [List.length_drop] at h2
    omega
  · exact Nat.zero_le _
theorem df_pos {l : List UInt8} (h : dfB l = true) : 0 < dfN l := by
  have hc : dfC l = true := by unfold dfB at h; simp only [Bool.and_eq_true] at h; exact h.1.1
  have h1 := (dfC_lt hc).1
  unfold dfN
  rw [if_pos h]
  unfold dfA
  omega
theorem df_zero {l : List UInt8} (h : dfN l = 0) : dfB l = false := by
  cases hb : dfB l with
  | false => rfl
  | true => have := df_pos hb; omega
/-- All definitions ahead: labels, destinations, titles, one behind the other; and what stands behind. -/
abbrev Rf := List UInt8 × List UInt8 × List UInt8
def dfsGo : Nat → List UInt8 → List Rf
  | 0, _ => []
  | n + 1, l => if dfN l = 0 then [] else (dfL l, dfD l, dfT l) :: dfsGo n (l.drop (dfN l))
def dfrGo : Nat → List UInt8 → List UInt8
  | 0, l => l
  | n + 1, l => if dfN l = 0 then l else dfrGo n (l.drop (dfN l))
theorem dfs_fuel : ∀ (n m : Nat) (l : List UInt8), l.length ≤ n → l.length ≤ m → dfsGo n l = dfsGo m l ∧ dfrGo n l = dfrGo m l
  | 0, 0, _, _, _ => ⟨rfl, rfl⟩
  | 0, m + 1, l, h, _ => by
    have : dfN l = 0 := by have := df_le l; omega
    unfold dfsGo dfrGo
    rw [if_pos this, if_pos this]; exact ⟨rfl, rfl⟩
  | n + 1, 0, l, _, h => by
    have : dfN l = 0 := by have := df_le l; omega
    unfold dfsGo dfrGo
    rw [if_pos this, if_pos this]; exact ⟨rfl, rfl⟩
  | n + 1, m + 1, l, h1, h2 => by
    unfold dfsGo dfrGo
    by_cases h : dfN l = 0
    · rw [if_pos h, if_pos h, if_pos h, if_pos h]; exact ⟨rfl, rfl⟩
    · have := dfs_fuel n m (l.drop (dfN l)) (by rw [List.length_drop]; omega) (by rw [List.length_drop]; omega)
      rw [if_neg h, if_neg h, if_neg h, if_neg h, this.1, this.2]; exact ⟨rfl, rfl⟩
def dfsL (l : List UInt8) : List Rf := dfsGo l.length l
def dfrL (l : List UInt8) : List UInt8 := dfrGo l.length l
theorem dfs_stop {l : List UInt8} (h : dfN l = 0) : dfsL l = [] ∧ dfrL l = l := by
  unfold dfsL dfrL
  cases l.length with
  | zero => exact ⟨rfl, rfl⟩
  | succ n => unfold dfsGo dfrGo; rw [if_pos h, if_pos h]; exact ⟨rfl, rfl⟩
theorem dfs_step {l : List UInt8} (h : dfN l ≠ 0) : dfsL l = (dfL l, dfD l, dfT l) :: dfsL (l.drop (dfN l)) ∧ dfrL l = dfrL (l.drop (dfN l)) := by
  have hle := df_le l
  obtain ⟨n, hn⟩ : ∃ n, l.length = n + 1 := ⟨l.length - 1, by omega⟩
  unfold dfsL dfrL
  rw [hn]
  simp only [dfsGo, dfrGo, if_neg h]
  have := dfs_fuel n (l.drop (dfN l)).length (l.drop (dfN l)) (by rw [List.length_drop]; omega) (Nat.le_refl _)
  rw [this.1, this.2]
  exact ⟨rfl, rfl⟩
/-- The first of that label. -/
def fndL (n : List UInt8) : List Rf → Option Rf
  | [] => none
  | r :: l => if r.1 = n then some r else fndL n l
end Go.Proofs.YtfgpephpkibbaaaGreatDoor

/-
  Plain lists of bytes: elements, raw HTML, links in < and >, code. No program in sight.
-/
namespace Go.Proofs.YtfgpephpkibbaaaGreatDoor
open Go Go.Lib

/-! ### Stretches -/
/-- How many bytes ahead are as p says. -/
def cntP (p : UInt8 → Bool) : List UInt8 → Nat
  | [] => 0
  | b :: l => if p b = true then cntP p l + 1 else 0
theorem cntP_yes {p : UInt8 → Bool} {b : UInt8} (l : List UInt8) (h : p b = true) : cntP p (b :: l) = cntP p l + 1 := by rw [cntP, if_pos h]
theorem cntP_no {p : UInt8 → Bool} {b : UInt8} (l : List UInt8) (h : p b = false) : cntP p (b :: l) = 0 := by rw [cntP, if_neg (by rw [h]; decide)]
theorem cntP_le (p : UInt8 → Bool) : ∀ l : List UInt8, cntP p l ≤ l.length
  | [] => Nat.le_refl _
  | b :: l => by
    have := cntP_le p l
    rw [cntP, List.length_cons]
    split <;> omega
/-- A stretch of p's, and what isn't one. -/
theorem cntP_app {p : UInt8 → Bool} : ∀ {a : List UInt8} (l : List UInt8), (∀ b ∈ a, p b = true) → cntP p (a ++ l) = a.length + cntP p l
  | [], l, _ => by simp
  | b :: a, l, h => by
    rw [List.cons_append, cntP_yes _ (h b (List.mem_cons_self ..)), cntP_app l (fun c hc => h c (List.mem_cons_of_mem _ hc)), List.length_cons]
    omega
theorem cntP_mem {p : UInt8 → Bool} : ∀ {l : List UInt8} {b : UInt8}, b ∈ l.take (cntP p l) → p b = true
  | [], b, h => by simp at h
  | c :: l, b, h => by
    rw [cntP] at h
    split at h
    · next hc =>
      rw [List.take_succ_cons, List.mem_cons] at h
      rcases h with rfl | h
      · exact hc
      · exact cntP_mem h
    · simp at h
theorem cntP_stop {p : UInt8 → Bool} : ∀ {l : List UInt8} {b : UInt8} {r : List UInt8}, l.drop (cntP p l) = b :: r → p b = false
  | [], b, r, h => by simp at h
  | c :: l, b, r, h => by
    rw [cntP] at h
    split at h
    · next hc =>
      rw [List.drop_succ_cons] at h
      exact cntP_stop h
    · next hc =>
      rw [List.drop_zero] at h
      injection h with h1 h2
      rw [← h1]
      simpa using hc
theorem cntP_split (p : UInt8 → Bool) (l : List UInt8) : l = l.take (cntP p l) ++ l.drop (cntP p l) := (List.take_append_drop _ _).symm
/-- What begins otherwise has none. -/
def noP (p : UInt8 → Bool) (l : List UInt8) : Prop := ∀ b r, l = b :: r → p b = false
theorem cntP_zero {p : UInt8 → Bool} {l : List UInt8} (h : noP p l) : cntP p l = 0 := by
  cases l with
  | nil => rfl
  | cons b l => exact cntP_no l (h b l rfl)
theorem noP_drop (p : UInt8 → Bool) (l : List UInt8) : noP p (l.drop (cntP p l)) := fun _ _ h => cntP_stop h
theorem cntP_eq {p : UInt8 → Bool} {a l : List UInt8} (h : ∀ b ∈ a, p b = true) (hl : noP p l) : cntP p (a ++ l) = a.length := by rw [cntP_app l h, cntP_zero hl, Nat.add_zero]
theorem cntP_one {p : UInt8 → Bool} {l : List UInt8} {k : Nat} (h : ∀ b ∈ l.take k, p b = true) (hk : k ≤ l.length) (hl : noP p (l.drop k)) : cntP p l = k := by
  have := cntP_eq h hl
  rw [List.take_append_drop, List.length_take] at this
  omega

/-! ### Which bytes -/
def rLet (b : UInt8) : Bool := decide (97 ≤ b.toNat ∧ b.toNat ≤ 122) || decide (65 ≤ b.toNat ∧ b.toNat ≤ 90)
def rDig (b : UInt8) : Bool := decide (48 ≤ b.toNat ∧ b.toNat ≤ 57)
def rNam (b : UInt8) : Bool := rLet b || rDig b || decide (b.toNat = 45)
def rAtt (b : UInt8) : Bool := rLet b || rDig b || decide (b.toNat = 95 ∨ b.toNat = 58 ∨ b.toNat = 46 ∨ b.toNat = 45)
def rAt1 (b : UInt8) : Bool := rLet b || decide (b.toNat = 95 ∨ b.toNat = 58)
def rSpc (b : UInt8) : Bool := decide (b.toNat = 32 ∨ b.toNat = 9 ∨ b.toNat = 10)
def rVal (b : UInt8) : Bool := !decide (b.toNat = 32 ∨ b.toNat = 9 ∨ b.toNat = 10 ∨ b.toNat = 34 ∨ b.toNat = 39 ∨ b.toNat = 61 ∨ b.toNat = 60 ∨ b.toNat = 62 ∨ b.toNat = 96)
def rSch (b : UInt8) : Bool := rLet b || rDig b || decide (b.toNat = 43 ∨ b.toNat = 46 ∨ b.toNat = 45)
def rUsr (b : UInt8) : Bool := rLet b || rDig b || decide (b.toNat = 46 ∨ b.toNat = 33 ∨ b.toNat = 35 ∨ b.toNat = 36 ∨ b.toNat = 37 ∨ b.toNat = 38 ∨ b.toNat = 39 ∨ b.toNat = 42 ∨ b.toNat = 43 ∨ b.toNat = 47 ∨ b.toNat = 61 ∨ b.toNat = 63 ∨ b.toNat = 94 ∨ b.toNat = 95 ∨ b.toNat = 123 ∨ b.toNat = 124 ∨ b.toNat = 125 ∨ b.toNat = 126 ∨ b.toNat = 45 ∨ b.toNat = 96)
def rTik (b : UInt8) : Bool := decide (b.toNat = 96)
def rLnk (b : UInt8) : Bool := decide (32 < b.toNat ∧ b.toNat ≠ 60 ∧ b.toNat ≠ 62 ∧ b.toNat ≠ 127)
/-- Does it begin with such a byte? -/
def frP (p : UInt8 → Bool) : List UInt8 → Bool
  | [] => false
  | b :: _ => p b

/-- Spaces. -/
theorem spc_cnt : ∀ (l : List UInt8) (e : Bool), spcN false e l = cntP rSpc l
  | [], _ => rfl
  | b :: l, e => by
    have h1 := spc_cnt l e
    have h2 := spc_cnt l true
    by_cases c1 : b.toNat = 32 ∨ b.toNat = 9
    · rw [spcN, if_pos c1, h1, cntP_yes _ (by unfold rSpc; rw [decide_eq_true_eq]; omega)]
    · by_cases c2 : b.toNat = 10
      · rw [spcN, if_neg c1, if_pos c2, if_neg (by simp), h2, cntP_yes _ (by unfold rSpc; rw [decide_eq_true_eq]; omega)]
      · rw [spcN, if_neg c1, if_neg c2, cntP_no _ (by unfold rSpc; rw [decide_eq_false_iff_not]; omega)]

/-! ### Elements -/
/-- Up to the first t from k on, with it; 0: there is none. -/
def upA (k : Nat) (t l : List UInt8) : Nat := if index (l.drop k) t = -1 then 0 else k + (index (l.drop k) t).toNat + t.length
theorem upA_le {k : Nat} {t l : List UInt8} (hk : k ≤ l.length) : upA k t l ≤ l.length := by
  unfold upA
  split
  · omega
  · have h := index_ge (l.drop k) t
    have h1 := index_room (l.drop k) t (by omega)
    rw [List.length_drop] at h1
    omega
def namN (l : List UInt8) : Nat := if frP rLet l = true then cntP rNam l else 0
def attN (l : List UInt8) : Nat := if frP rAt1 l = true then cntP rAtt l else 0
def valN (l : List UInt8) : Nat := match l with
  | [] => 0
  | b :: _ => if b.toNat = 34 ∨ b.toNat = 39 then upA 1 [b] l else cntP rVal l
/-- How many are a value, with its =, and the spaces ahead of both. -/
def asgA (l : List UInt8) : Nat := cntP rSpc l
def asgQ (l : List UInt8) : Bool := frP (fun b => decide (b.toNat = 61)) (l.drop (asgA l))
def asgC (l : List UInt8) : Nat := asgA l + 1 + cntP rSpc (l.drop (asgA l + 1))
def asgV (l : List UInt8) : Nat := valN (l.drop (asgC l))
def asgN (l : List UInt8) : Nat := if asgQ l = true then (if asgV l = 0 then 0 else asgC l + asgV l) else 0
/-- How many are an attribute, with the spaces ahead of it. -/
def atrA (l : List UInt8) : Nat := cntP rSpc l
def atrM (l : List UInt8) : Nat := attN (l.drop (atrA l))
def atrN (l : List UInt8) : Nat := if atrA l = 0 then 0 else if atrM l = 0 then 0 else atrA l + atrM l + asgN (l.drop (atrA l + atrM l))
def atsF : Nat → List UInt8 → Nat
  | 0, _ => 0
  | f + 1, l => if atrN l = 0 then 0 else atrN l + atsF f (l.drop (atrN l))
def atsN (l : List UInt8) : Nat := atsF l.length l
/-- A > at n: with it. -/
def cloN (n : Nat) (l : List UInt8) : Nat := if frP (fun b => decide (b.toNat = 62)) (l.drop n) = true then n + 1 else 0
def endN (l : List UInt8) : Nat := if namN (l.drop 2) = 0 then 0 else cloN (2 + namN (l.drop 2) + cntP rSpc (l.drop (2 + namN (l.drop 2)))) l
def begA (l : List UInt8) : Nat := 1 + namN (l.drop 1) + atsN (l.drop (1 + namN (l.drop 1)))
def begB (l : List UInt8) : Nat := begA l + cntP rSpc (l.drop (begA l))
def begC (l : List UInt8) : Nat := if frP (fun b => decide (b.toNat = 47)) (l.drop (begB l)) = true then begB l + 1 else begB l
def begN (l : List UInt8) : Nat := if namN (l.drop 1) = 0 then 0 else cloN (begC l) l
def tagN (l : List UInt8) : Nat := if hasPrefix l [60, 47] = true then endN l else if hasPrefix l [60] = true then begN l else 0
/-- What <! and a letter begin. -/
def decN (l : List UInt8) : Nat := if frP rLet (l.drop 2) = true then upA 2 [62] l else 0
def htmN (l : List UInt8) : Nat :=
  if hasPrefix l [60, 33, 45, 45, 62] = true then 5
  else if hasPrefix l [60, 33, 45, 45, 45, 62] = true then 6
  else if hasPrefix l [60, 33, 45, 45] = true then upA 4 [45, 45, 62] l
  else if hasPrefix l [60, 63] = true then upA 2 [63, 62] l
  else if hasPrefix l [60, 33, 91, 67, 68, 65, 84, 65, 91] = true then upA 9 [93, 93, 62] l
  else if hasPrefix l [60, 33] = true then decN l
  else tagN l

/-! ### Links -/
/-- What stands in < and >; nothing, if a byte of it stands in no link. -/
def encT (l : List UInt8) : List UInt8 := if hasPrefix l [60] = true then (if frP (fun b => decide (b.toNat = 62)) ((l.drop 1).drop (cntP rLnk (l.drop 1))) = true then (l.drop 1).take (cntP rLnk (l.drop 1)) else []) else []
def schB (t : List UInt8) : Bool := decide (2 ≤ cntP rSch t) && decide (cntP rSch t ≤ 32) && frP rLet t && frP (fun b => decide (b.toNat = 58)) (t.drop (cntP rSch t))
/-- The parts between the points. -/
def prtL : List UInt8 → List (List UInt8)
  | [] => [[]]
  | b :: l => if b.toNat = 46 then [] :: prtL l else match prtL l with
    | [] => [[b]]
    | p :: ps => (b :: p) :: ps
def hstB (p : List UInt8) : Bool := !p.isEmpty && decide (p.length ≤ 63) && !hasPrefix p [45] && !hasSuffix p [45] && decide (cntP rNam p = p.length)
def notAt (b : UInt8) : Bool := decide (b.toNat ≠ 64)
def adrU (t : List UInt8) : List UInt8 := t.take (cntP notAt t)
def adrR (t : List UInt8) : List UInt8 := t.drop (cntP notAt t + 1)
def adrB (t : List UInt8) : Bool := decide (cntP notAt t < t.length) && !(adrU t).isEmpty && decide (cntP rUsr (adrU t) = (adrU t).length) && (prtL (adrR t)).all hstB
def mailto : List UInt8 := [109, 97, 105, 108, 116, 111, 58]
def autA (l : List UInt8) : List UInt8 := if schB (encT l) = true then encT l else if adrB (encT l) = true then mailto ++ encT l else []
def autB (l : List UInt8) : List UInt8 := if schB (encT l) = true then encT l else if adrB (encT l) = true then encT l else []
def autN (l : List UInt8) : Nat := if schB (encT l) = true then (encT l).length + 2 else if adrB (encT l) = true then (encT l).length + 2 else 0

/-! ### Code -/
/-- Where the first stretch of just n of the sign begins, and 1; 0: there is none. -/
def cdF : Nat → Nat → List UInt8 → Nat
  | 0, _, _ => 0
  | f + 1, n, l => if l = [] then 0 else if cntP rTik l = n then 1 else upN (max (cntP rTik l) 1) (cdF f n (l.drop (max (cntP rTik l) 1)))
def cdE (n : Nat) (l : List UInt8) : Nat := cdF l.length n l
def lfB (b : UInt8) : UInt8 := if b = 10 then 32 else b
def ctU (t : List UInt8) : List UInt8 := t.map lfB
def ctK (u : List UInt8) : Bool := hasPrefix u [32] && hasSuffix u [32] && u.any (fun b => decide (b ≠ 32))
def ctT (t : List UInt8) : List UInt8 := if ctK (ctU t) = true then ((ctU t).drop 1).dropLast else ctU t
def codO (l : List UInt8) : Nat := cntP rTik l
def codK (l : List UInt8) : Nat := cdE (codO l) (l.drop (codO l))
def codT (l : List UInt8) : List UInt8 := if codO l = 0 then [] else if codK l = 0 then [] else ctT ((l.drop (codO l)).take (codK l - 1))
def codN (l : List UInt8) : Nat := if codO l = 0 then 0 else if codK l = 0 then 0 else codO l + (codK l - 1) + codO l
/-! ### Escapes -/
def escT (l : List UInt8) : List UInt8 := if escB l = true then [l.getD 1 0] else []

/-! ### Bounds -/
theorem namN_le (l : List UInt8) : namN l ≤ l.length := by unfold namN; split; exact cntP_le _ _; omega
theorem attN_le (l : List UInt8) : attN l ≤ l.length := by unfold attN; split; exact cntP_le _ _; omega
theorem valN_le (l : List UInt8) : valN l ≤ l.length := by
  unfold valN
  cases l with
  | nil => simp
  | cons b l =>
    show (if b.toNat = 34 ∨ b.toNat = 39 then upA 1 [b] (b :: l) else cntP rVal (b :: l)) ≤ _
    split
    · exact upA_le (by rw [List.length_cons]; omega)
    · exact cntP_le _ _
theorem frP_len {p : UInt8 → Bool} {l : List UInt8} (h : frP p l = true) : 0 < l.length := by
  cases l with
  | nil => cases h
  | cons b l => simp
theorem frP_drop {p : UInt8 → Bool} {l : List UInt8} {n : Nat} (h : frP p (l.drop n) = true) : n < l.length := by
  have := frP_len h
  rw [List.length_drop] at this
  omega
theorem asgC_le {l : List UInt8} (h : asgQ l = true) : asgC l ≤ l.length := by
  unfold asgQ at h
  have h1 := frP_drop h
  have h2 := cntP_le rSpc (l.drop (asgA l + 1))
  rw [List.length_drop] at h2
  unfold asgC
  omega
theorem asgN_le (l : List UInt8) : asgN l ≤ l.length := by
  unfold asgN
  split
  · next h =>
    split
    · omega
    · have h1 := asgC_le h
      have h2 := valN_le (l.drop (asgC l))
      rw [List.length_drop] at h2
      unfold asgV
      omega
  · omega
theorem atrN_le (l : List UInt8) : atrN l ≤ l.length := by
  unfold atrN
  split
  · omega
  · split
    · omega
    · have h1 := cntP_le rSpc l
      have h2 := attN_le (l.drop (atrA l))
      have h3 := asgN_le (l.drop (atrA l + atrM l))
      rw [List.length_drop] at h2 h3
      have h4 : atrA l = cntP rSpc l := rfl
      have h5 : atrM l = attN (l.drop (atrA l)) := rfl
      omega
theorem atsF_le : ∀ (f : Nat) (l : List UInt8), atsF f l ≤ l.length
  | 0, l => Nat.zero_le _
  | f + 1, l => by
    have h := atrN_le l
    have h2 := atsF_le f (l.drop (atrN l))
    rw [List.length_drop] at h2
    rw [atsF]
    split <;> omega
theorem atsN_le (l : List UInt8) : atsN l ≤ l.length := atsF_le _ _
theorem atsF_any : ∀ (f : Nat) (l : List UInt8), l.length ≤ f → atsF f l = atsN l
  | 0, l, h => by
    have : l = [] := List.length_eq_zero_iff.1 (by omega)
    subst this
    rfl
  | f + 1, l, h => by
    unfold atsN
    cases hl : l.length with
    | zero =>
      have : l = [] := List.length_eq_zero_iff.1 hl
      subst this
      rw [atsF]
      rfl
    | succ g =>
      rw [atsF, atsF]
      by_cases h0 : atrN l = 0
      · rw [if_pos h0, if_pos h0]
      · rw [if_neg h0, if_neg h0, atsF_any f _ (by rw [List.length_drop]; omega), atsF_any g _ (by rw [List.length_drop]; omega)]
theorem ats_stop {l : List UInt8} (h : atrN l = 0) : atsN l = 0 := by
  unfold atsN
  cases l.length with
  | zero => rfl
  | succ f => rw [atsF, if_pos h]
theorem ats_step {l : List UInt8} (h : atrN l ≠ 0) : atsN l = atrN l + atsN (l.drop (atrN l)) := by
  have hl := atrN_le l
  unfold atsN
  cases hf : l.length with
  | zero => omega
  | succ f =>
    rw [atsF, if_neg h, atsF_any f _ (by rw [List.length_drop]; omega)]
    rfl
theorem begB_le (l : List UInt8) (h : namN (l.drop 1) ≠ 0) : begB l ≤ l.length := by
  have h1 := namN_le (l.drop 1)
  have h2 := atsN_le (l.drop (1 + namN (l.drop 1)))
  have h3 := cntP_le rSpc (l.drop (begA l))
  rw [List.length_drop] at h1 h2 h3
  unfold begB
  unfold begA at *
  omega
theorem begC_le (l : List UInt8) (h : namN (l.drop 1) ≠ 0) : begC l ≤ l.length := by
  have h1 := begB_le l h
  unfold begC
  split
  · next h2 =>
    have := frP_drop h2
    omega
  · exact h1
theorem cloN_le (n : Nat) (l : List UInt8) : cloN n l ≤ l.length := by
  unfold cloN
  split
  · next h => have := frP_drop h; omega
  · omega
theorem tagN_le (l : List UInt8) : tagN l ≤ l.length := by
  unfold tagN endN begN
  split
  · split
    · omega
    · exact cloN_le _ _
  · split
    · split
      · omega
      · exact cloN_le _ _
    · omega
theorem pre_len {l t : List UInt8} (h : hasPrefix l t = true) : t.length ≤ l.length := by
  unfold hasPrefix at h
  exact (List.isPrefixOf_iff_prefix.1 h).length_le
theorem htmN_le (l : List UInt8) : htmN l ≤ l.length := by
  unfold htmN decN
  split
  · next h => exact pre_len h
  · split
    · next h => exact pre_len h
    · split
      · next h => exact upA_le (pre_len h)
      · split
        · next h => exact upA_le (pre_len h)
        · split
          · next h => exact upA_le (pre_len h)
          · split
            · split
              · next h => exact upA_le (Nat.le_of_lt (frP_drop h))
              · omega
            · exact tagN_le l
theorem encT_le (l : List UInt8) : encT l = [] ∨ (encT l).length + 2 ≤ l.length := by
  unfold encT
  split
  · next h =>
    split
    · next h2 =>
      have h3 := frP_drop h2
      right
      rw [List.length_take, List.length_drop] at *
      omega
    · exact .inl rfl
  · exact .inl rfl
theorem cdF_le : ∀ (f n : Nat) (l : List UInt8), cdF f n l ≤ l.length
  | 0, _, _ => Nat.zero_le _
  | f + 1, n, l => by
    rw [cdF]
    split
    · omega
    · next hl =>
      have hp := List.length_pos_iff.2 hl
      split
      · omega
      · have h1 := cntP_le rTik l
        have h2 := cdF_le f n (l.drop (max (cntP rTik l) 1))
        rw [List.length_drop] at h2
        by_cases h0 : cdF f n (l.drop (max (cntP rTik l) 1)) = 0
        · rw [h0, up_none]
          omega
        · rw [up_pos _ h0]
          omega
theorem cdF_any : ∀ (f n : Nat) (l : List UInt8), l.length ≤ f → cdF f n l = cdE n l
  | 0, n, l, h => by
    have : l = [] := List.length_eq_zero_iff.1 (by omega)
    subst this
    rfl
  | f + 1, n, l, h => by
    unfold cdE
    cases hl : l.length with
    | zero =>
      have : l = [] := List.length_eq_zero_iff.1 hl
      subst this
      rfl
    | succ g =>
      rw [cdF, cdF, cdF_any f n _ (by rw [List.length_drop]; omega), cdF_any g n _ (by rw [List.length_drop]; omega)]
theorem cdE_nil (n : Nat) : cdE n [] = 0 := rfl
theorem cdE_hit {n : Nat} {l : List UInt8} (hl : l ≠ []) (h : cntP rTik l = n) : cdE n l = 1 := by
  unfold cdE
  cases hf : l.length with
  | zero => exact absurd (List.length_eq_zero_iff.1 hf) hl
  | succ f => rw [cdF, if_neg hl, if_pos h]
theorem cdE_go {n : Nat} {l : List UInt8} (hl : l ≠ []) (h : cntP rTik l ≠ n) : cdE n l = upN (max (cntP rTik l) 1) (cdE n (l.drop (max (cntP rTik l) 1))) := by
  show cdF l.length n l = _
  cases hf : l.length with
  | zero => exact absurd (List.length_eq_zero_iff.1 hf) hl
  | succ f => rw [cdF, if_neg hl, if_neg h, cdF_any f n _ (by rw [List.length_drop]; omega)]
theorem cdE_le (n : Nat) (l : List UInt8) : cdE n l ≤ l.length := cdF_le _ _ _
end Go.Proofs.YtfgpephpkibbaaaGreatDoor

