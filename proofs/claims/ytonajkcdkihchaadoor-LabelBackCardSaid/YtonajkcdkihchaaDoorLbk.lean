/-
  Plain lists of bytes: definitions of letters and digits. No program in sight.
-/
import Derived.Test.YtonajkcdkihchaaDoorLbt
namespace Go.Proofs.YtonajkcdkihchaaDoor
open Go Go.Lib

theorem ldn_facts {b : UInt8} (h : ldB b = true) : (97 ≤ b.toNat ∧ b.toNat ≤ 122) ∨ (48 ≤ b.toNat ∧ b.toNat ≤ 57) := by
  unfold ldB at h
  simp only [Bool.or_eq_true, Bool.and_eq_true, decide_eq_true_eq] at h
  exact h
theorem ldn_ws {b : UInt8} (h : ldB b = true) : ws b = false := by
  have := ldn_facts h
  rw [wsN_iff]; omega
theorem ldn_low {b : UInt8} (h : ldB b = true) : lowB b = b := by
  have := ldn_facts h
  refine UInt8.toNat_inj.1 ?_
  rw [low_toNat, if_neg (by omega)]
theorem ldn_nA : ∀ s : List UInt8, (∀ b ∈ s, ldB b = true) → nA false s = s
  | [], _ => rfl
  | b :: s, h => by
    have hb := h b (List.mem_cons_self ..)
    rw [nA_no false s (ldn_ws hb), ldn_low hb, ldn_nA s (fun c hc => h c (List.mem_cons_of_mem _ hc))]
    rfl
theorem ldn_core {s : List UInt8} (h : ∀ b ∈ s, ldB b = true) : Core s := by
  by_cases hn : s = []
  · exact .inl hn
  · refine .inr ⟨?_, s.dropLast, s.getLast hn, (List.dropLast_concat_getLast hn).symm, ldn_ws (h _ (List.getLast_mem hn))⟩
    cases s with
    | nil => exact absurd rfl hn
    | cons a t => exact ⟨a, t, rfl, ldn_ws (h a (List.mem_cons_self ..))⟩
theorem ldn_trim {s : List UInt8} (h : ∀ b ∈ s, ldB b = true) : trimL s = s := trim_of_core (ldn_core h)
/-- A label of letters and digits, as it is looked for. -/
theorem ldn_nrm {s : List UInt8} (h : ∀ b ∈ s, ldB b = true) : nrmL s = s := by
  rw [nrmL_ascii (fun b hb => by have := ldn_facts (h b hb); omega), ldn_trim h, ldn_nA s h]
theorem ldn_labS : ∀ (s r : List UInt8) (k : Nat), (∀ b ∈ s, ldB b = true) → k + s.length ≤ 999 → labS k false (s ++ 93 :: r) = k + s.length + 1
  | [], r, k, _, hk => labS_shut 93 r (by simp at hk; omega) rfl
  | b :: s, r, k, h, hk => by
    have hb := ldn_facts (h b (List.mem_cons_self ..))
    rw [List.length_cons] at hk ⊢
    rw [List.cons_append, labS_go b _ (by omega) (by omega) (by omega) (by omega), ldn_labS s r (k + 1) (fun c hc => h c (List.mem_cons_of_mem _ hc)) (by omega)]
    omega
theorem ldn_lbl (s r : List UInt8) (h : ∀ b ∈ s, ldB b = true) (hn : s ≠ []) (hl : s.length ≤ 999) : lblT (91 :: (s ++ 93 :: r)) = s ∧ lblN (91 :: (s ++ 93 :: r)) = s.length + 2 := by
  have hi : lblI (91 :: (s ++ 93 :: r)) = s := by
    unfold lblI
    rw [if_pos (by rw [pre1_cons]; rfl)]
    show (s ++ 93 :: r).take (labS 0 false (s ++ 93 :: r) - 1) = s
    rw [ldn_labS s r 0 h (by omega), Nat.zero_add, Nat.add_sub_cancel, List.take_left' rfl]
  unfold lblT lblN
  rw [hi, if_neg (by rw [ldn_trim h]; exact hn), if_neg (by rw [ldn_trim h]; exact hn)]
  exact ⟨rfl, rfl⟩
/-- A destination of letters and digits, up to what may not stand in one. -/
theorem ldn_dst (s r : List UInt8) (b : UInt8) (h : ∀ b ∈ s, ldB b = true) (hb : stdB b = false) : dstN (s ++ b :: r) = s.length ∧ dstT (s ++ b :: r) = s := by
  have hb60 : b.toNat ≠ 60 := fun e => by unfold stdB at hb; rw [e] at hb; exact absurd hb (by decide)
  have hp : ¬ hasPrefix (s ++ b :: r) [60] = true := by rw [no_ang s r b h hb60]; decide
  have hn : barN 0 (s ++ b :: r) = s.length + 1 := by rw [bar_letters 0 s _ h, bar_stop 0 b r hb, if_pos rfl, up_pos _ (by decide)]; omega
  unfold dstN dstT
  rw [if_neg hp, if_neg hp, hn, Nat.add_sub_cancel, List.take_left' rfl]
  exact ⟨rfl, plain_same _ fun b hb => by have := ld_facts (h b hb); exact ⟨this.2.2.2.1, this.2.2.2.2.1⟩⟩
theorem ldn_tls : ∀ (s r : List UInt8) (k : Bool), (∀ b ∈ s, ldB b = true) → tlsN 39 39 k (s ++ 39 :: r) = s.length + 1
  | [], r, k, _ => tls_last k r rfl
  | b :: s, r, k, h => by
    have hb := ldn_facts (h b (List.mem_cons_self ..))
    have e : b ≠ 39 := ne_by (by show _ ≠ 39; omega)
    rw [List.cons_append, tls_go k _ e e (by omega) (by omega), wid_one _ (by omega)]
    show upN 1 (tlsN 39 39 false (s ++ 39 :: r)) = _
    rw [ldn_tls s r false (fun c hc => h c (List.mem_cons_of_mem _ hc)), up_pos 1 (by omega), List.length_cons]
theorem ldn_tit (s r : List UInt8) (h : ∀ b ∈ s, ldB b = true) : titN (39 :: (s ++ 39 :: r)) = s.length + 2 ∧ titT (39 :: (s ++ 39 :: r)) = s := by
  have hn : titN (39 :: (s ++ 39 :: r)) = s.length + 2 := by
    unfold titN
    rw [show endC (39 :: (s ++ 39 :: r)) = 39 from rfl, if_neg (by decide)]
    show upN 1 (tlsN 39 39 false (s ++ 39 :: r)) = _
    rw [ldn_tls s r false h, up_pos 1 (by omega)]
  refine ⟨hn, ?_⟩
  unfold titT
  rw [hn, Nat.add_sub_cancel]
  show plainL ((s ++ 39 :: r).take _) = s
  rw [List.take_left' rfl]
  exact plain_same _ fun b hb => by have := ld_facts (h b hb); exact ⟨this.2.2.2.1, this.2.2.2.2.1⟩
theorem ldn_spc (one e : Bool) {b : UInt8} (l : List UInt8) (h : ldB b = true) : spcN one e (b :: l) = 0 := by
  have := ldn_facts h
  exact spc_none one e b l (by omega)
theorem ldn_spcs (one e : Bool) (s r : List UInt8) (h : ∀ b ∈ s, ldB b = true) (hn : s ≠ []) : spcN one e (s ++ r) = 0 := by
  cases s with
  | nil => exact absurd rfl hn
  | cons b s => exact ldn_spc one e _ (h b (List.mem_cons_self ..))
/-- What ends a definition: a blank, a title in ', an LF; an LF, and letters. -/
theorem ed_title (t r : List UInt8) (h : ∀ b ∈ t, ldB b = true) : edB (32 :: 39 :: (t ++ 39 :: 10 :: r)) = true ∧ edN (32 :: 39 :: (t ++ 39 :: 10 :: r)) = t.length + 4 ∧ edT (32 :: 39 :: (t ++ 39 :: 10 :: r)) = t := by
  obtain ⟨h1, h2⟩ := ldn_tit t (10 :: r) h
  have a : ttA (32 :: 39 :: (t ++ 39 :: 10 :: r)) = 1 := by
    unfold ttA
    rw [spc_one, spc_none true false 39 _ (by decide)]
  have m : ttM (32 :: 39 :: (t ++ 39 :: 10 :: r)) = t.length + 2 := by
    unfold ttM
    rw [a]
    exact h1
  have b : ttB (32 :: 39 :: (t ++ 39 :: 10 :: r)) = true := by
    unfold ttB
    rw [a, m]
    simp
  have e : ttE (32 :: 39 :: (t ++ 39 :: 10 :: r)) = 10 :: r := by
    unfold ttE
    rw [a, m, show 1 + (t.length + 2) = (t.length + 1) + 1 + 1 by omega, List.drop_succ_cons, List.drop_succ_cons]
    rw [show t ++ 39 :: 10 :: r = (t ++ [39]) ++ 10 :: r by simp, List.drop_left' (by simp)]
  have k : ttK (32 :: 39 :: (t ++ 39 :: 10 :: r)) = true := by
    unfold ttK
    rw [b, e]
    rfl
  have l : lneN (10 :: r) = 1 := rfl
  unfold edB edN edT ttN ttT
  rw [k, b, a, m, e, l]
  exact ⟨rfl, by simp; omega, h2⟩
theorem ed_plain (b : UInt8) (r : List UInt8) (h : ldB b = true) : edB (10 :: b :: r) = true ∧ edN (10 :: b :: r) = 1 ∧ edT (10 :: b :: r) = [] := by
  have hb := ldn_facts h
  have a : ttA (10 :: b :: r) = 1 := by
    unfold ttA
    show spcN true true (b :: r) + 1 = 1
    rw [ldn_spc true true r h]
  have m : ttM (10 :: b :: r) = 0 := by
    unfold ttM
    rw [a]
    show titN (b :: r) = 0
    unfold titN
    rw [if_pos]
    unfold endC
    show (if b = 34 ∨ b = 39 then b.toNat else if b = 40 then 41 else 0) = 0
    have e1 : b ≠ 34 := ne_by (by show _ ≠ 34; omega)
    have e2 : b ≠ 39 := ne_by (by show _ ≠ 39; omega)
    have e3 : b ≠ 40 := ne_by (by show _ ≠ 40; omega)
    rw [if_neg (by rintro (e | e) <;> contradiction), if_neg e3]
  have k : ttK (10 :: b :: r) = false := by
    unfold ttK ttB
    rw [m]
    simp
  have l : lneN (10 :: b :: r) = 1 := rfl
  unfold edB edN edT
  rw [k, l]
  exact ⟨rfl, rfl, rfl⟩
/-- A definition of letters and digits: its label, one space, its destination, and whatever ends it. -/
theorem df_letters (s d x r : List UInt8) (c : UInt8) (hs : ∀ b ∈ s, ldB b = true) (hd : ∀ b ∈ d, ldB b = true) (ns : s ≠ []) (nd : d ≠ []) (ls : s.length ≤ 999) (hc : c = 32 ∨ c = 10) (b : UInt8) (hx : x = b :: r) (hb : stdB b = false) (he : edB x = true) :
    dfB (91 :: (s ++ 93 :: 58 :: c :: (d ++ x))) = true ∧ dfL (91 :: (s ++ 93 :: 58 :: c :: (d ++ x))) = s ∧ dfD (91 :: (s ++ 93 :: 58 :: c :: (d ++ x))) = d ∧ dfT (91 :: (s ++ 93 :: 58 :: c :: (d ++ x))) = edT x ∧ dfN (91 :: (s ++ 93 :: 58 :: c :: (d ++ x))) = s.length + d.length + 4 + edN x := by
  obtain ⟨L, hL⟩ : ∃ L, 91 :: (s ++ 93 :: 58 :: c :: (d ++ x)) = L := ⟨_, rfl⟩
  obtain ⟨l1, l2⟩ := ldn_lbl s (58 :: c :: (d ++ x)) hs ns ls
  obtain ⟨d1, d2⟩ := ldn_dst d r b hd hb
  rw [← hx] at d1 d2
  rw [hL] at l1 l2 ⊢
  have D2 : L.drop (s.length + 2) = 58 :: c :: (d ++ x) := by
    rw [← hL, List.drop_succ_cons, show s ++ 93 :: 58 :: c :: (d ++ x) = (s ++ [93]) ++ 58 :: c :: (d ++ x) by simp, List.drop_left' (by simp)]
  have D3 : L.drop (s.length + 2 + 1) = c :: (d ++ x) := by rw [← List.drop_drop, D2]; rfl
  have hC : dfC L = true := by
    unfold dfC
    rw [l2, D2, pre1_cons]
    simp
  have sp : spcN true false (c :: (d ++ x)) = 1 := by
    rcases hc with rfl | rfl
    · rw [spc_one, ldn_spcs true false d x hd nd]
    · show spcN true true (d ++ x) + 1 = 1
      rw [ldn_spcs true true d x hd nd]
  have hA : dfA L = s.length + 4 := by unfold dfA; rw [l2, D3, sp]
  have D4 : L.drop (s.length + 4) = d ++ x := by rw [show s.length + 4 = s.length + 2 + 1 + 1 by omega, ← List.drop_drop, D3]; rfl
  have hM : dfM L = d.length := by unfold dfM; rw [hA, D4, d1]
  have hE : dfE L = x := by unfold dfE; rw [hA, hM, ← List.drop_drop, D4, List.drop_left' rfl]
  have hB : dfB L = true := by
    unfold dfB
    rw [hC, hM, hE, he, decide_eq_false (fun e => nd (List.eq_nil_of_length_eq_zero e))]
    rfl
  unfold dfL dfD dfT dfN
  rw [if_pos hB, if_pos hB, if_pos hB, if_pos hB, l1, hA, hM, hE, D4, d2, ldn_nrm hs]
  exact ⟨hB, rfl, rfl, rfl, by omega⟩
/-- With a title. -/
theorem df_titled (s d t r : List UInt8) (hs : ∀ b ∈ s, ldB b = true) (hd : ∀ b ∈ d, ldB b = true) (ht : ∀ b ∈ t, ldB b = true) (ns : s ≠ []) (nd : d ≠ []) (ls : s.length ≤ 999) :
    dfL (91 :: (s ++ 93 :: 58 :: 32 :: (d ++ 32 :: 39 :: (t ++ 39 :: 10 :: r)))) = s ∧ dfD (91 :: (s ++ 93 :: 58 :: 32 :: (d ++ 32 :: 39 :: (t ++ 39 :: 10 :: r)))) = d ∧ dfT (91 :: (s ++ 93 :: 58 :: 32 :: (d ++ 32 :: 39 :: (t ++ 39 :: 10 :: r)))) = t ∧ dfN (91 :: (s ++ 93 :: 58 :: 32 :: (d ++ 32 :: 39 :: (t ++ 39 :: 10 :: r)))) = s.length + d.length + t.length + 8 := by
  obtain ⟨e1, e2, e3⟩ := ed_title t r ht
  obtain ⟨_, h2, h3, h4, h5⟩ := df_letters s d (32 :: 39 :: (t ++ 39 :: 10 :: r)) (39 :: (t ++ 39 :: 10 :: r)) 32 hs hd ns nd ls (.inl rfl) 32 rfl (by decide) e1
  rw [e3] at h4
  rw [e2] at h5
  exact ⟨h2, h3, h4, by rw [h5]; omega⟩
/-- Without one. -/
theorem df_alone (s d r : List UInt8) (c b : UInt8) (hs : ∀ b ∈ s, ldB b = true) (hd : ∀ b ∈ d, ldB b = true) (ns : s ≠ []) (nd : d ≠ []) (ls : s.length ≤ 999) (hc : c = 32 ∨ c = 10) (hb : ldB b = true) :
    dfL (91 :: (s ++ 93 :: 58 :: c :: (d ++ 10 :: b :: r))) = s ∧ dfD (91 :: (s ++ 93 :: 58 :: c :: (d ++ 10 :: b :: r))) = d ∧ dfT (91 :: (s ++ 93 :: 58 :: c :: (d ++ 10 :: b :: r))) = [] ∧ dfN (91 :: (s ++ 93 :: 58 :: c :: (d ++ 10 :: b :: r))) = s.length + d.length + 5 := by
  obtain ⟨e1, e2, e3⟩ := ed_plain b r hb
  obtain ⟨_, h2, h3, h4, h5⟩ := df_letters s d (10 :: b :: r) (b :: r) c hs hd ns nd ls hc 10 rfl (by decide) e1
  rw [e3] at h4
  rw [e2] at h5
  exact ⟨h2, h3, h4, by rw [h5]⟩
/-- Two of one label, one behind the other. -/
theorem dfs_two (s d t : List UInt8) (hs : ∀ b ∈ s, ldB b = true) (hd : ∀ b ∈ d, ldB b = true) (ht : ∀ b ∈ t, ldB b = true) (ns : s ≠ []) (nd : d ≠ []) (ls : s.length ≤ 999) :
    dfsL (91 :: (s ++ 93 :: 58 :: 32 :: (d ++ 32 :: 39 :: (t ++ 39 :: 10 :: 91 :: (s ++ 93 :: 58 :: 32 :: ([111, 116, 104, 101, 114] ++ 10 :: 101 :: [110, 100])))))) = [(s, d, t), (s, [111, 116, 104, 101, 114], [])] ∧
    dfrL (91 :: (s ++ 93 :: 58 :: 32 :: (d ++ 32 :: 39 :: (t ++ 39 :: 10 :: 91 :: (s ++ 93 :: 58 :: 32 :: ([111, 116, 104, 101, 114] ++ 10 :: 101 :: [110, 100])))))) = [101, 110, 100] := by
  obtain ⟨R, hR⟩ : ∃ R, 91 :: (s ++ 93 :: 58 :: 32 :: ([111, 116, 104, 101, 114] ++ 10 :: 101 :: [110, 100])) = R := ⟨_, rfl⟩
  obtain ⟨b1, b2, b3, b4⟩ := df_alone s [111, 116, 104, 101, 114] [110, 100] 32 101 hs (by decide) ns (by decide) ls (.inl rfl) (by decide)
  rw [hR] at b1 b2 b3 b4 ⊢
  obtain ⟨a1, a2, a3, a4⟩ := df_titled s d t R hs hd ht ns nd ls
  obtain ⟨L, hL⟩ : ∃ L, 91 :: (s ++ 93 :: 58 :: 32 :: (d ++ 32 :: 39 :: (t ++ 39 :: 10 :: R))) = L := ⟨_, rfl⟩
  rw [hL] at a1 a2 a3 a4 ⊢
  have dL : L.drop (s.length + d.length + t.length + 8) = R := by
    have e : L = (91 :: (s ++ 93 :: 58 :: 32 :: (d ++ 32 :: 39 :: (t ++ 39 :: [10])))) ++ R := by rw [← hL]; simp
    rw [e, List.drop_left' (by simp; omega)]
  have dR : R.drop (s.length + 5 + 5) = [101, 110, 100] := by
    have e : R = (91 :: (s ++ 93 :: 58 :: 32 :: [111, 116, 104, 101, 114, 10])) ++ [101, 110, 100] := by rw [← hR]; simp
    rw [e, List.drop_left' (by simp)]
  obtain ⟨s1, s2⟩ := dfs_step (l := L) (by rw [a4]; omega)
  obtain ⟨t1, t2⟩ := dfs_step (l := R) (by rw [b4]; omega)
  obtain ⟨u1, u2⟩ := dfs_stop (l := [101, 110, 100]) (by decide +kernel)
  have b4' : dfN R = s.length + 5 + 5 := b4
  rw [s1, s2, a1, a2, a3, a4, dL, t1, t2, b1, b2, b3, b4', dR, u1, u2]
  exact ⟨rfl, rfl⟩
end Go.Proofs.YtonajkcdkihchaaDoor
