/-
  Texts of the proof, one behind the other: Lbk, Rwo, Rwp, Rws.
-/
import Derived.Test.YtolpmdicilbpfaaGreatDoorM3
import Derived.Test.YtolpmdicilbpfaaGreatDoorM4
/-
  Plain lists of bytes: definitions of letters and digits. No program in sight.
-/
namespace Go.Proofs.YtolpmdicilbpfaaGreatDoor
open Go Go.Lib

theorem ldn_facts {b : UInt8} (h : ldB b = true) : (97 ≤ b.toNat ∧ b.toNat ≤ 122) ∨ (48 ≤ b.toNat ∧ b.toNat ≤ 57) := by
  unfold ldB at h
  simp only [Bool.or_eq_true, Bool.and_eq_true, decide_eq_true_eq] at h
  exact h
theorem ldn_ws {b : UInt8} (h : ldB b = true) : ws b = false := by
  have := ldn_facts h
  rw [wsN_iff]; omega
theorem ldn_low {b : UInt8} (h : ldB b = true) : lowB b = b := by
  have := ldn_facts h
  refine UInt8.toNat_inj.1 ?_
  rw [low_toNat, if_neg (by omega)]
theorem ldn_nA : ∀ s : List UInt8, (∀ b ∈ s, ldB b = true) → nA false s = s
  | [], _ => rfl
  | b :: s, h => by
    have hb := h b (List.mem_cons_self ..)
    rw [nA_no false s (ldn_ws hb), ldn_low hb, ldn_nA s (fun c hc => h c (List.mem_cons_of_mem _ hc))]
    rfl
theorem ldn_core {s : List UInt8} (h : ∀ b ∈ s, ldB b = true) : Core s := by
  by_cases hn : s = []
  · exact .inl hn
  · refine .inr ⟨?_, s.dropLast, s.getLast hn, (List.dropLast_concat_getLast hn).symm, ldn_ws (h _ (List.getLast_mem hn))⟩
    cases s with
    | nil => exact absurd rfl hn
    | cons a t => exact ⟨a, t, rfl, ldn_ws (h a (List.mem_cons_self ..))⟩
theorem ldn_trim {s : List UInt8} (h : ∀ b ∈ s, ldB b = true) : trimL s = s := trim_of_core (ldn_core h)
/-- A label of letters and digits, as it is looked for. -/
theorem ldn_nrm {s : List UInt8} (h : ∀ b ∈ s, ldB b = true) : nrmL s = s := by
  rw [nrmL_ascii (fun b hb => by have := ldn_facts (h b hb); omega), ldn_trim h, ldn_nA s h]
theorem ldn_labS : ∀ (s r : List UInt8) (k : Nat), (∀ b ∈ s, ldB b = true) → k + s.length ≤ 999 → labS k false (s ++ 93 :: r) = k + s.length + 1
  | [], r, k, _, hk => labS_shut 93 r (by simp at hk; omega) rfl
  | b :: s, r, k, h, hk => by
    have hb := ldn_facts (h b (List.mem_cons_self ..))
    rw [List.length_cons] at hk ⊢
    rw [List.cons_append, labS_go b _ (by omega) (by omega) (by omega) (by omega), ldn_labS s r (k + 1) (fun c hc => h c (List.mem_cons_of_mem _ hc)) (by omega)]
    omega
theorem ldn_lbl (s r : List UInt8) (h : ∀ b ∈ s, ldB b = true) (hn : s ≠ []) (hl : s.length ≤ 999) : lblT (91 :: (s ++ 93 :: r)) = s ∧ lblN (91 :: (s ++ 93 :: r)) = s.length + 2 := by
  have hi : lblI (91 :: (s ++ 93 :: r)) = s := by
    unfold lblI
    rw [if_pos (by rw [pre1_cons]; rfl)]
    show (s ++ 93 :: r).take (labS 0 false (s ++ 93 :: r) - 1) = s
    rw [ldn_labS s r 0 h (by omega), Nat.zero_add, Nat.add_sub_cancel, List.take_left' rfl]
  unfold lblT lblN
  rw [hi, if_neg (by rw [ldn_trim h]; exact hn), if_neg (by rw [ldn_trim h]; exact hn)]
  exact ⟨rfl, rfl⟩
/-- A destination of letters and digits, up to what may not stand in one. -/
theorem ldn_dst (s r : List UInt8) (b : UInt8) (h : ∀ b ∈ s, ldB b = true) (hb : stdB b = false) : dstN (s ++ b :: r) = s.length ∧ dstT (s ++ b :: r) = s := by
  have hb60 : b.toNat ≠ 60 := fun e => by unfold stdB at hb; rw [e] at hb; exact absurd hb (by decide)
  have hp : ¬ hasPrefix (s ++ b :: r) [60] = true := by rw [no_ang s r b h hb60]; decide
  have hn : barN 0 (s ++ b :: r) = s.length + 1 := by rw [bar_letters 0 s _ h, bar_stop 0 b r hb, if_pos rfl, up_pos _ (by decide)]; omega
  unfold dstN dstT
  rw [if_neg hp, if_neg hp, hn, Nat.add_sub_cancel, List.take_left' rfl]
  exact ⟨rfl, plain_same _ fun b hb => by have := ld_facts (h b hb); exact ⟨this.2.2.2.1, this.2.2.2.2.1⟩⟩
theorem ldn_tls : ∀ (s r : List UInt8) (k : Bool), (∀ b ∈ s, ldB b = true) → tlsN 39 39 k (s ++ 39 :: r) = s.length + 1
  | [], r, k, _ => tls_last k r rfl
  | b :: s, r, k, h => by
    have hb := ldn_facts (h b (List.mem_cons_self ..))
    have e : b ≠ 39 := ne_by (by show _ ≠ 39; omega)
    rw [List.cons_append, tls_go k _ e e (by omega) (by omega), wid_one _ (by omega)]
    show upN 1 (tlsN 39 39 false (s ++ 39 :: r)) = _
    rw [ldn_tls s r false (fun c hc => h c (List.mem_cons_of_mem _ hc)), up_pos 1 (by omega), List.length_cons]
theorem ldn_tit (s r : List UInt8) (h : ∀ b ∈ s, ldB b = true) : titN (39 :: (s ++ 39 :: r)) = s.length + 2 ∧ titT (39 :: (s ++ 39 :: r)) = s := by
  have hn : titN (39 :: (s ++ 39 :: r)) = s.length + 2 := by
    unfold titN
    rw [show endC (39 :: (s ++ 39 :: r)) = 39 from rfl, if_neg (by decide)]
    show upN 1 (tlsN 39 39 false (s ++ 39 :: r)) = _
    rw [ldn_tls s r false h, up_pos 1 (by omega)]
  refine ⟨hn, ?_⟩
  unfold titT
  rw [hn, Nat.add_sub_cancel]
  show plainL ((s ++ 39 :: r).take _) = s
  rw [List.take_left' rfl]
  exact plain_same _ fun b hb => by have := ld_facts (h b hb); exact ⟨this.2.2.2.1, this.2.2.2.2.1⟩
theorem ldn_spc (one e : Bool) {b : UInt8} (l : List UInt8) (h : ldB b = true) : spcN one e (b :: l) = 0 := by
  have := ldn_facts h
  exact spc_none one e b l (by omega)
theorem ldn_spcs (one e : Bool) (s r : List UInt8) (h : ∀ b ∈ s, ldB b = true) (hn : s ≠ []) : spcN one e (s ++ r) = 0 := by
  cases s with
  | nil => exact absurd rfl hn
  | cons b s => exact ldn_spc one e _ (h b (List.mem_cons_self ..))
/-- What ends a definition: a blank, a title in ', an LF; an LF, and letters. -/
theorem ed_title (t r : List UInt8) (h : ∀ b ∈ t, ldB b = true) : edB (32 :: 39 :: (t ++ 39 :: 10 :: r)) = true ∧ edN (32 :: 39 :: (t ++ 39 :: 10 :: r)) = t.length + 4 ∧ edT (32 :: 39 :: (t ++ 39 :: 10 :: r)) = t := by
  obtain ⟨h1, h2⟩ := ldn_tit t (10 :: r) h
  have a : ttA (32 :: 39 :: (t ++ 39 :: 10 :: r)) = 1 := by
    unfold ttA
    rw [spc_one, spc_none true false 39 _ (by decide)]
  have m : ttM (32 :: 39 :: (t ++ 39 :: 10 :: r)) = t.length + 2 := by
    unfold ttM
    rw [a]
    exact h1
  have b : ttB (32 :: 39 :: (t ++ 39 :: 10 :: r)) = true := by
    unfold ttB
    rw [a, m]
    simp
  have e : ttE (32 :: 39 :: (t ++ 39 :: 10 :: r)) = 10 :: r := by
    unfold ttE
    rw [a, m, show 1 + (t.length + 2) = (t.length + 1) + 1 + 1 by omega, List.drop_succ_cons, List.drop_succ_cons]
    rw [show t ++ 39 :: 10 :: r = (t ++ [39]) ++ 10 :: r by simp, List.drop_left' (by simp)]
  have k : ttK (32 :: 39 :: (t ++ 39 :: 10 :: r)) = true := by
    unfold ttK
    rw [b, e]
    rfl
  have l : lneN (10 :: r) = 1 := rfl
  unfold edB edN edT ttN ttT
  rw [k, b, a, m, e, l]
  exact ⟨rfl, by simp; omega, h2⟩
theorem ed_plain (b : UInt8) (r : List UInt8) (h : ldB b = true) : edB (10 :: b :: r) = true ∧ edN (10 :: b :: r) = 1 ∧ edT (10 :: b :: r) = [] := by
  have hb := ldn_facts h
  have a : ttA (10 :: b :: r) = 1 := by
    unfold ttA
    show spcN true true (b :: r) + 1 = 1
    rw [ldn_spc true true r h]
  have m : ttM (10 :: b :: r) = 0 := by
    unfold ttM
    rw [a]
    show titN (b :: r) = 0
    unfold titN
    rw [if_pos]
    unfold endC
    show (if b = 34 ∨ b = 39 then b.toNat else if b = 40 then 41 else 0) = 0
    have e1 : b ≠ 34 := ne_by (by show _ ≠ 34; omega)
    have e2 : b ≠ 39 := ne_by (by show _ ≠ 39; omega)
    have e3 : b ≠ 40 := ne_by (by show _ ≠ 40; omega)
    rw [if_neg (by rintro (e | e) <;> contradiction), if_neg e3]
  have k : ttK (10 :: b :: r) = false := by
    unfold ttK ttB
    rw [m]
    simp
  have l : lneN (10 :: b :: r) = 1 := rfl
  unfold edB edN edT
  rw [k, l]
  exact ⟨rfl, rfl, rfl⟩
/-- A definition of letters and digits: its label, one space, its destination, and whatever ends it. -/
theorem df_letters (s d x r : List UInt8) (c : UInt8) (hs : ∀ b ∈ s, ldB b = true) (hd : ∀ b ∈ d, ldB b = true) (ns : s ≠ []) (nd : d ≠ []) (ls : s.length ≤ 999) (hc : c = 32 ∨ c = 10) (b : UInt8) (hx : x = b :: r) (hb : stdB b = false) (he : edB x = true) :
    dfB (91 :: (s ++ 93 :: 58 :: c :: (d ++ x))) = true ∧ dfL (91 :: (s ++ 93 :: 58 :: c :: (d ++ x))) = s ∧ dfD (91 :: (s ++ 93 :: 58 :: c :: (d ++ x))) = d ∧ dfT (91 :: (s ++ 93 :: 58 :: c :: (d ++ x))) = edT x ∧ dfN (91 :: (s ++ 93 :: 58 :: c :: (d ++ x))) = s.length + d.length + 4 + edN x := by
  obtain ⟨L, hL⟩ : ∃ L, 91 :: (s ++ 93 :: 58 :: c :: (d ++ x)) = L := ⟨_, rfl⟩
  obtain ⟨l1, l2⟩ := ldn_lbl s (58 :: c :: (d ++ x)) hs ns ls
  obtain ⟨d1, d2⟩ := ldn_dst d r b hd hb
  rw [← hx] at d1 d2
  rw [hL] at l1 l2 ⊢
  have D2 : L.drop (s.length + 2) = 58 :: c :: (d ++ x) := by
    rw [← hL, List.drop_succ_cons, show s ++ 93 :: 58 :: c :: (d ++ x) = (s ++ [93]) ++ 58 :: c :: (d ++ x) by simp, List.drop_left' (by simp)]
  have D3 : L.drop (s.length + 2 + 1) = c :: (d ++ x) := by rw [← List.drop_drop, D2]; rfl
  have hC : dfC L = true := by
    unfold dfC
    rw [l2, D2, pre1_cons]
    simp
  have sp : spcN true false (c :: (d ++ x)) = 1 := by
    rcases hc with rfl | rfl
    · rw [spc_one, ldn_spcs true false d x hd nd]
    · show spcN true true (d ++ x) + 1 = 1
      rw [ldn_spcs true true d x hd nd]
  have hA : dfA L = s.length + 4 := by unfold dfA; rw [l2, D3, sp]
  have D4 : L.drop (s.length + 4) = d ++ x := by rw [show s.length + 4 = s.length + 2 + 1 + 1 by omega, ← List.drop_drop, D3]; rfl
  have hM : dfM L = d.length := by unfold dfM; rw [hA, D4, d1]
  have hE : dfE L = x := by unfold dfE; rw [hA, hM, ← List.drop_drop, D4, List.drop_left' rfl]
  have hB : dfB L = true := by
    unfold dfB
    rw [hC, hM, hE, he, decide_eq_false (fun e => nd (List.eq_nil_of_length_eq_zero e))]
    rfl
  unfold dfL dfD dfT dfN
  rw [if_pos hB, if_pos hB, if_pos hB, if_pos hB, l1, hA, hM, hE, D4, d2, ldn_nrm hs]
  exact ⟨hB, rfl, rfl, rfl, by omega⟩
/-- With a title. -/
theorem df_titled (s d t r : List UInt8) (hs : ∀ b ∈ s, ldB b = true) (hd : ∀ b ∈ d, ldB b = true) (ht : ∀ b ∈ t, ldB b = true) (ns : s ≠ []) (nd : d ≠ []) (ls : s.length ≤ 999) :
    dfL (91 :: (s ++ 93 :: 58 :: 32 :: (d ++ 32 :: 39 :: (t ++ 39 :: 10 :: r)))) = s ∧ dfD (91 :: (s ++ 93 :: 58 :: 32 :: (d ++ 32 :: 39 :: (t ++ 39 :: 10 :: r)))) = d ∧ dfT (91 :: (s ++ 93 :: 58 :: 32 :: (d ++ 32 :: 39 :: (t ++ 39 :: 10 :: r)))) = t ∧ dfN (91 :: (s ++ 93 :: 58 :: 32 :: (d ++ 32 :: 39 :: (t ++ 39 :: 10 :: r)))) = s.length + d.length + t.length + 8 := by
  obtain ⟨e1, e2, e3⟩ := ed_title t r ht
  obtain ⟨_, h2, h3, h4, h5⟩ := df_letters s d (32 :: 39 :: (t ++ 39 :: 10 :: r)) (39 :: (t ++ 39 :: 10 :: r)) 32 hs hd ns nd ls (.inl rfl) 32 rfl (by decide) e1
  rw [e3] at h4
  rw [e2] at h5
  exact ⟨h2, h3, h4, by rw [h5]; omega⟩
/-- Without one. -/
theorem df_alone (s d r : List UInt8) (c b : UInt8) (hs : ∀ b ∈ s, ldB b = true) (hd : ∀ b ∈ d, ldB b = true) (ns : s ≠ []) (nd : d ≠ []) (ls : s.length ≤ 999) (hc : c = 32 ∨ c = 10) (hb : ldB b = true) :
    dfL (91 :: (s ++ 93 :: 58 :: c :: (d ++ 10 :: b :: r))) = s ∧ dfD (91 :: (s ++ 93 :: 58 :: c :: (d ++ 10 :: b :: r))) = d ∧ dfT (91 :: (s ++ 93 :: 58 :: c :: (d ++ 10 :: b :: r))) = [] ∧ dfN (91 :: (s ++ 93 :: 58 :: c :: (d ++ 10 :: b :: r))) = s.length + d.length + 5 := by
  obtain ⟨e1, e2, e3⟩ := ed_plain b r hb
  obtain ⟨_, h2, h3, h4, h5⟩ := df_letters s d (10 :: b :: r) (b :: r) c hs hd ns nd ls hc 10 rfl (by decide) e1
  rw [e3] at h4
  rw [e2] at h5
  exact ⟨h2, h3, h4, by rw [h5]⟩
/-- Two of one label, one behind the other. -/
theorem dfs_two (s d t : List UInt8) (hs : ∀ b ∈ s, ldB b = true) (hd : ∀ b ∈ d, ldB b = true) (ht : ∀ b ∈ t, ldB b = true) (ns : s ≠ []) (nd : d ≠ []) (ls : s.length ≤ 999) :
    dfsL (91 :: (s ++ 93 :: 58 :: 32 :: (d ++ 32 :: 39 :: (t ++ 39 :: 10 :: 91 :: (s ++ 93 :: 58 :: 32 :: ([111, 116, 104, 101, 114] ++ 10 :: 101 :: [110, 100])))))) = [(s, d, t), (s, [111, 116, 104, 101, 114], [])] ∧
    dfrL (91 :: (s ++ 93 :: 58 :: 32 :: (d ++ 32 :: 39 :: (t ++ 39 :: 10 :: 91 :: (s ++ 93 :: 58 :: 32 :: ([111, 116, 104, 101, 114] ++ 10 :: 101 :: [110, 100])))))) = [101, 110, 100] := by
  obtain ⟨R, hR⟩ : ∃ R, 91 :: (s ++ 93 :: 58 :: 32 :: ([111, 116, 104, 101, 114] ++ 10 :: 101 :: [110, 100])) = R := ⟨_, rfl⟩
  obtain ⟨b1, b2, b3, b4⟩ := df_alone s [111, 116, 104, 101, 114] [110, 100] 32 101 hs (by decide) ns (by decide) ls (.inl rfl) (by decide)
  rw [hR] at b1 b2 b3 b4 ⊢
  obtain ⟨a1, a2, a3, a4⟩ := df_titled s d t R hs hd ht ns nd ls
  obtain ⟨L, hL⟩ : ∃ L, 91 :: (s ++ 93 :: 58 :: 32 :: (d ++ 32 :: 39 :: (t ++ 39 :: 10 :: R))) = L := ⟨_, rfl⟩
  rw [hL] at a1 a2 a3 a4 ⊢
  have dL : L.drop (s.length + d.length + t.length + 8) = R := by
    have e : L = (91 :: (s ++ 93 :: 58 :: 32 :: (d ++ 32 :: 39 :: (t ++ 39 :: [10])))) ++ R := by rw [← hL]; simp
    rw [e, List.drop_left' (by simp; omega)]
  have dR : R.drop (s.length + 5 + 5) = [101, 110, 100] := by
    have e : R = (91 :: (s ++ 93 :: 58 :: 32 :: [111, 116, 104, 101, 114, 10])) ++ [101, 110, 100] := by rw [← hR]; simp
    rw [e, List.drop_left' (by simp)]
  obtain ⟨s1, s2⟩ := dfs_step (l := L) (by rw [a4]; omega)
  obtain ⟨t1, t2⟩ := dfs_step (l := R) (by rw [b4]; omega)
  obtain ⟨u1, u2⟩ := dfs_stop (l := [101, 110, 100]) (by decide +kernel)
  have b4' : dfN R = s.length + 5 + 5 := b4
  rw [s1, s2, a1, a2, a3, a4, dL, t1, t2, b1, b2, b3, b4', dR, u1, u2]
  exact ⟨rfl, rfl⟩
end Go.Proofs.YtolpmdicilbpfaaGreatDoor

/-
  Plain lists of bytes: what is told of a text's beginning doesn't hang on what stands behind it. No program in sight.
-/
namespace Go.Proofs.YtolpmdicilbpfaaGreatDoor
open Go Go.Lib

theorem nz_of {a b : Nat} (e : a = b) (h : b ≠ 0) : a ≠ 0 := by rw [e]; exact h
/-- Two texts begin with the same t bytes. -/
def Agr (t : Nat) (l k : List UInt8) : Prop := l.take t = k.take t
theorem Agr.drop {t : Nat} {l k : List UInt8} (h : Agr t l k) (i : Nat) : Agr (t - i) (l.drop i) (k.drop i) := by
  unfold Agr at *
  rw [← List.drop_take, ← List.drop_take, h]
theorem Agr.less {t u : Nat} {l k : List UInt8} (h : Agr t l k) (hu : u ≤ t) : Agr u l k := by
  unfold Agr at *
  have := congrArg (List.take u) h
  rwa [List.take_take, List.take_take, Nat.min_eq_left hu] at this
theorem agr_nil {t : Nat} {k : List UInt8} (h : Agr (t + 1) [] k) : k = [] := by
  cases k with
  | nil => rfl
  | cons b k => exact absurd h (by simp [Agr])
theorem agr_cons {t : Nat} {b : UInt8} {l k : List UInt8} (h : Agr (t + 1) (b :: l) k) : ∃ k', k = b :: k' ∧ Agr t l k' := by
  cases k with
  | nil => exact absurd h (by simp [Agr])
  | cons c k =>
    unfold Agr at h
    rw [List.take_succ_cons, List.take_succ_cons] at h
    injection h with h1 h2
    subst h1
    exact ⟨k, rfl, h2⟩
theorem agr_own {t : Nat} (l m : List UInt8) (h : t ≤ l.length) : Agr t l (l.take t ++ m) := by
  unfold Agr
  rw [List.take_append_of_le_length (by rw [List.length_take]; omega), List.take_take, Nat.min_self]

theorem fr_same {p : UInt8 → Bool} {t : Nat} {l k : List UInt8} (h : Agr t l k) (ht : 0 < t) : frP p k = frP p l := by
  obtain ⟨u, rfl⟩ : ∃ u, t = u + 1 := ⟨t - 1, by omega⟩
  cases l with
  | nil => rw [agr_nil h]
  | cons b l =>
    obtain ⟨k', rfl, _⟩ := agr_cons h
    rfl
theorem cnt_same {p : UInt8 → Bool} : ∀ {t : Nat} {l k : List UInt8}, Agr t l k → cntP p l < t → cntP p k = cntP p l
  | t, [], k, h, ht => by
    obtain ⟨u, rfl⟩ : ∃ u, t = u + 1 := ⟨t - 1, by omega⟩
    rw [agr_nil h]
  | t, b :: l, k, h, ht => by
    obtain ⟨u, rfl⟩ : ∃ u, t = u + 1 := ⟨t - 1, by omega⟩
    obtain ⟨k', rfl, h2⟩ := agr_cons h
    by_cases hb : p b = true
    · rw [cntP_yes _ hb] at ht ⊢
      rw [cntP_yes _ hb, cnt_same h2 (by omega)]
    · have hb2 : p b = false := by simpa using hb
      rw [cntP_no _ hb2, cntP_no _ hb2]
theorem pre_same : ∀ {t : Nat} {l k q : List UInt8}, Agr t l k → q.length ≤ t → hasPrefix k q = hasPrefix l q
  | t, l, k, [], _, _ => by cases l <;> cases k <;> rfl
  | t, l, k, c :: q, h, ht => by
    rw [List.length_cons] at ht
    obtain ⟨u, rfl⟩ : ∃ u, t = u + 1 := ⟨t - 1, by omega⟩
    cases l with
    | nil => rw [agr_nil h]
    | cons b l =>
      obtain ⟨k', rfl, h2⟩ := agr_cons h
      have ih : q.isPrefixOf k' = q.isPrefixOf l := pre_same h2 (by omega)
      show (c == b && q.isPrefixOf k') = (c == b && q.isPrefixOf l)
      rw [ih]
theorem occ_same {t : Nat} {l k q : List UInt8} {j : Nat} (h : Agr t l k) (ht : j + q.length ≤ t) : occAt k q j = occAt l q j := pre_same (h.drop j) (by omega)

/-! ### Up to something -/
theorem index_of {l q : List UInt8} {i : Nat} (h : index l q = i) : i ≤ l.length ∧ occAt l q i = true ∧ ∀ j, j < i → occAt l q j = false := by
  rcases index_spec l q with ⟨h1, _⟩ | ⟨n, h1, h2, h3, h4⟩
  · omega
  · have : n = i := by omega
    subst this
    exact ⟨h2, h3, h4⟩
theorem upA_some {k : Nat} {q l : List UInt8} (h : upA k q l ≠ 0) : ∃ i : Nat, index (l.drop k) q = i ∧ upA k q l = k + i + q.length := by
  unfold upA at h ⊢
  by_cases c : index (l.drop k) q = -1
  · rw [if_pos c] at h
    exact absurd rfl h
  · have := index_ge (l.drop k) q
    refine ⟨(index (l.drop k) q).toNat, by omega, ?_⟩
    rw [if_neg c]
theorem upA_same {k h : Nat} {q l m : List UInt8} (hq : q ≠ []) (e : upA k q l = h) (h0 : h ≠ 0) (a : Agr h l m) (hl : h ≤ l.length) : upA k q m = h := by
  obtain ⟨i, h1, h2⟩ := upA_some (nz_of e h0)
  rw [e] at h2
  obtain ⟨h3, h4, h5⟩ := index_of h1
  have hq1 := List.length_pos_iff.2 hq
  have hm : h ≤ m.length := by
    have := congrArg List.length a
    rw [List.length_take, List.length_take] at this
    omega
  have b := a.drop k
  have h6 : index (m.drop k) q = i := index_first (by rw [List.length_drop]; omega) (by rw [occ_same b (by omega)]; exact h4) (fun j hj => by rw [occ_same b (by omega)]; exact h5 j hj)
  unfold upA
  rw [h6, if_neg (by omega), Int.toNat_natCast, h2]

/-! ### Elements -/
theorem rAt1_att {b : UInt8} (h : rAt1 b = true) : rAtt b = true := by
  unfold rAt1 at h
  unfold rAtt
  simp only [Bool.or_eq_true, decide_eq_true_eq] at *
  rcases h with h | h | h
  · exact .inl (.inl h)
  · exact .inr (.inl h)
  · exact .inr (.inr (.inl h))
theorem rLet_nam {b : UInt8} (h : rLet b = true) : rNam b = true := by
  unfold rNam
  rw [h]
  rfl
theorem fr_cnt {p q : UInt8 → Bool} (hpq : ∀ b, p b = true → q b = true) {l : List UInt8} (h : frP p l = true) : cntP q l ≠ 0 := by
  cases l with
  | nil => cases h
  | cons b l =>
    rw [cntP_yes _ (hpq b h)]
    omega
theorem att_zero {l : List UInt8} : attN l = 0 ↔ frP rAt1 l = false := by
  unfold attN
  by_cases h : frP rAt1 l = true
  · rw [if_pos h]
    exact ⟨fun e => absurd e (fr_cnt (fun _ => rAt1_att) h), fun e => by rw [e] at h; cases h⟩
  · rw [if_neg h]
    exact ⟨fun _ => by simpa using h, fun _ => rfl⟩
theorem nam_same {t : Nat} {l k : List UInt8} (h : Agr t l k) (ht : namN l < t) : namN k = namN l := by
  unfold namN at ht ⊢
  rw [fr_same h (by omega)]
  split
  · next c => rw [if_pos c] at ht; exact cnt_same h ht
  · rfl
theorem att_same {t : Nat} {l k : List UInt8} (h : Agr t l k) (ht : attN l < t) : attN k = attN l := by
  unfold attN at ht ⊢
  rw [fr_same h (by omega)]
  split
  · next c => rw [if_pos c] at ht; exact cnt_same h ht
  · rfl
theorem val_same {t : Nat} {l k : List UInt8} (h : Agr t l k) (h0 : valN l ≠ 0) (ht : valN l < t) : valN k = valN l := by
  obtain ⟨u, rfl⟩ : ∃ u, t = u + 1 := ⟨t - 1, by omega⟩
  cases l with
  | nil => exact absurd rfl h0
  | cons b l =>
    obtain ⟨k', rfl, _⟩ := agr_cons h
    have hl := valN_le (b :: l)
    have e1 : valN (b :: l) = if b.toNat = 34 ∨ b.toNat = 39 then upA 1 [b] (b :: l) else cntP rVal (b :: l) := rfl
    have e2 : valN (b :: k') = if b.toNat = 34 ∨ b.toNat = 39 then upA 1 [b] (b :: k') else cntP rVal (b :: k') := rfl
    by_cases c : b.toNat = 34 ∨ b.toNat = 39
    · rw [if_pos c] at e1 e2
      rw [e2, e1]
      rw [e1] at h0 ht hl
      exact upA_same (by simp) rfl h0 (h.less (by omega)) hl
    · rw [if_neg c] at e1 e2
      rw [e2, e1]
      rw [e1] at ht
      exact cnt_same h ht
/-- No = behind what is left, and spaces. -/
def noEq (l : List UInt8) : Prop := frP (fun b => decide (b.toNat = 61)) (l.drop (cntP rSpc l)) = false
theorem eq_not_att {l : List UInt8} (h : frP (fun b => decide (b.toNat = 61)) l = true) : attN l = 0 := by
  rw [att_zero]
  cases l with
  | nil => rfl
  | cons b l =>
    have : b.toNat = 61 := of_decide_eq_true h
    show rAt1 b = false
    unfold rAt1 rLet
    rw [decide_eq_false (by omega), decide_eq_false (by omega), decide_eq_false (by omega)]
    rfl
theorem eq_no_atr {l : List UInt8} (h : frP (fun b => decide (b.toNat = 61)) (l.drop (cntP rSpc l)) = true) : atrN l = 0 := by
  have hm : atrM l = 0 := eq_not_att h
  unfold atrN
  by_cases c : atrA l = 0
  · rw [if_pos c]
  · rw [if_neg c, if_pos hm]
theorem atr_min {l : List UInt8} (h : atrN l ≠ 0) : cntP rSpc l + 1 ≤ atrN l := by
  unfold atrN at h ⊢
  split
  · next c => rw [if_pos c] at h; exact absurd rfl h
  · next c =>
    rw [if_neg c] at h
    split
    · next c2 => rw [if_pos c2] at h; exact absurd rfl h
    · next c2 =>
      have : atrA l = cntP rSpc l := rfl
      omega
theorem ats_same : ∀ (n : Nat) {t : Nat} {l k : List UInt8}, l.length ≤ n → Agr t l k → noEq (l.drop (atsN l)) → atsN l + cntP rSpc (l.drop (atsN l)) < t → atsN k = atsN l := by
  intro n
  induction n with
  | zero =>
    intro t l k hn h _ ht
    have : l = [] := List.length_eq_zero_iff.1 (by omega)
    subst this
    obtain ⟨u, rfl⟩ : ∃ u, t = u + 1 := ⟨t - 1, by omega⟩
    rw [agr_nil h]
  | succ n ih =>
    intro t l k hn h hq ht
    have hA : atrA l = cntP rSpc l := rfl
    have hA' : atrA k = cntP rSpc k := rfl
    have hM : atrM l = attN (l.drop (atrA l)) := rfl
    have hM' : atrM k = attN (k.drop (atrA k)) := rfl
    by_cases c0 : atrN l = 0
    · rw [ats_stop c0, List.drop_zero, Nat.zero_add] at ht
      rw [ats_stop c0]
      have eA : atrA k = atrA l := by rw [hA, hA']; exact cnt_same h ht
      refine ats_stop ?_
      unfold atrN at c0 ⊢
      rw [eA]
      split
      · rfl
      · next c1 =>
        rw [if_neg c1] at c0
        have : atrM l = 0 := by
          by_cases c2 : atrM l = 0
          · exact c2
          · rw [if_neg c2] at c0
            omega
        have e : atrM k = 0 := by
          rw [hM', eA]
          rw [hM] at this
          rw [att_zero] at this ⊢
          rw [fr_same (h.drop (atrA l)) (by omega)]
          exact this
        rw [if_pos e]
    · have hs := ats_step c0
      rw [hs, ← List.drop_drop] at hq ht
      rw [hs]
      -- the attribute's own end stands ahead of t
      have en : atrN l = if atrA l = 0 then 0 else if atrM l = 0 then 0 else atrA l + atrM l + asgN (l.drop (atrA l + atrM l)) := rfl
      have c1 : ¬ atrA l = 0 := fun e => c0 (by rw [en, if_pos e])
      have c2 : ¬ atrM l = 0 := fun e => c0 (by rw [en, if_neg c1, if_pos e])
      rw [if_neg c1, if_neg c2] at en
      have eA : atrA k = atrA l := by rw [hA, hA']; exact cnt_same h (by rw [← hA]; omega)
      have eM : atrM k = atrM l := by rw [hM', hM, eA]; exact att_same (h.drop _) (by rw [← hM]; omega)
      obtain ⟨q, hqe⟩ : ∃ q, l.drop (atrA l + atrM l) = q := ⟨_, rfl⟩
      obtain ⟨q', hqe'⟩ : ∃ q', k.drop (atrA l + atrM l) = q' := ⟨_, rfl⟩
      have hd := h.drop (atrA l + atrM l)
      rw [hqe, hqe'] at hd
      rw [hqe] at en
      have gA : asgA q = cntP rSpc q := rfl
      have gA' : asgA q' = cntP rSpc q' := rfl
      have gQ : asgQ q = frP (fun b => decide (b.toNat = 61)) (q.drop (asgA q)) := rfl
      have gQ' : asgQ q' = frP (fun b => decide (b.toNat = 61)) (q'.drop (asgA q')) := rfl
      have gC : asgC q = asgA q + 1 + cntP rSpc (q.drop (asgA q + 1)) := rfl
      have gC' : asgC q' = asgA q' + 1 + cntP rSpc (q'.drop (asgA q' + 1)) := rfl
      have gV : asgV q = valN (q.drop (asgC q)) := rfl
      have gV' : asgV q' = valN (q'.drop (asgC q')) := rfl
      have gN : asgN q = if asgQ q = true then (if asgV q = 0 then 0 else asgC q + asgV q) else 0 := rfl
      have gN' : asgN q' = if asgQ q' = true then (if asgV q' = 0 then 0 else asgC q' + asgV q') else 0 := rfl
      have eN : asgN q' = asgN q := by
        by_cases d1 : asgQ q = true
        · by_cases d2 : asgV q = 0
          · -- an = without a value: then it stands behind all attributes
            rw [if_pos d1, if_pos d2] at gN
            have z : atrN q = 0 := eq_no_atr (by rw [← gA, ← gQ]; exact d1)
            have e1 : atrN l = atrA l + atrM l := by rw [en, gN, Nat.add_zero]
            rw [e1, hqe, ats_stop z, List.drop_zero] at hq
            unfold noEq at hq
            rw [← gA, ← gQ, d1] at hq
            cases hq
          · rw [if_pos d1, if_neg d2] at gN
            have a1 : asgA q' = asgA q := by rw [gA', gA]; exact cnt_same hd (by rw [← gA]; omega)
            have b1 : asgQ q' = true := by rw [gQ', a1, fr_same (hd.drop _) (by omega), ← gQ]; exact d1
            have c3 : asgC q' = asgC q := by rw [gC', gC, a1, cnt_same (hd.drop _) (by omega)]
            have v1 : asgV q' = asgV q := by rw [gV', gV, c3]; exact val_same (hd.drop _) (by rw [← gV]; exact d2) (by rw [← gV]; omega)
            rw [gN', gN, if_pos b1, if_neg (by rw [v1]; exact d2), c3, v1]
        · rw [if_neg d1] at gN
          have e1 : atrN l = atrA l + atrM l := by rw [en, gN, Nat.add_zero]
          rw [e1, hqe] at ht
          have vis : atrA l + atrM l + asgA q < t := by
            by_cases z : atrN q = 0
            · rw [ats_stop z, List.drop_zero, ← gA] at ht
              omega
            · have := atr_min z
              rw [ats_step z] at ht
              omega
          have a1 : asgA q' = asgA q := by rw [gA', gA]; exact cnt_same hd (by rw [← gA]; omega)
          have b1 : ¬ asgQ q' = true := by rw [gQ', a1, fr_same (hd.drop _) (by omega), ← gQ]; exact d1
          rw [gN', gN, if_neg b1]
      have eT : atrN k = atrN l := by
        have : atrN k = if atrA k = 0 then 0 else if atrM k = 0 then 0 else atrA k + atrM k + asgN (k.drop (atrA k + atrM k)) := rfl
        rw [this, eA, eM, if_neg c1, if_neg c2, hqe', eN, en]
      have hl := atrN_le l
      rw [ats_step (by rw [eT]; exact c0), eT]
      congr 1
      exact ih (by rw [List.length_drop]; omega) (h.drop _) hq (by omega)
theorem clo_some {n : Nat} {l : List UInt8} (h : cloN n l ≠ 0) : frP (fun b => decide (b.toNat = 62)) (l.drop n) = true ∧ cloN n l = n + 1 := by
  unfold cloN at h ⊢
  split
  · next c => exact ⟨c, rfl⟩
  · next c => rw [if_neg c] at h; exact absurd rfl h
theorem clo_same {n t : Nat} {l k : List UInt8} (h : Agr t l k) (ht : n < t) : cloN n k = cloN n l := by
  unfold cloN
  rw [fr_same (h.drop n) (by omega)]
theorem end_same {t : Nat} {l k : List UInt8} (e : endN l = t) (h0 : t ≠ 0) (h : Agr t l k) : endN k = t := by
  unfold endN at e
  by_cases c : namN (l.drop 2) = 0
  · rw [if_pos c] at e
    exact absurd e.symm h0
  · rw [if_neg c] at e
    obtain ⟨_, e2⟩ := clo_some (nz_of e h0)
    rw [e] at e2
    have n1 : namN (k.drop 2) = namN (l.drop 2) := nam_same (h.drop 2) (by omega)
    unfold endN
    rw [n1, if_neg c, cnt_same (h.drop _) (by omega), clo_same h (by omega)]
    exact e
theorem beg_same {t : Nat} {l k : List UInt8} (e : begN l = t) (h0 : t ≠ 0) (h : Agr t l k) : begN k = t := by
  have bA : begA l = 1 + namN (l.drop 1) + atsN (l.drop (1 + namN (l.drop 1))) := rfl
  have bA' : begA k = 1 + namN (k.drop 1) + atsN (k.drop (1 + namN (k.drop 1))) := rfl
  have bB : begB l = begA l + cntP rSpc (l.drop (begA l)) := rfl
  have bB' : begB k = begA k + cntP rSpc (k.drop (begA k)) := rfl
  have bC : begC l = if frP (fun b => decide (b.toNat = 47)) (l.drop (begB l)) = true then begB l + 1 else begB l := rfl
  have bC' : begC k = if frP (fun b => decide (b.toNat = 47)) (k.drop (begB k)) = true then begB k + 1 else begB k := rfl
  unfold begN at e
  by_cases c : namN (l.drop 1) = 0
  · rw [if_pos c] at e
    exact absurd e.symm h0
  · rw [if_neg c] at e
    obtain ⟨e1, e2⟩ := clo_some (nz_of e h0)
    rw [e] at e2
    have ge : begB l ≤ begC l := by rw [bC]; split <;> omega
    have n1 : namN (k.drop 1) = namN (l.drop 1) := nam_same (h.drop 1) (by omega)
    have ne : noEq ((l.drop (1 + namN (l.drop 1))).drop (atsN (l.drop (1 + namN (l.drop 1))))) := by
      have e0 : (l.drop (1 + namN (l.drop 1))).drop (atsN (l.drop (1 + namN (l.drop 1)))) = l.drop (begA l) := by rw [List.drop_drop, ← bA]
      unfold noEq
      rw [e0, List.drop_drop, ← bB]
      by_cases d : frP (fun b => decide (b.toNat = 47)) (l.drop (begB l)) = true
      · cases hl : l.drop (begB l) with
        | nil => rfl
        | cons b r =>
          rw [hl] at d
          have : b.toNat = 47 := of_decide_eq_true d
          exact decide_eq_false (by omega)
      · rw [if_neg d] at bC
        rw [bC] at e1
        cases hl : l.drop (begB l) with
        | nil => rfl
        | cons b r =>
          rw [hl] at e1
          have : b.toNat = 62 := of_decide_eq_true e1
          exact decide_eq_false (by omega)
    have a1 : begA k = begA l := by
      rw [bA', bA, n1]
      congr 1
      exact ats_same _ (Nat.le_refl _) (h.drop _) ne (by
        rw [List.drop_drop, ← bA]
        omega)
    have b1 : begB k = begB l := by rw [bB', bB, a1, cnt_same (h.drop _) (by omega)]
    have c1 : begC k = begC l := by rw [bC', bC, b1, fr_same (h.drop _) (by omega)]
    unfold begN
    rw [n1, if_neg c, c1, clo_same h (by omega)]
    exact e
/-- What an element begins with. -/
theorem tag_begins {l : List UInt8} (h : tagN l ≠ 0) : ∃ b r, l = 60 :: b :: r ∧ (b.toNat = 47 ∨ rLet b = true) ∧ 3 ≤ tagN l := by
  unfold tagN at h ⊢
  cases l with
  | nil => exact absurd rfl h
  | cons a l =>
    cases l with
    | nil =>
      have e1 : hasPrefix [a] [60, 47] = false := Bool.and_false _
      rw [e1, if_neg (by decide)] at h
      by_cases c : hasPrefix [a] [60] = true
      · rw [if_pos c] at h
        exact absurd (by unfold begN; rw [if_pos (by rfl)]) h
      · rw [if_neg c] at h
        exact absurd rfl h
    | cons b r =>
      by_cases c1 : hasPrefix (a :: b :: r) [60, 47] = true
      · rw [if_pos c1] at h ⊢
        have hp := List.isPrefixOf_iff_prefix.1 c1
        obtain ⟨z, hz⟩ := hp
        injection hz with z1 z2
        injection z2 with z2 z3
        subst z1; subst z2
        refine ⟨_, _, rfl, .inl rfl, ?_⟩
        unfold endN at h ⊢
        split
        · next c => rw [if_pos c] at h; exact absurd rfl h
        · next c =>
          rw [if_neg c] at h
          have := (clo_some h).2
          omega
      · rw [if_neg c1] at h ⊢
        by_cases c2 : hasPrefix (a :: b :: r) [60] = true
        · rw [if_pos c2] at h ⊢
          have hp := List.isPrefixOf_iff_prefix.1 c2
          obtain ⟨z, hz⟩ := hp
          injection hz with z1 z2
          subst z1
          have hn : begN (60 :: b :: r) = if namN (b :: r) = 0 then 0 else cloN (begC (60 :: b :: r)) (60 :: b :: r) := rfl
          by_cases c : namN (b :: r) = 0
          · rw [hn, if_pos c] at h
            exact absurd rfl h
          · rw [hn, if_neg c] at h ⊢
            have e2 := (clo_some h).2
            have hA : begA (60 :: b :: r) = 1 + namN (b :: r) + atsN ((60 :: b :: r).drop (1 + namN (b :: r))) := rfl
            have hB : begA (60 :: b :: r) ≤ begB (60 :: b :: r) := Nat.le_add_right _ _
            have hC : begB (60 :: b :: r) ≤ begC (60 :: b :: r) := by unfold begC; split <;> omega
            refine ⟨_, _, rfl, .inr ?_, by omega⟩
            by_cases d : rLet b = true
            · exact d
            · exact absurd (by unfold namN; rw [if_neg (show ¬ frP rLet (b :: r) = true from d)]) c
        · rw [if_neg c2] at h
          exact absurd rfl h
theorem agr_two {t : Nat} {a b : UInt8} {r k : List UInt8} (h : Agr t (a :: b :: r) k) (ht : 2 ≤ t) : ∃ k', k = a :: b :: k' := by
  obtain ⟨u, rfl⟩ : ∃ u, t = u + 1 + 1 := ⟨t - 2, by omega⟩
  obtain ⟨k1, rfl, h2⟩ := agr_cons h
  obtain ⟨k2, rfl, _⟩ := agr_cons h2
  exact ⟨k2, rfl⟩
theorem tag_same {t : Nat} {l k : List UInt8} (e : tagN l = t) (h0 : t ≠ 0) (h : Agr t l k) : tagN k = t := by
  obtain ⟨b, r, hl, _, h3⟩ := tag_begins (nz_of e h0)
  rw [e] at h3
  unfold tagN at e ⊢
  rw [pre_same h (show ([60, 47] : List UInt8).length ≤ t by show 2 ≤ t; omega), pre_same h (show ([60] : List UInt8).length ≤ t by show 1 ≤ t; omega)]
  split
  · next c => rw [if_pos c] at e; exact end_same e h0 h
  · next c =>
    rw [if_neg c] at e
    split
    · next d => rw [if_pos d] at e; exact beg_same e h0 h
    · next d => rw [if_neg d] at e; exact absurd e.symm h0
/-- An element ends with a >. -/
theorem tag_ends {l : List UInt8} (h : tagN l ≠ 0) : l[tagN l - 1]? = some 62 := by
  have key : ∀ n, cloN n l ≠ 0 → l[cloN n l - 1]? = some 62 := fun n hn => by
    obtain ⟨h1, h2⟩ := clo_some hn
    rw [h2, Nat.add_sub_cancel]
    cases hd : l.drop n with
    | nil => rw [hd] at h1; cases h1
    | cons b r =>
      rw [hd] at h1
      have hb : b = 62 := UInt8.toNat_inj.1 (of_decide_eq_true h1)
      have := List.getElem?_drop (xs := l) (i := n) (j := 0)
      rw [hd, hb, Nat.add_zero] at this
      rw [← this]
      rfl
  unfold tagN endN begN at h ⊢
  split
  · next c =>
    rw [if_pos c] at h
    split
    · next d => rw [if_pos d] at h; exact absurd rfl h
    · next d => rw [if_neg d] at h; exact key _ h
  · next c =>
    rw [if_neg c] at h
    split
    · next d =>
      rw [if_pos d] at h
      split
      · next d => rw [if_pos d] at h; exact absurd rfl h
      · next d => rw [if_neg d] at h; exact key _ h
    · next d => rw [if_neg d] at h; exact absurd rfl h
end Go.Proofs.YtolpmdicilbpfaaGreatDoor

/-
  Plain lists of bytes: raw HTML and links don't hang on what stands behind them. No program in sight.
-/
namespace Go.Proofs.YtolpmdicilbpfaaGreatDoor
open Go Go.Lib

theorem pre_parts {a b : UInt8} {r q : List UInt8} {x y : UInt8} (h : hasPrefix (a :: b :: r) (x :: y :: q) = true) : a = x ∧ b = y := by
  obtain ⟨z, hz⟩ := List.isPrefixOf_iff_prefix.1 h
  injection hz with z1 z2
  injection z2 with z2 z3
  exact ⟨z1.symm, z2.symm⟩
theorem pre_second {a b : UInt8} {r q : List UInt8} {x y : UInt8} (h : b ≠ y) : hasPrefix (a :: b :: r) (x :: y :: q) = false := by
  cases c : hasPrefix (a :: b :: r) (x :: y :: q) with
  | false => rfl
  | true => exact absurd (pre_parts c).2 h
theorem pre_third {a b c : UInt8} {r q : List UInt8} {x y z : UInt8} (h : c ≠ z) : hasPrefix (a :: b :: c :: r) (x :: y :: z :: q) = false := by
  cases d : hasPrefix (a :: b :: c :: r) (x :: y :: z :: q) with
  | false => rfl
  | true =>
    obtain ⟨w, hw⟩ := List.isPrefixOf_iff_prefix.1 d
    injection hw with z1 z2
    injection z2 with z2 z3
    injection z3 with z3 z4
    exact absurd z3.symm h
/-- An element is raw HTML. -/
theorem htm_tag' {a b : UInt8} {r : List UInt8} (h1 : b ≠ 33) (h2 : b ≠ 63) : htmN (a :: b :: r) = tagN (a :: b :: r) := by
  unfold htmN
  rw [if_neg (by rw [pre_second h1]; decide), if_neg (by rw [pre_second h1]; decide), if_neg (by rw [pre_second h1]; decide), if_neg (by rw [pre_second h2]; decide), if_neg (by rw [pre_second h1]; decide), if_neg (by rw [pre_second h1]; decide)]
theorem let_not {b : UInt8} (h : b.toNat = 47 ∨ rLet b = true) : b ≠ 33 ∧ b ≠ 63 ∧ b ≠ 45 ∧ b ≠ 91 ∧ b ≠ 62 := by
  have h2 : b.toNat = 47 ∨ (97 ≤ b.toNat ∧ b.toNat ≤ 122) ∨ (65 ≤ b.toNat ∧ b.toNat ≤ 90) := by
    rcases h with h | h
    · exact .inl h
    · unfold rLet at h
      simp only [Bool.or_eq_true, decide_eq_true_eq] at h
      exact .inr h
  refine ⟨?_, ?_, ?_, ?_, ?_⟩
  all_goals
    intro e
    subst e
    revert h2
    decide
theorem htm_tag {l : List UInt8} (h : tagN l ≠ 0) : htmN l = tagN l := by
  obtain ⟨b, r, rfl, hb, _⟩ := tag_begins h
  exact htm_tag' (let_not hb).1 (let_not hb).2.1

theorem pre_long {l p q : List UInt8} (h : hasPrefix l (p ++ q) = true) : hasPrefix l p = true := by
  obtain ⟨z, hz⟩ := List.isPrefixOf_iff_prefix.1 h
  exact List.isPrefixOf_iff_prefix.2 ⟨q ++ z, by rw [← List.append_assoc]; exact hz⟩
theorem htm_same {t : Nat} {l k : List UInt8} (e : htmN l = t) (h0 : t ≠ 0) (h : Agr t l k) : htmN k = t := by
  have hl : t ≤ l.length := by rw [← e]; exact htmN_le l
  have le (q : List UInt8) (hq : q.length ≤ t) : hasPrefix k q = hasPrefix l q := pre_same h hq
  unfold htmN at e
  by_cases c1 : hasPrefix l [60, 33, 45, 45, 62] = true
  · rw [if_pos c1] at e
    unfold htmN
    rw [if_pos (by rw [le _ (by show 5 ≤ t; omega)]; exact c1)]
    exact e
  · rw [if_neg c1] at e
    by_cases c2 : hasPrefix l [60, 33, 45, 45, 45, 62] = true
    · rw [if_pos c2] at e
      unfold htmN
      rw [if_neg (by rw [le _ (by show 5 ≤ t; omega)]; exact c1), if_pos (by rw [le _ (by show 6 ≤ t; omega)]; exact c2)]
      exact e
    · rw [if_neg c2] at e
      by_cases c3 : hasPrefix l [60, 33, 45, 45] = true
      · rw [if_pos c3] at e
        obtain ⟨i, _, h2⟩ := upA_some (nz_of e h0)
        have h3 : ([45, 45, 62] : List UInt8).length = 3 := rfl
        rw [h3, e] at h2
        unfold htmN
        rw [if_neg (by rw [le _ (by show 5 ≤ t; omega)]; exact c1), if_neg (by rw [le _ (by show 6 ≤ t; omega)]; exact c2), if_pos (by rw [le _ (by show 4 ≤ t; omega)]; exact c3)]
        exact upA_same (by simp) e h0 h hl
      · rw [if_neg c3] at e
        by_cases c4 : hasPrefix l [60, 63] = true
        · rw [if_pos c4] at e
          obtain ⟨i, _, h2⟩ := upA_some (nz_of e h0)
          have h3 : ([63, 62] : List UInt8).length = 2 := rfl
          rw [h3, e] at h2
          have d4 : hasPrefix k [60, 63] = true := by rw [le _ (by show 2 ≤ t; omega)]; exact c4
          obtain ⟨z, rfl⟩ := List.isPrefixOf_iff_prefix.1 d4
          have hz : ([60, 63] : List UInt8) ++ z = 60 :: 63 :: z := rfl
          rw [hz] at h ⊢
          unfold htmN
          rw [if_neg (by rw [pre_second (by decide)]; decide), if_neg (by rw [pre_second (by decide)]; decide), if_neg (by rw [pre_second (by decide)]; decide), if_pos (by rfl)]
          exact upA_same (by simp) e h0 h hl
        · rw [if_neg c4] at e
          by_cases c5 : hasPrefix l [60, 33, 91, 67, 68, 65, 84, 65, 91] = true
          · rw [if_pos c5] at e
            obtain ⟨i, _, h2⟩ := upA_some (nz_of e h0)
            have h3 : ([93, 93, 62] : List UInt8).length = 3 := rfl
            rw [h3, e] at h2
            unfold htmN
            rw [if_neg (by rw [le _ (by show 5 ≤ t; omega)]; exact c1), if_neg (by rw [le _ (by show 6 ≤ t; omega)]; exact c2), if_neg (by rw [le _ (by show 4 ≤ t; omega)]; exact c3), if_neg (by rw [le _ (by show 2 ≤ t; omega)]; exact c4), if_pos (by rw [le _ (by show 9 ≤ t; omega)]; exact c5)]
            exact upA_same (by simp) e h0 h hl
          · rw [if_neg c5] at e
            by_cases c6 : hasPrefix l [60, 33] = true
            · rw [if_pos c6] at e
              have e6 := e
              unfold decN at e
              by_cases c7 : frP rLet (l.drop 2) = true
              · rw [if_pos c7] at e
                obtain ⟨i, h1, h2⟩ := upA_some (nz_of e h0)
                have h3 : ([62] : List UInt8).length = 1 := rfl
                rw [h3, e] at h2
                obtain ⟨z, rfl⟩ := List.isPrefixOf_iff_prefix.1 c6
                cases z with
                | nil => cases c7
                | cons b z =>
                  have hb := let_not (.inr (show rLet b = true from c7))
                  have hi : i ≠ 0 := fun hi => by
                    obtain ⟨_, ho, _⟩ := index_of h1
                    rw [hi] at ho
                    have : (62 == b && List.isPrefixOf [] z) = true := ho
                    rw [Bool.and_eq_true, beq_iff_eq] at this
                    exact hb.2.2.2.2 this.1.symm
                  have ez : ([60, 33] : List UInt8) ++ b :: z = 60 :: 33 :: b :: z := rfl
                  rw [ez] at h hl e
                  obtain ⟨u, rfl⟩ : ∃ u, t = u + 1 + 1 + 1 := ⟨t - 3, by omega⟩
                  obtain ⟨k1, rfl, g1⟩ := agr_cons h
                  obtain ⟨k2, rfl, g2⟩ := agr_cons g1
                  obtain ⟨k3, rfl, g3⟩ := agr_cons g2
                  unfold htmN decN
                  rw [if_neg (by rw [pre_third hb.2.2.1]; decide), if_neg (by rw [pre_third hb.2.2.1]; decide), if_neg (by rw [pre_third hb.2.2.1]; decide), if_neg (by rw [pre_second (by decide)]; decide), if_neg (by rw [pre_third hb.2.2.2.1]; decide), if_pos (by rfl), if_pos (show frP rLet ((60 :: 33 :: b :: k3).drop 2) = true from c7)]
                  exact upA_same (by simp) e (by omega) h hl
              · rw [if_neg c7] at e
                exact absurd e.symm h0
            · rw [if_neg c6] at e
              have hk := tag_same e h0 h
              rw [htm_tag (nz_of hk h0)]
              exact hk
theorem htm_own (l m : List UInt8) (h0 : htmN l ≠ 0) : htmN (l.take (htmN l) ++ m) = htmN l := htm_same rfl h0 (agr_own l m (htmN_le l))
theorem tag_own (l m : List UInt8) (h0 : tagN l ≠ 0) : tagN (l.take (tagN l) ++ m) = tagN l := tag_same rfl h0 (agr_own l m (tagN_le l))
theorem tag_first {l : List UInt8} (h : tagN l ≠ 0) : ∃ r, l = 60 :: r := by
  obtain ⟨b, r, hl, _⟩ := tag_begins h
  exact ⟨_, hl⟩

/-! ### Links -/
theorem aut_some {l : List UInt8} (h : autN l ≠ 0) : encT l ≠ [] ∧ autN l = (encT l).length + 2 := by
  unfold autN at h ⊢
  by_cases c : schB (encT l) = true
  · rw [if_pos c]
    refine ⟨fun e => ?_, rfl⟩
    rw [e] at c
    revert c
    decide
  · rw [if_neg c] at h ⊢
    by_cases d : adrB (encT l) = true
    · rw [if_pos d]
      refine ⟨fun e => ?_, rfl⟩
      rw [e] at d
      revert d
      decide
    · rw [if_neg d] at h
      exact absurd rfl h
theorem cnt_app_stop {p : UInt8 → Bool} : ∀ (l m : List UInt8), cntP p l < l.length → cntP p (l ++ m) = cntP p l
  | [], m, h => absurd h (by simp)
  | b :: l, m, h => by
    rw [List.cons_append]
    by_cases hb : p b = true
    · rw [cntP_yes _ hb, cntP_yes _ hb]
      rw [cntP_yes _ hb, List.length_cons] at h
      rw [cnt_app_stop l m (by omega)]
    · have hb2 : p b = false := by simpa using hb
      rw [cntP_no _ hb2, cntP_no _ hb2]
theorem enc_some {l : List UInt8} (h : encT l ≠ []) : ∃ r, l = 60 :: r ∧ cntP rLnk r < r.length ∧ r[cntP rLnk r]? = some 62 ∧ encT l = r.take (cntP rLnk r) := by
  unfold encT at h ⊢
  by_cases c : hasPrefix l [60] = true
  · rw [if_pos c] at h ⊢
    obtain ⟨r, rfl⟩ := List.isPrefixOf_iff_prefix.1 c
    have e1 : (([60] : List UInt8) ++ r).drop 1 = r := rfl
    rw [e1] at h ⊢
    by_cases d : frP (fun b => decide (b.toNat = 62)) (r.drop (cntP rLnk r)) = true
    · rw [if_pos d]
      refine ⟨r, rfl, frP_drop d, ?_, rfl⟩
      cases hd : r.drop (cntP rLnk r) with
      | nil => rw [hd] at d; cases d
      | cons b q =>
        rw [hd] at d
        have hb : b = 62 := UInt8.toNat_inj.1 (of_decide_eq_true d)
        have := List.getElem?_drop (xs := r) (i := cntP rLnk r) (j := 0)
        rw [hd, hb, Nat.add_zero] at this
        rw [← this]
        rfl
    · rw [if_neg d] at h
      exact absurd rfl h
  · rw [if_neg c] at h
    exact absurd rfl h
theorem enc_app {l : List UInt8} (m : List UInt8) (h : encT l ≠ []) : encT (l ++ m) = encT l := by
  obtain ⟨r, rfl, h1, h2, h3⟩ := enc_some h
  rw [h3]
  unfold encT
  rw [List.cons_append, if_pos (by show (60 == 60 && List.isPrefixOf [] (r ++ m)) = true; cases r ++ m <;> rfl)]
  have e1 : ((60 : UInt8) :: (r ++ m)).drop 1 = r ++ m := rfl
  rw [e1, cnt_app_stop r m h1, List.drop_append_of_le_length (by omega), List.take_append_of_le_length (by omega)]
  have h4 : r.drop (cntP rLnk r) = 62 :: r.drop (cntP rLnk r + 1) := by
    rw [List.drop_eq_getElem_cons h1]
    congr 1
    rw [List.getElem?_eq_getElem h1] at h2
    exact Option.some.inj h2
  rw [h4, if_pos (by rfl)]
theorem aut_own {l : List UInt8} (m : List UInt8) (h : autN l ≠ 0) : autN (l ++ m) = autN l := by
  obtain ⟨h1, _⟩ := aut_some h
  have e := enc_app m h1
  unfold autN
  rw [e]
theorem aut_ends {l : List UInt8} (h : autN l ≠ 0) : l[autN l - 1]? = some 62 ∧ autN l ≤ l.length := by
  obtain ⟨h1, h2⟩ := aut_some h
  obtain ⟨r, rfl, h3, h4, h5⟩ := enc_some h1
  rw [h2, h5, List.length_take, Nat.min_eq_left (by omega), List.length_cons]
  exact ⟨h4, by omega⟩
end Go.Proofs.YtolpmdicilbpfaaGreatDoor

/-
  Plain lists of bytes: links with a scheme, and code between as many signs. No program in sight.
-/
namespace Go.Proofs.YtolpmdicilbpfaaGreatDoor
open Go Go.Lib

/-! ### Links -/
/-- So many letters, a to j, from the beginning again and again. -/
def abcL (n : Nat) : List UInt8 := (List.range n).map (fun j => UInt8.ofNat (97 + j % 10))
theorem abc_succ (n : Nat) : abcL (n + 1) = abcL n ++ [UInt8.ofNat (97 + n % 10)] := by simp [abcL, List.range_succ]
theorem abc_len (n : Nat) : (abcL n).length = n := by simp [abcL]
theorem abc_byte : ∀ u : Fin 10, rLnk (UInt8.ofNat (97 + u.val)) = true ∧ rSch (UInt8.ofNat (97 + u.val)) = true ∧ rLet (UInt8.ofNat (97 + u.val)) = true ∧ notAt (UInt8.ofNat (97 + u.val)) = true ∧ rUsr (UInt8.ofNat (97 + u.val)) = true := by decide
theorem abc_mem {n : Nat} {b : UInt8} (h : b ∈ abcL n) : rLnk b = true ∧ rSch b = true ∧ rLet b = true ∧ notAt b = true ∧ rUsr b = true := by
  obtain ⟨j, _, rfl⟩ := List.mem_map.1 h
  exact abc_byte ⟨j % 10, Nat.mod_lt _ (by omega)⟩
theorem abc_first {n : Nat} (h : 0 < n) (r : List UInt8) : frP rLet (abcL n ++ r) = true := by
  cases e : abcL n with
  | nil =>
    have := abc_len n
    rw [e] at this
    simp at this
    omega
  | cons b l => exact (abc_mem (n := n) (by rw [e]; exact List.mem_cons_self ..)).2.2.1
theorem enc_link {u : List UInt8} (r : List UInt8) (h : ∀ b ∈ u, rLnk b = true) : encT (60 :: (u ++ 62 :: r)) = u := by
  unfold encT
  have e1 : ((60 : UInt8) :: (u ++ 62 :: r)).drop 1 = u ++ 62 :: r := rfl
  have e2 : cntP rLnk (u ++ 62 :: r) = u.length := by
    rw [cntP_app _ h, cntP_no _ (by decide), Nat.add_zero]
  rw [if_pos (by cases u <;> rfl), e1, e2, List.drop_left, if_pos (by rfl), List.take_left]
theorem sch_link (n : Nat) (s : List UInt8) : schB (abcL n ++ 58 :: s) = (decide (2 ≤ n) && decide (n ≤ 32)) := by
  have e : cntP rSch (abcL n ++ 58 :: s) = n := by
    rw [cntP_app _ (fun b hb => (abc_mem hb).2.1), cntP_no _ (by decide), abc_len]
    rfl
  have e2 : frP (fun b => decide (b.toNat = 58)) ((abcL n ++ 58 :: s).drop n) = true := by
    have : (abcL n ++ 58 :: s).drop n = 58 :: s := by
      have := List.drop_left (l₁ := abcL n) (l₂ := 58 :: s)
      rwa [abc_len] at this
    rw [this]
    rfl
  unfold schB
  rw [e, e2, Bool.and_true]
  by_cases c : 2 ≤ n
  · rw [abc_first (by omega), Bool.and_true]
  · rw [decide_eq_false c]
    rfl
theorem cntP_until {p : UInt8 → Bool} : ∀ {l : List UInt8} {k : Nat} {b : UInt8}, l[k]? = some b → p b = false → cntP p l ≤ k
  | [], k, b, h, _ => by simp at h
  | c :: l, 0, b, h, hb => by
    have : c = b := by simpa using h
    subst this
    rw [cntP_no _ hb]
    omega
  | c :: l, k + 1, b, h, hb => by
    have h2 : l[k]? = some b := by simpa using h
    have := cntP_until h2 hb
    rw [cntP]
    split <;> omega
theorem adr_link (n : Nat) (s : List UInt8) : adrB (abcL n ++ 58 :: s) = false := by
  obtain ⟨t, ht⟩ : ∃ t, abcL n ++ 58 :: s = t := ⟨_, rfl⟩
  have at_ : t[n]? = some 58 := by
    rw [← ht, List.getElem?_append_right (by rw [abc_len]; omega), abc_len, Nat.sub_self]
    rfl
  have ge : n + 1 ≤ cntP notAt t := by
    rw [← ht, cntP_app _ (fun b hb => (abc_mem hb).2.2.2.1), abc_len, cntP_yes _ (by decide)]
    omega
  have le : cntP rUsr (adrU t) ≤ n := cntP_until (b := 58) (by unfold adrU; rw [List.getElem?_take_of_lt (by omega)]; exact at_) (by decide)
  have len : n < (adrU t).length := by
    have := cntP_le notAt t
    unfold adrU
    rw [List.length_take]
    omega
  rw [ht]
  unfold adrB
  rw [decide_eq_false (show ¬ cntP rUsr (adrU t) = (adrU t).length by omega), Bool.and_false, Bool.false_and]

/-! ### Code -/
theorem up_len (a b : Nat) (n : Nat) : upN a (upN b n) = upN (a + b) n := up_up a b n
theorem cd_skip {k : Nat} (hk : k ≠ 0) : ∀ {a : List UInt8} (l : List UInt8), (∀ b ∈ a, rTik b = false) → cdE k (a ++ l) = upN a.length (cdE k l)
  | [], l, _ => by rw [List.nil_append, List.length_nil, up_zero]
  | b :: a, l, h => by
    have hb := h b (List.mem_cons_self ..)
    have e : cntP rTik (b :: a ++ l) = 0 := cntP_no _ hb
    rw [cdE_go (by simp) (by rw [e]; omega), e]
    show upN 1 (cdE k (a ++ l)) = _
    rw [cd_skip hk l (fun c hc => h c (List.mem_cons_of_mem _ hc)), up_len, List.length_cons, Nat.add_comm]
theorem tik_rep (k : Nat) (l : List UInt8) : cntP rTik (List.replicate k 96 ++ l) = k + cntP rTik l := by
  have := cntP_app (p := rTik) (a := List.replicate k 96) l (fun b hb => by rw [(List.mem_replicate.1 hb).2]; decide)
  rwa [List.length_replicate] at this
/-- A stretch of just as many. -/
theorem cd_rep {k : Nat} (hk : k ≠ 0) {l : List UInt8} (hl : noP rTik l) : cdE k (List.replicate k 96 ++ l) = 1 := by
  refine cdE_hit (fun e => ?_) (by rw [tik_rep, cntP_zero hl, Nat.add_zero])
  have := congrArg List.length e
  simp at this
  omega
/-- A stretch of one more. -/
theorem cd_more {k : Nat} : cdE k (List.replicate k 96 ++ [96]) = 0 := by
  have e : cntP rTik (List.replicate k 96 ++ [96]) = k + 1 := by rw [tik_rep]; rfl
  rw [cdE_go (by simp) (by rw [e]; omega), e, List.drop_eq_nil_of_le (by simp), cdE_nil, up_none]
/-- A text in code: no sign with the number 96 in it, and one at least. -/
theorem cod_open {k : Nat} {s r : List UInt8} (hs : ∀ b ∈ s, rTik b = false) (h0 : s ≠ []) : codO (List.replicate k 96 ++ (s ++ r)) = k := by
  unfold codO
  rw [tik_rep, cntP_zero (fun b q e => ?_), Nat.add_zero]
  cases s with
  | nil => exact absurd rfl h0
  | cons c s =>
    injection e with e1 _
    rw [← e1]
    exact hs c (List.mem_cons_self ..)
theorem cod_drop (k : Nat) (l : List UInt8) : (List.replicate k 96 ++ l).drop k = l := by
  have := List.drop_left (l₁ := List.replicate k (96 : UInt8)) (l₂ := l)
  rwa [List.length_replicate] at this
theorem cod_found {k : Nat} (hk : k ≠ 0) {s r : List UInt8} (hs : ∀ b ∈ s, rTik b = false) (h0 : s ≠ []) (hr : noP rTik r) :
    codT (List.replicate k 96 ++ (s ++ (List.replicate k 96 ++ r))) = ctT s ∧ codN (List.replicate k 96 ++ (s ++ (List.replicate k 96 ++ r))) = k + s.length + k := by
  have eO : codO (List.replicate k 96 ++ (s ++ (List.replicate k 96 ++ r))) = k := cod_open hs h0
  have eK : codK (List.replicate k 96 ++ (s ++ (List.replicate k 96 ++ r))) = s.length + 1 := by
    unfold codK
    rw [eO, cod_drop, cd_skip hk _ hs, cd_rep hk hr, up_pos _ (by decide), Nat.add_comm]
  unfold codT codN
  rw [eO, eK, if_neg hk, if_neg hk, if_neg (by omega), if_neg (by omega), cod_drop, Nat.add_sub_cancel, List.take_left]
  exact ⟨rfl, rfl⟩
theorem cod_none {k : Nat} (hk : k ≠ 0) {s : List UInt8} (hs : ∀ b ∈ s, rTik b = false) (h0 : s ≠ []) :
    codT (List.replicate k 96 ++ (s ++ (List.replicate k 96 ++ [96]))) = [] ∧ codN (List.replicate k 96 ++ (s ++ (List.replicate k 96 ++ [96]))) = 0 := by
  have eO : codO (List.replicate k 96 ++ (s ++ (List.replicate k 96 ++ [96]))) = k := cod_open hs h0
  have eK : codK (List.replicate k 96 ++ (s ++ (List.replicate k 96 ++ [96]))) = 0 := by
    unfold codK
    rw [eO, cod_drop, cd_skip hk _ hs, cd_more, up_none]
  unfold codT codN
  rw [eO, eK, if_neg hk, if_neg hk, if_pos rfl, if_pos rfl]
  exact ⟨rfl, rfl⟩
theorem ctU_own {s : List UInt8} (h : ∀ b ∈ s, b.toNat ≠ 10) : ctU s = s := by
  unfold ctU
  have : ∀ b ∈ s, lfB b = b := fun b hb => by
    unfold lfB
    rw [if_neg (fun e => h b hb (by rw [e]; rfl))]
  rw [List.map_congr_left this, List.map_id']
/-- No blanks at both ends. -/
theorem ctT_own {s : List UInt8} (h : ∀ b ∈ s, b.toNat ≠ 10) (hb : hasPrefix s [32] = false ∨ hasSuffix s [32] = false) : ctT s = s := by
  have e := ctU_own h
  unfold ctT
  rw [e, if_neg]
  unfold ctK
  rcases hb with hb | hb
  · rw [hb]; simp
  · rw [hb]; simp
/-- A blank at both ends, and something else between. -/
theorem ctT_blanks {s : List UInt8} (h : ∀ b ∈ s, b.toNat ≠ 10) (ha : s.any (fun b => decide (b ≠ 32)) = true) : ctT (32 :: (s ++ [32])) = s := by
  have h2 : ∀ b ∈ 32 :: (s ++ [32]), b.toNat ≠ 10 := fun b hb => by
    rcases List.mem_cons.1 hb with e | hb
    · rw [e]; decide
    · rcases List.mem_append.1 hb with hb | hb
      · exact h b hb
      · rw [List.mem_singleton.1 hb]; decide
  have e := ctU_own h2
  have k : ctK (32 :: (s ++ [32])) = true := by
    unfold ctK
    have k1 : hasPrefix (32 :: (s ++ [32])) [32] = true := by cases s <;> rfl
    have k2 : hasSuffix (32 :: (s ++ [32])) [32] = true := List.isSuffixOf_iff_suffix.2 ⟨32 :: s, rfl⟩
    have k3 : (32 :: (s ++ [32])).any (fun b => decide (b ≠ 32)) = true := by
      rw [List.any_cons, List.any_append, ha]
      simp
    rw [k1, k2, k3]
    rfl
  unfold ctT
  rw [e, if_pos k]
  show (s ++ [32]).dropLast = s
  simp
end Go.Proofs.YtolpmdicilbpfaaGreatDoor

