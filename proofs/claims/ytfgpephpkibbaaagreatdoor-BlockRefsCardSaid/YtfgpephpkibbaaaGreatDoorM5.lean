/-
  Texts of the proof, one behind the other: Cur, Lbk.
-/
import Derived.Lib.Strings
import Derived.Lib.SlTrimSet
import Derived.Test.YtfgpephpkibbaaaGreatDoorM4
/-
  Places in lines, plainly: blanks, tabs, columns, with no program.
-/
namespace Go.Proofs.YtfgpephpkibbaaaGreatDoor

/-- How many columns the sign b has that begins in column c, f of which are left (0: it wasn't begun); 0: it is neither a blank nor a tab. -/
def wideB (c f : Nat) (b : UInt8) : Nat := if f ≠ 0 then f else if b = 32 then 1 else if b = 9 then 4 - c % 4 else 0
/-- n columns further: how many bytes, the column, what is left of a tab. -/
def skipL : Nat → Nat → Nat → List UInt8 → Nat × Nat × Nat
  | _, c, f, [] => (0, c, f)
  | n, c, f, b :: l => if n = 0 ∨ wideB c f b = 0 then (0, c, f) else if n < wideB c f b then (0, c + n, wideB c f b - n) else
    ((skipL (n - wideB c f b) (c + wideB c f b) 0 l).1 + 1, (skipL (n - wideB c f b) (c + wideB c f b) 0 l).2)
/-- How many columns of blanks come. -/
def indL : Nat → Nat → List UInt8 → Nat
  | _, _, [] => 0
  | c, f, b :: l => if wideB c f b = 0 then 0 else wideB c f b + indL (c + wideB c f b) 0 l
/-- What comes behind blanks. -/
def nextL (l : List UInt8) : List UInt8 := Lib.trimLeftS l [32, 9]
/-- What comes: of a tab that was begun as many blanks as are left. -/
def restL (f : Nat) (l : List UInt8) : List UInt8 := if f ≠ 0 then List.replicate f 32 ++ l.tail else l
/-- Of a tab that was begun less than four columns are left, and it is there. -/
def okP (f : Nat) (l : List UInt8) : Prop := f < 4 ∧ (f ≠ 0 → ∃ t, l = 9 :: t)

theorem skip_cons (n c f : Nat) (b : UInt8) (l : List UInt8) : skipL n c f (b :: l) = if n = 0 ∨ wideB c f b = 0 then (0, c, f) else if n < wideB c f b then (0, c + n, wideB c f b - n) else
    ((skipL (n - wideB c f b) (c + wideB c f b) 0 l).1 + 1, (skipL (n - wideB c f b) (c + wideB c f b) 0 l).2) := by rw [skipL]
theorem ind_nil (c f : Nat) : indL c f [] = 0 := by rw [indL]
theorem skip_nil (n c f : Nat) : skipL n c f [] = (0, c, f) := by rw [skipL]
theorem ind_cons (c f : Nat) (b : UInt8) (l : List UInt8) : indL c f (b :: l) = if wideB c f b = 0 then 0 else wideB c f b + indL (c + wideB c f b) 0 l := by rw [indL]
theorem skip_zero (c f : Nat) (l : List UInt8) : skipL 0 c f l = (0, c, f) := by
  cases l with
  | nil => rw [skipL]
  | cons b l => rw [skip_cons, if_pos (.inl rfl)]
theorem wide_left {f : Nat} (h : f ≠ 0) (c : Nat) (b : UInt8) : wideB c f b = f := by unfold wideB; rw [if_pos h]
theorem wide_le {f : Nat} (h : f < 4) (c : Nat) (b : UInt8) : wideB c f b ≤ 4 := by unfold wideB; split <;> (try split) <;> (try split) <;> omega
theorem okP_nil (l : List UInt8) : okP 0 l := ⟨by omega, fun h => absurd rfl h⟩
theorem wide_tab {c f : Nat} {b : UInt8} {l : List UInt8} (h : okP f (b :: l)) (hw : 1 < wideB c f b) : b = 9 := by
  by_cases hf : f = 0
  · subst hf
    unfold wideB at hw
    rw [if_neg (by simp)] at hw
    split at hw
    · omega
    · split at hw
      · assumption
      · omega
  · obtain ⟨t, e⟩ := h.2 hf
    exact (List.cons.inj e).1
theorem wide_blank {c f : Nat} {b : UInt8} {l : List UInt8} (h : okP f (b :: l)) (hw : wideB c f b ≠ 0) : ([32, 9] : List UInt8).contains b = true := by
  by_cases hf : f = 0
  · subst hf
    unfold wideB at hw
    rw [if_neg (by simp)] at hw
    split at hw
    · next e => subst e; rfl
    · split at hw
      · next e => subst e; rfl
      · omega
  · obtain ⟨t, e⟩ := h.2 hf
    rw [(List.cons.inj e).1]; rfl
theorem blank_wide {b : UInt8} (h : ([32, 9] : List UInt8).contains b = true) (c f : Nat) : 0 < wideB c f b := by
  have hb : b = 32 ∨ b = 9 := by simpa using h
  unfold wideB
  by_cases hf : f = 0
  · rw [if_neg (by simp [hf])]
    rcases hb with rfl | rfl
    · rw [if_pos rfl]; omega
    · rw [if_neg (by decide), if_pos rfl]; omega
  · rw [if_pos hf]; omega
theorem next_cons (b : UInt8) (l : List UInt8) : nextL (b :: l) = if ([32, 9] : List UInt8).contains b then nextL l else b :: l := by
  unfold nextL Lib.trimLeftS
  rw [List.dropWhile_cons]

theorem skip_col : ∀ (n c f : Nat) (l : List UInt8), (skipL n c f l).2.1 = c + min n (indL c f l)
  | n, c, f, [] => by rw [skipL, indL]; show c = _; omega
  | n, c, f, b :: l => by
    rw [skip_cons, ind_cons]
    by_cases h0 : n = 0 ∨ wideB c f b = 0
    · rw [if_pos h0]
      show c = _
      rcases h0 with h0 | h0
      · omega
      · rw [if_pos h0]; omega
    · rw [if_neg h0, if_neg (fun h => h0 (.inr h))]
      by_cases h1 : n < wideB c f b
      · rw [if_pos h1]; show c + n = _; omega
      · rw [if_neg h1]
        show (skipL _ _ _ _).2.1 = _
        rw [skip_col]; omega
theorem skip_len : ∀ (n c f : Nat) (l : List UInt8), (skipL n c f l).1 ≤ l.length
  | n, c, f, [] => by rw [skipL]; exact Nat.le_refl _
  | n, c, f, b :: l => by
    rw [skip_cons]
    split
    · exact Nat.zero_le _
    · split
      · exact Nat.zero_le _
      · show (skipL _ _ _ _).1 + 1 ≤ _
        have := skip_len (n - wideB c f b) (c + wideB c f b) 0 l
        rw [List.length_cons]; omega
theorem skip_ind : ∀ (n c f : Nat) (l : List UInt8), indL (skipL n c f l).2.1 (skipL n c f l).2.2 (l.drop (skipL n c f l).1) = indL c f l - n
  | n, c, f, [] => by rw [skipL, List.drop_nil, ind_nil, Nat.zero_sub]
  | n, c, f, b :: l => by
    rw [skip_cons]
    by_cases h0 : n = 0 ∨ wideB c f b = 0
    · rw [if_pos h0]
      show indL c f (b :: l) = _
      rcases h0 with h0 | h0
      · omega
      · rw [ind_cons, if_pos h0]; omega
    · rw [if_neg h0]
      by_cases h1 : n < wideB c f b
      · rw [if_pos h1]
        show indL (c + n) (wideB c f b - n) (b :: l) = _
        rw [ind_cons, ind_cons, wide_left (by omega), if_neg (by omega), if_neg (by omega), show c + n + (wideB c f b - n) = c + wideB c f b by omega]
        omega
      · rw [if_neg h1]
        show indL (skipL _ _ _ _).2.1 (skipL _ _ _ _).2.2 ((b :: l).drop ((skipL _ _ _ _).1 + 1)) = _
        rw [List.drop_succ_cons, skip_ind, ind_cons, if_neg (by omega)]
        omega
theorem skip_skip : ∀ (n m c f : Nat) (l : List UInt8), skipL (n + m) c f l = ((skipL n c f l).1 + (skipL m (skipL n c f l).2.1 (skipL n c f l).2.2 (l.drop (skipL n c f l).1)).1, (skipL m (skipL n c f l).2.1 (skipL n c f l).2.2 (l.drop (skipL n c f l).1)).2)
  | n, m, c, f, [] => by rw [List.drop_nil, skip_nil, skip_nil, skip_nil]; rfl
  | n, m, c, f, b :: l => by
    by_cases h0 : n = 0
    · subst h0
      rw [skip_zero, Nat.zero_add]
      show _ = (0 + (skipL m c f (b :: l)).1, (skipL m c f (b :: l)).2)
      rw [Nat.zero_add]
    · by_cases hw : wideB c f b = 0
      · have e : ∀ k, skipL k c f (b :: l) = (0, c, f) := fun k => by rw [skip_cons, if_pos (.inr hw)]
        rw [e, e]
        show _ = (0 + (skipL m c f (b :: l)).1, (skipL m c f (b :: l)).2)
        rw [e]
        rfl
      · by_cases h1 : n < wideB c f b
        · have e : skipL n c f (b :: l) = (0, c + n, wideB c f b - n) := by rw [skip_cons, if_neg (by omega), if_pos h1]
          rw [e]
          show _ = (0 + (skipL m (c + n) (wideB c f b - n) (b :: l)).1, (skipL m (c + n) (wideB c f b - n) (b :: l)).2)
          have e1 : wideB (c + n) (wideB c f b - n) b = wideB c f b - n := wide_left (by omega) _ _
          rw [Nat.zero_add, skip_cons m (c + n), e1, skip_cons (n + m), if_neg (by omega : ¬(n + m = 0 ∨ wideB c f b = 0))]
          generalize wideB c f b = w at *
          by_cases h2 : m = 0
          · subst h2
            rw [if_pos (by omega : n + 0 < w), if_pos (.inl rfl)]
            rfl
          · rw [if_neg (by omega : ¬(m = 0 ∨ w - n = 0))]
            by_cases h3 : n + m < w
            · rw [if_pos h3, if_pos (by omega)]
              show _ = (0, c + n + m, w - n - m)
              rw [Nat.add_assoc, Nat.sub_sub]
            · rw [if_neg h3, if_neg (by omega), show n + m - w = m - (w - n) by omega, show c + n + (w - n) = c + w by omega]
        · have e : skipL n c f (b :: l) = ((skipL (n - wideB c f b) (c + wideB c f b) 0 l).1 + 1, (skipL (n - wideB c f b) (c + wideB c f b) 0 l).2) := by rw [skip_cons, if_neg (by omega), if_neg h1]
          rw [e, skip_cons, if_neg (by omega), if_neg (by omega), show n + m - wideB c f b = (n - wideB c f b) + m by omega, skip_skip (n - wideB c f b) m]
          show _ = ((skipL _ _ _ _).1 + 1 + (skipL m (skipL _ _ _ _).2.1 (skipL _ _ _ _).2.2 ((b :: l).drop ((skipL _ _ _ _).1 + 1))).1, (skipL m (skipL _ _ _ _).2.1 (skipL _ _ _ _).2.2 ((b :: l).drop ((skipL _ _ _ _).1 + 1))).2)
          rw [List.drop_succ_cons]
          refine Prod.ext ?_ rfl
          show _ + _ + 1 = _ + 1 + _
          omega
theorem skip_next : ∀ (n c f : Nat) (l : List UInt8), okP f l → nextL (l.drop (skipL n c f l).1) = nextL l
  | n, c, f, [], _ => by rw [List.drop_nil]
  | n, c, f, b :: l, h => by
    rw [skip_cons]
    by_cases h0 : n = 0 ∨ wideB c f b = 0
    · rw [if_pos h0]; rfl
    · rw [if_neg h0]
      by_cases h1 : n < wideB c f b
      · rw [if_pos h1]; rfl
      · rw [if_neg h1]
        show nextL ((b :: l).drop ((skipL _ _ _ _).1 + 1)) = _
        rw [List.drop_succ_cons, skip_next _ _ 0 l (okP_nil l), next_cons, if_pos (wide_blank (c := c) h (by omega))]
theorem skip_ok : ∀ (n c f : Nat) (l : List UInt8), okP f l → okP (skipL n c f l).2.2 (l.drop (skipL n c f l).1)
  | n, c, f, [], h => by rw [skipL]; exact h
  | n, c, f, b :: l, h => by
    rw [skip_cons]
    by_cases h0 : n = 0 ∨ wideB c f b = 0
    · rw [if_pos h0]; exact h
    · rw [if_neg h0]
      by_cases h1 : n < wideB c f b
      · rw [if_pos h1]
        show okP (wideB c f b - n) (b :: l)
        refine ⟨by have := wide_le h.1 c b; omega, fun _ => ⟨l, by rw [wide_tab h (show 1 < wideB c f b by omega)]⟩⟩
      · rw [if_neg h1]
        show okP (skipL _ _ _ _).2.2 ((b :: l).drop ((skipL _ _ _ _).1 + 1))
        rw [List.drop_succ_cons]
        exact skip_ok _ _ 0 l (okP_nil l)
theorem ind_le : ∀ (c f : Nat) (l : List UInt8), f < 4 → indL c f l ≤ 4 * l.length
  | c, f, [], _ => by rw [indL]; omega
  | c, f, b :: l, h => by
    rw [ind_cons]
    have := wide_le h c b
    have := ind_le (c + wideB c f b) 0 l (by omega)
    rw [List.length_cons]
    split <;> omega
theorem skip_ge {n c f : Nat} {l : List UInt8} : c ≤ (skipL n c f l).2.1 := by rw [skip_col]; omega
theorem skip_le {n c f : Nat} {l : List UInt8} (h : f < 4) : (skipL n c f l).2.1 ≤ c + 4 * l.length := by have := ind_le c f l h; rw [skip_col]; omega
/-- A round of the loop: past all that is left of a sign, or as far as may be. -/
theorem skip_step {n c f : Nat} {b : UInt8} {l : List UInt8} (hn : n ≠ 0) (hw : wideB c f b ≠ 0) :
    skipL n c f (b :: l) = if n < wideB c f b then (0, c + n, wideB c f b - n) else ((skipL (n - wideB c f b) (c + wideB c f b) 0 l).1 + 1, (skipL (n - wideB c f b) (c + wideB c f b) 0 l).2) := by
  rw [skip_cons, if_neg (by omega)]

/-! What comes. -/
theorem rest_next {f : Nat} {l : List UInt8} (h : okP f l) : nextL (restL f l) = nextL l := by
  unfold restL
  by_cases hf : f = 0
  · subst hf; rw [if_neg (by simp)]
  · rw [if_pos hf]
    obtain ⟨t, rfl⟩ := h.2 hf
    rw [next_cons, if_pos (show ([32, 9] : List UInt8).contains 9 = true from rfl)]
    show nextL (List.replicate f 32 ++ t) = _
    clear h hf
    induction f with
    | zero => rfl
    | succ f ih => rw [List.replicate_succ, List.cons_append, next_cons, if_pos (show ([32, 9] : List UInt8).contains 32 = true from rfl), ih]
/-- Columns come just where what comes begins with a blank. -/
theorem ind_pos {c f : Nat} {l : List UInt8} (h : okP f l) : 0 < indL c f l ↔ nextL (restL f l) ≠ restL f l := by
  rw [rest_next h]
  by_cases hf : f = 0
  · subst hf
    unfold restL
    rw [if_neg (by simp)]
    cases l with
    | nil => rw [indL]; simp [nextL, Lib.trimLeftS]
    | cons b l =>
      rw [ind_cons, next_cons]
      by_cases hb : ([32, 9] : List UInt8).contains b = true
      · rw [if_pos hb, if_neg (by have := blank_wide hb c 0; omega)]
        refine ⟨fun _ e => ?_, fun _ => by have := blank_wide hb c 0; omega⟩
        have h1 : (nextL l).length ≤ l.length := (List.dropWhile_sublist _).length_le
        rw [e, List.length_cons] at h1
        omega
      · rw [if_neg hb]
        have hw : wideB c 0 b = 0 := Decidable.byContradiction fun k => hb (wide_blank (okP_nil (b :: l)) k)
        rw [if_pos hw]
        simp
  · obtain ⟨t, rfl⟩ := h.2 hf
    rw [ind_cons, wide_left hf, if_neg hf]
    refine ⟨fun _ e => ?_, fun _ => by omega⟩
    rw [next_cons, if_pos (show ([32, 9] : List UInt8).contains 9 = true from rfl)] at e
    have h1 : (nextL t).length ≤ t.length := (List.dropWhile_sublist _).length_le
    unfold restL at e
    rw [if_pos hf] at e
    rw [e] at h1
    simp at h1
    omega

/-! Tab by tab. -/
/-- Behind s, which is blanks and tabs alone, the line is in column col. -/
def Reach (s : List UInt8) (col : Nat) : Prop := (∀ r, indL 0 0 (s ++ r) = col + indL col 0 r) ∧ ∀ n r, col ≤ n → skipL n 0 0 (s ++ r) = (s.length + (skipL (n - col) col 0 r).1, (skipL (n - col) col 0 r).2)
theorem reach_nil : Reach [] 0 := ⟨fun r => by rw [List.nil_append, Nat.zero_add], fun n r _ => by rw [List.nil_append, List.length_nil, Nat.zero_add, Nat.sub_zero]⟩
theorem reach_snoc {s : List UInt8} {col : Nat} {b : UInt8} {v : Nat} (h : Reach s col) (hb : ([32, 9] : List UInt8).contains b = true) (hv : col + wideB col 0 b = v) : Reach (s ++ [b]) v := by
  have hw := blank_wide hb col 0
  subst hv
  refine ⟨fun r => ?_, fun n r hn => ?_⟩
  · rw [List.append_assoc, h.1, List.singleton_append, ind_cons, if_neg (by omega)]; omega
  · rw [List.append_assoc, h.2 n _ (by omega), List.singleton_append, skip_step (by omega) (by omega), if_neg (by omega), Nat.sub_sub, List.length_append]
    refine Prod.ext ?_ rfl
    show s.length + ((skipL _ _ _ _).1 + 1) = s.length + 1 + _
    omega
theorem reach_blank {s : List UInt8} {col : Nat} (h : Reach s col) : Reach (s ++ [32]) (col + 1) := reach_snoc h rfl rfl
theorem reach_tab {s : List UInt8} {col : Nat} (h : Reach s col) : Reach (s ++ [9]) (col / 4 * 4 + 4) := reach_snoc h rfl (by
  unfold wideB
  rw [if_neg (by simp), if_neg (by decide), if_pos rfl]
  omega)
theorem reach_ind {s : List UInt8} {col : Nat} (h : Reach s col) : indL 0 0 (s ++ [120]) = col := by
  rw [h.1, ind_cons, if_pos (by unfold wideB; rw [if_neg (by simp), if_neg (by decide), if_neg (by decide)])]; rfl
theorem reach_skip {s : List UInt8} {col n : Nat} (h : Reach s col) (hn : col ≤ n) : skipL n 0 0 (s ++ [120]) = (s.length, col, 0) := by
  rw [h.2 n _ hn, skip_cons, if_pos (.inr (by unfold wideB; rw [if_neg (by simp), if_neg (by decide), if_neg (by decide)]))]; rfl
end Go.Proofs.YtfgpephpkibbaaaGreatDoor

/-
  Plain lists of bytes: definitions of letters and digits. No program in sight.
-/
namespace Go.Proofs.YtfgpephpkibbaaaGreatDoor
open Go Go.Lib

theorem ldn_facts {b : UInt8} (h : ldB b = true) : (97 ≤ b.toNat ∧ b.toNat ≤ 122) ∨ (48 ≤ b.toNat ∧ b.toNat ≤ 57) := by
  unfold ldB at h
  simp only [Bool.or_eq_true, Bool.and_eq_true, decide_eq_true_eq] at h
  exact h
theorem ldn_ws {b : UInt8} (h : ldB b = true) : ws b = false := by
  have := ldn_facts h
  rw [wsN_iff]; omega
theorem ldn_low {b : UInt8} (h : ldB b = true) : lowB b = b := by
  have := ldn_facts h
  refine UInt8.toNat_inj.1 ?_
  rw [low_toNat, if_neg (by omega)]
theorem ldn_nA : ∀ s : List UInt8, (∀ b ∈ s, ldB b = true) → nA false s = s
  | [], _ => rfl
  | b :: s, h => by
    have hb := h b (List.mem_cons_self ..)
    rw [nA_no false s (ldn_ws hb), ldn_low hb, ldn_nA s (fun c hc => h c (List.mem_cons_of_mem _ hc))]
    rfl
theorem ldn_core {s : List UInt8} (h : ∀ b ∈ s, ldB b = true) : Core s := by
  by_cases hn : s = []
  · exact .inl hn
  · refine .inr ⟨?_, s.dropLast, s.getLast hn, (List.dropLast_concat_getLast hn).symm, ldn_ws (h _ (List.getLast_mem hn))⟩
    cases s with
    | nil => exact absurd rfl hn
    | cons a t => exact ⟨a, t, rfl, ldn_ws (h a (List.mem_cons_self ..))⟩
theorem ldn_trim {s : List UInt8} (h : ∀ b ∈ s, ldB b = true) : trimL s = s := trim_of_core (ldn_core h)
/-- A label of letters and digits, as it is looked for. -/
theorem ldn_nrm {s : List UInt8} (h : ∀ b ∈ s, ldB b = true) : nrmL s = s := by
  rw [nrmL_ascii (fun b hb => by have := ldn_facts (h b hb); omega), ldn_trim h, ldn_nA s h]
theorem ldn_labS : ∀ (s r : List UInt8) (k : Nat), (∀ b ∈ s, ldB b = true) → k + s.length ≤ 999 → labS k false (s ++ 93 :: r) = k + s.length + 1
  | [], r, k, _, hk => labS_shut 93 r (by simp at hk; omega) rfl
  | b :: s, r, k, h, hk => by
    have hb := ldn_facts (h b (List.mem_cons_self ..))
    rw [List.length_cons] at hk ⊢
    rw [List.cons_append, labS_go b _ (by omega) (by omega) (by omega) (by omega), ldn_labS s r (k + 1) (fun c hc => h c (List.mem_cons_of_mem _ hc)) (by omega)]
    omega
theorem ldn_lbl (s r : List UInt8) (h : ∀ b ∈ s, ldB b = true) (hn : s ≠ []) (hl : s.length ≤ 999) : lblT (91 :: (s ++ 93 :: r)) = s ∧ lblN (91 :: (s ++ 93 :: r)) = s.length + 2 := by
  have hi : lblI (91 :: (s ++ 93 :: r)) = s := by
    unfold lblI
    rw [if_pos (by rw [pre1_cons]; rfl)]
    show (s ++ 93 :: r).take (labS 0 false (s ++ 93 :: r) - 1) = s
    rw [ldn_labS s r 0 h (by omega), Nat.zero_add, Nat.add_sub_cancel, List.take_left' rfl]
  unfold lblT lblN
  rw [hi, if_neg (by rw [ldn_trim h]; exact hn), if_neg (by rw [ldn_trim h]; exact hn)]
  exact ⟨rfl, rfl⟩
/-- A destination of letters and digits, up to what may not stand in one. -/
theorem ldn_dst (s r : List UInt8) (b : UInt8) (h : ∀ b ∈ s, ldB b = true) (hb : stdB b = false) : dstN (s ++ b :: r) = s.length ∧ dstT (s ++ b :: r) = s := by
  have hb60 : b.toNat ≠ 60 := fun e => by unfold stdB at hb; rw [e] at hb; exact absurd hb (by decide)
  have hp : ¬ hasPrefix (s ++ b :: r) [60] = true := by rw [no_ang s r b h hb60]; decide
  have hn : barN 0 (s ++ b :: r) = s.length + 1 := by rw [bar_letters 0 s _ h, bar_stop 0 b r hb, if_pos rfl, up_pos _ (by decide)]; omega
  unfold dstN dstT
  rw [if_neg hp, if_neg hp, hn, Nat.add_sub_cancel, List.take_left' rfl]
  exact ⟨rfl, plain_same _ fun b hb => by have := ld_facts (h b hb); exact ⟨this.2.2.2.1, this.2.2.2.2.1⟩⟩
theorem ldn_tls : ∀ (s r : List UInt8) (k : Bool), (∀ b ∈ s, ldB b = true) → tlsN 39 39 k (s ++ 39 :: r) = s.length + 1
  | [], r, k, _ => tls_last k r rfl
  | b :: s, r, k, h => by
    have hb := ldn_facts (h b (List.mem_cons_self ..))
    have e : b ≠ 39 := ne_by (by show _ ≠ 39; omega)
    rw [List.cons_append, tls_go k _ e e (by omega) (by omega), wid_one _ (by omega)]
    show upN 1 (tlsN 39 39 false (s ++ 39 :: r)) = _
    rw [ldn_tls s r false (fun c hc => h c (List.mem_cons_of_mem _ hc)), up_pos 1 (by omega), List.length_cons]
theorem ldn_tit (s r : List UInt8) (h : ∀ b ∈ s, ldB b = true) : titN (39 :: (s ++ 39 :: r)) = s.length + 2 ∧ titT (39 :: (s ++ 39 :: r)) = s := by
  have hn : titN (39 :: (s ++ 39 :: r)) = s.length + 2 := by
    unfold titN
    rw [show endC (39 :: (s ++ 39 :: r)) = 39 from rfl, if_neg (by decide)]
    show upN 1 (tlsN 39 39 false (s ++ 39 :: r)) = _
    rw [ldn_tls s r false h, up_pos 1 (by omega)]
  refine ⟨hn, ?_⟩
  unfold titT
  rw [hn, Nat.add_sub_cancel]
  show plainL ((s ++ 39 :: r).take _) = s
  rw [List.take_left' rfl]
  exact plain_same _ fun b hb => by have := ld_facts (h b hb); exact ⟨this.2.2.2.1, this.2.2.2.2.1⟩
theorem ldn_spc (one e : Bool) {b : UInt8} (l : List UInt8) (h : ldB b = true) : spcN one e (b :: l) = 0 := by
  have := ldn_facts h
  exact spc_none one e b l (by omega)
theorem ldn_spcs (one e : Bool) (s r : List UInt8) (h : ∀ b ∈ s, ldB b = true) (hn : s ≠ []) : spcN one e (s ++ r) = 0 := by
  cases s with
  | nil => exact absurd rfl hn
  | cons b s => exact ldn_spc one e _ (h b (List.mem_cons_self ..))
/-- What ends a definition: a blank, a title in ', an LF; an LF, and letters. -/
theorem ed_title (t r : List UInt8) (h : ∀ b ∈ t, ldB b = true) : edB (32 :: 39 :: (t ++ 39 :: 10 :: r)) = true ∧ edN (32 :: 39 :: (t ++ 39 :: 10 :: r)) = t.length + 4 ∧ edT (32 :: 39 :: (t ++ 39 :: 10 :: r)) = t := by
  obtain ⟨h1, h2⟩ := ldn_tit t (10 :: r) h
  have a : ttA (32 :: 39 :: (t ++ 39 :: 10 :: r)) = 1 := by
    unfold ttA
    rw [spc_one, spc_none true false 39 _ (by decide)]
  have m : ttM (32 :: 39 :: (t ++ 39 :: 10 :: r)) = t.length + 2 := by
    unfold ttM
    rw [a]
    exact h1
  have b : ttB (32 :: 39 :: (t ++ 39 :: 10 :: r)) = true := by
    unfold ttB
    rw [a, m]
    simp
  have e : ttE (32 :: 39 :: (t ++ 39 :: 10 :: r)) = 10 :: r := by
    unfold ttE
    rw [a, m, show 1 + (t.length + 2) = (t.length + 1) + 1 + 1 by omega, List.drop_succ_cons, List.drop_succ_cons]
    rw [show t ++ 39 :: 10 :: r = (t ++ [39]) ++ 10 :: r by simp, List.drop_left' (by simp)]
  have k : ttK (32 :: 39 :: (t ++ 39 :: 10 :: r)) = true := by
    unfold ttK
    rw [b, e]
    rfl
  have l : lneN (10 :: r) = 1 := rfl
  unfold edB edN edT ttN ttT
  rw [k, b, a, m, e, l]
  exact ⟨rfl, by simp; omega, h2⟩
theorem ed_plain (b : UInt8) (r : List UInt8) (h : ldB b = true) : edB (10 :: b :: r) = true ∧ edN (10 :: b :: r) = 1 ∧ edT (10 :: b :: r) = [] := by
  have hb := ldn_facts h
  have a : ttA (10 :: b :: r) = 1 := by
    unfold ttA
    show spcN true true (b :: r) + 1 = 1
    rw [ldn_spc true true r h]
  have m : ttM (10 :: b :: r) = 0 := by
    unfold ttM
    rw [a]
    show titN (b :: r) = 0
    unfold titN
    rw [if_pos]
    unfold endC
    show (if b = 34 ∨ b = 39 then b.toNat else if b = 40 then 41 else 0) = 0
    have e1 : b ≠ 34 := ne_by (by show _ ≠ 34; omega)
    have e2 : b ≠ 39 := ne_by (by show _ ≠ 39; omega)
    have e3 : b ≠ 40 := ne_by (by show _ ≠ 40; omega)
    rw [if_neg (by rintro (e | e) <;> contradiction), if_neg e3]
  have k : ttK (10 :: b :: r) = false := by
    unfold ttK ttB
    rw [m]
    simp
  have l : lneN (10 :: b :: r) = 1 := rfl
  unfold edB edN edT
  rw [k, l]
  exact ⟨rfl, rfl, rfl⟩
/-- A definition of letters and digits: its label, one space, its destination, and whatever ends it. -/
theorem df_letters (s d x r : List UInt8) (c : UInt8) (hs : ∀ b ∈ s, ldB b = true) (hd : ∀ b ∈ d, ldB b = true) (ns : s ≠ []) (nd : d ≠ []) (ls : s.length ≤ 999) (hc : c = 32 ∨ c = 10) (b : UInt8) (hx : x = b :: r) (hb : stdB b = false) (he : edB x = true) :
    dfB (91 :: (s ++ 93 :: 58 :: c :: (d ++ x))) = true ∧ dfL (91 :: (s ++ 93 :: 58 :: c :: (d ++ x))) = s ∧ dfD (91 :: (s ++ 93 :: 58 :: c :: (d ++ x))) = d ∧ dfT (91 :: (s ++ 93 :: 58 :: c :: (d ++ x))) = edT x ∧ dfN (91 :: (s ++ 93 :: 58 :: c :: (d ++ x))) = s.length + d.length + 4 + edN x := by
  obtain ⟨L, hL⟩ : ∃ L, 91 :: (s ++ 93 :: 58 :: c :: (d ++ x)) = L := ⟨_, rfl⟩
  obtain ⟨l1, l2⟩ := ldn_lbl s (58 :: c :: (d ++ x)) hs ns ls
  obtain ⟨d1, d2⟩ := ldn_dst d r b hd hb
  rw [← hx] at d1 d2
  rw [hL] at l1 l2 ⊢
  have D2 : L.drop (s.length + 2) = 58 :: c :: (d ++ x) := by
    rw [← hL, List.drop_succ_cons, show s ++ 93 :: 58 :: c :: (d ++ x) = (s ++ [93]) ++ 58 :: c :: (d ++ x) by simp, List.drop_left' (by simp)]
  have D3 : L.drop (s.length + 2 + 1) = c :: (d ++ x) := by rw [← List.drop_drop, D2]; rfl
  have hC : dfC L = true := by
    unfold dfC
    rw [l2, D2, pre1_cons]
    simp
  have sp : spcN true false (c :: (d ++ x)) = 1 := by
    rcases hc with rfl | rfl
    · rw [spc_one, ldn_spcs true false d x hd nd]
    · show spcN true true (d ++ x) + 1 = 1
      rw [ldn_spcs true true d x hd nd]
  have hA : dfA L = s.length + 4 := by unfold dfA; rw [l2, D3, sp]
  have D4 : L.drop (s.length + 4) = d ++ x := by rw [show s.length + 4 = s.length + 2 + 1 + 1 by omega, ← List.drop_drop, D3]; rfl
  have hM : dfM L = d.length := by unfold dfM; rw [hA, D4, d1]
  have hE : dfE L = x := by unfold dfE; rw [hA, hM, ← List.drop_drop, D4, List.drop_left' rfl]
  have hB : dfB L = true := by
    unfold dfB
    rw [hC, hM, hE, he, decide_eq_false (fun e => nd (List.eq_nil_of_length_eq_zero e))]
    rfl
  unfold dfL dfD dfT dfN
  rw [if_pos hB, if_pos hB, if_pos hB, if_pos hB, l1, hA, hM, hE, D4, d2, ldn_nrm hs]
  exact ⟨hB, rfl, rfl, rfl, by omega⟩
/-- With a title. -/
theorem df_titled (s d t r : List UInt8) (hs : ∀ b ∈ s, ldB b = true) (hd : ∀ b ∈ d, ldB b = true) (ht : ∀ b ∈ t, ldB b = true) (ns : s ≠ []) (nd : d ≠ []) (ls : s.length ≤ 999) :
    dfL (91 :: (s ++ 93 :: 58 :: 32 :: (d ++ 32 :: 39 :: (t ++ 39 :: 10 :: r)))) = s ∧ dfD (91 :: (s ++ 93 :: 58 :: 32 :: (d ++ 32 :: 39 :: (t ++ 39 :: 10 :: r)))) = d ∧ dfT (91 :: (s ++ 93 :: 58 :: 32 :: (d ++ 32 :: 39 :: (t ++ 39 :: 10 :: r)))) = t ∧ dfN (91 :: (s ++ 93 :: 58 :: 32 :: (d ++ 32 :: 39 :: (t ++ 39 :: 10 :: r)))) = s.length + d.length + t.length + 8 := by
  obtain ⟨e1, e2, e3⟩ := ed_title t r ht
  obtain ⟨_, h2, h3, h4, h5⟩ := df_letters s d (32 :: 39 :: (t ++ 39 :: 10 :: r)) (39 :: (t ++ 39 :: 10 :: r)) 32 hs hd ns nd ls (.inl rfl) 32 rfl (by decide) e1
  rw [e3] at h4
  rw [e2] at h5
  exact ⟨h2, h3, h4, by rw [h5]; omega⟩
/-- Without one. -/
theorem df_alone (s d r : List UInt8) (c b : UInt8) (hs : ∀ b ∈ s, ldB b = true) (hd : ∀ b ∈ d, ldB b = true) (ns : s ≠ []) (nd : d ≠ []) (ls : s.length ≤ 999) (hc : c = 32 ∨ c = 10) (hb : ldB b = true) :
    dfL (91 :: (s ++ 93 :: 58 :: c :: (d ++ 10 :: b :: r))) = s ∧ dfD (91 :: (s ++ 93 :: 58 :: c :: (d ++ 10 :: b :: r))) = d ∧ dfT (91 :: (s ++ 93 :: 58 :: c :: (d ++ 10 :: b :: r))) = [] ∧ dfN (91 :: (s ++ 93 :: 58 :: c :: (d ++ 10 :: b :: r))) = s.length + d.length + 5 := by
  obtain ⟨e1, e2, e3⟩ := ed_plain b r hb
  obtain ⟨_, h2, h3, h4, h5⟩ := df_letters s d (10 :: b :: r) (b :: r) c hs hd ns nd ls hc 10 rfl (by decide) e1
  rw [e3] at h4
  rw [e2] at h5
  exact ⟨h2, h3, h4, by rw [h5]⟩
/-- Two of one label, one behind the other. -/
theorem dfs_two (s d t : List UInt8) (hs : ∀ b ∈ s, ldB b = true) (hd : ∀ b ∈ d, ldB b = true) (ht : ∀ b ∈ t, ldB b = true) (ns : s ≠ []) (nd : d ≠ []) (ls : s.length ≤ 999) :
    dfsL (91 :: (s ++ 93 :: 58 :: 32 :: (d ++ 32 :: 39 :: (t ++ 39 :: 10 :: 91 :: (s ++ 93 :: 58 :: 32 :: ([111, 116, 104, 101, 114] ++ 10 :: 101 :: [110, 100])))))) = [(s, d, t), (s, [111, 116, 104, 101, 114], [])] ∧
    dfrL (91 :: (s ++ 93 :: 58 :: 32 :: (d ++ 32 :: 39 :: (t ++ 39 :: 10 :: 91 :: (s ++ 93 :: 58 :: 32 :: ([111, 116, 104, 101, 114] ++ 10 :: 101 :: [110, 100])))))) = [101, 110, 100] := by
  obtain ⟨R, hR⟩ : ∃ R, 91 :: (s ++ 93 :: 58 :: 32 :: ([111, 116, 104, 101, 114] ++ 10 :: 101 :: [110, 100])) = R := ⟨_, rfl⟩
  obtain ⟨b1, b2, b3, b4⟩ := df_alone s [111, 116, 104, 101, 114] [110, 100] 32 101 hs (by decide) ns (by decide) ls (.inl rfl) (by decide)
  rw [hR] at b1 b2 b3 b4 ⊢
  obtain ⟨a1, a2, a3, a4⟩ := df_titled s d t R hs hd ht ns nd ls
  obtain ⟨L, hL⟩ : ∃ L, 91 :: (s ++ 93 :: 58 :: 32 :: (d ++ 32 :: 39 :: (t ++ 39 :: 10 :: R))) = L := ⟨_, rfl⟩
  rw [hL] at a1 a2 a3 a4 ⊢
  have dL : L.drop (s.length + d.length + t.length + 8) = R := by
    have e : L = (91 :: (s ++ 93 :: 58 :: 32 :: (d ++ 32 :: 39 :: (t ++ 39 :: [10])))) ++ R := by rw [← hL]; simp
    rw [e, List.drop_left' (by simp; omega)]
  have dR : R.drop (s.length + 5 + 5) = [101, 110, 100] := by
    have e : R = (91 :: (s ++ 93 :: 58 :: 32 :: [111, 116, 104, 101, 114, 10])) ++ [101, 110, 100] := by rw [← hR]; simp
    rw [e, List.drop_left' (by simp)]
  obtain ⟨s1, s2⟩ := dfs_step (l := L) (by rw [a4]; omega)
  obtain ⟨t1, t2⟩ := dfs_step (l := R) (by rw [b4]; omega)
  obtain ⟨u1, u2⟩ := dfs_stop (l := [101, 110, 100]) (by decide +kernel)
  have b4' : dfN R = s.length + 5 + 5 := b4
  rw [s1, s2, a1, a2, a3, a4, dL, t1, t2, b1, b2, b3, b4', dR, u1, u2]
  exact ⟨rfl, rfl⟩
end Go.Proofs.YtfgpephpkibbaaaGreatDoor

