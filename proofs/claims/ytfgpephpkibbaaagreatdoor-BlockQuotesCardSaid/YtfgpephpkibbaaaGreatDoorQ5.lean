/-
  Texts of the proof, one behind the other: Cur.
-/
import Derived.Lib.Strings
import Derived.Lib.SlTrimSet
/-
  Places in lines, plainly: blanks, tabs, columns, with no program.
-/
namespace Go.Proofs.YtfgpephpkibbaaaGreatDoor

/-- How many columns the sign b has that begins in column c, f of which are left (0: it wasn't begun); 0: it is neither a blank nor a tab. -/
def wideB (c f : Nat) (b : UInt8) : Nat := if f ≠ 0 then f else if b = 32 then 1 else if b = 9 then 4 - c % 4 else 0
/-- n columns further: how many bytes, the column, what is left of a tab. -/
def skipL : Nat → Nat → Nat → List UInt8 → Nat × Nat × Nat
  | _, c, f, [] => (0, c, f)
  | n, c, f, b :: l => if n = 0 ∨ wideB c f b = 0 then (0, c, f) else if n < wideB c f b then (0, c + n, wideB c f b - n) else
    ((skipL (n - wideB c f b) (c + wideB c f b) 0 l).1 + 1, (skipL (n - wideB c f b) (c + wideB c f b) 0 l).2)
/-- How many columns of blanks come. -/
def indL : Nat → Nat → List UInt8 → Nat
  | _, _, [] => 0
  | c, f, b :: l => if wideB c f b = 0 then 0 else wideB c f b + indL (c + wideB c f b) 0 l
/-- What comes behind blanks. -/
def nextL (l : List UInt8) : List UInt8 := Lib.trimLeftS l [32, 9]
/-- What comes: of a tab that was begun as many blanks as are left. -/
def restL (f : Nat) (l : List UInt8) : List UInt8 := if f ≠ 0 then List.replicate f 32 ++ l.tail else l
/-- Of a tab that was begun less than four columns are left, and it is there. -/
def okP (f : Nat) (l : List UInt8) : Prop := f < 4 ∧ (f ≠ 0 → ∃ t, l = 9 :: t)

theorem skip_cons (n c f : Nat) (b : UInt8) (l : List UInt8) : skipL n c f (b :: l) = if n = 0 ∨ wideB c f b = 0 then (0, c, f) else if n < wideB c f b then (0, c + n, wideB c f b - n) else
    ((skipL (n - wideB c f b) (c + wideB c f b) 0 l).1 + 1, (skipL (n - wideB c f b) (c + wideB c f b) 0 l).2) := by rw [skipL]
theorem ind_nil (c f : Nat) : indL c f [] = 0 := by rw [indL]
theorem skip_nil (n c f : Nat) : skipL n c f [] = (0, c, f) := by rw [skipL]
theorem ind_cons (c f : Nat) (b : UInt8) (l : List UInt8) : indL c f (b :: l) = if wideB c f b = 0 then 0 else wideB c f b + indL (c + wideB c f b) 0 l := by rw [indL]
theorem skip_zero (c f : Nat) (l : List UInt8) : skipL 0 c f l = (0, c, f) := by
  cases l with
  | nil => rw [skipL]
  | cons b l => rw [skip_cons, if_pos (.inl rfl)]
theorem wide_left {f : Nat} (h : f ≠ 0) (c : Nat) (b : UInt8) : wideB c f b = f := by unfold wideB; rw [if_pos h]
theorem wide_le {f : Nat} (h : f < 4) (c : Nat) (b : UInt8) : wideB c f b ≤ 4 := by unfold wideB; split <;> (try split) <;> (try split) <;> omega
theorem okP_nil (l : List UInt8) : okP 0 l := ⟨by omega, fun h => absurd rfl h⟩
theorem wide_tab {c f : Nat} {b : UInt8} {l : List UInt8} (h : okP f (b :: l)) (hw : 1 < wideB c f b) : b = 9 := by
  by_cases hf : f = 0
  · subst hf
    unfold wideB at hw
    rw [if_neg (by simp)] at hw
    split at hw
    · omega
    · split at hw
      · assumption
      · omega
  · obtain ⟨t, e⟩ := h.2 hf
    exact (List.cons.inj e).1
theorem wide_blank {c f : Nat} {b : UInt8} {l : List UInt8} (h : okP f (b :: l)) (hw : wideB c f b ≠ 0) : ([32, 9] : List UInt8).contains b = true := by
  by_cases hf : f = 0
  · subst hf
    unfold wideB at hw
    rw [if_neg (by simp)] at hw
    split at hw
    · next e => subst e; rfl
    · split at hw
      · next e => subst e; rfl
      · omega
  · obtain ⟨t, e⟩ := h.2 hf
    rw [(List.cons.inj e).1]; rfl
theorem blank_wide {b : UInt8} (h : ([32, 9] : List UInt8).contains b = true) (c f : Nat) : 0 < wideB c f b := by
  have hb : b = 32 ∨ b = 9 := by simpa using h
  unfold wideB
  by_cases hf : f = 0
  · rw [if_neg (by simp [hf])]
    rcases hb with rfl | rfl
    · rw [if_pos rfl]; omega
    · rw [if_neg (by decide), if_pos rfl]; omega
  · rw [if_pos hf]; omega
theorem next_cons (b : UInt8) (l : List UInt8) : nextL (b :: l) = if ([32, 9] : List UInt8).contains b then nextL l else b :: l := by
  unfold nextL Lib.trimLeftS
  rw [List.dropWhile_cons]

theorem skip_col : ∀ (n c f : Nat) (l : List UInt8), (skipL n c f l).2.1 = c + min n (indL c f l)
  | n, c, f, [] => by rw [skipL, indL]; show c = _; omega
  | n, c, f, b :: l => by
    rw [skip_cons, ind_cons]
    by_cases h0 : n = 0 ∨ wideB c f b = 0
    · rw [if_pos h0]
      show c = _
      rcases h0 with h0 | h0
      · omega
      · rw [if_pos h0]; omega
    · rw [if_neg h0, if_neg (fun h => h0 (.inr h))]
      by_cases h1 : n < wideB c f b
      · rw [if_pos h1]; show c + n = _; omega
      · rw [if_neg h1]
        show (skipL _ _ _ _).2.1 = _
        rw [skip_col]; omega
theorem skip_len : ∀ (n c f : Nat) (l : List UInt8), (skipL n c f l).1 ≤ l.length
  | n, c, f, [] => by rw [skipL]; exact Nat.le_refl _
  | n, c, f, b :: l => by
    rw [skip_cons]
    split
    · exact Nat.zero_le _
    · split
      · exact Nat.zero_le _
      · show (skipL _ _ _ _).1 + 1 ≤ _
        have := skip_len (n - wideB c f b) (c + wideB c f b) 0 l
        rw [List.length_cons]; omega
theorem skip_ind : ∀ (n c f : Nat) (l : List UInt8), indL (skipL n c f l).2.1 (skipL n c f l).2.2 (l.drop (skipL n c f l).1) = indL c f l - n
  | n, c, f, [] => by rw [skipL, List.drop_nil, ind_nil, Nat.zero_sub]
  | n, c, f, b :: l => by
    rw [skip_cons]
    by_cases h0 : n = 0 ∨ wideB c f b = 0
    · rw [if_pos h0]
      show indL c f (b :: l) = _
      rcases h0 with h0 | h0
      · omega
      · rw [ind_cons, if_pos h0]; omega
    · rw [if_neg h0]
      by_cases h1 : n < wideB c f b
      · rw [if_pos h1]
        show indL (c + n) (wideB c f b - n) (b :: l) = _
        rw [ind_cons, ind_cons, wide_left (by omega), if_neg (by omega), if_neg (by omega), show c + n + (wideB c f b - n) = c + wideB c f b by omega]
        omega
      · rw [if_neg h1]
        show indL (skipL _ _ _ _).2.1 (skipL _ _ _ _).2.2 ((b :: l).drop ((skipL _ _ _ _).1 + 1)) = _
        rw [List.drop_succ_cons, skip_ind, ind_cons, if_neg (by omega)]
        omega
theorem skip_skip : ∀ (n m c f : Nat) (l : List UInt8), skipL (n + m) c f l = ((skipL n c f l).1 + (skipL m (skipL n c f l).2.1 (skipL n c f l).2.2 (l.drop (skipL n c f l).1)).1, (skipL m (skipL n c f l).2.1 (skipL n c f l).2.2 (l.drop (skipL n c f l).1)).2)
  | n, m, c, f, [] => by rw [List.drop_nil, skip_nil, skip_nil, skip_nil]; rfl
  | n, m, c, f, b :: l => by
    by_cases h0 : n = 0
    · subst h0
      rw [skip_zero, Nat.zero_add]
      show _ = (0 + (skipL m c f (b :: l)).1, (skipL m c f (b :: l)).2)
      rw [Nat.zero_add]
    · by_cases hw : wideB c f b = 0
      · have e : ∀ k, skipL k c f (b :: l) = (0, c, f) := fun k => by rw [skip_cons, if_pos (.inr hw)]
        rw [e, e]
        show _ = (0 + (skipL m c f (b :: l)).1, (skipL m c f (b :: l)).2)
        rw [e]
        rfl
      · by_cases h1 : n < wideB c f b
        · have e : skipL n c f (b :: l) = (0, c + n, wideB c f b - n) := by rw [skip_cons, if_neg (by omega), if_pos h1]
          rw [e]
          show _ = (0 + (skipL m (c + n) (wideB c f b - n) (b :: l)).1, (skipL m (c + n) (wideB c f b - n) (b :: l)).2)
          have e1 : wideB (c + n) (wideB c f b - n) b = wideB c f b - n := wide_left (by omega) _ _
          rw [Nat.zero_add, skip_cons m (c + n), e1, skip_cons (n + m), if_neg (by omega : ¬(n + m = 0 ∨ wideB c f b = 0))]
          generalize wideB c f b = w at *
          by_cases h2 : m = 0
          · subst h2
            rw [if_pos (by omega : n + 0 < w), if_pos (.inl rfl)]
            rfl
          · rw [if_neg (by omega : ¬(m = 0 ∨ w - n = 0))]
            by_cases h3 : n + m < w
            · rw [if_pos h3, if_pos (by omega)]
              show _ = (0, c + n + m, w - n - m)
              rw [Nat.add_assoc, Nat.sub_sub]
            · rw [if_neg h3, if_neg (by omega), show n + m - w = m - (w - n) by omega, show c + n + (w - n) = c + w by omega]
        · have e : skipL n c f (b :: l) = ((skipL (n - wideB c f b) (c + wideB c f b) 0 l).1 + 1, (skipL (n - wideB c f b) (c + wideB c f b) 0 l).2) := by rw [skip_cons, if_neg (by omega), if_neg h1]
          rw [e, skip_cons, if_neg (by omega), if_neg (by omega), show n + m - wideB c f b = (n - wideB c f b) + m by omega, skip_skip (n - wideB c f b) m]
          show _ = ((skipL _ _ _ _).1 + 1 + (skipL m (skipL _ _ _ _).2.1 (skipL _ _ _ _).2.2 ((b :: l).drop ((skipL _ _ _ _).1 + 1))).1, (skipL m (skipL _ _ _ _).2.1 (skipL _ _ _ _).2.2 ((b :: l).drop ((skipL _ _ _ _).1 + 1))).2)
          rw [List.drop_succ_cons]
          refine Prod.ext ?_ rfl
          show _ + _ + 1 = _ + 1 + _
          omega
theorem skip_next : ∀ (n c f : Nat) (l : List UInt8), okP f l → nextL (l.drop (skipL n c f l).1) = nextL l
  | n, c, f, [], _ => by rw [List.drop_nil]
  | n, c, f, b :: l, h => by
    rw [skip_cons]
    by_cases h0 : n = 0 ∨ wideB c f b = 0
    · rw [if_pos h0]; rfl
    · rw [if_neg h0]
      by_cases h1 : n < wideB c f b
      · rw [if_pos h1]; rfl
      · rw [if_neg h1]
        show nextL ((b :: l).drop ((skipL _ _ _ _).1 + 1)) = _
        rw [List.drop_succ_cons, skip_next _ _ 0 l (okP_nil l), next_cons, if_pos (wide_blank (c := c) h (by omega))]
theorem skip_ok : ∀ (n c f : Nat) (l : List UInt8), okP f l → okP (skipL n c f l).2.2 (l.drop (skipL n c f l).1)
  | n, c, f, [], h => by rw [skipL]; exact h
  | n, c, f, b :: l, h => by
    rw [skip_cons]
    by_cases h0 : n = 0 ∨ wideB c f b = 0
    · rw [if_pos h0]; exact h
    · rw [if_neg h0]
      by_cases h1 : n < wideB c f b
      · rw [if_pos h1]
        show okP (wideB c f b - n) (b :: l)
        refine ⟨by have := wide_le h.1 c b; omega, fun _ => ⟨l, by rw [wide_tab h (show 1 < wideB c f b by omega)]⟩⟩
      · rw [if_neg h1]
        show okP (skipL _ _ _ _).2.2 ((b :: l).drop ((skipL _ _ _ _).1 + 1))
        rw [List.drop_succ_cons]
        exact skip_ok _ _ 0 l (okP_nil l)
theorem ind_le : ∀ (c f : Nat) (l : List UInt8), f < 4 → indL c f l ≤ 4 * l.length
  | c, f, [], _ => by rw [indL]; omega
  | c, f, b :: l, h => by
    rw [ind_cons]
    have := wide_le h c b
    have := ind_le (c + wideB c f b) 0 l (by omega)
    rw [List.length_cons]
    split <;> omega
theorem skip_ge {n c f : Nat} {l : List UInt8} : c ≤ (skipL n c f l).2.1 := by rw [skip_col]; omega
theorem skip_le {n c f : Nat} {l : List UInt8} (h : f < 4) : (skipL n c f l).2.1 ≤ c + 4 * l.length := by have := ind_le c f l h; rw [skip_col]; omega
/-- A round of the loop: past all that is left of a sign, or as far as may be. -/
theorem skip_step {n c f : Nat} {b : UInt8} {l : List UInt8} (hn : n ≠ 0) (hw : wideB c f b ≠ 0) :
    skipL n c f (b :: l) = if n < wideB c f b then (0, c + n, wideB c f b - n) else ((skipL (n - wideB c f b) (c + wideB c f b) 0 l).1 + 1, (skipL (n - wideB c f b) (c + wideB c f b) 0 l).2) := by
  rw [skip_cons, if_neg (by omega)]

/-! What comes. -/
theorem rest_next {f : Nat} {l : List UInt8} (h : okP f l) : nextL (restL f l) = nextL l := by
  unfold restL
  by_cases hf : f = 0
  · subst hf; rw [if_neg (by simp)]
  · rw [if_pos hf]
    obtain ⟨t, rfl⟩ := h.2 hf
    rw [next_cons, if_pos (show ([32, 9] : List UInt8).contains 9 = true from rfl)]
    show nextL (List.replicate f 32 ++ t) = _
    clear h hf
    induction f with
    | zero => rfl
    | succ f ih => rw [List.replicate_succ, List.cons_append, next_cons, if_pos (show ([32, 9] : List UInt8).contains 32 = true from rfl), ih]
/-- Columns come just where what comes begins with a blank. -/
theorem ind_pos {c f : Nat} {l : List UInt8} (h : okP f l) : 0 < indL c f l ↔ nextL (restL f l) ≠ restL f l := by
  rw [rest_next h]
  by_cases hf : f = 0
  · subst hf
    unfold restL
    rw [if_neg (by simp)]
    cases l with
    | nil => rw [indL]; simp [nextL, Lib.trimLeftS]
    | cons b l =>
      rw [ind_cons, next_cons]
      by_cases hb : ([32, 9] : List UInt8).contains b = true
      · rw [if_pos hb, if_neg (by have := blank_wide hb c 0; omega)]
        refine ⟨fun _ e => ?_, fun _ => by have := blank_wide hb c 0; omega⟩
        have h1 : (nextL l).length ≤ l.length := (List.dropWhile_sublist _).length_le
        rw [e, List.length_cons] at h1
        omega
      · rw [if_neg hb]
        have hw : wideB c 0 b = 0 := Decidable.byContradiction fun k => hb (wide_blank (okP_nil (b :: l)) k)
        rw [if_pos hw]
        simp
  · obtain ⟨t, rfl⟩ := h.2 hf
    rw [ind_cons, wide_left hf, if_neg hf]
    refine ⟨fun _ e => ?_, fun _ => by omega⟩
    rw [next_cons, if_pos (show ([32, 9] : List UInt8).contains 9 = true from rfl)] at e
    have h1 : (nextL t).length ≤ t.length := (List.dropWhile_sublist _).length_le
    unfold restL at e
    rw [if_pos hf] at e
    rw [e] at h1
    simp at h1
    omega

/-! Tab by tab. -/
/-- Behind s, which is blanks and tabs alone, the line is in column col. -/
def Reach (s : List UInt8) (col : Nat) : Prop := (∀ r, indL 0 0 (s ++ r) = col + indL col 0 r) ∧ ∀ n r, col ≤ n → skipL n 0 0 (s ++ r) = (s.length + (skipL (n - col) col 0 r).1, (skipL (n - col) col 0 r).2)
theorem reach_nil : Reach [] 0 := ⟨fun r => by rw [List.nil_append, Nat.zero_add], fun n r _ => by rw [List.nil_append, List.length_nil, Nat.zero_add, Nat.sub_zero]⟩
theorem reach_snoc {s : List UInt8} {col : Nat} {b : UInt8} {v : Nat} (h : Reach s col) (hb : ([32, 9] : List UInt8).contains b = true) (hv : col + wideB col 0 b = v) : Reach (s ++ [b]) v := by
  have hw := blank_wide hb col 0
  subst hv
  refine ⟨fun r => ?_, fun n r hn => ?_⟩
  · rw [List.append_assoc, h.1, List.singleton_append, ind_cons, if_neg (by omega)]; omega
  · rw [List.append_assoc, h.2 n _ (by omega), List.singleton_append, skip_step (by omega) (by omega), if_neg (by omega), Nat.sub_sub, List.length_append]
    refine Prod.ext ?_ rfl
    show s.length + ((skipL _ _ _ _).1 + 1) = s.length + 1 + _
    omega
theorem reach_blank {s : List UInt8} {col : Nat} (h : Reach s col) : Reach (s ++ [32]) (col + 1) := reach_snoc h rfl rfl
theorem reach_tab {s : List UInt8} {col : Nat} (h : Reach s col) : Reach (s ++ [9]) (col / 4 * 4 + 4) := reach_snoc h rfl (by
  unfold wideB
  rw [if_neg (by simp), if_neg (by decide), if_pos rfl]
  omega)
theorem reach_ind {s : List UInt8} {col : Nat} (h : Reach s col) : indL 0 0 (s ++ [120]) = col := by
  rw [h.1, ind_cons, if_pos (by unfold wideB; rw [if_neg (by simp), if_neg (by decide), if_neg (by decide)])]; rfl
theorem reach_skip {s : List UInt8} {col n : Nat} (h : Reach s col) (hn : col ≤ n) : skipL n 0 0 (s ++ [120]) = (s.length, col, 0) := by
  rw [h.2 n _ hn, skip_cons, if_pos (.inr (by unfold wideB; rw [if_neg (by simp), if_neg (by decide), if_neg (by decide)]))]; rfl
end Go.Proofs.YtfgpephpkibbaaaGreatDoor

