/-
  Texts of the proof, one behind the other: Bya, Bkw, Bkc.
-/
import Derived.Test.YtfgpephpkibbaaaGreatDoorM32
import Derived.Test.YtfgpephpkibbaaaGreatDoorM5
/-
  Lines that are definitions of words: they leave no block, and are told in their order.
-/
namespace Go.Proofs.YtfgpephpkibbaaaGreatDoor
open Go Go.Lib

/-- A definition of a word. -/
def dfW (w : List UInt8) : List UInt8 := 91 :: (w ++ 93 :: 58 :: 32 :: w)
/-- Definitions, each with an LF. -/
def dfT3 (ws : List (List UInt8)) : List UInt8 := ws.flatMap fun w => dfW w ++ [10]
theorem dfT3_cons (w : List UInt8) (ws : List (List UInt8)) : dfT3 (w :: ws) = 91 :: (w ++ 93 :: 58 :: 32 :: (w ++ 10 :: dfT3 ws)) := by
  unfold dfT3 dfW
  rw [List.flatMap_cons]
  simp
theorem dfT3_snoc (ws : List (List UInt8)) (w : List UInt8) : dfT3 (ws ++ [w]) = dfT3 ws ++ dfW w ++ [10] := by
  unfold dfT3
  rw [List.flatMap_append, List.flatMap_cons, List.flatMap_nil, List.append_nil, List.append_assoc]
theorem ltr_ldB {b : UInt8} (h : ltr b) : ldB b = true := by
  have h1 := h.1
  have h2 := h.2
  unfold ldB
  rw [decide_eq_true h1, decide_eq_true h2]
  rfl
theorem ed_some (r : List UInt8) (h : titN r = 0) (hs : spcN true true r = 0) : edB (10 :: r) = true ∧ edN (10 :: r) = 1 ∧ edT (10 :: r) = [] := by
  have a : ttA (10 :: r) = 1 := by
    unfold ttA
    show spcN true true r + 1 = 1
    rw [hs]
  have m : ttM (10 :: r) = 0 := by
    unfold ttM
    rw [a]
    exact h
  have k : ttK (10 :: r) = false := by
    unfold ttK ttB
    rw [m]
    simp
  have l : lneN (10 :: r) = 1 := rfl
  unfold edB edN edT
  rw [k, l]
  exact ⟨rfl, rfl, rfl⟩
theorem ed_defs (ws : List (List UInt8)) : edB (10 :: dfT3 ws) = true ∧ edN (10 :: dfT3 ws) = 1 ∧ edT (10 :: dfT3 ws) = [] := by
  cases ws with
  | nil => exact ed_some _ (by decide +kernel) (by decide +kernel)
  | cons w ws =>
    rw [dfT3_cons]
    refine ed_some _ ?_ (spc_none true true 91 _ (by decide))
    unfold titN
    exact if_pos rfl
theorem dfs_words : ∀ ws : List (List UInt8), (∀ w ∈ ws, Wrd w ∧ w.length ≤ 40) → dfsL (dfT3 ws) = ws.map (fun w => (w, w, [])) ∧ dfrL (dfT3 ws) = []
  | [], _ => by
    obtain ⟨h1, h2⟩ := dfs_stop (l := dfT3 []) (by decide +kernel)
    exact ⟨h1, h2⟩
  | w :: ws, h => by
    obtain ⟨hw, hl⟩ := h w (List.mem_cons_self ..)
    have ih := dfs_words ws fun x hx => h x (List.mem_cons_of_mem _ hx)
    obtain ⟨e1, e2, e3⟩ := ed_defs ws
    have hb : ∀ b ∈ w, ldB b = true := fun b hb => ltr_ldB (hw.2 b hb)
    obtain ⟨_, h2, h3, h4, h5⟩ := df_letters w w (10 :: dfT3 ws) (dfT3 ws) 32 hb hb hw.1 hw.1 (by omega) (.inl rfl) 10 rfl (by decide) e1
    rw [e3] at h4
    rw [e2] at h5
    rw [dfT3_cons]
    obtain ⟨L, hL⟩ : ∃ L, 91 :: (w ++ 93 :: 58 :: 32 :: (w ++ 10 :: dfT3 ws)) = L := ⟨_, rfl⟩
    rw [hL] at h2 h3 h4 h5 ⊢
    have hd : L.drop (w.length + w.length + 4 + 1) = dfT3 ws := by
      have e : L = (91 :: (w ++ 93 :: 58 :: 32 :: (w ++ [10]))) ++ dfT3 ws := by rw [← hL]; simp
      rw [e, List.drop_left' (by simp; omega)]
    obtain ⟨s1, s2⟩ := dfs_step (l := L) (by rw [h5]; omega)
    rw [s1, s2, h2, h3, h4, h5, hd, ih.1, ih.2]
    exact ⟨rfl, rfl⟩

/-! A line that begins with a [. -/
theorem brk_line (r : List UInt8) : newLn (91 :: r) = L0 (91 :: r) := by
  unfold newLn lookM L0
  show Ln.mk _ _ _ (indL 0 0 (91 :: r)) (nextL (91 :: r)) = _
  rw [ind_cons, show wideB 0 0 91 = 0 from rfl, if_pos rfl]
  rfl
theorem beg_brk (r : List UInt8) (s : St) (i : Nat) (hl : s.line = L0 (91 :: r)) : beginM s i = (s, 0) := by
  have hn : s.line.next = 91 :: r := by rw [hl]; rfl
  have hi : s.line.ind = 0 := by rw [hl]; rfl
  have hq : (pastQuoteM s.line).2 = false := by
    unfold pastQuoteM quoteB
    rw [hn, show hasPrefix (91 :: r) [62] = false from rfl, Bool.and_false]; rfl
  have hhd : headN (91 :: r) = 0 := by
    unfold headN
    rw [show cntL 35 (91 :: r) = 0 by rw [cnt_cons, if_neg (by decide)], if_pos (.inl (by decide))]
  have hf : fenN (91 :: r) = 0 := by
    unfold fenN fenB fcB
    show (if (_ && (if (((91 : UInt8).toNat : Nat) : Int) = 96 then _ else decide ((((91 : UInt8).toNat : Nat) : Int) = 126))) = true then _ else 0) = 0
    rw [if_neg (by decide : ¬ (((91 : UInt8).toNat : Nat) : Int) = 96), decide_eq_false (by decide : ¬ (((91 : UInt8).toNat : Nat) : Int) = 126), Bool.and_false]; rfl
  have hht : htmlL (91 :: r) = 0 := by
    unfold htmlL
    rw [show hasPrefix (91 :: r) [60] = false from rfl]; rfl
  have hel : elemB (91 :: r) = false := by
    unfold elemB tagN
    rfl
  have hh : htmKM s = 0 := by
    unfold htmKM
    rw [hn, hht, if_pos rfl, hel, Bool.and_false]; rfl
  have hun : underL (91 :: r) = 0 := by
    unfold underL stretchL
    rw [show cntL 61 (91 :: r) = 0 by rw [cnt_cons, if_neg (by decide)], show cntL 45 (91 :: r) = 0 by rw [cnt_cons, if_neg (by decide)]]; rfl
  have hu : bUnderM s i = (s, false) := by
    unfold bUnderM
    rw [hn, hun, if_pos (.inl rfl)]
  have hls : lstB (91 :: r) = false := rfl
  have hit : bItemM s i = (s, false) := by
    unfold bItemM itemB
    rw [hn, hls, Bool.false_and]; rfl
  have hru : ruleL (91 :: r) = false := by
    unfold ruleL
    rw [List.all_cons]
    rfl
  unfold beginM
  rw [if_neg (by rw [hn]; exact List.cons_ne_nil _ _), if_neg (by omega), hq, hn, hhd, hf, hh, hu]
  rw [if_neg Bool.false_ne_true, if_neg (fun c => c rfl), if_neg (fun c => c rfl), if_neg (fun c => c rfl), if_neg Bool.false_ne_true]
  unfold bRestM
  rw [hn, hru, hit]; rfl
theorem begun_brk (r : List UInt8) (s : St) (i : Nat) (hl : s.line = L0 (91 :: r)) (hk : ¬ ((s.nd i).kind = 7 ∨ (s.nd i).kind = 8)) : begunM s i = (s, i, 0) := by
  unfold begunM
  rw [if_neg hk, begunGo, beg_brk r s i hl]; rfl

/-- Behind definitions: no block is open. -/
def sD (be : Bool) (ps : List Nd) (rs : List Rf) (l : Ln) (kn : Nat) : St := ⟨nD (-1) be :: ps, 0, rs, l, kn, false⟩
/-- .. or a paragraph of that text. -/
def sP (t : List UInt8) (ps : List Nd) (rs : List Rf) (l : Ln) (kn : Nat) : St := ⟨nD ((ps.length + 1 : Nat) : Int) false :: (ps ++ [nP (-1) t false]), ps.length + 1, rs, l, kn, false⟩
theorem brk_first (r : List UInt8) (be : Bool) (ps : List Nd) (rs : List Rf) (l : Ln) (kn : Nat) : takeM (sD be ps rs l kn) (91 :: r) = sP (91 :: r ++ [10]) ps rs (L0 (91 :: r)) (ps.length + 1) := by
  unfold takeM startM
  rw [brk_line r]
  obtain ⟨s', hs'⟩ : ∃ s' : St, (⟨nD (-1) be :: ps, 0, rs, L0 (91 :: r), ps.length + 1, false⟩ : St) = s' := ⟨_, rfl⟩
  show lineM ⟨nD (-1) be :: ps, 0, rs, L0 (91 :: r), ps.length + 1, false⟩ = _
  rw [hs']
  have hm : matchedM s' = (s', 0, false) := by rw [← hs']; rfl
  rw [line_open hm, begun_brk r s' 0 (by rw [← hs']) (by rw [← hs']; show ¬ ((1 : Nat) = 7 ∨ (1 : Nat) = 8); decide), ← hs']
  have e2 : ebGo (ps.length + 1) (nD (-1) be :: ps) 0 false = nD (-1) false :: ps := by
    rw [ebGo, if_neg (by decide)]
    exact ebGo_neg _ _ _
  have e1 : restM ⟨nD (-1) be :: ps, 0, rs, L0 (91 :: r), ps.length + 1, false⟩ 0 0 = fillM ⟨ebGo (ps.length + 1) (nD (-1) be :: ps) 0 false, 0, rs, L0 (91 :: r), ps.length + 1, false⟩ 0 := rfl
  show restM ⟨nD (-1) be :: ps, 0, rs, L0 (91 :: r), ps.length + 1, false⟩ 0 0 = _
  rw [e1, e2]
  have e3 : fillM ⟨nD (-1) false :: ps, 0, rs, L0 (91 :: r), ps.length + 1, false⟩ 0 = putM ⟨nD ((ps.length + 1 : Nat) : Int) false :: (ps ++ [nP (-1) [] false]), ps.length + 1, rs, L0 (91 :: r), ps.length + 1, false⟩ (ps.length + 1) := rfl
  rw [e3]
  unfold putM St.put St.nd
  show St.mk ((nD ((ps.length + 1 : Nat) : Int) false :: (ps ++ [nP (-1) [] false])).set (ps.length + 1) _) _ _ _ _ _ = _
  rw [gN_end, set_end]
  rfl
theorem brk_more (r t : List UInt8) (ps : List Nd) (rs : List Rf) (l : Ln) (kn : Nat) : takeM (sP t ps rs l kn) (91 :: r) = sP (t ++ (91 :: r) ++ [10]) ps rs (L0 (91 :: r)) (ps.length + 2) := by
  unfold takeM startM
  rw [brk_line r]
  obtain ⟨s', hs'⟩ : ∃ s' : St, sP t ps rs (L0 (91 :: r)) (ps.length + 2) = s' := ⟨_, rfl⟩
  have e0 : ({ sP t ps rs l kn with line := L0 (91 :: r), known := (sP t ps rs l kn).list.length } : St) = s' := by
    rw [← hs']
    unfold sP
    congr 1 <;> first | rfl | simp
  rw [e0]
  have hx : s'.nd (ps.length + 1) = nP (-1) t false := by rw [← hs']; exact gN_end _ _ _
  have ht : s'.tip = ps.length + 1 := by rw [← hs']; rfl
  have hl : s'.line = L0 (91 :: r) := by rw [← hs']; rfl
  have hla : (s'.nd 0).last.toNat = ps.length + 1 := by rw [← hs']; rfl
  have hm : matchedM s' = (s', ps.length + 1, false) := by
    have e1 : matchedM s' = matchGo ((ps.length + 1) + 1) s' 0 := by rw [← hs']; unfold matchedM sP; simp
    have e2 : endsFenceM s' (ps.length + 1) = false := by unfold endsFenceM; rw [hx]; rfl
    have e3 : goesOnM s' (ps.length + 1) = (s'.line, true) := by unfold goesOnM; rw [hx, hl]; rfl
    have e4 : s'.atL s'.line = s' := rfl
    rw [e1, matchGo, if_neg (by rw [ht]; omega), hla, e2, if_neg Bool.false_ne_true, e3, if_pos rfl, e4, matchGo, if_pos ht.symm]
  rw [line_open hm, begun_brk r s' _ hl (by rw [hx]; show ¬ ((5 : Nat) = 7 ∨ (5 : Nat) = 8); decide)]
  have e1 : restM s' (ps.length + 1) 0 = putM (s'.atL (skipBM s'.line s'.line.ind)) s'.tip := by
    unfold restM
    rw [if_pos rfl, if_pos ⟨by rw [ht, hx]; rfl, by rw [hl]; exact List.cons_ne_nil _ _⟩]
  show restM s' (ps.length + 1) 0 = _
  rw [e1, ht, hl, show skipBM (L0 (91 :: r)) (L0 (91 :: r)).ind = L0 (91 :: r) from skipM_zero _]
  unfold putM
  show St.put _ _ { gN s'.list (ps.length + 1) with text := (gN s'.list (ps.length + 1)).text ++ lrestM (L0 (91 :: r)) ++ [10] } = _
  have hg : gN s'.list (ps.length + 1) = nP (-1) t false := hx
  rw [hg, ← hs']
  unfold St.put sP St.atL
  dsimp only
  rw [set_end]
  rfl
theorem defs_close (gs : List (List UInt8)) (hg : ∀ w ∈ gs, Wrd w ∧ w.length ≤ 40) (ps : List Nd) (rs : List Rf) (l : Ln) (kn : Nat) :
    closeM (sP (dfT3 gs) ps rs l kn) = sD false (ps ++ [nP (-1) [] false]) (rs ++ gs.map fun w => (w, w, [])) l kn := by
  obtain ⟨h1, h2⟩ := dfs_words gs hg
  obtain ⟨s', hs'⟩ : ∃ s' : St, sP (dfT3 gs) ps rs l kn = s' := ⟨_, rfl⟩
  rw [hs']
  have hx : s'.nd (ps.length + 1) = nP (-1) (dfT3 gs) false := by rw [← hs']; exact gN_end _ _ _
  have ht : s'.tip = ps.length + 1 := by rw [← hs']; rfl
  have hd : defineM s' (ps.length + 1) = ⟨nD ((ps.length + 1 : Nat) : Int) false :: (ps ++ [nP (-1) [] false]), ps.length + 1, rs ++ gs.map (fun w => (w, w, [])), l, kn, false⟩ := by
    unfold defineM
    rw [hx]
    show ({ s' with refs := s'.refs ++ dfsL (dfT3 gs), list := s'.list.set (ps.length + 1) { nP (-1) (dfT3 gs) false with text := trimL (dfrL (dfT3 gs)) } } : St) = _
    rw [h1, h2, ← hs']
    unfold sP
    dsimp only
    rw [set_end]
    rfl
  have hdx : (defineM s' (ps.length + 1)).nd (ps.length + 1) = nP (-1) [] false := by rw [hd]; exact gN_end _ _ _
  unfold closeM closedM
  rw [ht, if_pos (by rw [hx]; rfl)]
  unfold closeParaM
  rw [if_pos (by rw [hdx]; rfl), hdx, hd, hx]
  rfl
theorem defs_blank (gs : List (List UInt8)) (hg : ∀ w ∈ gs, Wrd w ∧ w.length ≤ 40) (ps : List Nd) (rs : List Rf) (l : Ln) (kn : Nat) :
    ∃ kn', takeM (sP (dfT3 gs) ps rs l kn) [] = sD true (ps ++ [nP (-1) [] false]) (rs ++ gs.map fun w => (w, w, [])) (L0 []) kn' := by
  refine ⟨ps.length + 2, ?_⟩
  unfold takeM startM
  obtain ⟨s', hs'⟩ : ∃ s' : St, sP (dfT3 gs) ps rs (L0 []) (ps.length + 2) = s' := ⟨_, rfl⟩
  have e0 : ({ sP (dfT3 gs) ps rs l kn with line := newLn [], known := (sP (dfT3 gs) ps rs l kn).list.length } : St) = s' := by
    rw [← hs']
    show St.mk _ _ _ (newLn []) (nD ((ps.length + 1 : Nat) : Int) false :: (ps ++ [nP (-1) (dfT3 gs) false])).length _ = _
    rw [show (nD ((ps.length + 1 : Nat) : Int) false :: (ps ++ [nP (-1) (dfT3 gs) false])).length = ps.length + 2 by simp]
    rfl
  rw [e0]
  have hx : s'.nd (ps.length + 1) = nP (-1) (dfT3 gs) false := by rw [← hs']; exact gN_end _ _ _
  have ht : s'.tip = ps.length + 1 := by rw [← hs']; rfl
  have hl : s'.line = L0 [] := by rw [← hs']; rfl
  have h0 : s'.nd 0 = nD ((ps.length + 1 : Nat) : Int) false := by rw [← hs']; rfl
  have hla : (s'.nd 0).last.toNat = ps.length + 1 := by rw [h0]; rfl
  have hm : matchedM s' = (s', 0, false) := by
    have e1 : matchedM s' = matchGo ((ps.length + 1) + 1) s' 0 := by rw [← hs']; unfold matchedM sP; simp
    have e2 : endsFenceM s' (ps.length + 1) = false := by unfold endsFenceM; rw [hx]; rfl
    have e3 : goesOnM s' (ps.length + 1) = (s'.line, false) := by unfold goesOnM; rw [hx, hl]; rfl
    rw [e1, matchGo, if_neg (by rw [ht]; omega), hla, e2, if_neg Bool.false_ne_true, e3, if_neg Bool.false_ne_true]
    rfl
  have hb : begunM s' 0 = (s', 0, 0) := by
    have hbe : beginM s' 0 = (s', 0) := by unfold beginM; rw [if_pos (by rw [hl]; rfl)]
    unfold begunM
    rw [if_neg (by rw [h0]; show ¬ ((1 : Nat) = 7 ∨ (1 : Nat) = 8); decide), begunGo, hbe]; rfl
  rw [line_open hm, hb]
  have e : restM s' 0 0 = fillM (endBlankM (cwM s' 0) 0) 0 := by
    unfold restM
    rw [if_pos rfl, if_neg (fun c => c.2 (by rw [hl]; rfl)), ← hs']; rfl
  have hc : cwM s' 0 = sD false (ps ++ [nP (-1) [] false]) (rs ++ gs.map fun w => (w, w, [])) (L0 []) (ps.length + 2) := by
    unfold cwM
    rw [ht, cwGo, if_neg (by rw [ht]; omega), ← hs', defs_close gs hg]
    exact cwGo_at _ _ 0 rfl
  show restM s' 0 0 = _
  rw [e, hc]
  obtain ⟨qs, hqs⟩ : ∃ qs, ps ++ [nP (-1) [] false] = qs := ⟨_, rfl⟩
  rw [hqs]
  have e6 : ebLast (sD false qs (rs ++ gs.map fun w => (w, w, [])) (L0 []) (ps.length + 2)) 0 = nD (-1) false :: qs := by
    unfold ebLast
    rw [if_neg (fun c => c.2 rfl)]
    rfl
  unfold endBlankM
  rw [e6]
  have e7 : ebGo (qs.length + 1) (nD (-1) false :: qs) 0 true = nD (-1) true :: qs := by
    rw [ebGo, if_neg (by decide)]
    exact ebGo_neg _ _ _
  show fillM ⟨ebGo (qs.length + 1) (nD (-1) false :: qs) 0 true, 0, _, L0 [], ps.length + 2, false⟩ 0 = _
  rw [e7]
  rfl

/-! All lines. -/
def lnJ : Nat → List (List UInt8) → List (List UInt8)
  | _, [] => []
  | j, w :: ws => if j = 2 then dfW w :: [] :: lnJ 0 ws else dfW w :: lnJ (j + 1) ws
/-- .. as a text. -/
def txJ : Nat → List (List UInt8) → List UInt8
  | _, [] => []
  | j, w :: ws => if j = 2 then dfW w ++ [10] ++ [10] ++ txJ 0 ws else dfW w ++ [10] ++ txJ (j + 1) ws
theorem dfW_lf {w : List UInt8} (h : Wrd w) : ∀ b ∈ dfW w, b ≠ 10 := by
  intro b hb
  unfold dfW at hb
  simp only [List.mem_cons, List.mem_append] at hb
  rcases hb with rfl | hb | rfl | rfl | rfl | hb
  · decide
  · exact h.lf b hb
  · decide
  · decide
  · decide
  · exact h.lf b hb
theorem lines_J : ∀ (ws : List (List UInt8)) (j : Nat), (∀ w ∈ ws, Wrd w ∧ w.length ≤ 40) → linesL (txJ j ws) = lnJ j ws
  | [], _, _ => rfl
  | w :: ws, j, h => by
    have hw := (h w (List.mem_cons_self ..)).1
    have ht := fun x hx => h x (List.mem_cons_of_mem _ hx)
    unfold txJ lnJ
    by_cases hj : j = 2
    · rw [if_pos hj, if_pos hj, ← lines_J ws 0 ht]
      have e : dfW w ++ [10] ++ [10] ++ txJ 0 ws = dfW w ++ 10 :: ([] ++ 10 :: txJ 0 ws) := by simp
      rw [e, pa_cut (dfW_lf hw), pa_cut (fun b hb => by cases hb)]
    · rw [if_neg hj, if_neg hj, ← lines_J ws (j + 1) ht]
      have e : dfW w ++ [10] ++ txJ (j + 1) ws = dfW w ++ 10 :: txJ (j + 1) ws := by simp
      rw [e, pa_cut (dfW_lf hw)]
def stJ (gs : List (List UInt8)) (be : Bool) (ps : List Nd) (rs : List Rf) (l : Ln) (kn : Nat) : St := if gs = [] then sD be ps rs l kn else sP (dfT3 gs) ps rs l kn
theorem take_J {w : List UInt8} (gs : List (List UInt8)) (be : Bool) (ps : List Nd) (rs : List Rf) (l : Ln) (kn : Nat) : ∃ l' kn', takeM (stJ gs be ps rs l kn) (dfW w) = sP (dfT3 (gs ++ [w])) ps rs l' kn' := by
  unfold stJ
  by_cases h : gs = []
  · subst h
    rw [if_pos rfl]
    refine ⟨L0 (dfW w), ps.length + 1, (brk_first (w ++ 93 :: 58 :: 32 :: w) be ps rs l kn).trans ?_⟩
    rw [List.nil_append]
    show sP (dfW w ++ [10]) ps rs _ _ = _
    rw [show dfT3 [w] = dfW w ++ [10] by unfold dfT3; rw [List.flatMap_cons, List.flatMap_nil, List.append_nil]]
    rfl
  · rw [if_neg h]
    refine ⟨L0 (dfW w), ps.length + 2, (brk_more (w ++ 93 :: 58 :: 32 :: w) _ ps rs l kn).trans ?_⟩
    rw [dfT3_snoc]
    rfl
theorem told_none (be : Bool) (ps : List Nd) (rs : List Rf) (l : Ln) (kn : Nat) : toldM (sD be ps rs l kn).list 0 = .mk 1 0 false 0 0 false [] [] [] := by
  unfold toldM
  show toldGo (ps.length + 1) (nD (-1) be :: ps) 0 = _
  rw [toldGo]
  rfl
theorem run_J : ∀ (ws gs : List (List UInt8)) (j : Nat) (be : Bool) (ps : List Nd) (rs : List Rf) (l : Ln) (kn : Nat), gs.length = j → j ≤ 2 → (∀ w ∈ gs, Wrd w ∧ w.length ≤ 40) → (∀ w ∈ ws, Wrd w ∧ w.length ≤ 40) →
    ∃ s, runBM (lnJ j ws) (stJ gs be ps rs l kn) = some s ∧ toldM (cwM s 0).list 0 = .mk 1 0 false 0 0 false [] [] [] ∧ (cwM s 0).refs = rs ++ (gs ++ ws).map fun w => (w, w, [])
  | [], gs, j, be, ps, rs, l, kn, hj, h2, hg, _ => by
    unfold lnJ
    rw [runBM]
    refine ⟨_, rfl, ?_⟩
    unfold stJ
    by_cases h : gs = []
    · subst h
      rw [if_pos rfl, List.append_nil, List.map_nil, List.append_nil]
      rw [show cwM (sD be ps rs l kn) 0 = sD be ps rs l kn from cwGo_at _ _ 0 rfl]
      exact ⟨told_none .., rfl⟩
    · rw [if_neg h, List.append_nil]
      have hc : cwM (sP (dfT3 gs) ps rs l kn) 0 = sD false (ps ++ [nP (-1) [] false]) (rs ++ gs.map fun w => (w, w, [])) l kn := by
        unfold cwM
        show cwGo (ps.length + 1) _ 0 = _
        rw [cwGo, if_neg (by show ps.length + 1 ≠ 0; omega), defs_close gs hg]
        exact cwGo_at _ _ 0 rfl
      rw [hc]
      exact ⟨told_none .., rfl⟩
  | w :: ws, gs, j, be, ps, rs, l, kn, hj, h2, hg, hw => by
    have hwx := hw w (List.mem_cons_self ..)
    have ht := fun x hx => hw x (List.mem_cons_of_mem _ hx)
    have hg' : ∀ x ∈ gs ++ [w], Wrd x ∧ x.length ≤ 40 := fun x hx => by
      rcases List.mem_append.1 hx with q | q
      · exact hg x q
      · rw [List.mem_singleton.1 q]; exact hwx
    obtain ⟨l1, k1, e1⟩ := take_J (w := w) gs be ps rs l kn
    unfold lnJ
    by_cases c : j = 2
    · rw [if_pos c]
      obtain ⟨k2, e2⟩ := defs_blank (gs ++ [w]) hg' ps rs l1 k1
      obtain ⟨s, r1, r2, r3⟩ := run_J ws [] 0 true (ps ++ [nP (-1) [] false]) (rs ++ (gs ++ [w]).map fun w => (w, w, [])) (L0 []) k2 rfl (by omega) (fun _ h => by cases h) ht
      refine ⟨s, ?_, r2, ?_⟩
      · rw [runBM, e1, if_neg (by exact Bool.false_ne_true), runBM, e2, if_neg (by exact Bool.false_ne_true)]
        exact r1
      · rw [r3, List.append_assoc, ← List.map_append, List.nil_append, List.append_assoc]; rfl
    · rw [if_neg c]
      obtain ⟨s, r1, r2, r3⟩ := run_J ws (gs ++ [w]) (j + 1) false ps rs l1 k1 (by rw [List.length_append, hj]; rfl) (by omega) hg' ht
      refine ⟨s, ?_, r2, ?_⟩
      · rw [runBM, e1, if_neg (by exact Bool.false_ne_true)]
        unfold stJ at r1
        rw [if_neg (by simp)] at r1
        exact r1
      · rw [r3, List.append_assoc]; rfl
/-- Definitions, three a paragraph, leave no block. -/
theorem refs_parse {ws : List (List UInt8)} (h : ∀ w ∈ ws, Wrd w ∧ w.length ≤ 40) : parseM (txJ 0 ws) = some (.mk 1 0 false 0 0 false [] [] [], ws.map fun w => (w, w, [])) := by
  obtain ⟨s, r1, r2, r3⟩ := run_J ws [] 0 false [] [] ⟨[], 0, 0, 0, []⟩ 0 rfl (by omega) (fun _ h => by cases h) h
  unfold parseM
  rw [lines_J ws 0 h]
  have e : runBM (lnJ 0 ws) st0 = some s := r1
  rw [e, Option.map_some, r2, r3]
  rfl
end Go.Proofs.YtfgpephpkibbaaaGreatDoor

/-
  What the list of blocks keeps: places lead where they may, and the open blocks are the last ones. No program in sight.
-/
namespace Go.Proofs.YtfgpephpkibbaaaGreatDoor
open Go Go.Lib

theorem gN_set (l : List Nd) (i : Nat) (n : Nd) (j : Nat) : gN (l.set i n) j = if j = i ∧ i < l.length then n else gN l j := by
  unfold gN
  rw [List.getD_eq_getElem?_getD, List.getD_eq_getElem?_getD, List.getElem?_set]
  by_cases h : i = j
  · subst h
    by_cases hl : i < l.length
    · simp [hl]
    · simp [hl]
  · rw [if_neg h, if_neg (by omega)]
theorem gN_at {l : List Nd} {i : Nat} (h : i < l.length) (n : Nd) : gN (l.set i n) i = n := by rw [gN_set, if_pos ⟨rfl, h⟩]
theorem gN_ne {l : List Nd} {i j : Nat} (h : j ≠ i) (n : Nd) : gN (l.set i n) j = gN l j := by rw [gN_set, if_neg (by omega)]
theorem gN_app {l : List Nd} {j : Nat} (h : j < l.length) (r : List Nd) : gN (l ++ r) j = gN l j := by
  unfold gN
  rw [List.getD_eq_getElem?_getD, List.getD_eq_getElem?_getD, List.getElem?_append_left h]
theorem gN_new (l : List Nd) (b : Nd) : gN (l ++ [b]) l.length = b := by
  unfold gN
  rw [List.getD_eq_getElem?_getD, List.getElem?_append_right (Nat.le_refl _)]
  simp
theorem gN_out {l : List Nd} {j : Nat} (h : l.length ≤ j) : gN l j = blkN 1 := by
  unfold gN
  rw [List.getD_eq_getElem?_getD, List.getElem?_eq_none h]; rfl

/-- The open blocks, from the tip on. -/
inductive On (l : List Nd) : Nat → Nat → Prop
  | refl (t : Nat) : On l t t
  | step {t a : Nat} : 0 < t → On l (gN l t).up.toNat a → On l t a

structure Wf (l : List Nd) (t : Nat) : Prop where
  tip : t < l.length
  doc : (gN l 0).kind = 1
  up0 : (gN l 0).up = -1
  up : ∀ i, 0 < i → i < l.length → 0 ≤ (gN l i).up ∧ (gN l i).up < i
  last : ∀ i, i < l.length → (gN l i).last = -1 ∨ ((i : Int) < (gN l i).last ∧ (gN l i).last < l.length)
  ahead : ∀ i, i < l.length → (gN l i).ahead = -1 ∨ ((gN l i).up < (gN l i).ahead ∧ (gN l i).ahead < i)
  depth : ∀ i, i < l.length → (gN l i).depth ≤ i
  ind : ∀ i, (gN l i).indent ≤ 1000000
  opn : ∀ x, On l t x → x ≠ 0 → (gN l (gN l x).up.toNat).last = x

theorem On.same {l l' : List Nd} (h : ∀ i, (gN l' i).up = (gN l i).up) {t a : Nat} (k : On l t a) : On l' t a := by
  induction k with
  | refl t => exact .refl t
  | step h0 _ ih => exact .step h0 (by rw [h]; exact ih)
theorem On.le {l : List Nd} {t a : Nat} (h : Wf l t) (k : On l t a) : a ≤ t := by
  have hu := h.up
  have ht := h.tip
  clear h
  induction k with
  | refl t => exact Nat.le_refl _
  | @step t a h0 _ ih =>
    have := hu t h0 ht
    have := ih (by omega)
    omega
/-- The block in i that is open. -/
theorem On.child {l : List Nd} {t i : Nat} (k : On l t i) (hne : i ≠ t) : ∃ y, On l t y ∧ (gN l y).up.toNat = i ∧ 0 < y := by
  induction k with
  | refl t => exact absurd rfl hne
  | @step t a h0 _ ih =>
    by_cases e : a = (gN l t).up.toNat
    · exact ⟨t, .refl t, e.symm, h0⟩
    · obtain ⟨y, h1, h2, h3⟩ := ih e
      exact ⟨y, .step h0 h1, h2, h3⟩
theorem Wf.child {l : List Nd} {t i : Nat} (h : Wf l t) (k : On l t i) (hne : i ≠ t) : ∃ y : Nat, (gN l i).last = (y : Int) ∧ On l t y ∧ i < y ∧ y < l.length := by
  obtain ⟨y, h1, h2, h3⟩ := k.child hne
  have hy := h1.le h
  have ht := h.tip
  have hl := h.opn y h1 (by omega)
  have hu := h.up y h3 (by omega)
  rw [h2] at hl
  exact ⟨y, hl, h1, by omega, by omega⟩

/-- What says where blocks are stays. -/
def Sk (l l' : List Nd) : Prop := l'.length = l.length ∧ ∀ i, (gN l' i).up = (gN l i).up ∧ (gN l' i).last = (gN l i).last ∧ (gN l' i).ahead = (gN l i).ahead ∧ (gN l' i).depth = (gN l i).depth
theorem Sk.refl (l : List Nd) : Sk l l := ⟨rfl, fun _ => ⟨rfl, rfl, rfl, rfl⟩⟩
theorem Sk.trans {a b c : List Nd} (h : Sk a b) (k : Sk b c) : Sk a c := ⟨k.1.trans h.1, fun i => by
  obtain ⟨a1, a2, a3, a4⟩ := h.2 i
  obtain ⟨b1, b2, b3, b4⟩ := k.2 i
  exact ⟨b1.trans a1, b2.trans a2, b3.trans a3, b4.trans a4⟩⟩
theorem Sk.set (l : List Nd) (i : Nat) (n : Nd) (h : n.up = (gN l i).up ∧ n.last = (gN l i).last ∧ n.ahead = (gN l i).ahead ∧ n.depth = (gN l i).depth) : Sk l (l.set i n) := ⟨by simp, fun j => by
  rw [gN_set]
  split
  · next e => rw [e.1]; exact h
  · exact ⟨rfl, rfl, rfl, rfl⟩⟩
theorem Wf.sk {l l' : List Nd} {t : Nat} (h : Wf l t) (k : Sk l l') (hd : (gN l' 0).kind = 1) (hi : ∀ i, (gN l' i).indent ≤ 1000000) : Wf l' t := by
  obtain ⟨k0, k⟩ := k
  refine ⟨by rw [k0]; exact h.tip, hd, by rw [(k 0).1]; exact h.up0, fun i h0 hl => ?_, fun i hl => ?_, fun i hl => ?_, fun i hl => ?_, hi, fun x hx h0 => ?_⟩
  · rw [(k i).1]; exact h.up i h0 (by omega)
  · rw [(k i).2.1, k0]; exact h.last i (by omega)
  · rw [(k i).1, (k i).2.2.1]; exact h.ahead i (by omega)
  · rw [(k i).2.2.2]; exact h.depth i (by omega)
  · rw [(k x).1, (k _).2.1]
    exact h.opn x (hx.same fun i => ((k i).1).symm) h0
/-- .. of one block. -/
theorem Wf.set {l : List Nd} {t : Nat} (h : Wf l t) (i : Nat) (n : Nd) (hn : n.up = (gN l i).up ∧ n.last = (gN l i).last ∧ n.ahead = (gN l i).ahead ∧ n.depth = (gN l i).depth) (hk : i = 0 → n.kind = 1) (hi : n.indent ≤ 1000000) : Wf (l.set i n) t :=
  h.sk (Sk.set l i n hn) (by rw [gN_set]; split; · next e => exact hk e.1.symm
                             · exact h.doc) (fun j => by rw [gN_set]; split; · exact hi
                                                         · exact h.ind j)

/-! Closing: of each block the text, the last one in it, and whether it is tight may turn. -/
def Cl (l l' : List Nd) : Prop := l'.length = l.length ∧ ∀ i, ∃ a b c, gN l' i = { gN l i with text := a, last := b, tight := c }
theorem Cl.refl (l : List Nd) : Cl l l := ⟨rfl, fun _ => ⟨_, _, _, rfl⟩⟩
theorem Cl.trans {a b c : List Nd} (h : Cl a b) (k : Cl b c) : Cl a c := ⟨k.1.trans h.1, fun i => by
  obtain ⟨_, _, _, e⟩ := h.2 i
  obtain ⟨_, _, _, e'⟩ := k.2 i
  rw [e] at e'
  exact ⟨_, _, _, e'⟩⟩
theorem Cl.set (l : List Nd) (i : Nat) (a : List UInt8) (b : Int) (c : Bool) : Cl l (l.set i { gN l i with text := a, last := b, tight := c }) := ⟨by simp, fun j => by
  rw [gN_set]
  split
  · next e => exact ⟨a, b, c, by rw [e.1]⟩
  · exact ⟨_, _, _, rfl⟩⟩
theorem Cl.up {l l' : List Nd} (h : Cl l l') (i : Nat) : (gN l' i).up = (gN l i).up := by obtain ⟨_, _, _, e⟩ := h.2 i; rw [e]
theorem Cl.kind {l l' : List Nd} (h : Cl l l') (i : Nat) : (gN l' i).kind = (gN l i).kind := by obtain ⟨_, _, _, e⟩ := h.2 i; rw [e]
theorem Cl.depth {l l' : List Nd} (h : Cl l l') (i : Nat) : (gN l' i).depth = (gN l i).depth := by obtain ⟨_, _, _, e⟩ := h.2 i; rw [e]
theorem Cl.indent {l l' : List Nd} (h : Cl l l') (i : Nat) : (gN l' i).indent = (gN l i).indent := by obtain ⟨_, _, _, e⟩ := h.2 i; rw [e]
theorem closed_cl (s : St) (i : Nat) : Cl s.list (closedM s i).list := by
  unfold closedM closeParaM defineM St.put St.nd
  split
  · split
    · exact (Cl.set s.list i _ _ _).trans (Cl.set _ _ _ _ _)
    · exact Cl.set s.list i _ _ _
  · split
    · split
      · exact Cl.set s.list i _ _ _
      · exact Cl.refl _
    · split
      · exact Cl.set s.list i _ _ _
      · split
        · exact Cl.set s.list i _ _ _
        · exact Cl.refl _
theorem close_cl (s : St) : Cl s.list (closeM s).list := closed_cl s s.tip
theorem close_tip (s : St) : (closeM s).tip = (s.nd s.tip).up.toNat := rfl
theorem Wf.fewer {l : List Nd} {t : Nat} (h : Wf l t) (h0 : t ≠ 0) : Wf l (gN l t).up.toNat :=
  ⟨by have := h.up t (by omega) h.tip; have := h.tip; omega, h.doc, h.up0, h.up, h.last, h.ahead, h.depth, h.ind, fun x hx => h.opn x (.step (by omega) hx)⟩
theorem Wf.text {l : List Nd} {t : Nat} (h : Wf l t) (i : Nat) (a : List UInt8) (c : Bool) : Wf (l.set i { gN l i with text := a, tight := c }) t :=
  h.set i _ ⟨rfl, rfl, rfl, rfl⟩ (fun e => by rw [e]; exact h.doc) (h.ind i)
/-- The tip goes. -/
theorem Wf.drop {l : List Nd} {t : Nat} (h : Wf l t) (h0 : t ≠ 0) : Wf (l.set (gN l t).up.toNat { gN l (gN l t).up.toNat with last := (gN l t).ahead }) (gN l t).up.toNat := by
  have hu := h.up t (by omega) h.tip
  have ht := h.tip
  have hf := h.fewer h0
  have eu : (gN l t).up = ((gN l t).up.toNat : Int) := (Int.toNat_of_nonneg hu.1).symm
  generalize (gN l t).up.toNat = u at *
  have same : ∀ i, (gN (l.set u { gN l u with last := (gN l t).ahead }) i).up = (gN l i).up := by
    intro i
    rw [gN_set]
    split
    · next e => rw [e.1]
    · rfl
  refine ⟨by simp; omega, ?_, ?_, fun i hi hl => ?_, fun i hl => ?_, fun i hl => ?_, fun i hl => ?_, fun i => ?_, fun x hx hx0 => ?_⟩
  · rw [gN_set]; split
    · next e => rw [← e.1]; exact h.doc
    · exact h.doc
  · rw [same]; exact h.up0
  · rw [same]; exact h.up i hi (by simpa using hl)
  · rw [gN_set, List.length_set]
    split
    · next e =>
      rw [e.1]
      show (gN l t).ahead = -1 ∨ _ < (gN l t).ahead ∧ (gN l t).ahead < _
      rcases h.ahead t ht with e1 | e1
      · exact .inl e1
      · exact .inr (by rw [eu] at e1; omega)
    · exact h.last i (by simpa using hl)
  · have := h.ahead i (by simpa using hl)
    rw [gN_set]
    split
    · next e => rw [e.1] at this ⊢; exact this
    · exact this
  · have := h.depth i (by simpa using hl)
    rw [gN_set]
    split
    · next e => rw [e.1] at this; rw [e.1]; exact this
    · exact this
  · have := h.ind i
    rw [gN_set]
    split
    · next e => rw [e.1] at this; exact this
    · exact this
  · have hx' : On l u x := hx.same fun i => (same i).symm
    have hle := hx'.le hf
    have hux := h.up x (by omega) (by omega)
    rw [same, gN_ne (by omega)]
    exact hf.opn x hx' hx0
theorem set_up {l : List Nd} {i t : Nat} {n : Nd} (h : n.up = (gN l i).up) : (gN (l.set i n) t).up = (gN l t).up := by
  rw [gN_set]
  split
  · next e => rw [e.1]; exact h
  · rfl
theorem Wf.close {s : St} (h : Wf s.list s.tip) (h0 : s.tip ≠ 0) : Wf (closeM s).list (closeM s).tip := by
  have hf := h.fewer h0
  rw [close_tip]
  show Wf (closedM s s.tip).list _
  unfold closedM
  split
  · unfold closeParaM
    have hd : Wf (defineM s s.tip).list s.tip := h.text s.tip _ _
    have hup : ((defineM s s.tip).nd s.tip).up = (s.nd s.tip).up := set_up rfl
    split
    · have := hd.drop h0
      unfold St.put
      show Wf (List.set _ _ _) _
      unfold St.nd at *
      rw [hup] at *
      exact this
    · show Wf (defineM s s.tip).list _
      have := hd.fewer h0
      unfold St.nd at *
      rw [hup] at this
      exact this
  · split
    · split
      · exact hf.text _ _ _
      · exact hf
    · split
      · exact hf.text _ _ _
      · split
        · exact hf.text _ _ _
        · exact hf
theorem cwGo_ok : ∀ (n : Nat) (s : St) (i : Nat), s.tip ≤ n → Wf s.list s.tip → On s.list s.tip i → Wf (cwGo n s i).list i ∧ (cwGo n s i).tip = i ∧ Cl s.list (cwGo n s i).list ∧ ((cwGo n s i).line = s.line ∧ (cwGo n s i).known = s.known ∧ (cwGo n s i).deep = s.deep)
  | 0, s, i, hn, h, ho => by
    have hle := ho.le h
    have e1 : s.tip = 0 := by omega
    have e2 : i = 0 := by omega
    subst e2
    unfold cwGo
    exact ⟨by rw [← e1]; exact e1 ▸ h, e1, Cl.refl _, rfl, rfl, rfl⟩
  | n + 1, s, i, hn, h, ho => by
    unfold cwGo
    by_cases e : s.tip = i
    · rw [if_pos e]
      exact ⟨e ▸ h, e, Cl.refl _, rfl, rfl, rfl⟩
    · rw [if_neg e]
      have h0 : s.tip ≠ 0 := fun e0 => by have := ho.le h; omega
      have hu := h.up s.tip (by omega) h.tip
      have hc := close_cl s
      have ho' : On (closeM s).list (closeM s).tip i := by
        rw [close_tip]
        refine On.same hc.up ?_
        cases ho with
        | refl => exact absurd rfl e
        | step _ k => exact k
      obtain ⟨r1, r2, r3, r4, r5, r6⟩ := cwGo_ok n (closeM s) i (by rw [close_tip]; unfold St.nd; omega) (h.close h0) ho'
      have q : (closeM s).line = s.line ∧ (closeM s).known = s.known ∧ (closeM s).deep = s.deep := by
        unfold closeM closedM closeParaM defineM St.put
        refine ⟨?_, ?_, ?_⟩ <;> (dsimp only; repeat' split) <;> rfl
      exact ⟨r1, r2, hc.trans r3, r4.trans q.1, r5.trans q.2.1, r6.trans q.2.2⟩
theorem close_rest (s : St) : (closeM s).line = s.line ∧ (closeM s).known = s.known ∧ (closeM s).deep = s.deep := by
  unfold closeM closedM closeParaM defineM St.put
  refine ⟨?_, ?_, ?_⟩ <;> (dsimp only; repeat' split) <;> rfl
theorem cw_ok {s : St} {i : Nat} (h : Wf s.list s.tip) (ho : On s.list s.tip i) : Wf (cwM s i).list i ∧ (cwM s i).tip = i ∧ Cl s.list (cwM s i).list ∧ ((cwM s i).line = s.line ∧ (cwM s i).known = s.known ∧ (cwM s i).deep = s.deep) := cwGo_ok _ s i (Nat.le_refl _) h ho
theorem cw_wf {s : St} {i : Nat} (h : Wf s.list s.tip) (ho : On s.list s.tip i) : Wf (cwM s i).list (cwM s i).tip := by
  obtain ⟨h1, h2, _⟩ := cw_ok h ho
  rw [h2]; exact h1
/-- One step of it. -/
theorem cwGo_fuel : ∀ (n m : Nat) (s : St) (i : Nat), s.tip ≤ n → s.tip ≤ m → Wf s.list s.tip → On s.list s.tip i → cwGo n s i = cwGo m s i
  | 0, 0, _, _, _, _, _, _ => rfl
  | 0, m + 1, s, i, hn, _, h, ho => by
    have hle := ho.le h
    unfold cwGo
    rw [if_pos (by omega)]
  | n + 1, 0, s, i, _, hn, h, ho => by
    have hle := ho.le h
    unfold cwGo
    rw [if_pos (by omega)]
  | n + 1, m + 1, s, i, hn, hm, h, ho => by
    unfold cwGo
    by_cases e : s.tip = i
    · rw [if_pos e, if_pos e]
    · rw [if_neg e, if_neg e]
      have h0 : s.tip ≠ 0 := fun e0 => by have := ho.le h; omega
      have hu := h.up s.tip (by omega) h.tip
      refine cwGo_fuel n m (closeM s) i (by rw [close_tip]; unfold St.nd; omega) (by rw [close_tip]; unfold St.nd; omega) (h.close h0) ?_
      rw [close_tip]
      refine On.same (close_cl s).up ?_
      cases ho with
      | refl => exact absurd rfl e
      | step _ k => exact k
theorem On.closed {s : St} {i : Nat} (ho : On s.list s.tip i) (e : s.tip ≠ i) : On (closeM s).list (closeM s).tip i := by
  rw [close_tip]
  refine On.same (close_cl s).up ?_
  cases ho with
  | refl => exact absurd rfl e
  | step _ k => exact k
theorem cw_step {s : St} {i : Nat} (h : Wf s.list s.tip) (ho : On s.list s.tip i) (e : s.tip ≠ i) : cwM s i = cwM (closeM s) i := by
  have h0 : s.tip ≠ 0 := fun e0 => by have := ho.le h; omega
  have hu := h.up s.tip (by omega) h.tip
  unfold cwM
  obtain ⟨m, hm⟩ : ∃ m, s.tip = m + 1 := ⟨s.tip - 1, by omega⟩
  rw [hm]
  show (if s.tip = i then s else cwGo m (closeM s) i) = _
  rw [if_neg e]
  exact cwGo_fuel _ _ _ _ (by rw [close_tip]; unfold St.nd; omega) (Nat.le_refl _) (h.close h0) (ho.closed e)
theorem cw_stop {s : St} {i : Nat} (e : s.tip = i) : cwM s i = s := by
  unfold cwM
  cases s.tip with
  | zero => rfl
  | succ n => unfold cwGo; rw [if_pos e]

/-! Adding. -/
theorem doc_holds {l : List Nd} {t k : Nat} (h : Wf l t) (e : t = 0) (hk : k ≠ 4) : holdsB (gN l t).kind k = true := by
  rw [e, h.doc]; unfold holdsB; rw [if_pos (.inl rfl)]; simp [hk]
theorem addGo_ok : ∀ (n : Nat) (s : St) (k : Nat), s.tip ≤ n → Wf s.list s.tip → (k ≠ 4 ∨ holdsB (s.nd s.tip).kind k = true) → Wf (addGo n s k).list (addGo n s k).tip ∧ holdsB ((addGo n s k).nd (addGo n s k).tip).kind k = true ∧ Cl s.list (addGo n s k).list ∧ ((addGo n s k).line = s.line ∧ (addGo n s k).known = s.known ∧ (addGo n s k).deep = s.deep)
  | 0, s, k, hn, h, hk => by
    unfold addGo
    refine ⟨h, ?_, Cl.refl _, rfl, rfl, rfl⟩
    rcases hk with hk | hk
    · exact doc_holds h (by omega) hk
    · exact hk
  | n + 1, s, k, hn, h, hk => by
    unfold addGo
    by_cases e : holdsB (s.nd s.tip).kind k = true
    · rw [if_pos e]
      exact ⟨h, e, Cl.refl _, rfl, rfl, rfl⟩
    · rw [if_neg e]
      have hk4 : k ≠ 4 := hk.resolve_right e
      have h0 : s.tip ≠ 0 := fun e0 => e (doc_holds h e0 hk4)
      have hu := h.up s.tip (by omega) h.tip
      obtain ⟨r1, r2, r3, r4, r5, r6⟩ := addGo_ok n (closeM s) k (by rw [close_tip]; unfold St.nd; omega) (h.close h0) (.inl hk4)
      have q := close_rest s
      exact ⟨r1, r2, (close_cl s).trans r3, r4.trans q.1, r5.trans q.2.1, r6.trans q.2.2⟩
theorem addGo_fuel : ∀ (n m : Nat) (s : St) (k : Nat), s.tip ≤ n → s.tip ≤ m → Wf s.list s.tip → (k ≠ 4 ∨ holdsB (s.nd s.tip).kind k = true) → addGo n s k = addGo m s k
  | 0, 0, _, _, _, _, _, _ => rfl
  | 0, m + 1, s, k, hn, _, h, hk => by
    unfold addGo
    rw [if_pos (by rcases hk with hk | hk; · exact doc_holds h (by omega) hk
                   · exact hk)]
  | n + 1, 0, s, k, _, hn, h, hk => by
    unfold addGo
    rw [if_pos (by rcases hk with hk | hk; · exact doc_holds h (by omega) hk
                   · exact hk)]
  | n + 1, m + 1, s, k, hn, hm, h, hk => by
    unfold addGo
    by_cases e : holdsB (s.nd s.tip).kind k = true
    · rw [if_pos e, if_pos e]
    · rw [if_neg e, if_neg e]
      have hk4 : k ≠ 4 := hk.resolve_right e
      have h0 : s.tip ≠ 0 := fun e0 => e (doc_holds h e0 hk4)
      have hu := h.up s.tip (by omega) h.tip
      exact addGo_fuel n m (closeM s) k (by rw [close_tip]; unfold St.nd; omega) (by rw [close_tip]; unfold St.nd; omega) (h.close h0) (.inl hk4)
/-- One step of it: the tip is closed, or it holds. -/
theorem add_step {s : St} {k : Nat} (h : Wf s.list s.tip) (hk : k ≠ 4) (e : ¬ holdsB (s.nd s.tip).kind k = true) : s.tip ≠ 0 ∧ addGo s.tip s k = addGo (closeM s).tip (closeM s) k := by
  have h0 : s.tip ≠ 0 := fun e0 => e (doc_holds h e0 hk)
  have hu := h.up s.tip (by omega) h.tip
  refine ⟨h0, ?_⟩
  obtain ⟨m, hm⟩ : ∃ m, s.tip = m + 1 := ⟨s.tip - 1, by omega⟩
  rw [hm]
  show (if holdsB (s.nd s.tip).kind k then s else addGo m (closeM s) k) = _
  rw [if_neg e]
  exact addGo_fuel _ _ _ _ (by rw [close_tip]; unfold St.nd; omega) (Nat.le_refl _) (h.close h0) (.inl hk)
theorem add_stop {s : St} {k : Nat} (e : holdsB (s.nd s.tip).kind k = true) : addGo s.tip s k = s := by
  cases s.tip with
  | zero => rfl
  | succ n => unfold addGo; rw [if_pos e]
theorem push_len (s : St) (b : Nd) : (pushM s b).list.length = s.list.length + 1 := by unfold pushM; simp
theorem push_new (s : St) (b : Nd) : (pushM s b).nd s.list.length = { b with up := s.tip, last := -1, ahead := (s.nd s.tip).last, depth := (s.nd s.tip).depth + 1 } := by
  unfold St.nd pushM
  have := gN_new (s.list.set s.tip { s.nd s.tip with last := s.list.length }) { b with up := s.tip, last := -1, ahead := (s.nd s.tip).last, depth := (s.nd s.tip).depth + 1 }
  rw [List.length_set] at this
  exact this
theorem push_tip (s : St) (b : Nd) (h : s.tip < s.list.length) : (pushM s b).nd s.tip = { s.nd s.tip with last := s.list.length } := by
  unfold pushM
  show gN _ s.tip = _
  rw [gN_app (by simpa using h), gN_at h]
theorem push_old (s : St) (b : Nd) {i : Nat} (hi : i < s.list.length) (hne : i ≠ s.tip) : (pushM s b).nd i = s.nd i := by
  unfold pushM
  show gN _ i = _
  rw [gN_app (by simpa using hi), gN_ne hne]
  rfl
theorem push_up {s : St} (b : Nd) {i : Nat} (h : s.tip < s.list.length) (hi : i < s.list.length) : ((pushM s b).nd i).up = (s.nd i).up ∧ ((pushM s b).nd i).ahead = (s.nd i).ahead ∧ ((pushM s b).nd i).depth = (s.nd i).depth ∧ ((pushM s b).nd i).kind = (s.nd i).kind ∧ ((pushM s b).nd i).indent = (s.nd i).indent := by
  by_cases e : i = s.tip
  · subst e; rw [push_tip s b h]; exact ⟨rfl, rfl, rfl, rfl, rfl⟩
  · rw [push_old s b hi e]; exact ⟨rfl, rfl, rfl, rfl, rfl⟩
theorem Wf.push {s : St} (h : Wf s.list s.tip) (b : Nd) (hb : b.indent ≤ 1000000) : Wf (pushM s b).list (pushM s b).tip := by
  have ht := h.tip
  have hlen := push_len s b
  have hnew := push_new s b
  have hold : ∀ i, i < s.list.length → _ := fun i hi => push_up b ht hi
  have ht' : (pushM s b).tip = s.list.length := rfl
  have onold : ∀ t x, t < s.list.length → On (pushM s b).list t x → On s.list t x := by
    intro t x hlt k
    induction k with
    | refl t => exact .refl t
    | @step t a h0 _ ih =>
      have e := (hold t hlt).1
      have hu := h.up t h0 hlt
      unfold St.nd at e
      refine .step h0 ?_
      rw [← e]
      exact ih (by rw [e]; omega)
  unfold St.nd at *
  have d0 := hold 0 (by omega)
  refine ⟨by rw [hlen, ht']; omega, by rw [d0.2.2.2.1]; exact h.doc, by rw [d0.1]; exact h.up0, fun i h0 hl => ?_, fun i hl => ?_, fun i hl => ?_, fun i hl => ?_, fun i => ?_, fun x hx h0 => ?_⟩
  · by_cases e : i = s.list.length
    · subst e; rw [hnew]; show 0 ≤ (s.tip : Int) ∧ (s.tip : Int) < _; omega
    · rw [(hold i (by omega)).1]; exact h.up i h0 (by omega)
  · by_cases e : i = s.list.length
    · subst e; rw [hnew]; exact .inl rfl
    · by_cases e' : i = s.tip
      · subst e'
        have := push_tip s b ht
        unfold St.nd at this
        rw [this, hlen]
        exact .inr ⟨by show (s.tip : Int) < (s.list.length : Int); omega, by show (s.list.length : Int) < _; omega⟩
      · have := push_old s b (show i < s.list.length by omega) e'
        unfold St.nd at this
        rw [this, hlen]
        rcases h.last i (by omega) with e1 | e1
        · exact .inl e1
        · exact .inr (by omega)
  · by_cases e : i = s.list.length
    · subst e; rw [hnew]
      show (gN s.list s.tip).last = -1 ∨ (s.tip : Int) < (gN s.list s.tip).last ∧ (gN s.list s.tip).last < _
      exact h.last s.tip ht
    · rw [(hold i (by omega)).1, (hold i (by omega)).2.1]; exact h.ahead i (by omega)
  · by_cases e : i = s.list.length
    · subst e; rw [hnew]
      show (gN s.list s.tip).depth + 1 ≤ _
      have := h.depth s.tip ht; omega
    · rw [(hold i (by omega)).2.2.1]; exact h.depth i (by omega)
  · by_cases e : i = s.list.length
    · subst e; rw [hnew]; exact hb
    · by_cases e' : i < s.list.length
      · rw [(hold i e').2.2.2.2]; exact h.ind i
      · rw [gN_out (by omega)]; show 0 ≤ _; omega
  · rw [ht'] at hx
    by_cases e : x = s.list.length
    · subst e
      rw [hnew]
      show (gN (pushM s b).list (s.tip : Int).toNat).last = _
      have := push_tip s b ht
      unfold St.nd at this
      rw [Int.toNat_natCast, this]
    · have hx' : On s.list s.tip x := by
        cases hx with
        | refl => exact absurd rfl e
        | step _ k =>
          rw [hnew] at k
          exact onold _ _ ht k
      have hle := hx'.le h
      have hu := h.up x (by omega) (by omega)
      rw [(hold x (by omega)).1]
      have := push_old s b (show (gN s.list x).up.toNat < s.list.length by omega) (by omega)
      unfold St.nd at this
      rw [this]
      exact h.opn x hx' h0
theorem add_wf {s : St} (h : Wf s.list s.tip) (b : Nd) (hk : b.kind ≠ 4 ∨ holdsB (s.nd s.tip).kind b.kind = true) (hb : b.indent ≤ 1000000) : Wf (addM s b).list (addM s b).tip :=
  (addGo_ok s.tip s b.kind (Nat.le_refl _) h hk).1.push b hb
theorem add_tip (s : St) (b : Nd) : ((addM s b).nd (addM s b).tip).kind = b.kind := by
  unfold addM
  show ((pushM _ _).nd (addGo s.tip s b.kind).list.length).kind = _
  rw [push_new]
theorem addIn_wf {s : St} {i : Nat} (h : Wf s.list s.tip) (ho : On s.list s.tip i) (b : Nd) (hk : b.kind ≠ 4) (hb : b.indent ≤ 1000000) : Wf (addInM s i b).list (addInM s i b).tip :=
  add_wf (cw_wf h ho) b (.inl hk) hb
end Go.Proofs.YtfgpephpkibbaaaGreatDoor

/-
  How many blocks there are, and how long their texts are; what begins keeps the list as it must be. No program in sight.
-/
namespace Go.Proofs.YtfgpephpkibbaaaGreatDoor
open Go Go.Lib

def txN (l : List Nd) : Nat := (l.map fun n => n.text.length).sum
theorem tx_set : ∀ (l : List Nd) (i : Nat) (n : Nd), i < l.length → txN (l.set i n) + (gN l i).text.length = txN l + n.text.length
  | [], _, _, h => by cases h
  | a :: l, 0, n, _ => by
    unfold txN gN
    simp only [List.set_cons_zero, List.map_cons, List.sum_cons, List.getD_cons_zero]; omega
  | a :: l, i + 1, n, h => by
    have := tx_set l i n (by simpa using h)
    unfold txN gN at *
    simp only [List.set_cons_succ, List.map_cons, List.sum_cons, List.getD_cons_succ]; omega
theorem tx_out {l : List Nd} {i : Nat} (h : l.length ≤ i) (n : Nd) : l.set i n = l := List.set_eq_of_length_le h
theorem tx_le : ∀ (l : List Nd) (i : Nat), (gN l i).text.length ≤ txN l
  | [], i => by unfold gN; simp [blkN]
  | a :: l, 0 => by unfold txN gN; simp
  | a :: l, i + 1 => by
    have := tx_le l i
    unfold txN gN at *
    simp only [List.map_cons, List.sum_cons, List.getD_cons_succ]; omega
theorem tx_app (l : List Nd) (b : Nd) : txN (l ++ [b]) = txN l + b.text.length := by unfold txN; simp
/-- So many blocks at most; so many definitions and bytes of texts. -/
def phi (s : St) : Nat := s.refs.length + txN s.list
structure Cap (s : St) (a b : Nat) : Prop where
  len : s.list.length ≤ a
  txt : phi s ≤ b
theorem Cap.text {s : St} {a b : Nat} (h : Cap s a b) (i : Nat) : (s.nd i).text.length ≤ b := by have := tx_le s.list i; have := h.txt; unfold phi at this; unfold St.nd; omega
theorem Cap.refs {s : St} {a b : Nat} (h : Cap s a b) : s.refs.length ≤ b := by have := h.txt; unfold phi at this; omega
theorem Cap.more {s : St} {a b c d : Nat} (h : Cap s a b) (h1 : a ≤ c) (h2 : b ≤ d) : Cap s c d := ⟨Nat.le_trans h.len h1, Nat.le_trans h.txt h2⟩
theorem Cap.put {s : St} {a b : Nat} (h : Cap s a b) (i : Nat) (n : Nd) {d : Nat} (hn : n.text.length ≤ (s.nd i).text.length + d) : Cap (s.put i n) a (b + d) := by
  refine ⟨by unfold St.put; simpa using h.len, ?_⟩
  have h2 := h.txt
  unfold phi St.put at *
  by_cases hi : i < s.list.length
  · have := tx_set s.list i n hi
    unfold St.nd at hn
    show s.refs.length + txN (s.list.set i n) ≤ _
    omega
  · show s.refs.length + txN (s.list.set i n) ≤ _
    rw [tx_out (by omega)]; omega
theorem trimB_len (l : List UInt8) : (trimL l).length ≤ l.length := by
  unfold trimL
  rw [List.length_reverse]
  have h1 := (List.dropWhile_sublist (p := ws) (l := (l.dropWhile ws).reverse)).length_le
  have h2 := (List.dropWhile_sublist (p := ws) (l := l)).length_le
  rw [List.length_reverse] at h1
  omega
theorem dfs_len : ∀ (n : Nat) (l : List UInt8), (dfsGo n l).length + (dfrGo n l).length ≤ l.length
  | 0, l => by unfold dfsGo dfrGo; simp
  | n + 1, l => by
    unfold dfsGo dfrGo
    split
    · simp
    · have h1 := dfs_len n (l.drop (dfN l))
      have h2 := df_le l
      rw [List.length_cons]
      rw [List.length_drop] at h1
      omega
theorem wbl_len (l : List UInt8) : (wblL l).length ≤ l.length := by unfold wblL; rw [List.length_take]; omega
theorem Cap.define {s : St} {a b : Nat} (h : Cap s a b) (i : Nat) : Cap (defineM s i) a b := by
  refine ⟨by unfold defineM; simpa using h.len, ?_⟩
  have h2 := h.txt
  unfold phi defineM at *
  have h3 := dfs_len (s.nd i).text.length (s.nd i).text
  have h4 := trimB_len (dfrL (s.nd i).text)
  unfold dfrL at h4
  by_cases hi : i < s.list.length
  · have := tx_set s.list i { s.nd i with text := trimL (dfrL (s.nd i).text) } hi
    show (s.refs ++ dfsL (s.nd i).text).length + txN (s.list.set i _) ≤ _
    rw [List.length_append]
    unfold dfsL dfrL at *
    unfold St.nd at *
    dsimp only at this ⊢
    omega
  · have e : (s.nd i).text = [] := by unfold St.nd; rw [gN_out (by omega)]; rfl
    show (s.refs ++ dfsL (s.nd i).text).length + txN (s.list.set i _) ≤ _
    rw [tx_out (by omega), e, List.length_append]
    show _ + 0 + _ ≤ _
    omega
theorem Cap.closed {s : St} {a b : Nat} (h : Cap s a b) (i : Nat) : Cap (closedM s i) a b := by
  unfold closedM
  split
  · unfold closeParaM
    split
    · exact (h.define i).put (d := 0) _ _ (Nat.le_refl _)
    · exact h.define i
  · split
    · split
      · exact h.put (d := 0) _ _ (wbl_len _)
      · exact h
    · split
      · exact h.put (d := 0) _ _ (wbl_len _)
      · split
        · exact h.put (d := 0) _ _ (Nat.le_refl _)
        · exact h
theorem Cap.close {s : St} {a b : Nat} (h : Cap s a b) : Cap (closeM s) a b := ⟨(h.closed s.tip).len, (h.closed s.tip).txt⟩
theorem Cap.cwGo {a b : Nat} : ∀ (n : Nat) {s : St} (_ : Cap s a b) (i : Nat), Cap (cwGo n s i) a b
  | 0, _, h, _ => h
  | n + 1, s, h, i => by
    unfold Go.Proofs.YtfgpephpkibbaaaGreatDoor.cwGo
    split
    · exact h
    · exact Cap.cwGo n h.close i
theorem Cap.cw {s : St} {a b : Nat} (h : Cap s a b) (i : Nat) : Cap (cwM s i) a b := Cap.cwGo _ h i
theorem Cap.addGo {a b : Nat} : ∀ (n : Nat) {s : St} (_ : Cap s a b) (k : Nat), Cap (addGo n s k) a b
  | 0, _, h, _ => h
  | n + 1, s, h, k => by
    unfold Go.Proofs.YtfgpephpkibbaaaGreatDoor.addGo
    split
    · exact h
    · exact Cap.addGo n h.close k
theorem Cap.push {s : St} {a b : Nat} (h : Cap s a b) (n : Nd) (ht : s.tip < s.list.length) : Cap (pushM s n) (a + 1) (b + n.text.length) := by
  refine ⟨by rw [push_len]; have := h.len; omega, ?_⟩
  have h2 := h.txt
  have := tx_set s.list s.tip { s.nd s.tip with last := s.list.length } ht
  unfold phi pushM at *
  show s.refs.length + txN (_ ++ [_]) ≤ _
  rw [tx_app]
  unfold St.nd at *
  dsimp only at this ⊢
  omega
theorem Cap.add {s : St} {a b : Nat} (h : Cap s a b) (hw : Wf s.list s.tip) (n : Nd) (hk : n.kind ≠ 4 ∨ holdsB (s.nd s.tip).kind n.kind = true) : Cap (addM s n) (a + 1) (b + n.text.length) :=
  (h.addGo s.tip n.kind).push n (addGo_ok s.tip s n.kind (Nat.le_refl _) hw hk).1.tip
theorem Cap.addIn {s : St} {a b : Nat} (h : Cap s a b) {i : Nat} (hw : Wf s.list s.tip) (ho : On s.list s.tip i) (n : Nd) (hk : n.kind ≠ 4) : Cap (addInM s i n) (a + 1) (b + n.text.length) :=
  (h.cw i).add (cw_wf hw ho) n (.inl hk)
theorem Cap.atL {s : St} {a b : Nat} (h : Cap s a b) (l : Ln) : Cap (s.atL l) a b := ⟨h.len, h.txt⟩

/-! ### Lines -/
/-- A place in a line of at most z bytes. -/
structure Lw (z : Nat) (l : Ln) : Prop where
  ok : okP l.f l.rem
  col : l.c + 4 * l.rem.length ≤ 4 * z + (if l.f = 0 then 0 else 4 - l.f)
  rem : l.rem.length ≤ z
  ind : l.ind = indL l.c l.f l.rem
  next : l.next = nextL l.rem
theorem skip_pot : ∀ (n c f : Nat) (l : List UInt8), okP f l → (skipL n c f l).2.1 + 4 * (l.drop (skipL n c f l).1).length + (if f = 0 then 0 else 4 - f) ≤ c + 4 * l.length + (if (skipL n c f l).2.2 = 0 then 0 else 4 - (skipL n c f l).2.2)
  | n, c, f, [], h => by
    rw [skip_nil]
    have : f = 0 := Decidable.byContradiction fun k => by obtain ⟨t, e⟩ := h.2 k; cases e
    subst this
    simp
  | n, c, f, b :: l, h => by
    rw [skip_cons]
    by_cases h0 : n = 0 ∨ wideB c f b = 0
    · rw [if_pos h0]
      simp
    · rw [if_neg h0]
      have hw := wide_le h.1 c b
      by_cases h1 : n < wideB c f b
      · rw [if_pos h1]
        show c + n + 4 * (b :: l).length + _ ≤ c + 4 * (b :: l).length + (if wideB c f b - n = 0 then 0 else 4 - (wideB c f b - n))
        rw [if_neg (by omega : ¬ wideB c f b - n = 0)]
        by_cases hf : f = 0
        · rw [if_pos hf]; omega
        · rw [if_neg hf, wide_left hf] at *
          omega
      · rw [if_neg h1]
        have := skip_pot (n - wideB c f b) (c + wideB c f b) 0 l (okP_nil l)
        rw [if_pos rfl] at this
        show (skipL _ _ _ _).2.1 + 4 * ((b :: l).drop ((skipL _ _ _ _).1 + 1)).length + _ ≤ _ + (if (skipL (n - wideB c f b) (c + wideB c f b) 0 l).2.2 = 0 then 0 else 4 - (skipL (n - wideB c f b) (c + wideB c f b) 0 l).2.2)
        rw [List.drop_succ_cons, List.length_cons]
        have hh : wideB c f b + (if f = 0 then 0 else 4 - f) ≤ 4 := by
          by_cases hf : f = 0
          · rw [if_pos hf]; exact hw
          · rw [if_neg hf, wide_left hf]; have := h.1; omega
        omega
theorem Lw.skip {z : Nat} {l : Ln} (h : Lw z l) (n : Nat) : Lw z (skipBM l n) := by
  have h1 := skip_pot n l.c l.f l.rem h.ok
  have h2 := h.col
  have h3 : (l.rem.drop (skipL n l.c l.f l.rem).1).length ≤ l.rem.length := by rw [List.length_drop]; omega
  refine ⟨skip_ok _ _ _ _ h.ok, ?_, ?_, ?_, ?_⟩
  · show (skipL _ _ _ _).2.1 + 4 * (List.drop _ _).length ≤ 4 * z + (if (skipL _ _ _ _).2.2 = 0 then 0 else 4 - (skipL _ _ _ _).2.2)
    omega
  · show (List.drop _ _).length ≤ z
    have := h.rem; omega
  · show l.ind - n = _
    rw [h.ind]; exact (skip_ind _ _ _ _).symm
  · show l.next = _
    rw [h.next]; exact (skip_next _ _ _ _ h.ok).symm
theorem Lw.hop {z : Nat} {l : Ln} (h : Lw z l) (n : Nat) : okP (hopM l n).f (hopM l n).rem ∧ (hopM l n).c + 4 * (hopM l n).rem.length ≤ 4 * z + (if (hopM l n).f = 0 then 0 else 4 - (hopM l n).f) ∧ (hopM l n).rem.length ≤ z := by
  have hm := mov_le n l.rem
  have h2 := h.col
  have h3 := h.rem
  refine ⟨?_, ?_, ?_⟩
  · show okP l.f (l.rem.drop (movL n l.rem).length)
    by_cases hf : l.f = 0
    · rw [hf]; exact okP_nil _
    · rw [mov_left h.ok hf]; exact h.ok
  · show l.c + (movL n l.rem).length + 4 * (l.rem.drop (movL n l.rem).length).length ≤ _ + (if l.f = 0 then 0 else 4 - l.f)
    rw [List.length_drop]; omega
  · show (l.rem.drop (movL n l.rem).length).length ≤ z
    rw [List.length_drop]; omega
theorem Lw.move {z : Nat} {l : Ln} (h : Lw z l) (n : Nat) : Lw z (moveM l n) := by
  obtain ⟨h1, h2, h3⟩ := (h.skip l.ind).hop n
  exact ⟨h1, h2, h3, rfl, rfl⟩
theorem Lw.start (t : List UInt8) : Lw t.length (newLn t) := ⟨okP_nil _, by show 0 + 4 * t.length ≤ _ + (if (0 : Nat) = 0 then 0 else _); rw [if_pos rfl]; omega, Nat.le_refl _, rfl, rfl⟩
theorem Lw.bound {z : Nat} {l : Ln} (h : Lw z l) : l.c ≤ 4 * z + 4 ∧ l.ind ≤ 4 * z := by
  have h1 := h.col
  have h2 := h.rem
  have h3 := ind_le l.c l.f l.rem h.ok.1
  rw [← h.ind] at h3
  split at h1 <;> omega
theorem Lw.nextLen {z : Nat} {l : Ln} (h : Lw z l) : l.next.length ≤ z := by
  rw [h.next]
  unfold nextL Lib.trimLeftS
  exact Nat.le_trans (List.dropWhile_sublist _).length_le h.rem
theorem Lw.restLen {z : Nat} {l : Ln} (h : Lw z l) : (lrestM l).length ≤ z + 3 := by
  unfold lrestM restL
  have h1 := h.rem
  have h2 := h.ok.1
  split
  · rw [List.length_append, List.length_replicate, List.length_tail]; omega
  · omega
theorem Lw.quote {z : Nat} {l : Ln} (h : Lw z l) : Lw z (pastQuoteM l).1 := by
  unfold pastQuoteM
  split
  · exact (h.move 1).skip 1
  · exact h
theorem Lw.inds {z : Nat} {l : Ln} (h : Lw z l) (n : Nat) : Lw z (pastIndM l n).1 := by
  unfold pastIndM
  split
  · exact h
  · exact h.skip n
theorem Lw.markd {z : Nat} {l : Ln} (h : Lw z l) (n : Nat) : Lw z (pastMarkM l n).1 := (h.move n).skip _
theorem Lw.markN {z : Nat} {l : Ln} (h : Lw z l) (n : Nat) : (pastMarkM l n).2 ≤ 4 * z + n + 4 := by
  have := h.bound
  unfold pastMarkM markB
  show l.ind + n + _ ≤ _
  split <;> omega
end Go.Proofs.YtfgpephpkibbaaaGreatDoor

