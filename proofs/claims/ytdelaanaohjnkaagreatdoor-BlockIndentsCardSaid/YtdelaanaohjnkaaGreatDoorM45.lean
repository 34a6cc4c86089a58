/-
  Texts of the proof, one behind the other: Bpa, Bpb, Bpc.
-/
import Derived.Test.YtdelaanaohjnkaaGreatDoorM42
/-
  Lines that are words: one paragraph; with blank lines between as many as words.
-/
namespace Go.Proofs.YtdelaanaohjnkaaGreatDoor
open Go Go.Lib

theorem ebGo_neg : ∀ (n : Nat) (l : List Nd) (b : Bool), ebGo n l (-1) b = l
  | 0, _, _ => rfl
  | n + 1, l, b => by rw [ebGo, if_pos rfl]
theorem cwGo_at : ∀ (n : Nat) (s : St) (i : Nat), s.tip = i → cwGo n s i = s
  | 0, _, _, _ => rfl
  | n + 1, s, i, h => by rw [cwGo, if_pos h]
theorem gN_end (d x : Nd) (ps : List Nd) : gN (d :: (ps ++ [x])) (ps.length + 1) = x := by
  unfold gN
  rw [List.getD_cons_succ, List.getD_eq_getElem?_getD, List.getElem?_append_right (Nat.le_refl _), Nat.sub_self]; rfl
theorem set_end (d x y : Nd) (ps : List Nd) : (d :: (ps ++ [x])).set (ps.length + 1) y = d :: (ps ++ [y]) := by
  rw [List.set_cons_succ, List.set_append_right _ _ (Nat.le_refl _), Nat.sub_self]; rfl

/-! One paragraph. -/
theorem pa_cut {a l : List UInt8} (h : ∀ b ∈ a, b ≠ 10) : linesL (a ++ 10 :: l) = a :: linesL l := by
  unfold linesL
  rw [linesFrom_run a [] _ h, linesFrom, if_pos rfl, List.nil_append]
def Pq (t l : List UInt8) (kn : Nat) : St := ⟨[nD 1 false, nP (-1) t false], 1, [], L0 l, kn, false⟩
theorem take_more {w t l : List UInt8} {kn : Nat} (h : Wrd w) : takeM (Pq t l kn) w = Pq (t ++ w ++ [10]) w 2 := by
  obtain ⟨x, r, rfl, hx⟩ := h.cons
  unfold takeM startM
  rw [ltr_line hx]
  obtain ⟨s', hs'⟩ : ∃ s' : St, ({ Pq t l kn with line := L0 (x :: r), known := (Pq t l kn).list.length } : St) = s' := ⟨_, rfl⟩
  rw [hs']
  have hm : matchedM s' = (s', 1, false) := by rw [← hs']; rfl
  rw [line_open hm, begun_word hx s' 1 (by rw [← hs']) (by rw [← hs']; show ¬ ((5 : Nat) = 7 ∨ (5 : Nat) = 8); decide), ← hs']
  rfl
def aL (ws : List (List UInt8)) : List UInt8 := ws.flatMap (· ++ [10])
def bL (ws : List (List UInt8)) : List UInt8 := ws.flatMap (· ++ [10, 10])
theorem aL_cons (w : List UInt8) (ws : List (List UInt8)) : aL (w :: ws) = w ++ 10 :: aL ws := by
  unfold aL; rw [List.flatMap_cons, List.append_assoc]; rfl
theorem bL_cons (w : List UInt8) (ws : List (List UInt8)) : bL (w :: ws) = w ++ 10 :: ([] ++ 10 :: bL ws) := by
  unfold bL; rw [List.flatMap_cons, List.append_assoc]; rfl
theorem aL_lines : ∀ {ws : List (List UInt8)}, (∀ w ∈ ws, Wrd w) → linesL (aL ws) = ws
  | [], _ => rfl
  | w :: ws, h => by rw [aL_cons, pa_cut (h w (List.mem_cons_self ..)).lf, aL_lines fun x hx => h x (List.mem_cons_of_mem _ hx)]
theorem bL_lines : ∀ {ws : List (List UInt8)}, (∀ w ∈ ws, Wrd w) → linesL (bL ws) = ws.flatMap (fun w => [w, []])
  | [], _ => rfl
  | w :: ws, h => by
    rw [bL_cons, pa_cut (h w (List.mem_cons_self ..)).lf, pa_cut (fun b hb => by cases hb), bL_lines fun x hx => h x (List.mem_cons_of_mem _ hx)]; rfl
theorem run_para : ∀ (ws : List (List UInt8)) (t l : List UInt8) (kn : Nat), (∀ w ∈ ws, Wrd w) → ∃ l' kn', runM ws (Pq t l kn) = some (Pq (t ++ aL ws) l' kn')
  | [], t, l, kn, _ => ⟨l, kn, by rw [runM]; unfold aL; rw [List.flatMap_nil, List.append_nil]⟩
  | w :: ws, t, l, kn, h => by
    obtain ⟨l', kn', e⟩ := run_para ws (t ++ w ++ [10]) w 2 (fun x hx => h x (List.mem_cons_of_mem _ hx))
    refine ⟨l', kn', ?_⟩
    rw [runM, take_more (h w (List.mem_cons_self ..)), if_neg (by exact Bool.false_ne_true), e, aL_cons]
    simp
theorem para_words {ws : List (List UInt8)} (h : ∀ w ∈ ws, Wrd w) (h0 : ws ≠ []) {T : List UInt8} (hT : T ++ [10] = aL ws) : parseM (aL ws) = some (.mk 1 0 false 0 0 false [] [] [.mk 5 0 false 0 0 false [] T []], []) := by
  have hl := aL_lines h
  obtain ⟨i, wl, rfl⟩ : ∃ i wl, ws = i ++ [wl] := ⟨ws.dropLast, ws.getLast h0, (List.dropLast_concat_getLast h0).symm⟩
  have hwl := h wl (by simp)
  have eT : T = aL i ++ wl := by
    have : aL (i ++ [wl]) = (aL i ++ wl) ++ [10] := by unfold aL; rw [List.flatMap_append, List.flatMap_cons, List.flatMap_nil, List.append_nil, List.append_assoc]
    rw [this] at hT
    exact List.append_cancel_right hT
  have hlast : ∀ x, T.getLast? = some x → Go.Proofs.YtdelaanaohjnkaaGreatDoor.ws x = false := by
    intro x hx
    obtain ⟨q, y, e, hy⟩ := hwl.snoc
    rw [eT, e, ← List.append_assoc, List.getLast?_append] at hx
    cases hx
    exact ltr_ws hy
  obtain ⟨v, vs, ev⟩ : ∃ v vs, i ++ [wl] = v :: vs := by cases i with | nil => exact ⟨_, _, rfl⟩ | cons a b => exact ⟨_, _, rfl⟩
  have hv := h v (by rw [ev]; exact List.mem_cons_self ..)
  obtain ⟨x, r, rfl, hx⟩ := hv.cons
  have ea : aL (i ++ [wl]) = x :: (r ++ 10 :: aL vs) := by rw [ev, aL_cons]; rfl
  have hhead : ∀ z, T.head? = some z → Go.Proofs.YtdelaanaohjnkaaGreatDoor.ws z = false := by
    intro z hz
    cases T with
    | nil => cases hz
    | cons a b =>
      rw [ea] at hT
      have e : a = z := Option.some.inj hz
      have : a = x := (List.cons.inj hT).1
      rw [← e, this]; exact ltr_ws hx
  have hne : T ≠ [] := by
    rintro rfl
    rw [ea] at hT
    have : (10 : UInt8) = x := (List.cons.inj hT).1
    exact ltr_ne hx (by decide) this.symm
  have hd : dfsL (T ++ [10]) = [] ∧ dfrL (T ++ [10]) = T ++ [10] := by rw [hT, ea]; exact ltr_def hx
  obtain ⟨l', kn', er⟩ := run_para vs (x :: r ++ [10]) (x :: r) 1 (fun y hy => h y (by rw [ev]; exact List.mem_cons_of_mem _ hy))
  have er2 : runM (i ++ [wl]) st0 = some (Pq (T ++ [10]) l' kn') := by
    rw [ev, runM, take_first hv, if_neg (by exact Bool.false_ne_true)]
    have : S1 (x :: r) = Pq (x :: r ++ [10]) (x :: r) 1 := rfl
    rw [this, er, hT, ev, aL_cons, List.append_assoc]; rfl
  have ec : cwM (Pq (T ++ [10]) l' kn') 0 = { closedM (Pq (T ++ [10]) l' kn') 1 with tip := 0 } := rfl
  unfold parseM
  rw [hl, er2, Option.map_some, ec, close_para (Pq (T ++ [10]) l' kn') 1 hd (trim_lf hhead hlast) rfl rfl (by show 1 < 2; decide) hne]
  rfl
end Go.Proofs.YtdelaanaohjnkaaGreatDoor

/-
  Words with blank lines between them: a paragraph each.
-/
namespace Go.Proofs.YtdelaanaohjnkaaGreatDoor
open Go Go.Lib

def ah (j : Nat) : Int := if j = 0 then -1 else (j : Int)
theorem ah_succ (j : Nat) : ah (j + 1) = ((j + 1 : Nat) : Int) := if_neg (Nat.succ_ne_zero j)
def paGo : Nat → List (List UInt8) → List Nd
  | _, [] => []
  | i, w :: ws => nP (ah i) w true :: paGo (i + 1) ws
theorem paGo_len : ∀ (ws : List (List UInt8)) (i : Nat), (paGo i ws).length = ws.length
  | [], _ => rfl
  | w :: ws, i => by rw [paGo, List.length_cons, List.length_cons, paGo_len ws]
theorem paGo_snoc : ∀ (ws : List (List UInt8)) (i : Nat) (w : List UInt8), paGo i (ws ++ [w]) = paGo i ws ++ [nP (ah (i + ws.length)) w true]
  | [], i, w => rfl
  | v :: ws, i, w => by
    rw [List.cons_append, paGo, paGo, paGo_snoc ws (i + 1) w, List.length_cons, show i + 1 + ws.length = i + (ws.length + 1) by omega]; rfl
theorem paGo_get : ∀ (ws : List (List UInt8)) (i j : Nat) (h : j < ws.length), (paGo i ws).getD j (blkN 1) = nP (ah (i + j)) ws[j] true
  | w :: ws, i, 0, _ => rfl
  | w :: ws, i, j + 1, h => by
    rw [paGo, List.getD_cons_succ, paGo_get ws (i + 1) j (by simpa using h), show i + 1 + j = i + (j + 1) by omega]; rfl

theorem word_step {w : List UInt8} (h : Wrd w) (ps : List Nd) (a : Int) (be : Bool) (l : Ln) (kn : Nat) :
    takeM ⟨nD a be :: ps, 0, [], l, kn, false⟩ w = ⟨nD ((ps.length + 1 : Nat) : Int) false :: (ps ++ [nP a (w ++ [10]) false]), ps.length + 1, [], L0 w, ps.length + 1, false⟩ := by
  obtain ⟨x, r, rfl, hx⟩ := h.cons
  unfold takeM startM
  rw [ltr_line hx]
  obtain ⟨s', hs'⟩ : ∃ s' : St, (⟨nD a be :: ps, 0, [], L0 (x :: r), ps.length + 1, false⟩ : St) = s' := ⟨_, rfl⟩
  show lineM ⟨nD a be :: ps, 0, [], L0 (x :: r), ps.length + 1, false⟩ = _
  rw [hs']
  have hm : matchedM s' = (s', 0, false) := by rw [← hs']; rfl
  rw [line_open hm, begun_word hx s' 0 (by rw [← hs']) (by rw [← hs']; show ¬ ((1 : Nat) = 7 ∨ (1 : Nat) = 8); decide), ← hs']
  have e2 : ebGo (ps.length + 1) (nD a be :: ps) 0 false = nD a false :: ps := by
    rw [ebGo, if_neg (by decide)]
    exact ebGo_neg _ _ _
  have e1 : restM ⟨nD a be :: ps, 0, [], L0 (x :: r), ps.length + 1, false⟩ 0 0 = fillM ⟨ebGo (ps.length + 1) (nD a be :: ps) 0 false, 0, [], L0 (x :: r), ps.length + 1, false⟩ 0 := rfl
  show restM ⟨nD a be :: ps, 0, [], L0 (x :: r), ps.length + 1, false⟩ 0 0 = _
  rw [e1, e2]
  have e3 : fillM ⟨nD a false :: ps, 0, [], L0 (x :: r), ps.length + 1, false⟩ 0 = putM ⟨nD ((ps.length + 1 : Nat) : Int) false :: (ps ++ [nP a [] false]), ps.length + 1, [], L0 (x :: r), ps.length + 1, false⟩ (ps.length + 1) := rfl
  rw [e3]
  unfold putM St.put St.nd
  show St.mk ((nD ((ps.length + 1 : Nat) : Int) false :: (ps ++ [nP a [] false])).set (ps.length + 1) _) _ _ _ _ _ = _
  rw [gN_end, set_end]
  rfl
theorem blank_step {w : List UInt8} (h : Wrd w) (ps : List Nd) (a : Int) (l : Ln) (kn : Nat) :
    takeM ⟨nD ((ps.length + 1 : Nat) : Int) false :: (ps ++ [nP a (w ++ [10]) false]), ps.length + 1, [], l, kn, false⟩ [] = ⟨nD ((ps.length + 1 : Nat) : Int) true :: (ps ++ [nP a w true]), 0, [], L0 [], (ps ++ [nP a (w ++ [10]) false]).length + 1, false⟩ := by
  unfold takeM startM
  obtain ⟨kn', hkn⟩ : ∃ kn', (ps ++ [nP a (w ++ [10]) false]).length + 1 = kn' := ⟨_, rfl⟩
  show lineM ⟨nD ((ps.length + 1 : Nat) : Int) false :: (ps ++ [nP a (w ++ [10]) false]), ps.length + 1, [], L0 [], (ps ++ [nP a (w ++ [10]) false]).length + 1, false⟩ = _
  rw [hkn]
  obtain ⟨s', hs'⟩ : ∃ s' : St, (⟨nD ((ps.length + 1 : Nat) : Int) false :: (ps ++ [nP a (w ++ [10]) false]), ps.length + 1, [], L0 [], kn', false⟩ : St) = s' := ⟨_, rfl⟩
  rw [hs']
  have hx : s'.nd (ps.length + 1) = nP a (w ++ [10]) false := by rw [← hs']; exact gN_end _ _ _
  have ht : s'.tip = ps.length + 1 := by rw [← hs']
  have hl : s'.line = L0 [] := by rw [← hs']
  have h0 : s'.nd 0 = nD ((ps.length + 1 : Nat) : Int) false := by rw [← hs']; rfl
  have hla : (s'.nd 0).last.toNat = ps.length + 1 := by rw [h0]; rfl
  have hm : matchedM s' = (s', 0, false) := by
    have e1 : matchedM s' = matchGo ((ps ++ [nP a (w ++ [10]) false]).length + 1) s' 0 := by rw [← hs']; rfl
    have e2 : endsFenceM s' (ps.length + 1) = false := by unfold endsFenceM; rw [hx]; rfl
    have e3 : goesOnM s' (ps.length + 1) = (s'.line, false) := by unfold goesOnM; rw [hx, hl]; rfl
    rw [e1, matchGo, if_neg (by rw [ht]; omega), hla, e2, if_neg Bool.false_ne_true, e3, if_neg Bool.false_ne_true]
    rw [← hs']; rfl
  have hb : begunM s' 0 = (s', 0, 0) := by
    have hbe : beginM s' 0 = (s', 0) := by unfold beginM; rw [if_pos (by rw [hl]; rfl)]
    unfold begunM
    rw [if_neg (by rw [h0]; show ¬ ((1 : Nat) = 7 ∨ (1 : Nat) = 8); decide), begunGo, hbe]; rfl
  rw [line_open hm, hb]
  have e : restM s' 0 0 = fillM (endBlankM (cwM s' 0) 0) 0 := by
    unfold restM
    rw [if_pos rfl, if_neg (fun c => c.2 (by rw [hl]; rfl)), ← hs']; rfl
  have hd := close_para s' (ps.length + 1) (b := w) (q := [10]) h.defs h.trim (by rw [hx]; rfl) (by rw [hx]; rfl) (by rw [← hs']; simp) h.1
  have hp : s'.put (ps.length + 1) { s'.nd (ps.length + 1) with text := w } = ⟨nD ((ps.length + 1 : Nat) : Int) false :: (ps ++ [nP a w false]), ps.length + 1, [], L0 [], kn', false⟩ := by
    rw [hx, ← hs']
    unfold St.put
    rw [set_end]; rfl
  have hc : cwM s' 0 = ⟨nD ((ps.length + 1 : Nat) : Int) false :: (ps ++ [nP a w false]), 0, [], L0 [], kn', false⟩ := by
    have e5 : closeM s' = ⟨nD ((ps.length + 1 : Nat) : Int) false :: (ps ++ [nP a w false]), 0, [], L0 [], kn', false⟩ := by
      unfold closeM
      rw [ht, hd, hp, hx]; rfl
    unfold cwM
    rw [ht, cwGo, if_neg (by rw [ht]; omega), e5, cwGo_at _ _ _ rfl]
  show restM s' 0 0 = _
  rw [e, hc]
  have e6 : ebLast ⟨nD ((ps.length + 1 : Nat) : Int) false :: (ps ++ [nP a w false]), 0, [], L0 [], kn', false⟩ 0 = nD ((ps.length + 1 : Nat) : Int) false :: (ps ++ [nP a w true]) := by
    unfold ebLast St.nd
    rw [if_pos ⟨rfl, by show ((ps.length + 1 : Nat) : Int) ≠ -1; omega⟩]
    show (nD ((ps.length + 1 : Nat) : Int) false :: (ps ++ [nP a w false])).set (ps.length + 1) { gN (nD ((ps.length + 1 : Nat) : Int) false :: (ps ++ [nP a w false])) (ps.length + 1) with be := true } = _
    rw [gN_end, set_end]; rfl
  unfold endBlankM
  rw [e6]
  have e7 : ebGo ((ps ++ [nP a w false]).length + 1) (nD ((ps.length + 1 : Nat) : Int) false :: (ps ++ [nP a w true])) 0 true = nD ((ps.length + 1 : Nat) : Int) true :: (ps ++ [nP a w true]) := by
    rw [ebGo, if_neg (by decide)]
    exact ebGo_neg _ _ _
  show fillM ⟨ebGo ((ps ++ [nP a w false]).length + 1) (nD ((ps.length + 1 : Nat) : Int) false :: (ps ++ [nP a w true])) 0 true, 0, [], L0 [], kn', false⟩ 0 = _
  rw [e7]
  rfl
end Go.Proofs.YtdelaanaohjnkaaGreatDoor

/-
  What is told of words with blank lines between them.
-/
namespace Go.Proofs.YtdelaanaohjnkaaGreatDoor
open Go Go.Lib

def Gs (ws : List (List UInt8)) (l : Ln) (kn : Nat) (be : Bool) : St := ⟨nD (ah ws.length) be :: paGo 0 ws, 0, [], l, kn, false⟩
theorem gs_step {w : List UInt8} (h : Wrd w) (ws : List (List UInt8)) (l : Ln) (kn : Nat) (be : Bool) :
    (takeM (Gs ws l kn be) w).deep = false ∧ takeM (takeM (Gs ws l kn be) w) [] = Gs (ws ++ [w]) (L0 []) ((paGo 0 ws ++ [nP (ah ws.length) (w ++ [10]) false]).length + 1) true := by
  unfold Gs
  rw [word_step h]
  refine ⟨rfl, ?_⟩
  have el : (ws ++ [w]).length = ws.length + 1 := by simp
  rw [blank_step h, paGo_snoc, el, paGo_len, Nat.zero_add, ah_succ]
theorem run_b : ∀ (rest ws : List (List UInt8)) (l : Ln) (kn : Nat) (be : Bool), (∀ w ∈ rest, Wrd w) → ∃ l' kn' be', runM (rest.flatMap fun w => [w, []]) (Gs ws l kn be) = some (Gs (ws ++ rest) l' kn' be')
  | [], ws, l, kn, be, _ => ⟨l, kn, be, by rw [List.flatMap_nil, runM, List.append_nil]⟩
  | w :: rest, ws, l, kn, be, h => by
    obtain ⟨d1, e1⟩ := gs_step (h w (List.mem_cons_self ..)) ws l kn be
    obtain ⟨l', kn', be', e⟩ := run_b rest (ws ++ [w]) (L0 []) ((paGo 0 ws ++ [nP (ah ws.length) (w ++ [10]) false]).length + 1) true (fun x hx => h x (List.mem_cons_of_mem _ hx))
    refine ⟨l', kn', be', ?_⟩
    rw [List.flatMap_cons]
    show runM (w :: [] :: rest.flatMap fun w => [w, []]) _ = _
    rw [runM, d1, if_neg Bool.false_ne_true, runM, e1, if_neg (by exact Bool.false_ne_true), e, List.append_assoc]; rfl
theorem told_leaf (k : Nat) (l : List Nd) (j : Nat) {a : Int} {w : List UInt8} {b : Bool} (h : gN l j = nP a w b) : toldGo k l j = .mk 5 0 false 0 0 false [] w [] := by
  cases k with
  | zero => rw [toldGo, h]; rfl
  | succ n =>
    have hk : kidsM l j = [] := by
      unfold kidsM
      rw [h]
      cases l.length <;> rfl
    rw [toldGo, hk, h]; rfl
theorem ch_ah {n : Nat} {l : List Nd} (hl : ∀ i, i < n → (gN l (i + 1)).ahead = ah i) : ∀ (j f : Nat), j ≤ n → j < f → chGo f l (ah j) = (List.range j).reverse.map (· + 1)
  | 0, f + 1, _, _ => rfl
  | j + 1, f + 1, h1, h2 => by
    rw [chGo, if_neg (by rw [ah_succ]; omega), ah_succ]
    show (j + 1) :: chGo f l (gN l (j + 1)).ahead = _
    rw [hl j (by omega), ch_ah hl j f (by omega) (by omega), List.range_succ, List.reverse_append]; rfl
theorem blank_words {ws : List (List UInt8)} (h : ∀ w ∈ ws, Wrd w) : parseM (bL ws) = some (.mk 1 0 false 0 0 false [] [] (ws.map fun w => .mk 5 0 false 0 0 false [] w []), []) := by
  obtain ⟨l', kn', be', e⟩ := run_b ws [] ⟨[], 0, 0, 0, []⟩ 0 false h
  rw [List.nil_append] at e
  have e0 : runM (ws.flatMap fun w => [w, []]) st0 = some (Gs ws l' kn' be') := e
  unfold parseM
  rw [bL_lines h, e0, Option.map_some]
  have ec : cwM (Gs ws l' kn' be') 0 = Gs ws l' kn' be' := rfl
  rw [ec]
  have et : toldM (Gs ws l' kn' be').list 0 = .mk 1 0 false 0 0 false [] [] (ws.map fun w => .mk 5 0 false 0 0 false [] w []) := by
    have hg : ∀ i, (hi : i < ws.length) → gN (nD (ah ws.length) be' :: paGo 0 ws) (i + 1) = nP (ah i) ws[i] true := fun i hi => by
      unfold gN
      rw [List.getD_cons_succ, paGo_get ws 0 i hi, Nat.zero_add]
    have hk : kidsM (nD (ah ws.length) be' :: paGo 0 ws) 0 = (List.range ws.length).reverse.map (· + 1) := by
      unfold kidsM
      show chGo ((paGo 0 ws).length + 1) _ (ah ws.length) = _
      exact ch_ah (n := ws.length) (fun i hi => by rw [hg i hi]; rfl) ws.length _ (Nat.le_refl _) (by rw [paGo_len]; omega)
    unfold toldM
    show toldGo ((paGo 0 ws).length + 1) (nD (ah ws.length) be' :: paGo 0 ws) 0 = _
    rw [toldGo, hk]
    show Tr.mk 1 0 false 0 0 false [] [] _ = _
    congr 1
    rw [List.map_map, ← List.map_reverse, List.reverse_reverse]
    apply List.ext_getElem
    · simp
    · intro i h1 h2
      have hi : i < ws.length := by simpa using h2
      rw [List.getElem_map, List.getElem_map, List.getElem_range]
      exact told_leaf _ _ _ (hg i hi)
  rw [et]; rfl
end Go.Proofs.YtdelaanaohjnkaaGreatDoor

