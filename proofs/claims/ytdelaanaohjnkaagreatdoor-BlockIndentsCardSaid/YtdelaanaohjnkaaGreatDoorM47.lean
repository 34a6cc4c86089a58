/-
  Texts of the proof, one behind the other: Bfa, Bia.
-/
import Derived.Test.YtdelaanaohjnkaaGreatDoorM45
/-
  Lines in a fence of ~: a code block's, as they are.
-/
namespace Go.Proofs.YtdelaanaohjnkaaGreatDoor
open Go Go.Lib

/-- A code block in a fence of n ~. -/
def nF (n : Nat) (t : List UInt8) : Nd := ⟨7, 0, false, 0, 0, false, [], 0, -1, -1, 1, t, 0, 126, n, 0, false⟩
def Fs (n tip : Nat) (t : List UInt8) (l : Ln) (kn : Nat) : St := ⟨[nD 1 false, nF n t], tip, [], l, kn, false⟩
def fenL (n : Nat) : List UInt8 := List.replicate n 126
theorem fence_first {m : Nat} (h : m < 9) : takeM st0 (fenL (3 + m)) = Fs (3 + m) 1 [] (L0 (fenL (3 + m))) 1 := by
  have hc : m = 0 ∨ m = 1 ∨ m = 2 ∨ m = 3 ∨ m = 4 ∨ m = 5 ∨ m = 6 ∨ m = 7 ∨ m = 8 := by omega
  rcases hc with rfl | rfl | rfl | rfl | rfl | rfl | rfl | rfl | rfl <;> rfl
theorem skipM_zero (l : Ln) : skipM l 0 = l := by
  have : skipL 0 l.c l.f l.rem = (0, l.c, l.f) := by
    cases l.rem with
    | nil => rw [skip_nil]
    | cons b r => rw [skip_cons, if_pos (.inl rfl)]
  unfold skipM
  rw [this]
  rfl
theorem fence_line {n : Nat} {T t : List UInt8} {l : Ln} {kn : Nat} (h : (decide ((newLn t).ind < 4) && stretchL 126 (max (n : Int) 3) (newLn t).next) = false) :
    takeM (Fs n 1 T l kn) t = Fs n 1 (T ++ t ++ [10]) (newLn t) 2 := by
  unfold takeM startM
  obtain ⟨s', hs'⟩ : ∃ s' : St, ({ Fs n 1 T l kn with line := newLn t, known := (Fs n 1 T l kn).list.length } : St) = s' := ⟨_, rfl⟩
  rw [hs']
  have hl : s'.line = newLn t := by rw [← hs']
  have h1 : s'.nd 1 = nF n T := by rw [← hs']; rfl
  have hla : (s'.nd 0).last.toNat = 1 := by rw [← hs']; rfl
  have ht : s'.tip = 1 := by rw [← hs']; rfl
  have hm : matchedM s' = (s', 1, false) := by
    have e1 : matchedM s' = matchGo 2 s' 0 := by rw [← hs']; rfl
    have e2 : endsFenceM s' 1 = false := by
      unfold endsFenceM
      rw [h1, hl]
      show (true && decide ((newLn t).ind < 4) && stretchL 126 (max (n : Int) 3) (newLn t).next) = false
      rw [Bool.true_and]; exact h
    have e3 : goesOnM s' 1 = (s'.line, true) := by
      unfold goesOnM codeOnM
      rw [h1]
      show (skipM s'.line 0, true) = _
      rw [skipM_zero]
    have e4 : s'.atL s'.line = s' := rfl
    rw [e1, matchGo, if_neg (by rw [ht]; decide), hla, e2, if_neg Bool.false_ne_true, e3, if_pos rfl, e4, matchGo, if_pos ht.symm]
  have hb : begunM s' 1 = (s', 1, 2) := by
    unfold begunM
    rw [if_pos (.inl (by rw [h1]; rfl))]
  rw [line_open hm, hb]
  have hc : cwM s' 1 = s' := by unfold cwM; exact cwGo_at _ _ _ ht
  have e : restM s' 1 2 = fillM (endBlankM s' 1) 1 := by
    unfold restM
    rw [if_neg (by decide), if_pos (by decide), hc]
  show restM s' 1 2 = _
  have hf : fullB s' 1 = true := by unfold fullB; rw [h1]; rfl
  have he : endBlankM s' 1 = s' := by
    have e5 : ebLast s' 1 = s'.list := by
      unfold ebLast
      rw [if_neg (fun c => c.2 (by rw [h1]; rfl))]
    unfold endBlankM
    rw [e5, hf, Bool.not_true, Bool.and_false, ← hs']; rfl
  rw [e, he]
  have e6 : fillM s' 1 = putM s' 1 := by unfold fillM; rw [if_pos (by rw [h1]; rfl)]
  rw [e6]
  unfold putM
  rw [h1, hl]
  have hr : lrestM (newLn t) = t := rfl
  rw [hr, ← hs']
  rfl
theorem fence_close {n : Nat} {T t : List UInt8} {l : Ln} {kn : Nat} (h : (decide ((newLn t).ind < 4) && stretchL 126 (max (n : Int) 3) (newLn t).next) = true) :
    takeM (Fs n 1 T l kn) t = Fs n 0 T (newLn t) 2 := by
  unfold takeM startM
  obtain ⟨s', hs'⟩ : ∃ s' : St, ({ Fs n 1 T l kn with line := newLn t, known := (Fs n 1 T l kn).list.length } : St) = s' := ⟨_, rfl⟩
  rw [hs']
  have hl : s'.line = newLn t := by rw [← hs']
  have h1 : s'.nd 1 = nF n T := by rw [← hs']; rfl
  have hla : (s'.nd 0).last.toNat = 1 := by rw [← hs']; rfl
  have ht : s'.tip = 1 := by rw [← hs']; rfl
  have hm : matchedM s' = (closeM s', 0, true) := by
    have e1 : matchedM s' = matchGo 2 s' 0 := by rw [← hs']; rfl
    have e2 : endsFenceM s' 1 = true := by
      unfold endsFenceM
      rw [h1, hl]
      show (true && decide ((newLn t).ind < 4) && stretchL 126 (max (n : Int) 3) (newLn t).next) = true
      rw [Bool.true_and]; exact h
    rw [e1, matchGo, if_neg (by rw [ht]; decide), hla, e2, if_pos rfl]
  unfold lineM
  rw [hm, ← hs']
  rfl
theorem run_fence {n : Nat} : ∀ (ts : List (List UInt8)) (T : List UInt8) (l : Ln) (kn : Nat) (z : List (List UInt8)), (∀ t ∈ ts, (decide ((newLn t).ind < 4) && stretchL 126 (max (n : Int) 3) (newLn t).next) = false) →
    ∃ l' kn', runM (ts ++ z) (Fs n 1 T l kn) = runM z (Fs n 1 (T ++ aL ts) l' kn')
  | [], T, l, kn, z, _ => ⟨l, kn, by rw [List.nil_append]; unfold aL; rw [List.flatMap_nil, List.append_nil]⟩
  | t :: ts, T, l, kn, z, h => by
    obtain ⟨l', kn', e⟩ := run_fence ts (T ++ t ++ [10]) (newLn t) 2 z (fun x hx => h x (List.mem_cons_of_mem _ hx))
    refine ⟨l', kn', ?_⟩
    rw [List.cons_append, runM, fence_line (h t (List.mem_cons_self ..)), if_neg (by exact Bool.false_ne_true), e, aL_cons]
    simp
theorem fence_own {m : Nat} (h : m < 9) : (decide ((newLn (fenL (3 + m))).ind < 4) && stretchL 126 (max ((3 + m : Nat) : Int) 3) (newLn (fenL (3 + m))).next) = true := by
  have hc : m = 0 ∨ m = 1 ∨ m = 2 ∨ m = 3 ∨ m = 4 ∨ m = 5 ∨ m = 6 ∨ m = 7 ∨ m = 8 := by omega
  rcases hc with rfl | rfl | rfl | rfl | rfl | rfl | rfl | rfl | rfl <;> decide
theorem lines_all : ∀ (ts z : List (List UInt8)) (r : List UInt8), (∀ t ∈ ts, ∀ b ∈ t, b ≠ 10) → linesL r = z → linesL (aL ts ++ r) = ts ++ z
  | [], z, r, _, e => e
  | t :: ts, z, r, h, e => by
    rw [aL_cons, List.append_assoc]
    show linesL (t ++ 10 :: (aL ts ++ r)) = _
    rw [pa_cut (h t (List.mem_cons_self ..)), lines_all ts z r (fun x hx => h x (List.mem_cons_of_mem _ hx)) e]; rfl
theorem fen_lf (n : Nat) : ∀ b ∈ fenL n, b ≠ 10 := fun b hb => by rw [(List.mem_replicate.1 hb).2]; decide
/-- Lines in a fence. -/
theorem fence_parse {m : Nat} (hm : m < 9) {ts : List (List UInt8)} (h0 : ∀ t ∈ ts, ∀ b ∈ t, b ≠ 10) (h : ∀ t ∈ ts, (decide ((newLn t).ind < 4) && stretchL 126 (max ((3 + m : Nat) : Int) 3) (newLn t).next) = false) :
    parseM (fenL (3 + m) ++ [10] ++ aL ts ++ fenL (3 + m) ++ [10]) = some (.mk 1 0 false 0 0 false [] [] [.mk 7 0 false 0 0 false [] (aL ts) []], []) := by
  have e : fenL (3 + m) ++ [10] ++ aL ts ++ fenL (3 + m) ++ [10] = fenL (3 + m) ++ 10 :: (aL ts ++ (fenL (3 + m) ++ 10 :: [])) := by simp
  have el : linesL (fenL (3 + m) ++ [10] ++ aL ts ++ fenL (3 + m) ++ [10]) = fenL (3 + m) :: (ts ++ [fenL (3 + m)]) := by
    rw [e, pa_cut (fen_lf _), lines_all ts [fenL (3 + m)] _ h0 (by rw [pa_cut (fen_lf _)]; rfl)]
  obtain ⟨l', kn', er⟩ := run_fence (n := 3 + m) ts [] (L0 (fenL (3 + m))) 1 [fenL (3 + m)] h
  have er2 : runM (fenL (3 + m) :: (ts ++ [fenL (3 + m)])) st0 = some (Fs (3 + m) 0 (aL ts) (newLn (fenL (3 + m))) 2) := by
    rw [runM, fence_first hm, if_neg (by exact Bool.false_ne_true), er, runM, fence_close (fence_own hm), if_neg (by exact Bool.false_ne_true), runM]
    rfl
  unfold parseM
  rw [el, er2]
  rfl
end Go.Proofs.YtdelaanaohjnkaaGreatDoor

/-
  Lines with four blanks ahead of each: a code block's, as they are.
-/
namespace Go.Proofs.YtdelaanaohjnkaaGreatDoor
open Go Go.Lib

def nI (t : List UInt8) (be : Bool) : Nd := ⟨7, 0, false, 0, 0, false, [], 0, -1, -1, 1, t, 0, 0, 0, 0, be⟩
def Is (t : List UInt8) (l : Ln) (kn : Nat) (be : Bool) : St := ⟨[nD 1 be, nI t be], 1, [], l, kn, false⟩
def fourL (t : List UInt8) : List UInt8 := 32 :: 32 :: 32 :: 32 :: t
theorem four_ind (t : List UInt8) : 4 ≤ (newLn (fourL t)).ind := by
  show 4 ≤ indL 0 0 (fourL t)
  unfold fourL
  rw [ind_cons, if_neg (by decide), ind_cons, if_neg (by decide), ind_cons, if_neg (by decide), ind_cons, if_neg (by decide)]
  have : wideB 0 0 32 = 1 := rfl
  have h1 : ∀ c, wideB c 0 32 = 1 := fun _ => rfl
  simp only [h1]
  omega
theorem four_next (t : List UInt8) : (newLn (fourL t)).next = nextL t := rfl
theorem four_skip (t : List UInt8) : skipL 4 0 0 (fourL t) = (4, 4, 0) := by cases t <;> rfl
theorem four_past (t : List UInt8) : lrestM (skipM (newLn (fourL t)) 4) = t ∧ (skipM (newLn (fourL t)) 4).next = nextL t := by
  have : skipM (newLn (fourL t)) 4 = ⟨t, 4, 0, (newLn (fourL t)).ind - 4, nextL t⟩ := by
    unfold skipM
    show Ln.mk ((fourL t).drop (skipL 4 0 0 (fourL t)).1) (skipL 4 0 0 (fourL t)).2.1 (skipL 4 0 0 (fourL t)).2.2 _ _ = _
    rw [four_skip]; rfl
  rw [this]; exact ⟨rfl, rfl⟩
theorem dw_nil {p : UInt8 → Bool} : ∀ {t : List UInt8}, t.dropWhile p = [] → ∀ b ∈ t, p b = true
  | [], _, b, hb => by cases hb
  | x :: t, e, b, hb => by
    rw [List.dropWhile_cons] at e
    cases hx : p x with
    | false => rw [hx] at e; exact absurd e (by simp)
    | true =>
      rw [hx, if_pos rfl] at e
      rcases List.mem_cons.1 hb with rfl | hb
      · exact hx
      · exact dw_nil e b hb
theorem ib_end : ∀ {q : List UInt8}, (∀ b ∈ q, isB b = true) → indexByte (q ++ [10]) 10 = (q.length : Int)
  | [], _ => rfl
  | b :: q, h => by
    have hb : (b == 10) = false := by
      apply beq_false_of_ne
      rintro rfl
      exact absurd (h 10 (List.mem_cons_self ..)) (by decide)
    have ih := ib_end fun x hx => h x (List.mem_cons_of_mem _ hx)
    have h1 : ((q.length : Int) == -1) = false := beq_false_of_ne (by omega)
    rw [List.cons_append, indexByte, hb, ih, h1, List.length_cons]
    simp
theorem next_blank {t : List UInt8} (h : blankL t = false) : nextL t ≠ [] := by
  intro e
  unfold nextL Lib.trimLeftS at e
  have : blankL t = true := by
    unfold blankL
    rw [List.all_eq_true]
    intro b hb
    have h2 := dw_nil e b hb
    have h3 : b = 32 ∨ b = 9 := by simpa using h2
    rcases h3 with rfl | rfl <;> rfl
  rw [this] at h; cases h
theorem fill_code {s : St} (T : List UInt8) (be b : Bool) (L : Ln) (kn : Nat) (hs : s = ⟨[nD 1 be, nI T be], 1, [], L, kn, false⟩) (hb : decide (L.next = []) = b) :
    restM s 1 2 = ⟨[nD 1 b, nI (T ++ lrestM L ++ [10]) b], 1, [], L, kn, false⟩ := by
  subst hs
  have hc : cwM ⟨[nD 1 be, nI T be], 1, [], L, kn, false⟩ 1 = ⟨[nD 1 be, nI T be], 1, [], L, kn, false⟩ := rfl
  unfold restM
  rw [if_neg (by decide), if_pos (by decide), hc]
  have e5 : ebLast ⟨[nD 1 be, nI T be], 1, [], L, kn, false⟩ 1 = [nD 1 be, nI T be] := by
    unfold ebLast
    rw [if_neg (fun c => c.2 rfl)]
  have he : endBlankM ⟨[nD 1 be, nI T be], 1, [], L, kn, false⟩ 1 = ⟨[nD 1 b, nI T b], 1, [], L, kn, false⟩ := by
    unfold endBlankM
    rw [e5]
    have hf : fullB ⟨[nD 1 be, nI T be], 1, [], L, kn, false⟩ 1 = false := rfl
    rw [hf]
    show St.mk (ebGo 2 [nD 1 be, nI T be] 1 (decide (L.next = []) && true)) _ _ _ _ _ = _
    rw [hb, Bool.and_true]; rfl
  rw [he]; rfl
theorem ind_first {t : List UInt8} (h : blankL t = false) : ∃ L, takeM st0 (fourL t) = Is ([] ++ t ++ [10]) L 1 false := by
  refine ⟨skipM (newLn (fourL t)) 4, ?_⟩
  unfold takeM startM
  obtain ⟨s', hs'⟩ : ∃ s' : St, ({ st0 with line := newLn (fourL t), known := st0.list.length } : St) = s' := ⟨_, rfl⟩
  rw [hs']
  have hl : s'.line = newLn (fourL t) := by rw [← hs']
  have hm : matchedM s' = (s', 0, false) := by rw [← hs']; rfl
  have ha : addInM (s'.atL (skipM s'.line 4)) 0 (blkN 7) = ⟨[nD 1 false, nI [] false], 1, [], skipM (newLn (fourL t)) 4, 1, false⟩ := by rw [← hs']; rfl
  have hb : beginM s' 0 = (⟨[nD 1 false, nI [] false], 1, [], skipM (newLn (fourL t)) 4, 1, false⟩, 2) := by
    unfold beginM
    rw [if_neg (by rw [hl, four_next]; exact next_blank h), if_pos (by rw [hl]; exact four_ind t)]
    unfold bCodeM
    rw [if_neg (by rw [← hs']; show ¬ (1 : Nat) = 5; decide), ha]
  have hg : begunM s' 0 = (⟨[nD 1 false, nI [] false], 1, [], skipM (newLn (fourL t)) 4, 1, false⟩, 1, 2) := by
    unfold begunM
    rw [if_neg (by rw [← hs']; show ¬ ((1 : Nat) = 7 ∨ (1 : Nat) = 8); decide), begunGo, hb]; rfl
  rw [line_open hm, hg]
  show restM _ 1 2 = _
  rw [fill_code [] false false _ _ rfl (by rw [(four_past t).2]; exact decide_eq_false (next_blank h)), (four_past t).1]
  rfl
theorem ind_more (T t : List UInt8) (l : Ln) (kn : Nat) (be : Bool) : ∃ L b, takeM (Is T l kn be) (fourL t) = Is (T ++ t ++ [10]) L 2 b := by
  refine ⟨skipM (newLn (fourL t)) 4, decide ((skipM (newLn (fourL t)) 4).next = []), ?_⟩
  unfold takeM startM
  obtain ⟨s', hs'⟩ : ∃ s' : St, ({ Is T l kn be with line := newLn (fourL t), known := (Is T l kn be).list.length } : St) = s' := ⟨_, rfl⟩
  rw [hs']
  have hl : s'.line = newLn (fourL t) := by rw [← hs']
  have h1 : s'.nd 1 = nI T be := by rw [← hs']; rfl
  have hla : (s'.nd 0).last.toNat = 1 := by rw [← hs']; rfl
  have ht : s'.tip = 1 := by rw [← hs']; rfl
  have hat : s'.atL (skipM (newLn (fourL t)) 4) = ⟨[nD 1 be, nI T be], 1, [], skipM (newLn (fourL t)) 4, 2, false⟩ := by rw [← hs']; rfl
  have hm : matchedM s' = (⟨[nD 1 be, nI T be], 1, [], skipM (newLn (fourL t)) 4, 2, false⟩, 1, false) := by
    have e1 : matchedM s' = matchGo 2 s' 0 := by rw [← hs']; rfl
    have e2 : endsFenceM s' 1 = false := by unfold endsFenceM; rw [h1]; rfl
    have e3 : goesOnM s' 1 = (skipM (newLn (fourL t)) 4, true) := by
      unfold goesOnM codeOnM pastIndM
      rw [h1, hl]
      show (if (newLn (fourL t)).next = [] then (skipM (newLn (fourL t)) 4, true) else if (newLn (fourL t)).ind < 4 then (newLn (fourL t), false) else (skipM (newLn (fourL t)) 4, true)) = _
      have := four_ind t
      rw [if_neg (by omega : ¬ (newLn (fourL t)).ind < 4)]
      split <;> rfl
    rw [e1, matchGo, if_neg (by rw [ht]; decide), hla, e2, if_neg Bool.false_ne_true, e3, if_pos rfl, hat]
    rfl
  have hg : begunM ⟨[nD 1 be, nI T be], 1, [], skipM (newLn (fourL t)) 4, 2, false⟩ 1 = (⟨[nD 1 be, nI T be], 1, [], skipM (newLn (fourL t)) 4, 2, false⟩, 1, 2) := by
    unfold begunM
    rw [if_pos (.inl rfl)]
  rw [line_open hm, hg]
  show restM _ 1 2 = _
  rw [fill_code T be _ _ _ rfl rfl, (four_past t).1]
  rfl
def iL (ws : List (List UInt8)) : List UInt8 := ws.flatMap fun w => fourL w ++ [10]
theorem iL_cons (w : List UInt8) (ws : List (List UInt8)) : iL (w :: ws) = fourL w ++ 10 :: iL ws := by
  unfold iL; rw [List.flatMap_cons, List.append_assoc]; rfl
theorem iL_lines : ∀ {ws : List (List UInt8)}, (∀ w ∈ ws, ∀ b ∈ w, b ≠ 10) → linesL (iL ws) = ws.map fourL
  | [], _ => rfl
  | w :: ws, h => by
    have h4 : ∀ b ∈ fourL w, b ≠ 10 := by
      intro b hb
      unfold fourL at hb
      simp only [List.mem_cons] at hb
      rcases hb with rfl | rfl | rfl | rfl | hb
      · decide
      · decide
      · decide
      · decide
      · exact h w (List.mem_cons_self ..) b hb
    rw [iL_cons, pa_cut h4, iL_lines fun x hx => h x (List.mem_cons_of_mem _ hx)]; rfl
theorem run_ind : ∀ (ws : List (List UInt8)) (T : List UInt8) (l : Ln) (kn : Nat) (be : Bool), ∃ l' kn' b', runM (ws.map fourL) (Is T l kn be) = some (Is (T ++ aL ws) l' kn' b')
  | [], T, l, kn, be => ⟨l, kn, be, by rw [List.map_nil, runM]; unfold aL; rw [List.flatMap_nil, List.append_nil]⟩
  | w :: ws, T, l, kn, be => by
    obtain ⟨L, b, e1⟩ := ind_more T w l kn be
    obtain ⟨l', kn', b', e⟩ := run_ind ws (T ++ w ++ [10]) L 2 b
    refine ⟨l', kn', b', ?_⟩
    rw [List.map_cons, runM, e1, if_neg (by exact Bool.false_ne_true), e, aL_cons]
    simp
theorem last_sign : ∀ {l : List UInt8}, blankL l = false → ∃ p y q, l = p ++ y :: q ∧ isB y = false ∧ ∀ b ∈ q, isB b = true
  | x :: l, h => by
    cases hl : blankL l with
    | false =>
      obtain ⟨p, y, q, e, h1, h2⟩ := last_sign hl
      exact ⟨x :: p, y, q, by rw [e]; rfl, h1, h2⟩
    | true =>
      refine ⟨[], x, l, rfl, ?_, fun b hb => List.all_eq_true.1 hl b hb⟩
      unfold blankL at h hl
      rw [List.all_cons, hl, Bool.and_true] at h
      exact h
theorem wbl_same {P q : List UInt8} {y : UInt8} (hy : isB y = false) (hy2 : y ≠ 10) (hq : ∀ b ∈ q, isB b = true) : wblL (P ++ y :: (q ++ [10])) = P ++ y :: (q ++ [10]) := by
  have wy : ws y = false := by
    have hn : ¬ y.toNat = 10 := fun e => hy2 (UInt8.toNat_inj.1 e)
    unfold ws; rw [hy, decide_eq_false hn]; rfl
  have e1 : (P ++ y :: (q ++ [10])).reverse = (10 :: q.reverse) ++ (y :: P.reverse) := by simp
  have h1 : ∀ x ∈ (10 :: q.reverse : List UInt8), ws x = true := by
    intro x hx
    rcases List.mem_cons.1 hx with rfl | hx
    · rfl
    · unfold ws; rw [hq x (List.mem_reverse.1 hx)]; rfl
  have hE : wblE (P ++ y :: (q ++ [10])) = P.length + 1 := by
    unfold wblE
    rw [e1, dropWhile_all h1, List.dropWhile_cons, wy]; simp
  have hd : (P ++ y :: (q ++ [10])).drop (P.length + 1) = q ++ [10] := by
    rw [show P ++ y :: (q ++ [10]) = (P ++ [y]) ++ (q ++ [10]) by simp]
    exact List.drop_left' (by simp)
  have hi : indexByte (q ++ [10]) 10 = (q.length : Int) := ib_end hq
  unfold wblL
  rw [hE, hd, hi]
  apply List.take_of_length_le
  simp only [List.length_append, List.length_cons, List.length_nil]
  omega
/-- Lines with four blanks ahead. -/
theorem ind_parse {ws : List (List UInt8)} (hlf : ∀ w ∈ ws, ∀ b ∈ w, b ≠ 10) {f : List UInt8} {m : List (List UInt8)} (e1 : ws = f :: m) (h1 : blankL f = false) {i : List (List UInt8)} {z : List UInt8} (e2 : ws = i ++ [z]) (h2 : blankL z = false) :
    parseM (iL ws) = some (.mk 1 0 false 0 0 false [] [] [.mk 7 0 false 0 0 false [] (aL ws) []], []) := by
  have hl := iL_lines hlf
  obtain ⟨L, ef⟩ := ind_first h1
  obtain ⟨l', kn', b', er⟩ := run_ind m ([] ++ f ++ [10]) L 1 false
  have er2 : runM (ws.map fourL) st0 = some (Is (aL ws) l' kn' b') := by
    rw [e1, List.map_cons, runM, ef, if_neg (by exact Bool.false_ne_true), er, aL_cons]
    simp
  have ew : wblL (aL ws) = aL ws := by
    obtain ⟨p, y, q, ez, hy, hq⟩ := last_sign h2
    have hy2 : y ≠ 10 := hlf z (by rw [e2]; simp) y (by rw [ez]; simp)
    have ea : aL ws = (aL i ++ p) ++ y :: (q ++ [10]) := by
      rw [e2, ez]
      unfold aL
      simp
    rw [ea]
    exact wbl_same hy hy2 hq
  have ec : cwM (Is (aL ws) l' kn' b') 0 = ⟨[nD 1 b', nI (wblL (aL ws)) b'], 0, [], l', kn', false⟩ := rfl
  unfold parseM
  rw [hl, er2, Option.map_some, ec, ew]
  rfl
end Go.Proofs.YtdelaanaohjnkaaGreatDoor

