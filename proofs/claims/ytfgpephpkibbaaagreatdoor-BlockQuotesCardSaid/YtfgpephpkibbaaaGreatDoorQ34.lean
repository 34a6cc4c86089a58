/-
  Texts of the proof, one behind the other: Bwd, Bwe, Bpa, Bfa.
-/
import Derived.Test.YtfgpephpkibbaaaGreatDoorQ32
/-
  Lines that begin with a letter: no block begins with them but a paragraph. The law's words.
-/
namespace Go.Proofs.YtfgpephpkibbaaaGreatDoor
open Go Go.Lib

/-- A letter from a to z. -/
def ltr (b : UInt8) : Prop := 97 ≤ b.toNat ∧ b.toNat ≤ 122
theorem ltr_ne {x c : UInt8} (h : ltr x) (hc : c.toNat < 97) : x ≠ c := by
  rintro rfl
  have := h.1; omega
theorem ltr_b {x : UInt8} (h : ltr x) : isB x = false := by
  have := h.1
  unfold isB; rw [decide_eq_false (by omega), decide_eq_false (by omega)]; rfl
theorem ltr_ws {x : UInt8} (h : ltr x) : ws x = false := by
  have := h.1
  unfold ws; rw [ltr_b h, decide_eq_false (by omega)]; rfl
theorem ltr_next {x : UInt8} {r : List UInt8} (h : ltr x) : nextL (x :: r) = x :: r := by
  unfold nextL Lib.trimLeftS
  rw [List.dropWhile_cons]
  have : ([32, 9] : List UInt8).contains x = false := by
    simp [ltr_ne h (c := 32) (by decide), ltr_ne h (c := 9) (by decide)]
  rw [this]; rfl
theorem ltr_wide {x : UInt8} (h : ltr x) (c : Nat) : wideB c 0 x = 0 := by
  unfold wideB
  rw [if_neg (by decide), if_neg (ltr_ne h (by decide)), if_neg (ltr_ne h (by decide))]
def L0 (t : List UInt8) : Ln := ⟨t, 0, 0, 0, t⟩
theorem ltr_line {x : UInt8} {r : List UInt8} (h : ltr x) : newLn (x :: r) = L0 (x :: r) := by
  unfold newLn lookM L0
  show Ln.mk _ _ _ (indL 0 0 (x :: r)) (nextL (x :: r)) = _
  rw [ind_cons, ltr_wide h, if_pos rfl, ltr_next h]
theorem ltr_pre {x : UInt8} {r p : List UInt8} {c : UInt8} (h : ltr x) (hc : c.toNat < 97) : hasPrefix (x :: r) (c :: p) = false := by
  unfold hasPrefix
  show ((c == x) && _) = false
  rw [beq_false_of_ne (ltr_ne h hc).symm]; rfl
theorem ltr_cnt {x : UInt8} {r : List UInt8} {c : UInt8} (h : ltr x) (hc : c.toNat < 97) : cntL c (x :: r) = 0 := by
  rw [cnt_cons, if_neg (ltr_ne h hc)]
theorem ltr_head {x : UInt8} {r : List UInt8} (h : ltr x) : headN (x :: r) = 0 := by
  unfold headN
  rw [ltr_cnt h (by decide), if_pos (.inl (by decide))]
theorem ltr_fen {x : UInt8} {r : List UInt8} (h : ltr x) : fenN (x :: r) = 0 := by
  have h1 := h.1
  have h2 := h.2
  unfold fenN fenB fcB
  show (if (_ && (if ((x.toNat : Nat) : Int) = 96 then _ else decide (((x.toNat : Nat) : Int) = 126))) = true then _ else 0) = 0
  rw [if_neg (by omega : ¬ ((x.toNat : Nat) : Int) = 96), decide_eq_false (by omega : ¬ ((x.toNat : Nat) : Int) = 126), Bool.and_false]; rfl
theorem ltr_html {x : UInt8} {r : List UInt8} (h : ltr x) : htmlL (x :: r) = 0 := by
  unfold htmlL
  rw [ltr_pre h (by decide)]; rfl
theorem ltr_elem {x : UInt8} {r : List UInt8} (h : ltr x) : elemB (x :: r) = false := by
  unfold elemB tagN
  rw [ltr_pre h (by decide), ltr_pre h (by decide)]; rfl
theorem ltr_under {x : UInt8} {r : List UInt8} (h : ltr x) : underL (x :: r) = 0 := by
  unfold underL stretchL
  rw [ltr_cnt h (by decide), ltr_cnt h (by decide)]; rfl
theorem ltr_rule {x : UInt8} {r : List UInt8} (h : ltr x) : ruleL (x :: r) = false := by
  have h1 := h.1
  have h2 := h.2
  unfold ruleL
  rw [List.all_cons]
  have : okRule ((x :: r).headD 0) x = false := by
    unfold okRule sgB
    rw [ltr_b h, decide_eq_false (by omega), decide_eq_false (by omega), decide_eq_false (by omega)]; rfl
  rw [this]; rfl
theorem ltr_lst {x : UInt8} {r : List UInt8} (h : ltr x) : lstB (x :: r) = false := by
  have h1 := h.1
  have h2 := h.2
  have hd : decC 9 (x :: r) = 0 := by
    show (if dgB x = true then _ else 0) = 0
    have : dgB x = false := by unfold dgB; rw [decide_eq_false (by omega : ¬ x.toNat ≤ 57), Bool.and_false]
    rw [this]; rfl
  have : sgnL (x :: r) = (false, 0, 0, 0) := by
    unfold sgnL
    rw [hd]
    show (if (0 : Nat) = 0 then (if x.toNat = 45 ∨ x.toNat = 43 ∨ x.toNat = 42 then _ else _) else _) = _
    rw [if_pos rfl, if_neg (by omega)]
  unfold lstB
  rw [this]; rfl
/-- No block begins with a letter. -/
theorem beg_word {x : UInt8} {r : List UInt8} (h : ltr x) (s : St) (i : Nat) (hl : s.line = L0 (x :: r)) : beginM s i = (s, 0) := by
  have hn : s.line.next = x :: r := by rw [hl]; rfl
  have hi : s.line.ind = 0 := by rw [hl]; rfl
  have hq : (pastQuoteM s.line).2 = false := by
    unfold pastQuoteM quoteB
    rw [hn, ltr_pre h (by decide), Bool.and_false]; rfl
  have hh : htmKM s = 0 := by
    unfold htmKM
    rw [hn, ltr_html h, if_pos rfl, ltr_elem h, Bool.and_false]; rfl
  have hu : bUnderM s i = (s, false) := by
    unfold bUnderM
    rw [hn, ltr_under h, if_pos (.inl rfl)]
  have hit : bItemM s i = (s, false) := by
    unfold bItemM itemB
    rw [hn, ltr_lst h, Bool.false_and]; rfl
  unfold beginM
  rw [if_neg (by rw [hn]; exact List.cons_ne_nil _ _), if_neg (by omega), hq, hn, ltr_head h, ltr_fen h, hh, hu]
  rw [if_neg Bool.false_ne_true, if_neg (fun c => c rfl), if_neg (fun c => c rfl), if_neg (fun c => c rfl), if_neg Bool.false_ne_true]
  unfold bRestM
  rw [hn, ltr_rule h, hit]; rfl
theorem begun_word {x : UInt8} {r : List UInt8} (h : ltr x) (s : St) (i : Nat) (hl : s.line = L0 (x :: r)) (hk : ¬ ((s.nd i).kind = 7 ∨ (s.nd i).kind = 8)) : begunM s i = (s, i, 0) := by
  unfold begunM
  rw [if_neg hk, begunGo, beg_word h s i hl]; rfl

/-! What a paragraph of words is when it ends. -/
theorem ltr_def {x : UInt8} {r : List UInt8} (h : ltr x) : dfsL (x :: r) = [] ∧ dfrL (x :: r) = x :: r := by
  apply dfs_stop
  have hl : lblN (x :: r) = 0 := by
    unfold lblN lblI
    rw [ltr_pre h (by decide)]; rfl
  unfold dfN dfB dfC
  rw [hl]; rfl
theorem trim_lf {a : List UInt8} (h1 : ∀ x, a.head? = some x → ws x = false) (h2 : ∀ x, a.getLast? = some x → ws x = false) : trimL (a ++ [10]) = a := by
  cases a with
  | nil => rfl
  | cons x r =>
    have hx := h1 x rfl
    unfold trimL
    rw [List.cons_append, List.dropWhile_cons, hx]
    show ((x :: (r ++ [10])).reverse.dropWhile ws).reverse = _
    rw [← List.cons_append, List.reverse_append]
    show ((10 :: (x :: r).reverse).dropWhile ws).reverse = _
    rw [List.dropWhile_cons, show ws 10 = true from rfl, if_pos rfl]
    cases hr : (x :: r).reverse with
    | nil => simp at hr
    | cons y q =>
      have hy : ws y = false := by
        apply h2 y
        rw [← List.reverse_reverse (x :: r), hr, List.getLast?_reverse]; rfl
      rw [List.dropWhile_cons, hy]
      show (y :: q).reverse = _
      rw [← hr, List.reverse_reverse]
/-- A word. -/
def Wrd (l : List UInt8) : Prop := l ≠ [] ∧ ∀ b ∈ l, ltr b
theorem Wrd.cons {l : List UInt8} (h : Wrd l) : ∃ x r, l = x :: r ∧ ltr x := by
  cases l with
  | nil => exact absurd rfl h.1
  | cons x r => exact ⟨x, r, rfl, h.2 x (List.mem_cons_self ..)⟩
theorem Wrd.trim {l : List UInt8} (h : Wrd l) : trimL (l ++ [10]) = l :=
  trim_lf (fun x hx => ltr_ws (h.2 x (List.mem_of_head? hx))) (fun x hx => ltr_ws (h.2 x (List.mem_of_getLast? hx)))
theorem Wrd.defs {l q : List UInt8} (h : Wrd l) : dfsL (l ++ q) = [] ∧ dfrL (l ++ q) = l ++ q := by
  obtain ⟨x, r, rfl, hx⟩ := h.cons
  exact ltr_def hx
theorem Wrd.lf {l : List UInt8} (h : Wrd l) : ∀ b ∈ l, b ≠ 10 := fun b hb => ltr_ne (h.2 b hb) (by decide)
end Go.Proofs.YtfgpephpkibbaaaGreatDoor

/-
  Words, headings and lines under words: what the parser makes of them, line by line.
-/
namespace Go.Proofs.YtfgpephpkibbaaaGreatDoor
open Go Go.Lib

def nD (last : Int) (be : Bool) : Nd := ⟨1, 0, false, 0, 0, false, [], -1, last, -1, 0, [], 0, 0, 0, 0, be⟩
def nP (a : Int) (t : List UInt8) (be : Bool) : Nd := ⟨5, 0, false, 0, 0, false, [], 0, -1, a, 1, t, 0, 0, 0, 0, be⟩
def nH (a : Int) (lv : Nat) (t : List UInt8) (be : Bool) : Nd := ⟨6, lv, false, 0, 0, false, [], 0, -1, a, 1, t, 0, 0, 0, 0, be⟩
theorem line_open {s s' : St} {i : Nat} (hm : matchedM s = (s', i, false)) : lineM s = restM (begunM s' i).1 (begunM s' i).2.1 (begunM s' i).2.2 := by
  unfold lineM
  rw [hm]; rfl
theorem define_para (s : St) (i : Nat) {b q : List UInt8} (h1 : dfsL (b ++ q) = [] ∧ dfrL (b ++ q) = b ++ q) (h2 : trimL (b ++ q) = b) (ht : (s.nd i).text = b ++ q) : defineM s i = s.put i { s.nd i with text := b } := by
  unfold defineM St.put
  rw [ht, h1.1, h1.2, h2, List.append_nil]
theorem nd_put {s : St} {i : Nat} (hi : i < s.list.length) (n : Nd) : (s.put i n).nd i = n := by
  unfold St.nd St.put gN
  show (s.list.set i n).getD i _ = n
  rw [List.getD_eq_getElem?_getD, List.getElem?_set_self hi]; rfl
theorem close_para (s : St) (i : Nat) {b q : List UInt8} (h1 : dfsL (b ++ q) = [] ∧ dfrL (b ++ q) = b ++ q) (h2 : trimL (b ++ q) = b) (ht : (s.nd i).text = b ++ q) (hk : (s.nd i).kind = 5) (hi : i < s.list.length) (hb : b ≠ []) :
    closedM s i = s.put i { s.nd i with text := b } := by
  unfold closedM closeParaM
  rw [if_pos hk, define_para s i h1 h2 ht, nd_put hi, if_neg hb]
theorem trim_same {a : List UInt8} (h1 : ∀ x, a.head? = some x → ws x = false) (h2 : ∀ x, a.getLast? = some x → ws x = false) : trimL a = a := by
  rw [← trim_lf h1 h2]
  cases a with
  | nil => rfl
  | cons x r =>
    have h := trim_lf h1 h2
    have hx := h1 x rfl
    rw [h]
    unfold trimL at h ⊢
    rw [List.cons_append, List.dropWhile_cons, hx] at h
    rw [List.dropWhile_cons, hx]
    have e : (x :: (r ++ [10])).reverse = 10 :: (x :: r).reverse := by rw [← List.cons_append, List.reverse_append]; rfl
    have h' : ((x :: (r ++ [10])).reverse.dropWhile ws).reverse = x :: r := h
    rw [e, List.dropWhile_cons, show ws 10 = true from rfl, if_pos rfl] at h'
    exact h'
theorem Wrd.same {l : List UInt8} (h : Wrd l) : trimL l = l :=
  trim_same (fun x hx => ltr_ws (h.2 x (List.mem_of_head? hx))) (fun x hx => ltr_ws (h.2 x (List.mem_of_getLast? hx)))
theorem Wrd.trimb {l : List UInt8} (h : Wrd l) : trimL (32 :: l) = l := by
  have := h.same
  unfold trimL at this ⊢
  rw [List.dropWhile_cons, show ws 32 = true from rfl, if_pos rfl]
  exact this
theorem Wrd.snoc {l : List UInt8} (h : Wrd l) : ∃ q y, l = q ++ [y] ∧ ltr y := by
  refine ⟨l.dropLast, l.getLast h.1, (List.dropLast_concat_getLast h.1).symm, h.2 _ (List.getLast_mem h.1)⟩
theorem Wrd.htext {l : List UInt8} (h : Wrd l) : headTextL (32 :: l) = l := by
  unfold headTextL
  rw [h.trimb]
  obtain ⟨q, y, e, hy⟩ := h.snoc
  have h1 : trimRightB l 35 = l := by rw [e]; exact trimRight_snoc (ltr_ne hy (by decide))
  have h2 : lastB l = false := by
    unfold lastB
    rw [e, List.getLast?_append]
    exact ltr_b hy
  rw [h1, h2]; rfl

def S1 (b : List UInt8) : St := ⟨[nD 1 false, nP (-1) (b ++ [10]) false], 1, [], L0 b, 1, false⟩
theorem take_first {b : List UInt8} (h : Wrd b) : takeM st0 b = S1 b := by
  obtain ⟨x, r, rfl, hx⟩ := h.cons
  unfold takeM startM
  rw [ltr_line hx]
  have hm : matchedM { st0 with line := L0 (x :: r), known := st0.list.length } = ({ st0 with line := L0 (x :: r), known := st0.list.length }, 0, false) := rfl
  rw [line_open hm, begun_word hx _ _ rfl (by show ¬ ((1 : Nat) = 7 ∨ (1 : Nat) = 8); decide)]
  rfl

/-- A line that is a heading. -/
structure Hdl (t : List UInt8) (k : Nat) (s : List UInt8) : Prop where
  line : newLn t = L0 t
  some : ∃ y q, t = y :: q
  quote : hasPrefix t [62] = false
  n : headN t = k
  k0 : k ≠ 0
  text : headL t = s
def S2 (b t s : List UInt8) (k : Nat) : St := ⟨[nD 2 false, nP (-1) b false, nH 1 k s false], 2, [], L0 t, 2, false⟩
theorem take_head {b t s : List UInt8} {k : Nat} (h : Wrd b) (H : Hdl t k s) : takeM (S1 b) t = S2 b t s k := by
  obtain ⟨y, q, rfl⟩ := H.some
  unfold takeM startM
  rw [H.line]
  obtain ⟨s', hs'⟩ : ∃ s' : St, ({ S1 b with line := L0 (y :: q), known := (S1 b).list.length } : St) = s' := ⟨_, rfl⟩
  rw [hs']
  have hm : matchedM s' = (s', 1, false) := by rw [← hs']; rfl
  have hb : beginM s' 1 = (bHeadM s' 1, 3) := by
    have hn : s'.line.next = y :: q := by rw [← hs']; rfl
    have hi : s'.line.ind = 0 := by rw [← hs']; rfl
    have hq : (pastQuoteM s'.line).2 = false := by
      unfold pastQuoteM quoteB
      rw [hn, H.quote, Bool.and_false]; rfl
    unfold beginM
    rw [if_neg (by rw [hn]; exact List.cons_ne_nil _ _), if_neg (by omega), hq, hn, H.n, if_neg Bool.false_ne_true, if_pos H.k0]
  have hh : bHeadM s' 1 = pushM { closedM s' 1 with tip := 0 } { blkN 6 with level := headN (y :: q), text := headL (y :: q) } := by rw [← hs']; rfl
  have hc := close_para s' 1 (h.defs (q := [10])) h.trim (by rw [← hs']; rfl) (by rw [← hs']; rfl) (by rw [← hs']; show 1 < 2; decide) h.1
  rw [hc, H.n, H.text] at hh
  have hg : begunM s' 1 = (bHeadM s' 1, (bHeadM s' 1).tip, 3) := by
    have hk : ¬ ((s'.nd 1).kind = 7 ∨ (s'.nd 1).kind = 8) := by rw [← hs']; show ¬ ((5 : Nat) = 7 ∨ (5 : Nat) = 8); decide
    unfold begunM
    rw [if_neg hk, begunGo, hb]; rfl
  rw [line_open hm, hg, hh, ← hs']
  rfl
def S3 (b s : List UInt8) (k : Nat) : St := ⟨[nD 3 false, nP (-1) b false, nH 1 k s false, nP 2 (b ++ [10]) false], 3, [], L0 b, 3, false⟩
theorem take_after {b t s : List UInt8} {k : Nat} (h : Wrd b) : takeM (S2 b t s k) b = S3 b s k := by
  obtain ⟨x, r, rfl, hx⟩ := h.cons
  unfold takeM startM
  rw [ltr_line hx]
  obtain ⟨s', hs'⟩ : ∃ s' : St, ({ S2 (x :: r) t s k with line := L0 (x :: r), known := (S2 (x :: r) t s k).list.length } : St) = s' := ⟨_, rfl⟩
  rw [hs']
  have hm : matchedM s' = (s', 0, false) := by rw [← hs']; rfl
  rw [line_open hm, begun_word hx s' 0 (by rw [← hs']) (by rw [← hs']; show ¬ ((1 : Nat) = 7 ∨ (1 : Nat) = 8); decide), ← hs']
  rfl

/-- A line under a word. -/
structure Unl (t : List UInt8) (k : Nat) : Prop where
  line : newLn t = L0 t
  some : ∃ y q, t = y :: q
  quote : hasPrefix t [62] = false
  n : headN t = 0
  f : fenN t = 0
  h : htmlL t = 0
  e : elemB t = false
  u : underL t = k
  k0 : k ≠ 0
theorem take_under {t : List UInt8} {k : Nat} (H : Unl t k) {b : List UInt8} (h : Wrd b) (s : St) (i : Nat) (hl : s.line = L0 t) (ht : (s.nd i).text = b ++ [10]) (hk : (s.nd i).kind = 5) (hi : i < s.list.length) :
    begunM s i = (s.put i { s.nd i with text := b, kind := 6, level := k }, s.tip, 3) := by
  obtain ⟨y, q, rfl⟩ := H.some
  have hn : s.line.next = y :: q := by rw [hl]; rfl
  have hI : s.line.ind = 0 := by rw [hl]; rfl
  have hq : (pastQuoteM s.line).2 = false := by
    unfold pastQuoteM quoteB
    rw [hn, H.quote, Bool.and_false]; rfl
  have hh : htmKM s = 0 := by
    unfold htmKM
    rw [hn, H.h, if_pos rfl, H.e, Bool.and_false]; rfl
  have hu : bUnderM s i = (s.put i { s.nd i with text := b, kind := 6, level := k }, true) := by
    unfold bUnderM
    rw [hn, H.u, if_neg (by rw [hk]; intro c; rcases c with c | c; exact H.k0 c; exact c rfl), define_para s i h.defs h.trim ht, nd_put hi, if_neg h.1]
    unfold St.put
    simp only [List.set_set]
  have hb : beginM s i = (s.put i { s.nd i with text := b, kind := 6, level := k }, 3) := by
    unfold beginM
    rw [if_neg (by rw [hn]; exact List.cons_ne_nil _ _), if_neg (by omega), hq, hn, H.n, H.f, hh, hu]
    rfl
  unfold begunM
  rw [if_neg (by rw [hk]; decide), begunGo, hb]; rfl
def U1 (s t : List UInt8) (k : Nat) : St := ⟨[nD 1 false, nH (-1) k s false], 1, [], L0 t, 2, false⟩
theorem take_u1 {s t : List UInt8} {k : Nat} (h : Wrd s) (H : Unl t k) : takeM (S1 s) t = U1 s t k := by
  unfold takeM startM
  rw [H.line]
  obtain ⟨s', hs'⟩ : ∃ s' : St, ({ S1 s with line := L0 t, known := (S1 s).list.length } : St) = s' := ⟨_, rfl⟩
  rw [hs']
  have hm : matchedM s' = (s', 1, false) := by obtain ⟨y, q, rfl⟩ := H.some; rw [← hs']; rfl
  rw [line_open hm, take_under H h s' 1 (by rw [← hs']) (by rw [← hs']; rfl) (by rw [← hs']; rfl) (by rw [← hs']; show 1 < 2; decide), ← hs']
  obtain ⟨y, q, rfl⟩ := H.some
  rfl
def U2 (s b : List UInt8) : St := ⟨[nD 2 false, nH (-1) 1 s false, nP 1 (b ++ [10]) false], 2, [], L0 b, 2, false⟩
theorem take_u2 {s t b : List UInt8} (h : Wrd b) : takeM (U1 s t 1) b = U2 s b := by
  obtain ⟨x, r, rfl, hx⟩ := h.cons
  unfold takeM startM
  rw [ltr_line hx]
  obtain ⟨s', hs'⟩ : ∃ s' : St, ({ U1 s t 1 with line := L0 (x :: r), known := (U1 s t 1).list.length } : St) = s' := ⟨_, rfl⟩
  rw [hs']
  have hm : matchedM s' = (s', 0, false) := by rw [← hs']; rfl
  rw [line_open hm, begun_word hx s' 0 (by rw [← hs']) (by rw [← hs']; show ¬ ((1 : Nat) = 7 ∨ (1 : Nat) = 8); decide), ← hs']
  rfl
def U3 (s b t : List UInt8) : St := ⟨[nD 2 false, nH (-1) 1 s false, nH 1 2 b false], 2, [], L0 t, 3, false⟩
theorem take_u3 {s b t : List UInt8} (h : Wrd b) (H : Unl t 2) : takeM (U2 s b) t = U3 s b t := by
  unfold takeM startM
  rw [H.line]
  obtain ⟨s', hs'⟩ : ∃ s' : St, ({ U2 s b with line := L0 t, known := (U2 s b).list.length } : St) = s' := ⟨_, rfl⟩
  rw [hs']
  have hm : matchedM s' = (s', 2, false) := by obtain ⟨y, q, rfl⟩ := H.some; rw [← hs']; rfl
  rw [line_open hm, take_under H h s' 2 (by rw [← hs']) (by rw [← hs']; rfl) (by rw [← hs']; rfl) (by rw [← hs']; show 2 < 3; decide), ← hs']
  obtain ⟨y, q, rfl⟩ := H.some
  rfl
end Go.Proofs.YtfgpephpkibbaaaGreatDoor

/-
  Lines that are words: one paragraph; with blank lines between as many as words.
-/
namespace Go.Proofs.YtfgpephpkibbaaaGreatDoor
open Go Go.Lib

theorem ebGo_neg : ∀ (n : Nat) (l : List Nd) (b : Bool), ebGo n l (-1) b = l
  | 0, _, _ => rfl
  | n + 1, l, b => by rw [ebGo, if_pos rfl]
theorem cwGo_at : ∀ (n : Nat) (s : St) (i : Nat), s.tip = i → cwGo n s i = s
  | 0, _, _, _ => rfl
  | n + 1, s, i, h => by rw [cwGo, if_pos h]
theorem gN_end (d x : Nd) (ps : List Nd) : gN (d :: (ps ++ [x])) (ps.length + 1) = x := by
  unfold gN
  rw [List.getD_cons_succ, List.getD_eq_getElem?_getD, List.getElem?_append_right (Nat.le_refl _), Nat.sub_self]; rfl
theorem set_end (d x y : Nd) (ps : List Nd) : (d :: (ps ++ [x])).set (ps.length + 1) y = d :: (ps ++ [y]) := by
  rw [List.set_cons_succ, List.set_append_right _ _ (Nat.le_refl _), Nat.sub_self]; rfl

/-! One paragraph. -/
theorem pa_cut {a l : List UInt8} (h : ∀ b ∈ a, b ≠ 10) : linesL (a ++ 10 :: l) = a :: linesL l := by
  unfold linesL
  rw [linesFrom_run a [] _ h, linesFrom, if_pos rfl, List.nil_append]
def Pq (t l : List UInt8) (kn : Nat) : St := ⟨[nD 1 false, nP (-1) t false], 1, [], L0 l, kn, false⟩
theorem take_more {w t l : List UInt8} {kn : Nat} (h : Wrd w) : takeM (Pq t l kn) w = Pq (t ++ w ++ [10]) w 2 := by
  obtain ⟨x, r, rfl, hx⟩ := h.cons
  unfold takeM startM
  rw [ltr_line hx]
  obtain ⟨s', hs'⟩ : ∃ s' : St, ({ Pq t l kn with line := L0 (x :: r), known := (Pq t l kn).list.length } : St) = s' := ⟨_, rfl⟩
  rw [hs']
  have hm : matchedM s' = (s', 1, false) := by rw [← hs']; rfl
  rw [line_open hm, begun_word hx s' 1 (by rw [← hs']) (by rw [← hs']; show ¬ ((5 : Nat) = 7 ∨ (5 : Nat) = 8); decide), ← hs']
  rfl
def aL (ws : List (List UInt8)) : List UInt8 := ws.flatMap (· ++ [10])
def bL (ws : List (List UInt8)) : List UInt8 := ws.flatMap (· ++ [10, 10])
theorem aL_cons (w : List UInt8) (ws : List (List UInt8)) : aL (w :: ws) = w ++ 10 :: aL ws := by
  unfold aL; rw [List.flatMap_cons, List.append_assoc]; rfl
theorem bL_cons (w : List UInt8) (ws : List (List UInt8)) : bL (w :: ws) = w ++ 10 :: ([] ++ 10 :: bL ws) := by
  unfold bL; rw [List.flatMap_cons, List.append_assoc]; rfl
theorem aL_lines : ∀ {ws : List (List UInt8)}, (∀ w ∈ ws, Wrd w) → linesL (aL ws) = ws
  | [], _ => rfl
  | w :: ws, h => by rw [aL_cons, pa_cut (h w (List.mem_cons_self ..)).lf, aL_lines fun x hx => h x (List.mem_cons_of_mem _ hx)]
theorem bL_lines : ∀ {ws : List (List UInt8)}, (∀ w ∈ ws, Wrd w) → linesL (bL ws) = ws.flatMap (fun w => [w, []])
  | [], _ => rfl
  | w :: ws, h => by
    rw [bL_cons, pa_cut (h w (List.mem_cons_self ..)).lf, pa_cut (fun b hb => by cases hb), bL_lines fun x hx => h x (List.mem_cons_of_mem _ hx)]; rfl
theorem run_para : ∀ (ws : List (List UInt8)) (t l : List UInt8) (kn : Nat), (∀ w ∈ ws, Wrd w) → ∃ l' kn', runBM ws (Pq t l kn) = some (Pq (t ++ aL ws) l' kn')
  | [], t, l, kn, _ => ⟨l, kn, by rw [runBM]; unfold aL; rw [List.flatMap_nil, List.append_nil]⟩
  | w :: ws, t, l, kn, h => by
    obtain ⟨l', kn', e⟩ := run_para ws (t ++ w ++ [10]) w 2 (fun x hx => h x (List.mem_cons_of_mem _ hx))
    refine ⟨l', kn', ?_⟩
    rw [runBM, take_more (h w (List.mem_cons_self ..)), if_neg (by exact Bool.false_ne_true), e, aL_cons]
    simp
theorem para_words {ws : List (List UInt8)} (h : ∀ w ∈ ws, Wrd w) (h0 : ws ≠ []) {T : List UInt8} (hT : T ++ [10] = aL ws) : parseM (aL ws) = some (.mk 1 0 false 0 0 false [] [] [.mk 5 0 false 0 0 false [] T []], []) := by
  have hl := aL_lines h
  obtain ⟨i, wl, rfl⟩ : ∃ i wl, ws = i ++ [wl] := ⟨ws.dropLast, ws.getLast h0, (List.dropLast_concat_getLast h0).symm⟩
  have hwl := h wl (by simp)
  have eT : T = aL i ++ wl := by
    have : aL (i ++ [wl]) = (aL i ++ wl) ++ [10] := by unfold aL; rw [List.flatMap_append, List.flatMap_cons, List.flatMap_nil, List.append_nil, List.append_assoc]
    rw [this] at hT
    exact List.append_cancel_right hT
  have hlast : ∀ x, T.getLast? = some x → Go.Proofs.YtfgpephpkibbaaaGreatDoor.ws x = false := by
    intro x hx
    obtain ⟨q, y, e, hy⟩ := hwl.snoc
    rw [eT, e, ← List.append_assoc, List.getLast?_append] at hx
    cases hx
    exact ltr_ws hy
  obtain ⟨v, vs, ev⟩ : ∃ v vs, i ++ [wl] = v :: vs := by cases i with | nil => exact ⟨_, _, rfl⟩ | cons a b => exact ⟨_, _, rfl⟩
  have hv := h v (by rw [ev]; exact List.mem_cons_self ..)
  obtain ⟨x, r, rfl, hx⟩ := hv.cons
  have ea : aL (i ++ [wl]) = x :: (r ++ 10 :: aL vs) := by rw [ev, aL_cons]; rfl
  have hhead : ∀ z, T.head? = some z → Go.Proofs.YtfgpephpkibbaaaGreatDoor.ws z = false := by
    intro z hz
    cases T with
    | nil => cases hz
    | cons a b =>
      rw [ea] at hT
      have e : a = z := Option.some.inj hz
      have : a = x := (List.cons.inj hT).1
      rw [← e, this]; exact ltr_ws hx
  have hne : T ≠ [] := by
    rintro rfl
    rw [ea] at hT
    have : (10 : UInt8) = x := (List.cons.inj hT).1
    exact ltr_ne hx (by decide) this.symm
  have hd : dfsL (T ++ [10]) = [] ∧ dfrL (T ++ [10]) = T ++ [10] := by rw [hT, ea]; exact ltr_def hx
  obtain ⟨l', kn', er⟩ := run_para vs (x :: r ++ [10]) (x :: r) 1 (fun y hy => h y (by rw [ev]; exact List.mem_cons_of_mem _ hy))
  have er2 : runBM (i ++ [wl]) st0 = some (Pq (T ++ [10]) l' kn') := by
    rw [ev, runBM, take_first hv, if_neg (by exact Bool.false_ne_true)]
    have : S1 (x :: r) = Pq (x :: r ++ [10]) (x :: r) 1 := rfl
    rw [this, er, hT, ev, aL_cons, List.append_assoc]; rfl
  have ec : cwM (Pq (T ++ [10]) l' kn') 0 = { closedM (Pq (T ++ [10]) l' kn') 1 with tip := 0 } := rfl
  unfold parseM
  rw [hl, er2, Option.map_some, ec, close_para (Pq (T ++ [10]) l' kn') 1 hd (trim_lf hhead hlast) rfl rfl (by show 1 < 2; decide) hne]
  rfl
end Go.Proofs.YtfgpephpkibbaaaGreatDoor

/-
  Lines in a fence of ~: a code block's, as they are.
-/
namespace Go.Proofs.YtfgpephpkibbaaaGreatDoor
open Go Go.Lib

/-- A code block in a fence of n ~. -/
def nF (n : Nat) (t : List UInt8) : Nd := ⟨7, 0, false, 0, 0, false, [], 0, -1, -1, 1, t, 0, 126, n, 0, false⟩
def Fs (n tip : Nat) (t : List UInt8) (l : Ln) (kn : Nat) : St := ⟨[nD 1 false, nF n t], tip, [], l, kn, false⟩
def fenL (n : Nat) : List UInt8 := List.replicate n 126
theorem fence_first {m : Nat} (h : m < 9) : takeM st0 (fenL (3 + m)) = Fs (3 + m) 1 [] (L0 (fenL (3 + m))) 1 := by
  have hc : m = 0 ∨ m = 1 ∨ m = 2 ∨ m = 3 ∨ m = 4 ∨ m = 5 ∨ m = 6 ∨ m = 7 ∨ m = 8 := by omega
  rcases hc with rfl | rfl | rfl | rfl | rfl | rfl | rfl | rfl | rfl <;> rfl
theorem skipM_zero (l : Ln) : skipBM l 0 = l := by
  have : skipL 0 l.c l.f l.rem = (0, l.c, l.f) := by
    cases l.rem with
    | nil => rw [skip_nil]
    | cons b r => rw [skip_cons, if_pos (.inl rfl)]
  unfold skipBM
  rw [this]
  rfl
theorem fence_line {n : Nat} {T t : List UInt8} {l : Ln} {kn : Nat} (h : (decide ((newLn t).ind < 4) && stretchL 126 (max (n : Int) 3) (newLn t).next) = false) :
    takeM (Fs n 1 T l kn) t = Fs n 1 (T ++ t ++ [10]) (newLn t) 2 := by
  unfold takeM startM
  obtain ⟨s', hs'⟩ : ∃ s' : St, ({ Fs n 1 T l kn with line := newLn t, known := (Fs n 1 T l kn).list.length } : St) = s' := ⟨_, rfl⟩
  rw [hs']
  have hl : s'.line = newLn t := by rw [← hs']
  have h1 : s'.nd 1 = nF n T := by rw [← hs']; rfl
  have hla : (s'.nd 0).last.toNat = 1 := by rw [← hs']; rfl
  have ht : s'.tip = 1 := by rw [← hs']; rfl
  have hm : matchedM s' = (s', 1, false) := by
    have e1 : matchedM s' = matchGo 2 s' 0 := by rw [← hs']; rfl
    have e2 : endsFenceM s' 1 = false := by
      unfold endsFenceM
      rw [h1, hl]
      show (true && decide ((newLn t).ind < 4) && stretchL 126 (max (n : Int) 3) (newLn t).next) = false
      rw [Bool.true_and]; exact h
    have e3 : goesOnM s' 1 = (s'.line, true) := by
      unfold goesOnM codeOnM
      rw [h1]
      show (skipBM s'.line 0, true) = _
      rw [skipM_zero]
    have e4 : s'.atL s'.line = s' := rfl
    rw [e1, matchGo, if_neg (by rw [ht]; decide), hla, e2, if_neg Bool.false_ne_true, e3, if_pos rfl, e4, matchGo, if_pos ht.symm]
  have hb : begunM s' 1 = (s', 1, 2) := by
    unfold begunM
    rw [if_pos (.inl (by rw [h1]; rfl))]
  rw [line_open hm, hb]
  have hc : cwM s' 1 = s' := by unfold cwM; exact cwGo_at _ _ _ ht
  have e : restM s' 1 2 = fillM (endBlankM s' 1) 1 := by
    unfold restM
    rw [if_neg (by decide), if_pos (by decide), hc]
  show restM s' 1 2 = _
  have hf : fullB s' 1 = true := by unfold fullB; rw [h1]; rfl
  have he : endBlankM s' 1 = s' := by
    have e5 : ebLast s' 1 = s'.list := by
      unfold ebLast
      rw [if_neg (fun c => c.2 (by rw [h1]; rfl))]
    unfold endBlankM
    rw [e5, hf, Bool.not_true, Bool.and_false, ← hs']; rfl
  rw [e, he]
  have e6 : fillM s' 1 = putM s' 1 := by unfold fillM; rw [if_pos (by rw [h1]; rfl)]
  rw [e6]
  unfold putM
  rw [h1, hl]
  have hr : lrestM (newLn t) = t := rfl
  rw [hr, ← hs']
  rfl
theorem fence_close {n : Nat} {T t : List UInt8} {l : Ln} {kn : Nat} (h : (decide ((newLn t).ind < 4) && stretchL 126 (max (n : Int) 3) (newLn t).next) = true) :
    takeM (Fs n 1 T l kn) t = Fs n 0 T (newLn t) 2 := by
  unfold takeM startM
  obtain ⟨s', hs'⟩ : ∃ s' : St, ({ Fs n 1 T l kn with line := newLn t, known := (Fs n 1 T l kn).list.length } : St) = s' := ⟨_, rfl⟩
  rw [hs']
  have hl : s'.line = newLn t := by rw [← hs']
  have h1 : s'.nd 1 = nF n T := by rw [← hs']; rfl
  have hla : (s'.nd 0).last.toNat = 1 := by rw [← hs']; rfl
  have ht : s'.tip = 1 := by rw [← hs']; rfl
  have hm : matchedM s' = (closeM s', 0, true) := by
    have e1 : matchedM s' = matchGo 2 s' 0 := by rw [← hs']; rfl
    have e2 : endsFenceM s' 1 = true := by
      unfold endsFenceM
      rw [h1, hl]
      show (true && decide ((newLn t).ind < 4) && stretchL 126 (max (n : Int) 3) (newLn t).next) = true
      rw [Bool.true_and]; exact h
    rw [e1, matchGo, if_neg (by rw [ht]; decide), hla, e2, if_pos rfl]
  unfold lineM
  rw [hm, ← hs']
  rfl
theorem run_fence {n : Nat} : ∀ (ts : List (List UInt8)) (T : List UInt8) (l : Ln) (kn : Nat) (z : List (List UInt8)), (∀ t ∈ ts, (decide ((newLn t).ind < 4) && stretchL 126 (max (n : Int) 3) (newLn t).next) = false) →
    ∃ l' kn', runBM (ts ++ z) (Fs n 1 T l kn) = runBM z (Fs n 1 (T ++ aL ts) l' kn')
  | [], T, l, kn, z, _ => ⟨l, kn, by rw [List.nil_append]; unfold aL; rw [List.flatMap_nil, List.append_nil]⟩
  | t :: ts, T, l, kn, z, h => by
    obtain ⟨l', kn', e⟩ := run_fence ts (T ++ t ++ [10]) (newLn t) 2 z (fun x hx => h x (List.mem_cons_of_mem _ hx))
    refine ⟨l', kn', ?_⟩
    rw [List.cons_append, runBM, fence_line (h t (List.mem_cons_self ..)), if_neg (by exact Bool.false_ne_true), e, aL_cons]
    simp
theorem fence_own {m : Nat} (h : m < 9) : (decide ((newLn (fenL (3 + m))).ind < 4) && stretchL 126 (max ((3 + m : Nat) : Int) 3) (newLn (fenL (3 + m))).next) = true := by
  have hc : m = 0 ∨ m = 1 ∨ m = 2 ∨ m = 3 ∨ m = 4 ∨ m = 5 ∨ m = 6 ∨ m = 7 ∨ m = 8 := by omega
  rcases hc with rfl | rfl | rfl | rfl | rfl | rfl | rfl | rfl | rfl <;> decide
theorem lines_all : ∀ (ts z : List (List UInt8)) (r : List UInt8), (∀ t ∈ ts, ∀ b ∈ t, b ≠ 10) → linesL r = z → linesL (aL ts ++ r) = ts ++ z
  | [], z, r, _, e => e
  | t :: ts, z, r, h, e => by
    rw [aL_cons, List.append_assoc]
    show linesL (t ++ 10 :: (aL ts ++ r)) = _
    rw [pa_cut (h t (List.mem_cons_self ..)), lines_all ts z r (fun x hx => h x (List.mem_cons_of_mem _ hx)) e]; rfl
theorem fen_lf (n : Nat) : ∀ b ∈ fenL n, b ≠ 10 := fun b hb => by rw [(List.mem_replicate.1 hb).2]; decide
/-- Lines in a fence. -/
theorem fence_parse {m : Nat} (hm : m < 9) {ts : List (List UInt8)} (h0 : ∀ t ∈ ts, ∀ b ∈ t, b ≠ 10) (h : ∀ t ∈ ts, (decide ((newLn t).ind < 4) && stretchL 126 (max ((3 + m : Nat) : Int) 3) (newLn t).next) = false) :
    parseM (fenL (3 + m) ++ [10] ++ aL ts ++ fenL (3 + m) ++ [10]) = some (.mk 1 0 false 0 0 false [] [] [.mk 7 0 false 0 0 false [] (aL ts) []], []) := by
  have e : fenL (3 + m) ++ [10] ++ aL ts ++ fenL (3 + m) ++ [10] = fenL (3 + m) ++ 10 :: (aL ts ++ (fenL (3 + m) ++ 10 :: [])) := by simp
  have el : linesL (fenL (3 + m) ++ [10] ++ aL ts ++ fenL (3 + m) ++ [10]) = fenL (3 + m) :: (ts ++ [fenL (3 + m)]) := by
    rw [e, pa_cut (fen_lf _), lines_all ts [fenL (3 + m)] _ h0 (by rw [pa_cut (fen_lf _)]; rfl)]
  obtain ⟨l', kn', er⟩ := run_fence (n := 3 + m) ts [] (L0 (fenL (3 + m))) 1 [fenL (3 + m)] h
  have er2 : runBM (fenL (3 + m) :: (ts ++ [fenL (3 + m)])) st0 = some (Fs (3 + m) 0 (aL ts) (newLn (fenL (3 + m))) 2) := by
    rw [runBM, fence_first hm, if_neg (by exact Bool.false_ne_true), er, runBM, fence_close (fence_own hm), if_neg (by exact Bool.false_ne_true), runBM]
    rfl
  unfold parseM
  rw [el, er2]
  rfl
end Go.Proofs.YtfgpephpkibbaaaGreatDoor

