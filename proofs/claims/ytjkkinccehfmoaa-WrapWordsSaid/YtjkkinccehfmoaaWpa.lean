/-
  Where lines end, as plain lists. No program in sight.
-/
import Derived.Test.YtjkkinccehfmoaaItq
import Derived.Test.YtjkkinccehfmoaaFxq
namespace Go.Proofs.Ytjkkinccehfmoaa

/-- Width, growth, shrinking. -/
structure Me where
  w : Int
  g : Int
  s : Int
def meZ : Me := ⟨0, 0, 0⟩
def meAdd (m : Me) (x : It) : Me := if x.kind = 3 then m else ⟨m.w + x.width, m.g + x.grow, m.s + x.shrink⟩
def meSub (a b : Me) : Me := ⟨a.w - b.w, a.g - b.g, a.s - b.s⟩
/-- The measure of the first k items. -/
def preM (l : List It) : Nat → Me
  | 0 => meZ
  | k + 1 => match l[k]? with
    | some x => meAdd (preM l k) x
    | none => preM l k
theorem preM_next {l : List It} {k : Nat} (h : k < l.length) : preM l (k + 1) = meAdd (preM l k) l[k] := by
  rw [preM, List.getElem?_eq_getElem h]
def lnI (x : It) : Int := if x.kind = 3 then 0 else x.width - max x.shrink 0
/-- How wide the first k items are at least. -/
def lnP (l : List It) : Nat → Int
  | 0 => 0
  | k + 1 => match l[k]? with
    | some x => lnP l k + lnI x
    | none => lnP l k
theorem lnP_next {l : List It} {k : Nat} (h : k < l.length) : lnP l (k + 1) = lnP l k + lnI l[k] := by
  rw [lnP, List.getElem?_eq_getElem h]
def spL : List It → Int
  | [] => 0
  | x :: r => max 0 (spL r - lnI x)
def spP (l : List It) (k : Nat) : Int := spL (l.drop k)
theorem spP_next {l : List It} {k : Nat} (h : k < l.length) : spP l k = max 0 (spP l (k + 1) - lnI l[k]) := by
  unfold spP
  rw [List.drop_eq_getElem_cons h, spL]
theorem spP_end (l : List It) : spP l l.length = 0 := by unfold spP; rw [List.drop_length]; rfl
def bxL : List It → Nat
  | [] => 0
  | x :: r => if x.kind = 1 then 0 else bxL r + 1
/-- The first box at k or behind it. -/
def bxP (l : List It) (k : Nat) : Nat := k + bxL (l.drop k)
theorem bxP_box {l : List It} {k : Nat} (h : k < l.length) (hk : l[k].kind = 1) : bxP l k = k := by
  unfold bxP
  rw [List.drop_eq_getElem_cons h, bxL, if_pos hk]
  omega
theorem bxP_next {l : List It} {k : Nat} (h : k < l.length) (hk : ¬ l[k].kind = 1) : bxP l k = bxP l (k + 1) := by
  unfold bxP
  rw [List.drop_eq_getElem_cons h, bxL, if_neg hk]
  omega
theorem bxP_end (l : List It) : bxP l l.length = l.length := by unfold bxP; rw [List.drop_length]; rfl
theorem bxL_le : ∀ l : List It, bxL l ≤ l.length
  | [] => Nat.le_refl _
  | x :: r => by
    rw [bxL, List.length_cons]
    have := bxL_le r
    split <;> omega
theorem bxP_ge (l : List It) (k : Nat) : k ≤ bxP l k := Nat.le_add_right _ _
theorem bxP_le {l : List It} {k : Nat} (h : k ≤ l.length) : bxP l k ≤ l.length := by
  unfold bxP
  have := bxL_le (l.drop k)
  rw [List.length_drop] at this
  omega

/-- Numbers that can be reckoned with. -/
def itW (x : It) : Prop := (-1099511627776 ≤ x.width ∧ x.width ≤ 1099511627776) ∧ (-1099511627776 ≤ x.grow ∧ x.grow ≤ 1099511627776) ∧ (-1099511627776 ≤ x.shrink ∧ x.shrink ≤ 1099511627776)
theorem lnI_bd {x : It} (h : itW x) : -2199023255552 ≤ lnI x ∧ lnI x ≤ 1099511627776 := by
  obtain ⟨⟨h1, h2⟩, _, h3, h4⟩ := h
  unfold lnI
  split <;> omega
theorem preM_bd {l : List It} (h : ∀ x ∈ l, itW x) : ∀ k : Nat, (-1099511627776 * (k : Int) ≤ (preM l k).w ∧ (preM l k).w ≤ 1099511627776 * (k : Int)) ∧ (-1099511627776 * (k : Int) ≤ (preM l k).g ∧ (preM l k).g ≤ 1099511627776 * (k : Int)) ∧ (-1099511627776 * (k : Int) ≤ (preM l k).s ∧ (preM l k).s ≤ 1099511627776 * (k : Int))
  | 0 => by simp [preM, meZ]
  | k + 1 => by
    have ih := preM_bd h k
    by_cases hk : k < l.length
    · rw [preM_next hk]
      obtain ⟨h1, h2, h3⟩ := h _ (List.getElem_mem hk)
      unfold meAdd
      split
      · refine ⟨⟨?_, ?_⟩, ⟨?_, ?_⟩, ?_, ?_⟩ <;> omega
      · simp only
        refine ⟨⟨?_, ?_⟩, ⟨?_, ?_⟩, ?_, ?_⟩ <;> omega
    · rw [preM, List.getElem?_eq_none (by omega)]
      simp only
      refine ⟨⟨?_, ?_⟩, ⟨?_, ?_⟩, ?_, ?_⟩ <;> omega
theorem lnP_bd {l : List It} (h : ∀ x ∈ l, itW x) : ∀ k : Nat, -2199023255552 * (k : Int) ≤ lnP l k ∧ lnP l k ≤ 2199023255552 * (k : Int)
  | 0 => by simp [lnP]
  | k + 1 => by
    have ih := lnP_bd h k
    by_cases hk : k < l.length
    · rw [lnP_next hk]
      have := lnI_bd (h _ (List.getElem_mem hk))
      omega
    · rw [lnP, List.getElem?_eq_none (by omega)]
      simp only
      omega
theorem spL_bd : ∀ {l : List It}, (∀ x ∈ l, itW x) → 0 ≤ spL l ∧ spL l ≤ 2199023255552 * (l.length : Int)
  | [], _ => by simp [spL]
  | x :: r, h => by
    have ih := spL_bd (l := r) (fun y hy => h y (List.mem_cons_of_mem _ hy))
    have := lnI_bd (h x List.mem_cons_self)
    rw [spL, List.length_cons]
    omega
theorem spP_bd {l : List It} (h : ∀ x ∈ l, itW x) (k : Nat) : 0 ≤ spP l k ∧ spP l k ≤ 2199023255552 * (l.length : Int) := by
  have := spL_bd (l := l.drop k) (fun x hx => h x (List.mem_of_mem_drop hx))
  rw [List.length_drop] at this
  unfold spP
  omega
theorem spP_nn (l : List It) (k : Nat) : 0 ≤ spP l k := by
  unfold spP
  cases l.drop k with
  | nil => exact Int.le_refl _
  | cons x r => rw [spL]; omega

/-- May a line end there? -/
def legP (l : List It) (i : Nat) : Bool := if i = l.length then true else match l[i]? with
  | none => false
  | some x => if x.kind = 2 then (match i with
    | 0 => false
    | j + 1 => match l[j]? with
      | some y => y.kind == 1
      | none => false) else if x.kind = 3 then decide (x.cost < 10000) else false
theorem leg_end (l : List It) : legP l l.length = true := by unfold legP; rw [if_pos rfl]
theorem leg_zero {l : List It} (h : 0 < l.length) (hk : l[0].kind = 2) : legP l 0 = false := by
  unfold legP; rw [if_neg (by omega), List.getElem?_eq_getElem h]; simp [hk]
theorem leg_glue {l : List It} {j : Nat} (h : j + 1 < l.length) (hk : l[j + 1].kind = 2) : legP l (j + 1) = (l[j].kind == 1) := by
  unfold legP; rw [if_neg (by omega), List.getElem?_eq_getElem h]; simp only [hk, if_true]; rw [List.getElem?_eq_getElem (by omega)]
theorem leg_pen {l : List It} {i : Nat} (h : i < l.length) (hk : l[i].kind = 3) : legP l i = decide (l[i].cost < 10000) := by
  unfold legP; rw [if_neg (by omega), List.getElem?_eq_getElem h]; simp [hk]
theorem leg_else {l : List It} {i : Nat} (h : i < l.length) (h2 : ¬ l[i].kind = 2) (h3 : ¬ l[i].kind = 3) : legP l i = false := by
  unfold legP; rw [if_neg (by omega), List.getElem?_eq_getElem h]; simp [h2, h3]
/-- Must it? -/
def mustP (l : List It) (i : Nat) : Bool := if i = l.length then true else match l[i]? with
  | none => false
  | some x => if x.kind = 3 then decide (x.cost ≤ -10000) else false
theorem must_end (l : List It) : mustP l l.length = true := by unfold mustP; rw [if_pos rfl]
theorem must_pen {l : List It} {i : Nat} (h : i < l.length) (hk : l[i].kind = 3) : mustP l i = decide (l[i].cost ≤ -10000) := by
  unfold mustP; rw [if_neg (by omega), List.getElem?_eq_getElem h]; simp [hk]
theorem must_else {l : List It} {i : Nat} (h : i < l.length) (hk : ¬ l[i].kind = 3) : mustP l i = false := by
  unfold mustP; rw [if_neg (by omega), List.getElem?_eq_getElem h]; simp [hk]
theorem must_leg {l : List It} {i : Nat} (hi : i ≤ l.length) (h : mustP l i = true) : legP l i = true := by
  by_cases e : i = l.length
  · rw [e]; exact leg_end l
  · have hl : i < l.length := by omega
    by_cases hk : l[i].kind = 3
    · rw [must_pen hl hk] at h
      rw [leg_pen hl hk]
      have := of_decide_eq_true h
      exact decide_eq_true (by omega)
    · rw [must_else hl hk] at h; cases h
/-- What a line's cost hangs on where it ends. -/
def stp (l : List It) (i : Nat) : Bool × Int := if mustP l i = true then (true, 0) else match l[i]? with
  | some x => if x.kind = 3 then (false, x.cost) else (false, 0)
  | none => (false, 0)
theorem stp_must {l : List It} {i : Nat} (h : mustP l i = true) : stp l i = (true, 0) := by unfold stp; rw [if_pos h]
theorem stp_pen {l : List It} {i : Nat} (hm : mustP l i = false) (h : i < l.length) (hk : l[i].kind = 3) : stp l i = (false, l[i].cost) := by
  unfold stp; rw [if_neg (by rw [hm]; decide), List.getElem?_eq_getElem h]; simp [hk]
theorem stp_else {l : List It} {i : Nat} (hm : mustP l i = false) (h : i < l.length) (hk : ¬ l[i].kind = 3) : stp l i = (false, 0) := by
  unfold stp; rw [if_neg (by rw [hm]; decide), List.getElem?_eq_getElem h]; simp [hk]
def prcM (m : Me) (wd : Int) (e : Bool × Int) : Option Int :=
  if wd < m.w then (if wd < m.w - m.s then none else some (dem (bad (m.w - wd) m.s) e.2)) else if e.1 = true then some (dem 0 e.2) else some (dem (bad (wd - m.w) m.g) e.2)
/-- What stands between two places. -/
def btw (l : List It) (a b : Nat) : Me := meSub (preM l b) (preM l (min (bxP l a) b))
def prc (l : List It) (wd : Int) (a b : Nat) : Option Int := prcM (btw l a b) wd (stp l b)
def noM (l : List It) (a b : Nat) : Bool := (List.range b).all fun k => decide (k < a) || !mustP l k
theorem noM_iff {l : List It} {a b : Nat} : noM l a b = true ↔ ∀ k, a ≤ k → k < b → mustP l k = false := by
  unfold noM
  rw [List.all_eq_true]
  constructor
  · intro h k h1 h2
    have := h k (List.mem_range.2 h2)
    simpa [show ¬ k < a by omega] using this
  · intro h k hk
    have hk := List.mem_range.1 hk
    by_cases c : k < a
    · simp [c]
    · simp [h k (by omega) hk]
theorem noM_not {l : List It} {a b k : Nat} (h1 : a ≤ k) (h2 : k < b) (h : mustP l k = true) : noM l a b = false := by
  cases e : noM l a b with
  | false => rfl
  | true => rw [noM_iff.1 e k h1 h2] at h; cases h
/-- What a line costs, if it can be. -/
def canO (l : List It) (wd : Int) (a b : Nat) : Option Int := if noM l a b = true then prc l wd a b else none
theorem can_yes {l : List It} {wd : Int} {a b : Nat} (h : noM l a b = true) : canO l wd a b = prc l wd a b := by unfold canO; rw [if_pos h]
theorem can_no {l : List It} {wd : Int} {a b : Nat} (h : noM l a b = false) : canO l wd a b = none := by unfold canO; rw [if_neg (by rw [h]; decide)]
theorem can_noM {l : List It} {wd : Int} {a b : Nat} {p : Int} (h : canO l wd a b = some p) : noM l a b = true ∧ prc l wd a b = some p := by
  cases e : noM l a b with
  | false => rw [can_no e] at h; cases h
  | true => rw [can_yes e] at h; exact ⟨rfl, h⟩

theorem dem_bd (b c : Int) : -300000000 ≤ dem b c ∧ dem b c ≤ 300000000 := by
  obtain ⟨b0, b1⟩ := clamp_bd b 0 10000 (by omega)
  obtain ⟨c0, c1⟩ := clamp_bd c (-10000) 10000 (by omega)
  obtain ⟨s0, s1⟩ := sq_bd (10 + clamp b 0 10000) 10010 (by omega) (by omega)
  obtain ⟨s2, s3⟩ := sq_bd (clamp c (-10000) 10000) 10000 (by omega) (by omega)
  unfold dem demB
  generalize (10 + clamp b 0 10000) * (10 + clamp b 0 10000) = x at *
  generalize clamp c (-10000) 10000 * clamp c (-10000) 10000 = y at *
  split
  · omega
  · split <;> omega
theorem dem_least (b c : Int) : dem 0 c ≤ dem b c := by
  obtain ⟨b0, b1⟩ := clamp_bd b 0 10000 (by omega)
  have h0 : clamp 0 0 10000 = 0 := by decide
  have h : (10 + clamp 0 0 10000) * (10 + clamp 0 0 10000) ≤ (10 + clamp b 0 10000) * (10 + clamp b 0 10000) := by
    rw [h0]; exact Int.mul_le_mul (by omega) (by omega) (by omega) (by omega)
  unfold dem demB
  generalize (10 + clamp b 0 10000) * (10 + clamp b 0 10000) = x at *
  generalize (10 + clamp 0 0 10000) * (10 + clamp 0 0 10000) = z at *
  generalize clamp c (-10000) 10000 * clamp c (-10000) 10000 = y at *
  split
  · omega
  · split <;> omega
theorem prcM_bd {m : Me} {wd : Int} {e : Bool × Int} {p : Int} (h : prcM m wd e = some p) : (-300000000 ≤ p ∧ p ≤ 300000000) ∧ dem 0 e.2 ≤ p := by
  have key : ∃ b, p = dem b e.2 := by
    unfold prcM at h
    split at h
    · split at h
      · cases h
      · injection h with h; exact ⟨_, h.symm⟩
    · split at h <;> (injection h with h; exact ⟨_, h.symm⟩)
  obtain ⟨b, rfl⟩ := key
  exact ⟨dem_bd _ _, dem_least _ _⟩
theorem can_bd {l : List It} {wd : Int} {a b : Nat} {p : Int} (h : canO l wd a b = some p) : (-300000000 ≤ p ∧ p ≤ 300000000) ∧ dem 0 (stp l b).2 ≤ p := prcM_bd (can_noM h).2
theorem prcM_none {m : Me} {wd : Int} {e : Bool × Int} (h1 : wd < m.w) (h2 : wd < m.w - m.s) : prcM m wd e = none := by unfold prcM; rw [if_pos h1, if_pos h2]
theorem prcM_fits {m : Me} {wd : Int} {e : Bool × Int} {p : Int} (h : prcM m wd e = some p) : m.w ≤ wd ∨ m.w - m.s ≤ wd := by
  unfold prcM at h
  split at h
  · split at h
    · cases h
    · exact .inr (by omega)
  · exact .inl (by omega)

/-- Lines that end further behind are no narrower than this. -/
theorem ln_step {l : List It} {k : Nat} (h : k < l.length) : lnP l k - spP l k ≤ lnP l (k + 1) - spP l (k + 1) := by
  rw [lnP_next h, spP_next h]
  omega
theorem ln_mono {l : List It} {i : Nat} : ∀ {j : Nat}, i ≤ j → j ≤ l.length → lnP l i - spP l i ≤ lnP l j - spP l j := by
  intro j
  induction j with
  | zero => intro h _; rw [show i = 0 by omega]; exact Int.le_refl _
  | succ j ih =>
    intro h hl
    by_cases e : i = j + 1
    · rw [e]; exact Int.le_refl _
    · exact Int.le_trans (ih (by omega) (by omega)) (ln_step (by omega))
theorem ln_le {l : List It} {i j : Nat} (h : i ≤ j) (hl : j ≤ l.length) : lnP l i - spP l i ≤ lnP l j := by
  have := ln_mono h hl
  have := spP_nn l j
  omega
theorem me_mono {l : List It} {i : Nat} : ∀ {j : Nat}, i ≤ j → j ≤ l.length → lnP l j - lnP l i ≤ (preM l j).w - (preM l i).w ∧ lnP l j - lnP l i ≤ ((preM l j).w - (preM l i).w) - ((preM l j).s - (preM l i).s) := by
  intro j
  induction j with
  | zero => intro h _; rw [show i = 0 by omega]; omega
  | succ j ih =>
    intro h hl
    by_cases e : i = j + 1
    · rw [e]; omega
    · have := ih (by omega) (by omega)
      rw [lnP_next (by omega), preM_next (by omega)]
      unfold lnI meAdd
      split
      · omega
      · simp only
        omega
/-- A line from there is out, wherever it ends from i on. -/
theorem past_none {l : List It} {wd : Int} {a i j : Nat} (ha : a ≤ i) (hij : i ≤ j) (hj : j ≤ l.length) (h : wd < lnP l i - lnP l (bxP l a) - spP l i) : canO l wd a j = none := by
  have key : prc l wd a j = none := by
    unfold prc
    have hb := bxP_le (l := l) (k := a) (by omega)
    have h1 := ln_le hij hj
    by_cases c : bxP l a ≤ j
    · have := me_mono c hj
      refine prcM_none ?_ ?_
      · unfold btw meSub; rw [Nat.min_eq_left c]; simp only; omega
      · unfold btw meSub; rw [Nat.min_eq_left c]; simp only; omega
    · have h2 := ln_le (l := l) (i := i) (j := bxP l a) (by omega) hb
      refine prcM_none ?_ ?_
      · unfold btw meSub; rw [Nat.min_eq_right (by omega)]; simp only; omega
      · unfold btw meSub; rw [Nat.min_eq_right (by omega)]; simp only; omega
  unfold canO
  split
  · exact key
  · rfl

/-- Places that part the items so far; where the next line begins; what they cost. -/
inductive Chain (l : List It) (wd : Int) : List Nat → Nat → Int → Prop
  | nil : Chain l wd [] 0 0
  | snoc {es : List Nat} {f : Nat} {c : Int} (e : Nat) (p : Int) : Chain l wd es f c → f ≤ e → e ≤ l.length → legP l e = true → canO l wd f e = some p → Chain l wd (es ++ [e]) (e + 1) (c + p)
def nextF (es : List Nat) : Nat := match es.getLast? with
  | none => 0
  | some e => e + 1
section
variable {l : List It} {wd : Int} {es : List Nat} {f : Nat} {c : Int}
theorem Chain.next (h : Chain l wd es f c) : f = nextF es := by
  cases h with
  | nil => rfl
  | snoc e p h1 h2 h3 h4 h5 => unfold nextF; rw [List.getLast?_append]; rfl
theorem Chain.few (h : Chain l wd es f c) : es.length ≤ f ∧ f ≤ l.length + 1 ∧ -300000000 * (es.length : Int) ≤ c ∧ c ≤ 300000000 * (es.length : Int) := by
  induction h with
  | nil => simp
  | snoc e p h1 h2 h3 h4 h5 ih =>
    have := (can_bd h5).1
    rw [List.length_append, List.length_singleton]
    omega
theorem Chain.at_ (h : Chain l wd es f c) : ∀ {i : Nat} (hi : i < es.length), ∃ (c' p : Int), Chain l wd (es.take i) (nextF (es.take i)) c' ∧ nextF (es.take i) ≤ es[i] ∧ es[i] ≤ l.length ∧ legP l es[i] = true ∧ canO l wd (nextF (es.take i)) es[i] = some p ∧ nextF (es.take (i + 1)) = es[i] + 1 := by
  induction h with
  | nil => intro i hi; simp at hi
  | @snoc es f c e p h1 h2 h3 h4 h5 ih =>
    intro i hi
    by_cases q : i < es.length
    · obtain ⟨c', p', a1, a2, a3, a4, a5, a6⟩ := ih q
      refine ⟨c', p', ?_⟩
      rw [List.take_append_of_le_length (by omega), List.take_append_of_le_length (by omega), List.getElem_append_left q]
      exact ⟨a1, a2, a3, a4, a5, a6⟩
    · have e1 : i = es.length := by rw [List.length_append, List.length_singleton] at hi; omega
      subst e1
      refine ⟨c, p, ?_⟩
      have t1 : (es ++ [e]).take es.length = es := by simp
      have t2 : (es ++ [e]).take (es.length + 1) = es ++ [e] := List.take_of_length_le (by simp)
      have t3 : (es ++ [e])[es.length]'hi = e := by simp
      have hn := h1.next
      rw [t1, t2, t3, ← hn]
      refine ⟨h1, h2, h3, h4, h5, ?_⟩
      unfold nextF
      rw [List.getLast?_append]; rfl
theorem Chain.zero (h : Chain l wd es f c) (hf : f = 0) : es = [] ∧ c = 0 := by
  cases h with
  | nil => exact ⟨rfl, rfl⟩
  | snoc e p h1 h2 h3 h4 h5 => omega
theorem Chain.inv (h : Chain l wd es f c) : (es = [] ∧ f = 0 ∧ c = 0) ∨ ∃ (es' : List Nat) (e f' : Nat) (c' p : Int), es = es' ++ [e] ∧ f = e + 1 ∧ c = c' + p ∧ Chain l wd es' f' c' ∧ f' ≤ e ∧ e ≤ l.length ∧ legP l e = true ∧ canO l wd f' e = some p := by
  cases h with
  | nil => exact .inl ⟨rfl, rfl, rfl⟩
  | @snoc es' f' c' e p h1 h2 h3 h4 h5 => exact .inr ⟨es', e, f', c', p, rfl, rfl, rfl, h1, h2, h3, h4, h5⟩
theorem next_all : nextF (es.take es.length) = nextF es := by rw [List.take_length]
end
/-- What lines cost together, from a place on. -/
def costP (l : List It) (wd : Int) : Nat → Int → List Nat → Int × Bool
  | f, c, [] => if f = l.length + 1 then (c, true) else (0, false)
  | f, c, e :: r => if e < f then (0, false) else if legP l e = false then (0, false) else match canO l wd f e with
    | none => (0, false)
    | some p => costP l wd (e + 1) (c + p) r
theorem cost_cons {l : List It} {wd : Int} {f e : Nat} {c p : Int} {r : List Nat} (h1 : f ≤ e) (h2 : legP l e = true) (h3 : canO l wd f e = some p) : costP l wd f c (e :: r) = costP l wd (e + 1) (c + p) r := by
  rw [costP, if_neg (by omega), if_neg (by rw [h2]; decide), h3]
theorem cost_low {l : List It} {wd : Int} {f e : Nat} {c : Int} {r : List Nat} (h1 : e < f) : costP l wd f c (e :: r) = (0, false) := by
  rw [costP, if_pos h1]
theorem cost_leg {l : List It} {wd : Int} {f e : Nat} {c : Int} {r : List Nat} (h1 : legP l e = false) : costP l wd f c (e :: r) = (0, false) := by
  by_cases q : e < f
  · exact cost_low q
  · rw [costP, if_neg q, if_pos h1]
theorem cost_can {l : List It} {wd : Int} {f e : Nat} {c : Int} {r : List Nat} (h3 : canO l wd f e = none) : costP l wd f c (e :: r) = (0, false) := by
  by_cases q : e < f
  · exact cost_low q
  · cases h : legP l e with
    | false => exact cost_leg h
    | true => rw [costP, if_neg q, if_neg (by rw [h]; decide), h3]
theorem Chain.cost {l : List It} {wd : Int} {es : List Nat} {f : Nat} {c : Int} (h : Chain l wd es f c) : ∀ r, costP l wd 0 0 (es ++ r) = costP l wd f c r := by
  induction h with
  | nil => intro r; rfl
  | snoc e p h1 h2 h3 h4 h5 ih =>
    intro r
    rw [List.append_assoc, ih, List.singleton_append, cost_cons h2 h4 h5]

/-- A way: where its next line would begin, what it costs, which way it goes on from. -/
structure Wy where
  f : Nat
  c : Int
  a : Int
/-- The ways to all places ahead of i. -/
structure WsOk (l : List It) (wd : Int) (ws : List Wy) (i : Nat) : Prop where
  head : ws[0]? = some ⟨0, 0, -1⟩
  line : ∀ (n : Nat) (w : Wy), ws[n]? = some w → 0 < n → ∃ (a : Nat) (v : Wy) (p : Int), w.a = (a : Int) ∧ a < n ∧ ws[a]? = some v ∧ 0 < w.f ∧ v.f ≤ w.f - 1 ∧ w.f - 1 ≤ l.length ∧ legP l (w.f - 1) = true ∧ canO l wd v.f (w.f - 1) = some p ∧ w.c = v.c + p
  le : ∀ (n : Nat) (w : Wy), ws[n]? = some w → w.f ≤ i ∧ n ≤ w.f
  inc : ∀ (n m : Nat) (v w : Wy), n < m → ws[n]? = some v → ws[m]? = some w → v.f < w.f
  cost : ∀ (n : Nat) (w : Wy), ws[n]? = some w → -300000000 * (n : Int) ≤ w.c ∧ w.c ≤ 300000000 * (n : Int)
  comp : ∀ j, j < i → j ≤ l.length → legP l j = true → ∀ (n : Nat) (w : Wy) (p : Int), ws[n]? = some w → w.f ≤ j → canO l wd w.f j = some p → ∃ (m : Nat) (v : Wy), ws[m]? = some v ∧ v.f = j + 1
  best : ∀ (n : Nat) (w : Wy) (es : List Nat) (c : Int), ws[n]? = some w → Chain l wd es w.f c → w.c ≤ c
/-- From which way on a line may still come. -/
structure FrOk (l : List It) (wd : Int) (ws : List Wy) (first i : Nat) : Prop where
  le : first ≤ ws.length
  out : ∀ (n : Nat) (w : Wy) (j : Nat), n < first → ws[n]? = some w → i ≤ j → j ≤ l.length → canO l wd w.f j = none
  may : ∀ (n : Nat) (w : Wy) (k : Nat), first ≤ n → ws[n]? = some w → w.f ≤ k → k < i → mustP l k = false
section
variable {l : List It} {wd : Int} {ws : List Wy} {first i : Nat}
theorem WsOk.start (l : List It) (wd : Int) : WsOk l wd [⟨0, 0, -1⟩] 0 := by
  refine ⟨rfl, fun n w h hn => ?_, fun n w h => ?_, fun n m v w hnm h1 h2 => ?_, fun n w h => ?_, fun j hj => absurd hj (by omega), fun n w es c h hc => ?_⟩
  · rw [List.getElem?_eq_none (by simp; omega)] at h; cases h
  · cases n with
    | zero => injection h with h; subst h; simp
    | succ n => simp at h
  · rw [List.getElem?_eq_none (by simp; omega)] at h2; cases h2
  · cases n with
    | zero => injection h with h; subst h; simp
    | succ n => simp at h
  · cases n with
    | zero =>
      injection h with h
      subst h
      rw [(hc.zero rfl).2]; exact Int.le_refl _
    | succ n => simp at h
theorem FrOk.start (l : List It) (wd : Int) : FrOk l wd [⟨0, 0, -1⟩] 0 0 := ⟨Nat.zero_le _, fun n w j h => absurd h (by omega), fun n w k _ _ _ h => absurd h (by omega)⟩
theorem WsOk.len (h : WsOk l wd ws i) : 1 ≤ ws.length ∧ ws.length ≤ i + 1 := by
  have h0 : 0 < ws.length := (List.getElem?_eq_some_iff.1 h.head).1
  refine ⟨h0, ?_⟩
  have := h.le (ws.length - 1) _ (List.getElem?_eq_getElem (by omega))
  omega
/-- No line may end at i. -/
theorem WsOk.skip (h : WsOk l wd ws i) (hi : legP l i = false) : WsOk l wd ws (i + 1) :=
  ⟨h.head, h.line, fun n w q => by have := h.le n w q; omega, h.inc, h.cost, fun j hj hl hleg => by
    by_cases e : j = i
    · rw [e, hi] at hleg; cases hleg
    · exact h.comp j (by omega) hl hleg, h.best⟩
theorem FrOk.skip (h : FrOk l wd ws first i) (hl : i ≤ l.length) (hi : legP l i = false) : FrOk l wd ws first (i + 1) :=
  ⟨h.le, fun n w j h1 h2 h3 h4 => h.out n w j h1 h2 (by omega) h4, fun n w k h1 h2 h3 h4 => by
    by_cases e : k = i
    · subst e
      cases q : mustP l k with
      | false => rfl
      | true => rw [must_leg hl q] at hi; cases hi
    · exact h.may n w k h1 h2 h3 (by omega)⟩
/-- The first of them is out. -/
theorem FrOk.drop (h : FrOk l wd ws first i) {w : Wy} (hw : ws[first]? = some w) (hf : w.f ≤ i) (hp : wd < lnP l i - lnP l (bxP l w.f) - spP l i) : FrOk l wd ws (first + 1) i :=
  ⟨(List.getElem?_eq_some_iff.1 hw).1, fun n v j h1 h2 h3 h4 => by
    by_cases e : n = first
    · subst e
      rw [hw] at h2
      injection h2 with h2
      subst h2
      exact past_none hf h3 h4 hp
    · exact h.out n v j (by omega) h2 h3 h4, fun n v k h1 h2 h3 h4 => h.may n v k (by omega) h2 h3 h4⟩
/-- Which of the ways from first on, up to number k, costs the least: none, or this one. -/
def Bst (l : List It) (wd : Int) (ws : List Wy) (first i k : Nat) (bc ba : Int) : Prop :=
  (ba = -1 ∧ bc = 0 ∧ ∀ (n : Nat) (w : Wy), first ≤ n → n < k → ws[n]? = some w → prc l wd w.f i = none) ∨
  (∃ (a : Nat) (v : Wy) (p : Int), ba = (a : Int) ∧ first ≤ a ∧ a < k ∧ ws[a]? = some v ∧ prc l wd v.f i = some p ∧ bc = v.c + p ∧ ∀ (n : Nat) (w : Wy) (q : Int), first ≤ n → n < k → ws[n]? = some w → prc l wd w.f i = some q → bc ≤ w.c + q)
theorem Bst.start (l : List It) (wd : Int) (ws : List Wy) (first i : Nat) : Bst l wd ws first i first 0 (-1) := .inl ⟨rfl, rfl, fun n w h1 h2 => by omega⟩
variable {k : Nat} {bc ba : Int} {w : Wy}
/-- The next one costs no less, or can't be. -/
theorem Bst.none (h : Bst l wd ws first i k bc ba) (hw : ws[k]? = some w) (hp : prc l wd w.f i = none) : Bst l wd ws first i (k + 1) bc ba := by
  rcases h with ⟨h1, h2, h3⟩ | ⟨a, v, p, h1, h2, h3, h4, h5, h6, h7⟩
  · refine .inl ⟨h1, h2, fun n v q1 q2 q3 => ?_⟩
    by_cases e : n = k
    · subst e; rw [hw] at q3; injection q3 with q3; subst q3; exact hp
    · exact h3 n v q1 (by omega) q3
  · refine .inr ⟨a, v, p, h1, h2, by omega, h4, h5, h6, fun n u q q1 q2 q3 q4 => ?_⟩
    by_cases e : n = k
    · subst e; rw [hw] at q3; injection q3 with q3; subst q3; rw [hp] at q4; cases q4
    · exact h7 n u q q1 (by omega) q3 q4
theorem Bst.more (h : Bst l wd ws first i k bc ba) (hb : 0 ≤ ba) (hw : ws[k]? = some w) (hp : ∀ q, prc l wd w.f i = some q → bc ≤ w.c + q) : Bst l wd ws first i (k + 1) bc ba := by
  rcases h with ⟨h1, h2, h3⟩ | ⟨a, v, p, h1, h2, h3, h4, h5, h6, h7⟩
  · omega
  · refine .inr ⟨a, v, p, h1, h2, by omega, h4, h5, h6, fun n u q q1 q2 q3 q4 => ?_⟩
    by_cases e : n = k
    · subst e; rw [hw] at q3; injection q3 with q3; subst q3; exact hp q q4
    · exact h7 n u q q1 (by omega) q3 q4
theorem Bst.less (h : Bst l wd ws first i k bc ba) (hk : first ≤ k) (hw : ws[k]? = some w) {p : Int} (hp : prc l wd w.f i = some p) (hc : ba < 0 ∨ w.c + p < bc) : Bst l wd ws first i (k + 1) (w.c + p) k := by
  refine .inr ⟨k, w, p, rfl, hk, by omega, hw, hp, rfl, fun n u q q1 q2 q3 q4 => ?_⟩
  by_cases e : n = k
  · subst e; rw [hw] at q3; injection q3 with q3; subst q3; rw [hp] at q4; injection q4 with q4; omega
  · rcases h with ⟨h1, h2, h3⟩ | ⟨a, v, p', h1, h2, h3, h4, h5, h6, h7⟩
    · rw [h3 n u q1 (by omega) q3] at q4; cases q4
    · have := h7 n u q q1 (by omega) q3 q4
      omega
/-- A place is done, which no way leads to. -/
theorem WsOk.lost (h : WsOk l wd ws i) (hF : FrOk l wd ws first i) (hi : i ≤ l.length) (hB : Bst l wd ws first i ws.length bc ba) (hb : ba < 0) : WsOk l wd ws (i + 1) := by
  rcases hB with ⟨h1, h2, h3⟩ | ⟨a, v, p, h1, _⟩
  · refine ⟨h.head, h.line, fun n w q => by have := h.le n w q; omega, h.inc, h.cost, fun j hj hl hleg n w p hw hf hc => ?_, h.best⟩
    by_cases e : j = i
    · subst e
      by_cases c : n < first
      · rw [hF.out n w j c hw (Nat.le_refl _) hi] at hc; cases hc
      · have hn := (List.getElem?_eq_some_iff.1 hw).1
        have e := (can_noM hc).2
        rw [h3 n w (by omega) hn hw] at e; cases e
    · exact h.comp j (by omega) hl hleg n w p hw hf hc
  · omega
end
end Go.Proofs.Ytjkkinccehfmoaa
