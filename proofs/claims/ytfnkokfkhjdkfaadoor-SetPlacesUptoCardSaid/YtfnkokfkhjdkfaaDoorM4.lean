/-
  Texts of the proof, one behind the other: Wpa, Wpb, Spa, Im3.
-/
import Derived.Test.YtfnkokfkhjdkfaaDoorM3
/-
  Where lines end, as plain lists. No program in sight.
-/
namespace Go.Proofs.YtfnkokfkhjdkfaaDoor

/-- Width, growth, shrinking. -/
structure Me where
  w : Int
  g : Int
  s : Int
def meZ : Me := ⟨0, 0, 0⟩
def meAdd (m : Me) (x : It) : Me := if x.kind = 3 then m else ⟨m.w + x.width, m.g + x.grow, m.s + x.shrink⟩
def meSub (a b : Me) : Me := ⟨a.w - b.w, a.g - b.g, a.s - b.s⟩
/-- The measure of the first k items. -/
def preM (l : List It) : Nat → Me
  | 0 => meZ
  | k + 1 => match l[k]? with
    | some x => meAdd (preM l k) x
    | none => preM l k
theorem preM_next {l : List It} {k : Nat} (h : k < l.length) : preM l (k + 1) = meAdd (preM l k) l[k] := by
  rw [preM, List.getElem?_eq_getElem h]
def lnI (x : It) : Int := if x.kind = 3 then 0 else x.width - max x.shrink 0
/-- How wide the first k items are at least. -/
def lnP (l : List It) : Nat → Int
  | 0 => 0
  | k + 1 => match l[k]? with
    | some x => lnP l k + lnI x
    | none => lnP l k
theorem lnP_next {l : List It} {k : Nat} (h : k < l.length) : lnP l (k + 1) = lnP l k + lnI l[k] := by
  rw [lnP, List.getElem?_eq_getElem h]
def spL : List It → Int
  | [] => 0
  | x :: r => max 0 (spL r - lnI x)
def spP (l : List It) (k : Nat) : Int := spL (l.drop k)
theorem spP_next {l : List It} {k : Nat} (h : k < l.length) : spP l k = max 0 (spP l (k + 1) - lnI l[k]) := by
  unfold spP
  rw [List.drop_eq_getElem_cons h, spL]
theorem spP_end (l : List It) : spP l l.length = 0 := by unfold spP; rw [List.drop_length]; rfl
def bxL : List It → Nat
  | [] => 0
  | x :: r => if x.kind = 1 then 0 else bxL r + 1
/-- The first box at k or behind it. -/
def bxF (l : List It) (k : Nat) : Nat := k + bxL (l.drop k)
theorem bxF_box {l : List It} {k : Nat} (h : k < l.length) (hk : l[k].kind = 1) : bxF l k = k := by
  unfold bxF
  rw [List.drop_eq_getElem_cons h, bxL, if_pos hk]
  omega
theorem bxF_next {l : List It} {k : Nat} (h : k < l.length) (hk : ¬ l[k].kind = 1) : bxF l k = bxF l (k + 1) := by
  unfold bxF
  rw [List.drop_eq_getElem_cons h, bxL, if_neg hk]
  omega
theorem bxF_end (l : List It) : bxF l l.length = l.length := by unfold bxF; rw [List.drop_length]; rfl
theorem bxL_le : ∀ l : List It, bxL l ≤ l.length
  | [] => Nat.le_refl _
  | x :: r => by
    rw [bxL, List.length_cons]
    have := bxL_le r
    split <;> omega
theorem bxF_ge (l : List It) (k : Nat) : k ≤ bxF l k := Nat.le_add_right _ _
theorem bxF_le {l : List It} {k : Nat} (h : k ≤ l.length) : bxF l k ≤ l.length := by
  unfold bxF
  have := bxL_le (l.drop k)
  rw [List.length_drop] at this
  omega

/-- Numbers that can be reckoned with. -/
def itW (x : It) : Prop := (-1099511627776 ≤ x.width ∧ x.width ≤ 1099511627776) ∧ (-1099511627776 ≤ x.grow ∧ x.grow ≤ 1099511627776) ∧ (-1099511627776 ≤ x.shrink ∧ x.shrink ≤ 1099511627776)
theorem lnI_bd {x : It} (h : itW x) : -2199023255552 ≤ lnI x ∧ lnI x ≤ 1099511627776 := by
  obtain ⟨⟨h1, h2⟩, _, h3, h4⟩ := h
  unfold lnI
  split <;> omega
theorem preM_bd {l : List It} (h : ∀ x ∈ l, itW x) : ∀ k : Nat, (-1099511627776 * (k : Int) ≤ (preM l k).w ∧ (preM l k).w ≤ 1099511627776 * (k : Int)) ∧ (-1099511627776 * (k : Int) ≤ (preM l k).g ∧ (preM l k).g ≤ 1099511627776 * (k : Int)) ∧ (-1099511627776 * (k : Int) ≤ (preM l k).s ∧ (preM l k).s ≤ 1099511627776 * (k : Int))
  | 0 => by simp [preM, meZ]
  | k + 1 => by
    have ih := preM_bd h k
    by_cases hk : k < l.length
    · rw [preM_next hk]
      obtain ⟨h1, h2, h3⟩ := h _ (List.getElem_mem hk)
      unfold meAdd
      split
      · refine ⟨⟨?_, ?_⟩, ⟨?_, ?_⟩, ?_, ?_⟩ <;> omega
      · simp only
        refine ⟨⟨?_, ?_⟩, ⟨?_, ?_⟩, ?_, ?_⟩ <;> omega
    · rw [preM, List.getElem?_eq_none (by omega)]
      simp only
      refine ⟨⟨?_, ?_⟩, ⟨?_, ?_⟩, ?_, ?_⟩ <;> omega
theorem lnP_bd {l : List It} (h : ∀ x ∈ l, itW x) : ∀ k : Nat, -2199023255552 * (k : Int) ≤ lnP l k ∧ lnP l k ≤ 2199023255552 * (k : Int)
  | 0 => by simp [lnP]
  | k + 1 => by
    have ih := lnP_bd h k
    by_cases hk : k < l.length
    · rw [lnP_next hk]
      have := lnI_bd (h _ (List.getElem_mem hk))
      omega
    · rw [lnP, List.getElem?_eq_none (by omega)]
      simp only
      omega
theorem spL_bd : ∀ {l : List It}, (∀ x ∈ l, itW x) → 0 ≤ spL l ∧ spL l ≤ 2199023255552 * (l.length : Int)
  | [], _ => by simp [spL]
  | x :: r, h => by
    have ih := spL_bd (l := r) (fun y hy => h y (List.mem_cons_of_mem _ hy))
    have := lnI_bd (h x List.mem_cons_self)
    rw [spL, List.length_cons]
    omega
theorem spP_bd {l : List It} (h : ∀ x ∈ l, itW x) (k : Nat) : 0 ≤ spP l k ∧ spP l k ≤ 2199023255552 * (l.length : Int) := by
  have := spL_bd (l := l.drop k) (fun x hx => h x (List.mem_of_mem_drop hx))
  rw [List.length_drop] at this
  unfold spP
  omega
theorem spP_nn (l : List It) (k : Nat) : 0 ≤ spP l k := by
  unfold spP
  cases l.drop k with
  | nil => exact Int.le_refl _
  | cons x r => rw [spL]; omega

/-- May a line end there? -/
def legP (l : List It) (i : Nat) : Bool := if i = l.length then true else match l[i]? with
  | none => false
  | some x => if x.kind = 2 then (match i with
    | 0 => false
    | j + 1 => match l[j]? with
      | some y => y.kind == 1
      | none => false) else if x.kind = 3 then decide (x.cost < 10000) else false
theorem leg_end (l : List It) : legP l l.length = true := by unfold legP; rw [if_pos rfl]
theorem leg_zero {l : List It} (h : 0 < l.length) (hk : l[0].kind = 2) : legP l 0 = false := by
  unfold legP; rw [if_neg (by omega), List.getElem?_eq_getElem h]; simp [hk]
theorem leg_glue {l : List It} {j : Nat} (h : j + 1 < l.length) (hk : l[j + 1].kind = 2) : legP l (j + 1) = (l[j].kind == 1) := by
  unfold legP; rw [if_neg (by omega), List.getElem?_eq_getElem h]; simp only [hk, if_true]; rw [List.getElem?_eq_getElem (by omega)]
theorem leg_pen {l : List It} {i : Nat} (h : i < l.length) (hk : l[i].kind = 3) : legP l i = decide (l[i].cost < 10000) := by
  unfold legP; rw [if_neg (by omega), List.getElem?_eq_getElem h]; simp [hk]
theorem leg_else {l : List It} {i : Nat} (h : i < l.length) (h2 : ¬ l[i].kind = 2) (h3 : ¬ l[i].kind = 3) : legP l i = false := by
  unfold legP; rw [if_neg (by omega), List.getElem?_eq_getElem h]; simp [h2, h3]
/-- Must it? -/
def mustP (l : List It) (i : Nat) : Bool := if i = l.length then true else match l[i]? with
  | none => false
  | some x => if x.kind = 3 then decide (x.cost ≤ -10000) else false
theorem must_end (l : List It) : mustP l l.length = true := by unfold mustP; rw [if_pos rfl]
theorem must_pen {l : List It} {i : Nat} (h : i < l.length) (hk : l[i].kind = 3) : mustP l i = decide (l[i].cost ≤ -10000) := by
  unfold mustP; rw [if_neg (by omega), List.getElem?_eq_getElem h]; simp [hk]
theorem must_else {l : List It} {i : Nat} (h : i < l.length) (hk : ¬ l[i].kind = 3) : mustP l i = false := by
  unfold mustP; rw [if_neg (by omega), List.getElem?_eq_getElem h]; simp [hk]
theorem must_leg {l : List It} {i : Nat} (hi : i ≤ l.length) (h : mustP l i = true) : legP l i = true := by
  by_cases e : i = l.length
  · rw [e]; exact leg_end l
  · have hl : i < l.length := by omega
    by_cases hk : l[i].kind = 3
    · rw [must_pen hl hk] at h
      rw [leg_pen hl hk]
      have := of_decide_eq_true h
      exact decide_eq_true (by omega)
    · rw [must_else hl hk] at h; cases h
/-- What a line's cost hangs on where it ends. -/
def stp (l : List It) (i : Nat) : Bool × Int := if mustP l i = true then (true, 0) else match l[i]? with
  | some x => if x.kind = 3 then (false, x.cost) else (false, 0)
  | none => (false, 0)
theorem stp_must {l : List It} {i : Nat} (h : mustP l i = true) : stp l i = (true, 0) := by unfold stp; rw [if_pos h]
theorem stp_pen {l : List It} {i : Nat} (hm : mustP l i = false) (h : i < l.length) (hk : l[i].kind = 3) : stp l i = (false, l[i].cost) := by
  unfold stp; rw [if_neg (by rw [hm]; decide), List.getElem?_eq_getElem h]; simp [hk]
theorem stp_else {l : List It} {i : Nat} (hm : mustP l i = false) (h : i < l.length) (hk : ¬ l[i].kind = 3) : stp l i = (false, 0) := by
  unfold stp; rw [if_neg (by rw [hm]; decide), List.getElem?_eq_getElem h]; simp [hk]
def prcM (m : Me) (wd : Int) (e : Bool × Int) : Option Int :=
  if wd < m.w then (if wd < m.w - m.s then none else some (dem (bad (m.w - wd) m.s) e.2)) else if e.1 = true then some (dem 0 e.2) else some (dem (bad (wd - m.w) m.g) e.2)
/-- What stands between two places. -/
def btw (l : List It) (a b : Nat) : Me := meSub (preM l b) (preM l (min (bxF l a) b))
def prc (l : List It) (wd : Int) (a b : Nat) : Option Int := prcM (btw l a b) wd (stp l b)
def noM (l : List It) (a b : Nat) : Bool := (List.range b).all fun k => decide (k < a) || !mustP l k
theorem noM_iff {l : List It} {a b : Nat} : noM l a b = true ↔ ∀ k, a ≤ k → k < b → mustP l k = false := by
  unfold noM
  rw [List.all_eq_true]
  constructor
  · intro h k h1 h2
    have := h k (List.mem_range.2 h2)
    simpa [show ¬ k < a by omega] using this
  · intro h k hk
    have hk := List.mem_range.1 hk
    by_cases c : k < a
    · simp [c]
    · simp [h k (by omega) hk]
theorem noM_not {l : List It} {a b k : Nat} (h1 : a ≤ k) (h2 : k < b) (h : mustP l k = true) : noM l a b = false := by
  cases e : noM l a b with
  | false => rfl
  | true => rw [noM_iff.1 e k h1 h2] at h; cases h
/-- What a line costs, if it can be. -/
def canO (l : List It) (wd : Int) (a b : Nat) : Option Int := if noM l a b = true then prc l wd a b else none
theorem can_yes {l : List It} {wd : Int} {a b : Nat} (h : noM l a b = true) : canO l wd a b = prc l wd a b := by unfold canO; rw [if_pos h]
theorem can_no {l : List It} {wd : Int} {a b : Nat} (h : noM l a b = false) : canO l wd a b = none := by unfold canO; rw [if_neg (by rw [h]; decide)]
theorem can_noM {l : List It} {wd : Int} {a b : Nat} {p : Int} (h : canO l wd a b = some p) : noM l a b = true ∧ prc l wd a b = some p := by
  cases e : noM l a b with
  | false => rw [can_no e] at h; cases h
  | true => rw [can_yes e] at h; exact ⟨rfl, h⟩

theorem dem_bd (b c : Int) : -300000000 ≤ dem b c ∧ dem b c ≤ 300000000 := by
  obtain ⟨b0, b1⟩ := clamp_bd b 0 10000 (by omega)
  obtain ⟨c0, c1⟩ := clamp_bd c (-10000) 10000 (by omega)
  obtain ⟨s0, s1⟩ := sq_bd (10 + clamp b 0 10000) 10010 (by omega) (by omega)
  obtain ⟨s2, s3⟩ := sq_bd (clamp c (-10000) 10000) 10000 (by omega) (by omega)
  unfold dem demB
  generalize (10 + clamp b 0 10000) * (10 + clamp b 0 10000) = x at *
  generalize clamp c (-10000) 10000 * clamp c (-10000) 10000 = y at *
  split
  · omega
  · split <;> omega
theorem dem_least (b c : Int) : dem 0 c ≤ dem b c := by
  obtain ⟨b0, b1⟩ := clamp_bd b 0 10000 (by omega)
  have h0 : clamp 0 0 10000 = 0 := by decide
  have h : (10 + clamp 0 0 10000) * (10 + clamp 0 0 10000) ≤ (10 + clamp b 0 10000) * (10 + clamp b 0 10000) := by
    rw [h0]; exact Int.mul_le_mul (by omega) (by omega) (by omega) (by omega)
  unfold dem demB
  generalize (10 + clamp b 0 10000) * (10 + clamp b 0 10000) = x at *
  generalize (10 + clamp 0 0 10000) * (10 + clamp 0 0 10000) = z at *
  generalize clamp c (-10000) 10000 * clamp c (-10000) 10000 = y at *
  split
  · omega
  · split <;> omega
theorem prcM_bd {m : Me} {wd : Int} {e : Bool × Int} {p : Int} (h : prcM m wd e = some p) : (-300000000 ≤ p ∧ p ≤ 300000000) ∧ dem 0 e.2 ≤ p := by
  have key : ∃ b, p = dem b e.2 := by
    unfold prcM at h
    split at h
    · split at h
      · cases h
      · injection h with h; exact ⟨_, h.symm⟩
    · split at h <;> (injection h with h; exact ⟨_, h.symm⟩)
  obtain ⟨b, rfl⟩ := key
  exact ⟨dem_bd _ _, dem_least _ _⟩
theorem can_bd {l : List It} {wd : Int} {a b : Nat} {p : Int} (h : canO l wd a b = some p) : (-300000000 ≤ p ∧ p ≤ 300000000) ∧ dem 0 (stp l b).2 ≤ p := prcM_bd (can_noM h).2
theorem prcM_none {m : Me} {wd : Int} {e : Bool × Int} (h1 : wd < m.w) (h2 : wd < m.w - m.s) : prcM m wd e = none := by unfold prcM; rw [if_pos h1, if_pos h2]
theorem prcM_fits {m : Me} {wd : Int} {e : Bool × Int} {p : Int} (h : prcM m wd e = some p) : m.w ≤ wd ∨ m.w - m.s ≤ wd := by
  unfold prcM at h
  split at h
  · split at h
    · cases h
    · exact .inr (by omega)
  · exact .inl (by omega)

/-- Lines that end further behind are no narrower than this. -/
theorem ln_step {l : List It} {k : Nat} (h : k < l.length) : lnP l k - spP l k ≤ lnP l (k + 1) - spP l (k + 1) := by
  rw [lnP_next h, spP_next h]
  omega
theorem ln_mono {l : List It} {i : Nat} : ∀ {j : Nat}, i ≤ j → j ≤ l.length → lnP l i - spP l i ≤ lnP l j - spP l j := by
  intro j
  induction j with
  | zero => intro h _; rw [show i = 0 by omega]; exact Int.le_refl _
  | succ j ih =>
    intro h hl
    by_cases e : i = j + 1
    · rw [e]; exact Int.le_refl _
    · exact Int.le_trans (ih (by omega) (by omega)) (ln_step (by omega))
theorem ln_le {l : List It} {i j : Nat} (h : i ≤ j) (hl : j ≤ l.length) : lnP l i - spP l i ≤ lnP l j := by
  have := ln_mono h hl
  have := spP_nn l j
  omega
theorem me_mono {l : List It} {i : Nat} : ∀ {j : Nat}, i ≤ j → j ≤ l.length → lnP l j - lnP l i ≤ (preM l j).w - (preM l i).w ∧ lnP l j - lnP l i ≤ ((preM l j).w - (preM l i).w) - ((preM l j).s - (preM l i).s) := by
  intro j
  induction j with
  | zero => intro h _; rw [show i = 0 by omega]; omega
  | succ j ih =>
    intro h hl
    by_cases e : i = j + 1
    · rw [e]; omega
    · have := ih (by omega) (by omega)
      rw [lnP_next (by omega), preM_next (by omega)]
      unfold lnI meAdd
      split
      · omega
      · simp only
        omega
/-- A line from there is out, wherever it ends from i on. -/
theorem past_none {l : List It} {wd : Int} {a i j : Nat} (ha : a ≤ i) (hij : i ≤ j) (hj : j ≤ l.length) (h : wd < lnP l i - lnP l (bxF l a) - spP l i) : canO l wd a j = none := by
  have key : prc l wd a j = none := by
    unfold prc
    have hb := bxF_le (l := l) (k := a) (by omega)
    have h1 := ln_le hij hj
    by_cases c : bxF l a ≤ j
    · have := me_mono c hj
      refine prcM_none ?_ ?_
      · unfold btw meSub; rw [Nat.min_eq_left c]; simp only; omega
      · unfold btw meSub; rw [Nat.min_eq_left c]; simp only; omega
    · have h2 := ln_le (l := l) (i := i) (j := bxF l a) (by omega) hb
      refine prcM_none ?_ ?_
      · unfold btw meSub; rw [Nat.min_eq_right (by omega)]; simp only; omega
      · unfold btw meSub; rw [Nat.min_eq_right (by omega)]; simp only; omega
  unfold canO
  split
  · exact key
  · rfl

/-- Places that part the items so far; where the next line begins; what they cost. -/
inductive Chain (l : List It) (wd : Int) : List Nat → Nat → Int → Prop
  | nil : Chain l wd [] 0 0
  | snoc {es : List Nat} {f : Nat} {c : Int} (e : Nat) (p : Int) : Chain l wd es f c → f ≤ e → e ≤ l.length → legP l e = true → canO l wd f e = some p → Chain l wd (es ++ [e]) (e + 1) (c + p)
def nextF (es : List Nat) : Nat := match es.getLast? with
  | none => 0
  | some e => e + 1
section
variable {l : List It} {wd : Int} {es : List Nat} {f : Nat} {c : Int}
theorem Chain.next (h : Chain l wd es f c) : f = nextF es := by
  cases h with
  | nil => rfl
  | snoc e p h1 h2 h3 h4 h5 => unfold nextF; rw [List.getLast?_append]; rfl
theorem Chain.few (h : Chain l wd es f c) : es.length ≤ f ∧ f ≤ l.length + 1 ∧ -300000000 * (es.length : Int) ≤ c ∧ c ≤ 300000000 * (es.length : Int) := by
  induction h with
  | nil => simp
  | snoc e p h1 h2 h3 h4 h5 ih =>
    have := (can_bd h5).1
    rw [List.length_append, List.length_singleton]
    omega
theorem Chain.at_ (h : Chain l wd es f c) : ∀ {i : Nat} (hi : i < es.length), ∃ (c' p : Int), Chain l wd (es.take i) (nextF (es.take i)) c' ∧ nextF (es.take i) ≤ es[i] ∧ es[i] ≤ l.length ∧ legP l es[i] = true ∧ canO l wd (nextF (es.take i)) es[i] = some p ∧ nextF (es.take (i + 1)) = es[i] + 1 := by
  induction h with
  | nil => intro i hi; simp at hi
  | @snoc es f c e p h1 h2 h3 h4 h5 ih =>
    intro i hi
    by_cases q : i < es.length
    · obtain ⟨c', p', a1, a2, a3, a4, a5, a6⟩ := ih q
      refine ⟨c', p', ?_⟩
      rw [List.take_append_of_le_length (by omega), List.take_append_of_le_length (by omega), List.getElem_append_left q]
      exact ⟨a1, a2, a3, a4, a5, a6⟩
    · have e1 : i = es.length := by rw [List.length_append, List.length_singleton] at hi; omega
      subst e1
      refine ⟨c, p, ?_⟩
      have t1 : (es ++ [e]).take es.length = es := by simp
      have t2 : (es ++ [e]).take (es.length + 1) = es ++ [e] := List.take_of_length_le (by simp)
      have t3 : (es ++ [e])[es.length]'hi = e := by simp
      have hn := h1.next
      rw [t1, t2, t3, ← hn]
      refine ⟨h1, h2, h3, h4, h5, ?_⟩
      unfold nextF
      rw [List.getLast?_append]; rfl
theorem Chain.zero (h : Chain l wd es f c) (hf : f = 0) : es = [] ∧ c = 0 := by
  cases h with
  | nil => exact ⟨rfl, rfl⟩
  | snoc e p h1 h2 h3 h4 h5 => omega
theorem Chain.inv (h : Chain l wd es f c) : (es = [] ∧ f = 0 ∧ c = 0) ∨ ∃ (es' : List Nat) (e f' : Nat) (c' p : Int), es = es' ++ [e] ∧ f = e + 1 ∧ c = c' + p ∧ Chain l wd es' f' c' ∧ f' ≤ e ∧ e ≤ l.length ∧ legP l e = true ∧ canO l wd f' e = some p := by
  cases h with
  | nil => exact .inl ⟨rfl, rfl, rfl⟩
  | @snoc es' f' c' e p h1 h2 h3 h4 h5 => exact .inr ⟨es', e, f', c', p, rfl, rfl, rfl, h1, h2, h3, h4, h5⟩
theorem next_all : nextF (es.take es.length) = nextF es := by rw [List.take_length]
end
/-- What lines cost together, from a place on. -/
def costP (l : List It) (wd : Int) : Nat → Int → List Nat → Int × Bool
  | f, c, [] => if f = l.length + 1 then (c, true) else (0, false)
  | f, c, e :: r => if e < f then (0, false) else if legP l e = false then (0, false) else match canO l wd f e with
    | none => (0, false)
    | some p => costP l wd (e + 1) (c + p) r
theorem cost_cons {l : List It} {wd : Int} {f e : Nat} {c p : Int} {r : List Nat} (h1 : f ≤ e) (h2 : legP l e = true) (h3 : canO l wd f e = some p) : costP l wd f c (e :: r) = costP l wd (e + 1) (c + p) r := by
  rw [costP, if_neg (by omega), if_neg (by rw [h2]; decide), h3]
theorem cost_low {l : List It} {wd : Int} {f e : Nat} {c : Int} {r : List Nat} (h1 : e < f) : costP l wd f c (e :: r) = (0, false) := by
  rw [costP, if_pos h1]
theorem cost_leg {l : List It} {wd : Int} {f e : Nat} {c : Int} {r : List Nat} (h1 : legP l e = false) : costP l wd f c (e :: r) = (0, false) := by
  by_cases q : e < f
  · exact cost_low q
  · rw [costP, if_neg q, if_pos h1]
theorem cost_can {l : List It} {wd : Int} {f e : Nat} {c : Int} {r : List Nat} (h3 : canO l wd f e = none) : costP l wd f c (e :: r) = (0, false) := by
  by_cases q : e < f
  · exact cost_low q
  · cases h : legP l e with
    | false => exact cost_leg h
    | true => rw [costP, if_neg q, if_neg (by rw [h]; decide), h3]
theorem Chain.cost {l : List It} {wd : Int} {es : List Nat} {f : Nat} {c : Int} (h : Chain l wd es f c) : ∀ r, costP l wd 0 0 (es ++ r) = costP l wd f c r := by
  induction h with
  | nil => intro r; rfl
  | snoc e p h1 h2 h3 h4 h5 ih =>
    intro r
    rw [List.append_assoc, ih, List.singleton_append, cost_cons h2 h4 h5]

/-- A way: where its next line would begin, what it costs, which way it goes on from. -/
structure Wy where
  f : Nat
  c : Int
  a : Int
/-- The ways to all places ahead of i. -/
structure WsOk (l : List It) (wd : Int) (ws : List Wy) (i : Nat) : Prop where
  head : ws[0]? = some ⟨0, 0, -1⟩
  line : ∀ (n : Nat) (w : Wy), ws[n]? = some w → 0 < n → ∃ (a : Nat) (v : Wy) (p : Int), w.a = (a : Int) ∧ a < n ∧ ws[a]? = some v ∧ 0 < w.f ∧ v.f ≤ w.f - 1 ∧ w.f - 1 ≤ l.length ∧ legP l (w.f - 1) = true ∧ canO l wd v.f (w.f - 1) = some p ∧ w.c = v.c + p
  le : ∀ (n : Nat) (w : Wy), ws[n]? = some w → w.f ≤ i ∧ n ≤ w.f
  inc : ∀ (n m : Nat) (v w : Wy), n < m → ws[n]? = some v → ws[m]? = some w → v.f < w.f
  cost : ∀ (n : Nat) (w : Wy), ws[n]? = some w → -300000000 * (n : Int) ≤ w.c ∧ w.c ≤ 300000000 * (n : Int)
  comp : ∀ j, j < i → j ≤ l.length → legP l j = true → ∀ (n : Nat) (w : Wy) (p : Int), ws[n]? = some w → w.f ≤ j → canO l wd w.f j = some p → ∃ (m : Nat) (v : Wy), ws[m]? = some v ∧ v.f = j + 1
  best : ∀ (n : Nat) (w : Wy) (es : List Nat) (c : Int), ws[n]? = some w → Chain l wd es w.f c → w.c ≤ c
/-- From which way on a line may still come. -/
structure FrOk (l : List It) (wd : Int) (ws : List Wy) (first i : Nat) : Prop where
  le : first ≤ ws.length
  out : ∀ (n : Nat) (w : Wy) (j : Nat), n < first → ws[n]? = some w → i ≤ j → j ≤ l.length → canO l wd w.f j = none
  may : ∀ (n : Nat) (w : Wy) (k : Nat), first ≤ n → ws[n]? = some w → w.f ≤ k → k < i → mustP l k = false
section
variable {l : List It} {wd : Int} {ws : List Wy} {first i : Nat}
theorem WsOk.start (l : List It) (wd : Int) : WsOk l wd [⟨0, 0, -1⟩] 0 := by
  refine ⟨rfl, fun n w h hn => ?_, fun n w h => ?_, fun n m v w hnm h1 h2 => ?_, fun n w h => ?_, fun j hj => absurd hj (by omega), fun n w es c h hc => ?_⟩
  · rw [List.getElem?_eq_none (by simp; omega)] at h; cases h
  · cases n with
    | zero => injection h with h; subst h; simp
    | succ n => simp at h
  · rw [List.getElem?_eq_none (by simp; omega)] at h2; cases h2
  · cases n with
    | zero => injection h with h; subst h; simp
    | succ n => simp at h
  · cases n with
    | zero =>
      injection h with h
      subst h
      rw [(hc.zero rfl).2]; exact Int.le_refl _
    | succ n => simp at h
theorem FrOk.start (l : List It) (wd : Int) : FrOk l wd [⟨0, 0, -1⟩] 0 0 := ⟨Nat.zero_le _, fun n w j h => absurd h (by omega), fun n w k _ _ _ h => absurd h (by omega)⟩
theorem WsOk.len (h : WsOk l wd ws i) : 1 ≤ ws.length ∧ ws.length ≤ i + 1 := by
  have h0 : 0 < ws.length := (List.getElem?_eq_some_iff.1 h.head).1
  refine ⟨h0, ?_⟩
  have := h.le (ws.length - 1) _ (List.getElem?_eq_getElem (by omega))
  omega
/-- No line may end at i. -/
theorem WsOk.skip (h : WsOk l wd ws i) (hi : legP l i = false) : WsOk l wd ws (i + 1) :=
  ⟨h.head, h.line, fun n w q => by have := h.le n w q; omega, h.inc, h.cost, fun j hj hl hleg => by
    by_cases e : j = i
    · rw [e, hi] at hleg; cases hleg
    · exact h.comp j (by omega) hl hleg, h.best⟩
theorem FrOk.skip (h : FrOk l wd ws first i) (hl : i ≤ l.length) (hi : legP l i = false) : FrOk l wd ws first (i + 1) :=
  ⟨h.le, fun n w j h1 h2 h3 h4 => h.out n w j h1 h2 (by omega) h4, fun n w k h1 h2 h3 h4 => by
    by_cases e : k = i
    · subst e
      cases q : mustP l k with
      | false => rfl
      | true => rw [must_leg hl q] at hi; cases hi
    · exact h.may n w k h1 h2 h3 (by omega)⟩
/-- The first of them is out. -/
theorem FrOk.drop (h : FrOk l wd ws first i) {w : Wy} (hw : ws[first]? = some w) (hf : w.f ≤ i) (hp : wd < lnP l i - lnP l (bxF l w.f) - spP l i) : FrOk l wd ws (first + 1) i :=
  ⟨(List.getElem?_eq_some_iff.1 hw).1, fun n v j h1 h2 h3 h4 => by
    by_cases e : n = first
    · subst e
      rw [hw] at h2
      injection h2 with h2
      subst h2
      exact past_none hf h3 h4 hp
    · exact h.out n v j (by omega) h2 h3 h4, fun n v k h1 h2 h3 h4 => h.may n v k (by omega) h2 h3 h4⟩
/-- Which of the ways from first on, up to number k, costs the least: none, or this one. -/
def Bst (l : List It) (wd : Int) (ws : List Wy) (first i k : Nat) (bc ba : Int) : Prop :=
  (ba = -1 ∧ bc = 0 ∧ ∀ (n : Nat) (w : Wy), first ≤ n → n < k → ws[n]? = some w → prc l wd w.f i = none) ∨
  (∃ (a : Nat) (v : Wy) (p : Int), ba = (a : Int) ∧ first ≤ a ∧ a < k ∧ ws[a]? = some v ∧ prc l wd v.f i = some p ∧ bc = v.c + p ∧ ∀ (n : Nat) (w : Wy) (q : Int), first ≤ n → n < k → ws[n]? = some w → prc l wd w.f i = some q → bc ≤ w.c + q)
theorem Bst.start (l : List It) (wd : Int) (ws : List Wy) (first i : Nat) : Bst l wd ws first i first 0 (-1) := .inl ⟨rfl, rfl, fun n w h1 h2 => by omega⟩
variable {k : Nat} {bc ba : Int} {w : Wy}
/-- The next one costs no less, or can't be. -/
theorem Bst.none (h : Bst l wd ws first i k bc ba) (hw : ws[k]? = some w) (hp : prc l wd w.f i = none) : Bst l wd ws first i (k + 1) bc ba := by
  rcases h with ⟨h1, h2, h3⟩ | ⟨a, v, p, h1, h2, h3, h4, h5, h6, h7⟩
  · refine .inl ⟨h1, h2, fun n v q1 q2 q3 => ?_⟩
    by_cases e : n = k
    · subst e; rw [hw] at q3; injection q3 with q3; subst q3; exact hp
    · exact h3 n v q1 (by omega) q3
  · refine .inr ⟨a, v, p, h1, h2, by omega, h4, h5, h6, fun n u q q1 q2 q3 q4 => ?_⟩
    by_cases e : n = k
    · subst e; rw [hw] at q3; injection q3 with q3; subst q3; rw [hp] at q4; cases q4
    · exact h7 n u q q1 (by omega) q3 q4
theorem Bst.more (h : Bst l wd ws first i k bc ba) (hb : 0 ≤ ba) (hw : ws[k]? = some w) (hp : ∀ q, prc l wd w.f i = some q → bc ≤ w.c + q) : Bst l wd ws first i (k + 1) bc ba := by
  rcases h with ⟨h1, h2, h3⟩ | ⟨a, v, p, h1, h2, h3, h4, h5, h6, h7⟩
  · omega
  · refine .inr ⟨a, v, p, h1, h2, by omega, h4, h5, h6, fun n u q q1 q2 q3 q4 => ?_⟩
    by_cases e : n = k
    · subst e; rw [hw] at q3; injection q3 with q3; subst q3; exact hp q q4
    · exact h7 n u q q1 (by omega) q3 q4
theorem Bst.less (h : Bst l wd ws first i k bc ba) (hk : first ≤ k) (hw : ws[k]? = some w) {p : Int} (hp : prc l wd w.f i = some p) (hc : ba < 0 ∨ w.c + p < bc) : Bst l wd ws first i (k + 1) (w.c + p) k := by
  refine .inr ⟨k, w, p, rfl, hk, by omega, hw, hp, rfl, fun n u q q1 q2 q3 q4 => ?_⟩
  by_cases e : n = k
  · subst e; rw [hw] at q3; injection q3 with q3; subst q3; rw [hp] at q4; injection q4 with q4; omega
  · rcases h with ⟨h1, h2, h3⟩ | ⟨a, v, p', h1, h2, h3, h4, h5, h6, h7⟩
    · rw [h3 n u q1 (by omega) q3] at q4; cases q4
    · have := h7 n u q q1 (by omega) q3 q4
      omega
/-- A place is done, which no way leads to. -/
theorem WsOk.lost (h : WsOk l wd ws i) (hF : FrOk l wd ws first i) (hi : i ≤ l.length) (hB : Bst l wd ws first i ws.length bc ba) (hb : ba < 0) : WsOk l wd ws (i + 1) := by
  rcases hB with ⟨h1, h2, h3⟩ | ⟨a, v, p, h1, _⟩
  · refine ⟨h.head, h.line, fun n w q => by have := h.le n w q; omega, h.inc, h.cost, fun j hj hl hleg n w p hw hf hc => ?_, h.best⟩
    by_cases e : j = i
    · subst e
      by_cases c : n < first
      · rw [hF.out n w j c hw (Nat.le_refl _) hi] at hc; cases hc
      · have hn := (List.getElem?_eq_some_iff.1 hw).1
        have e := (can_noM hc).2
        rw [h3 n w (by omega) hn hw] at e; cases e
    · exact h.comp j (by omega) hl hleg n w p hw hf hc
  · omega
end
end Go.Proofs.YtfnkokfkhjdkfaaDoor

/-
  Where lines end: a place that is done, and what is told at the end, as plain lists. No program in sight.
-/
namespace Go.Proofs.YtfnkokfkhjdkfaaDoor

theorem get_snoc {α : Type} {l : List α} {x w : α} {n : Nat} (h : (l ++ [x])[n]? = some w) : (n < l.length ∧ l[n]? = some w) ∨ (n = l.length ∧ w = x) := by
  by_cases c : n < l.length
  · rw [List.getElem?_append_left c] at h; exact .inl ⟨c, h⟩
  · have hn := (List.getElem?_eq_some_iff.1 h).1
    rw [List.length_append, List.length_singleton] at hn
    have e : n = l.length := by omega
    subst e
    rw [List.getElem?_append_right (Nat.le_refl _)] at h
    simp at h
    exact .inr ⟨rfl, h.symm⟩
theorem snoc_get {α : Type} {l : List α} {x w : α} {n : Nat} (h : l[n]? = some w) : (l ++ [x])[n]? = some w := by
  rw [List.getElem?_append_left (List.getElem?_eq_some_iff.1 h).1]; exact h
theorem snoc_last {α : Type} (l : List α) (x : α) : (l ++ [x])[l.length]? = some x := by simp
theorem WsOk.chained {l : List It} {wd : Int} {ws : List Wy} {i : Nat} (h : WsOk l wd ws i) {es : List Nat} {f : Nat} {c : Int} (hc : Chain l wd es f c) : f ≤ i → ∃ (n : Nat) (w : Wy), ws[n]? = some w ∧ w.f = f := by
  induction hc with
  | nil => intro _; exact ⟨0, _, h.head, rfl⟩
  | @snoc es f c e p h1 h2 h3 h4 h5 ih =>
    intro hi
    obtain ⟨n, w, hw, hf⟩ := ih (by omega)
    subst hf
    exact h.comp e (by omega) h3 h4 n w p hw h2 h5
section
variable {l : List It} {wd : Int} {ws : List Wy} {first i : Nat} {bc ba : Int}
theorem WsOk.found (h : WsOk l wd ws i) (hF : FrOk l wd ws first i) (hi : i ≤ l.length) (hg : legP l i = true) (hB : Bst l wd ws first i ws.length bc ba) (hb : 0 ≤ ba) : WsOk l wd (ws ++ [⟨i + 1, bc, ba⟩]) (i + 1) := by
  rcases hB with ⟨h1, _⟩ | ⟨a, v, p, h1, h2, h3, h4, h5, h6, h7⟩
  · omega
  · have hv := h.le a v h4
    have hcan : canO l wd v.f i = some p := by
      rw [can_yes (noM_iff.2 fun k k1 k2 => hF.may a v k h2 h4 k1 k2)]; exact h5
    refine ⟨snoc_get h.head, fun n w q hn => ?_, fun n w q => ?_, fun n m u w hnm q1 q2 => ?_, fun n w q => ?_, fun j hj hl hleg n w q hw hf hc => ?_, fun n w es c hw hc => ?_⟩
    · replace q := get_snoc q
      rcases q with ⟨c, q⟩ | ⟨c, q⟩
      · obtain ⟨a', v', p', e⟩ := h.line n w q hn
        exact ⟨a', v', p', e.1, e.2.1, snoc_get e.2.2.1, e.2.2.2⟩
      · subst c q
        exact ⟨a, v, p, h1, h3, snoc_get h4, Nat.succ_pos _, hv.1, hi, hg, hcan, h6⟩
    · replace q := get_snoc q
      rcases q with ⟨c, q⟩ | ⟨c, q⟩
      · have := h.le n w q; omega
      · subst c q
        have := h.len.2
        simp only
        omega
    · replace q2 := get_snoc q2
      rcases q2 with ⟨c, q2⟩ | ⟨c, q2⟩
      · replace q1 := get_snoc q1
        rcases q1 with ⟨d, q1⟩ | ⟨d, q1⟩
        · exact h.inc n m u w hnm q1 q2
        · omega
      · subst c q2
        replace q1 := get_snoc q1
        rcases q1 with ⟨d, q1⟩ | ⟨d, q1⟩
        · have := (h.le n u q1).1
          simp only
          omega
        · omega
    · replace q := get_snoc q
      rcases q with ⟨c, q⟩ | ⟨c, q⟩
      · exact h.cost n w q
      · subst c q
        have h8 := h.cost a v h4
        have h9 := (can_bd hcan).1
        simp only
        omega
    · by_cases e : j = i
      · subst e
        exact ⟨ws.length, _, snoc_last _ _, rfl⟩
      · replace hw := get_snoc hw
        rcases hw with ⟨c, hw⟩ | ⟨c, hw⟩
        · obtain ⟨m, u, e1, e2⟩ := h.comp j (by omega) hl hleg n w q hw hf hc
          exact ⟨m, u, snoc_get e1, e2⟩
        · subst c hw
          simp only at hf
          omega
    · replace hw := get_snoc hw
      rcases hw with ⟨c, hw⟩ | ⟨c, hw⟩
      · exact h.best n w es _ hw hc
      · subst hw
        simp only at hc ⊢
        rcases hc.inv with ⟨_, e2, _⟩ | ⟨es', e, f', c', q, e1, e2, e3, e4, e5, e6, e7, e8⟩
        · omega
        · have e9 : e = i := by omega
          subst e9
          obtain ⟨m, u, hu, hf⟩ := h.chained e4 (by omega)
          subst hf
          have hb2 := h.best m u es' c' hu e4
          have hm : first ≤ m := by
            rcases Nat.lt_or_ge m first with z | z
            · rw [hF.out m u e z hu (Nat.le_refl _) hi] at e8; cases e8
            · exact z
          have := h7 m u q hm (List.getElem?_eq_some_iff.1 hu).1 hu (can_noM e8).2
          omega
theorem FrOk.must (hF : WsOk l wd ws i) (hm : mustP l i = true) : FrOk l wd ws ws.length (i + 1) :=
  ⟨Nat.le_refl _, fun n w j _ h2 h3 _ => can_no (noM_not (k := i) (hF.le n w h2).1 (by omega) hm), fun n w k h1 h2 => by
    have := (List.getElem?_eq_some_iff.1 h2).1; omega⟩
theorem FrOk.mustF (hF : WsOk l wd ws i) (hm : mustP l i = true) : FrOk l wd (ws ++ [⟨i + 1, bc, ba⟩]) ws.length (i + 1) :=
  ⟨by simp, fun n w j h1 h2 h3 _ => by
    replace h2 := get_snoc h2
    rcases h2 with ⟨c, h2⟩ | ⟨c, h2⟩
    · exact can_no (noM_not (k := i) (hF.le n w h2).1 (by omega) hm)
    · omega, fun n w k h1 h2 h3 h4 => by
    replace h2 := get_snoc h2
    rcases h2 with ⟨c, h2⟩ | ⟨c, h2⟩
    · omega
    · subst h2; simp only at h3; omega⟩
theorem FrOk.free (hF : FrOk l wd ws first i) (hm : mustP l i = false) : FrOk l wd ws first (i + 1) :=
  ⟨hF.le, fun n w j h1 h2 h3 h4 => hF.out n w j h1 h2 (by omega) h4, fun n w k h1 h2 h3 h4 => by
    by_cases e : k = i
    · rw [e]; exact hm
    · exact hF.may n w k h1 h2 h3 (by omega)⟩
theorem FrOk.freeF (hF : FrOk l wd ws first i) (hm : mustP l i = false) : FrOk l wd (ws ++ [⟨i + 1, bc, ba⟩]) first (i + 1) :=
  ⟨by rw [List.length_append]; have := hF.le; omega, fun n w j h1 h2 h3 h4 => by
    replace h2 := get_snoc h2
    rcases h2 with ⟨c, h2⟩ | ⟨c, h2⟩
    · exact hF.out n w j h1 h2 (by omega) h4
    · have := hF.le; omega, fun n w k h1 h2 h3 h4 => by
    replace h2 := get_snoc h2
    rcases h2 with ⟨c, h2⟩ | ⟨c, h2⟩
    · exact hF.free hm |>.may n w k h1 h2 h3 h4
    · subst h2; simp only at h3; omega⟩
/-- From a way back to the first: where its lines end, the last one first. -/
inductive Lnk (ws : List Wy) : Nat → List Nat → Prop
  | zero : Lnk ws 0 []
  | step {n a : Nat} {w : Wy} {rs : List Nat} : ws[n]? = some w → 0 < n → w.a = (a : Int) → a < n → 0 < w.f → Lnk ws a rs → Lnk ws n ((w.f - 1) :: rs)
theorem WsOk.chain (h : WsOk l wd ws i) : ∀ (n : Nat) (w : Wy), ws[n]? = some w → ∃ rs, Lnk ws n rs ∧ Chain l wd rs.reverse w.f w.c := by
  intro n
  induction n using Nat.strongRecOn with
  | _ n ih =>
    intro w hw
    rcases Nat.eq_zero_or_pos n with rfl | hn
    · rw [h.head] at hw
      injection hw with hw
      subst hw
      exact ⟨[], .zero, .nil⟩
    · obtain ⟨a, v, p, e1, e2, e3, e4, e5, e6, e7, e8, e9⟩ := h.line n w hw hn
      obtain ⟨rs, r1, r2⟩ := ih a e2 v e3
      refine ⟨(w.f - 1) :: rs, .step hw hn e1 e2 e4 r1, ?_⟩
      have := Chain.snoc (w.f - 1) p r2 e5 e6 e7 e8
      rw [← e9, show w.f - 1 + 1 = w.f by omega] at this
      rw [List.reverse_cons]
      exact this
end
/-- What Breaks tells. -/
def BrkOk (l : List It) (wd : Int) (es : List Nat) (ok : Bool) : Prop :=
  (ok = true ∧ ∃ c, Chain l wd es (l.length + 1) c ∧ ∀ es' c', Chain l wd es' (l.length + 1) c' → c ≤ c') ∨
  (ok = false ∧ es = [] ∧ ∀ es' c', ¬ Chain l wd es' (l.length + 1) c')
theorem BrkOk.no {l : List It} {wd : Int} {ws : List Wy} {w : Wy} (h : WsOk l wd ws (l.length + 1)) (hw : ws[ws.length - 1]? = some w) (hf : w.f ≠ l.length + 1) : BrkOk l wd [] false := by
  refine .inr ⟨rfl, rfl, fun es' c' hc => ?_⟩
  obtain ⟨n, v, hv, e⟩ := h.chained hc (Nat.le_refl _)
  have hn := (List.getElem?_eq_some_iff.1 hv).1
  by_cases c : n = ws.length - 1
  · subst c; rw [hw] at hv; injection hv with hv; subst hv; exact hf e
  · have := h.inc n _ v w (by omega) hv hw
    have := (h.le _ w hw).1
    omega
theorem BrkOk.yes {l : List It} {wd : Int} {ws : List Wy} {w : Wy} {rs : List Nat} (h : WsOk l wd ws (l.length + 1)) (hw : ws[ws.length - 1]? = some w) (hf : w.f = l.length + 1) (_hn : 0 < ws.length - 1) (hc : Chain l wd rs.reverse w.f w.c) : BrkOk l wd rs.reverse true :=
  .inl ⟨rfl, w.c, by rw [← hf]; exact hc, fun es' c' hc' => h.best _ w es' c' hw (by rw [hf]; exact hc')⟩
/-- If a line may be all of it, there is an answer, which costs no more. -/
theorem one_chain {l : List It} {wd : Int} {p : Int} (h : canO l wd 0 l.length = some p) : Chain l wd [l.length] (l.length + 1) p := by
  have := Chain.snoc l.length p (Chain.nil (l := l) (wd := wd)) (Nat.zero_le _) (Nat.le_refl _) (leg_end l) h
  rwa [Int.zero_add, List.nil_append] at this
end Go.Proofs.YtfnkokfkhjdkfaaDoor

/-
  Where the runs of a line stand, as plain numbers. No program in sight.
-/
namespace Go.Proofs.YtfnkokfkhjdkfaaDoor

/-- a times b by c, rounded down; 0, if c isn't above 0. -/
def sclP (a b c : Int) : Int := if 0 < c then a * b / c else 0
theorem scl_zero (a c : Int) : sclP a 0 c = 0 := by unfold sclP; split <;> simp
theorem scl_full {a c : Int} (h : 0 < c) : sclP a c c = a := by
  unfold sclP
  rw [if_pos h]
  exact Int.mul_ediv_cancel a (by omega)
theorem scl_mono {a b b' c : Int} (ha : 0 ≤ a) (hb : b ≤ b') : sclP a b c ≤ sclP a b' c := by
  unfold sclP
  split
  · rename_i h
    exact Int.ediv_le_ediv h (Int.mul_le_mul_of_nonneg_left hb ha)
  · exact Int.le_refl _
theorem scl_step {a b b' c : Int} (_ha : 0 ≤ a) (hc : a ≤ c) (hb : b ≤ b') : sclP a b' c - sclP a b c ≤ b' - b := by
  unfold sclP
  split
  · rename_i h
    have h1 : a * b' ≤ a * b + (b' - b) * c := by
      have h2 : a * (b' - b) ≤ c * (b' - b) := Int.mul_le_mul_of_nonneg_right hc (by omega)
      rw [Int.mul_sub] at h2
      rw [Int.mul_comm (b' - b) c]
      omega
    have h3 := Int.ediv_le_ediv h h1
    rw [Int.add_mul_ediv_right _ _ (by omega)] at h3
    omega
  · omega
theorem scl_rest {a b c : Int} (ha : 0 ≤ a) (hc : a ≤ c) (hb : b ≤ c) : a - sclP a b c ≤ c - b := by
  by_cases h : 0 < c
  · have := scl_step ha hc hb
    rw [scl_full h] at this
    exact this
  · unfold sclP
    rw [if_neg h]
    omega
theorem scl_nn {a b c : Int} (ha : 0 ≤ a) (hb : 0 ≤ b) : 0 ≤ sclP a b c := by
  have := scl_mono (c := c) ha hb
  rw [scl_zero] at this
  exact this
theorem scl_le {a b c : Int} (ha : 0 ≤ a) (hb : b ≤ c) : sclP a b c ≤ a := by
  by_cases h : 0 < c
  · have := scl_mono (c := c) ha hb
    rw [scl_full h] at this
    exact this
  · unfold sclP
    rw [if_neg h]
    exact ha

/-- How far a box is moved that has m ahead of it, in a line that is t. -/
def movP (m t : Me) (ex : Int) (last : Bool) : Int :=
  if 0 < ex then (if last = true then 0 else sclP ex m.g t.g) else if ex < 0 then - sclP (-ex) m.s t.s else 0
/-- Where the item at k of a line begins. -/
def posP (l : List It) (wd x : Int) (a b : Nat) (last : Bool) (k : Nat) : Int :=
  x + (meSub (preM l k) (preM l (min (bxF l a) b))).w + movP (meSub (preM l k) (preM l (min (bxF l a) b))) (btw l a b) (wd - (btw l a b).w) last

/-- An item as makers tell it. -/
structure PlIt (x : It) : Prop where
  kind : x.kind = 1 ∨ x.kind = 2 ∨ x.kind = 3
  box : x.kind = 1 → 0 ≤ x.width ∧ x.grow = 0 ∧ x.shrink = 0
  glue : x.kind = 2 → 3 ≤ x.width ∧ 1 ≤ x.grow ∧ 0 ≤ x.shrink ∧ x.shrink < x.width ∧ x.grow ≤ x.width
  pen : x.kind = 3 → x.width = 0 ∧ x.grow = 0 ∧ x.shrink = 0

section
variable {l : List It} {wd x p : Int} {a b k : Nat} {last : Bool}
theorem pre_box (hk : k < l.length) (h1 : l[k].kind = 1) (hp : PlIt l[k]) : (preM l (k + 1)).w = (preM l k).w + l[k].width ∧ (preM l (k + 1)).g = (preM l k).g ∧ (preM l (k + 1)).s = (preM l k).s := by
  obtain ⟨_, hg, hs⟩ := hp.box h1
  rw [preM_next hk]
  unfold meAdd
  rw [if_neg (by omega)]
  exact ⟨rfl, by show _ + _ = _; omega, by show _ + _ = _; omega⟩
theorem pre_pen (hk : k < l.length) (h3 : l[k].kind = 3) : preM l (k + 1) = preM l k := by
  rw [preM_next hk]
  unfold meAdd
  rw [if_pos h3]
theorem pre_glue (hk : k < l.length) (h2 : l[k].kind = 2) : (preM l (k + 1)).w = (preM l k).w + l[k].width ∧ (preM l (k + 1)).g = (preM l k).g + l[k].grow ∧ (preM l (k + 1)).s = (preM l k).s + l[k].shrink := by
  rw [preM_next hk]
  unfold meAdd
  rw [if_neg (by omega)]
  exact ⟨rfl, rfl, rfl⟩
theorem pre_step (h : ∀ x ∈ l, PlIt x) (hk : k < l.length) : (preM l k).w ≤ (preM l (k + 1)).w ∧ (preM l k).g ≤ (preM l (k + 1)).g ∧ (preM l k).s ≤ (preM l (k + 1)).s ∧ (preM l k).w - (preM l k).s ≤ (preM l (k + 1)).w - (preM l (k + 1)).s := by
  have hp := h l[k] (List.getElem_mem hk)
  rcases hp.kind with h1 | h2 | h3
  · have := pre_box hk h1 hp
    have := hp.box h1
    omega
  · have := pre_glue hk h2
    have := hp.glue h2
    omega
  · rw [pre_pen hk h3]
    omega
theorem pre_mono (h : ∀ x ∈ l, PlIt x) {i : Nat} : ∀ {j : Nat}, i ≤ j → j ≤ l.length → (preM l i).w ≤ (preM l j).w ∧ (preM l i).g ≤ (preM l j).g ∧ (preM l i).s ≤ (preM l j).s ∧ (preM l i).w - (preM l i).s ≤ (preM l j).w - (preM l j).s
  | 0, h1, _ => by
    have : i = 0 := by omega
    subst this
    omega
  | j + 1, h1, h2 => by
    by_cases e : i = j + 1
    · subst e
      omega
    · have := pre_mono h (i := i) (j := j) (by omega) (by omega)
      have := pre_step h (k := j) (by omega)
      omega
theorem btw_line (ha : a < l.length) (hb : a < b) (h1 : l[a].kind = 1) : btw l a b = meSub (preM l b) (preM l a) := by
  unfold btw
  rw [bxF_box ha h1, Nat.min_eq_left (by omega)]
theorem pos_line (ha : a < l.length) (hb : a < b) (h1 : l[a].kind = 1) : posP l wd x a b last k = x + ((preM l k).w - (preM l a).w) + movP (meSub (preM l k) (preM l a)) (meSub (preM l b) (preM l a)) (wd - ((preM l b).w - (preM l a).w)) last := by
  unfold posP
  rw [btw_line ha hb h1, bxF_box ha h1, Nat.min_eq_left (by omega)]
  rfl
/-- A line that can be has room. -/
theorem can_room (ha : a < l.length) (hb : a < b) (h1 : l[a].kind = 1) (hc : canO l wd a b = some p) : (preM l b).w - (preM l a).w ≤ wd ∨ (preM l b).w - (preM l a).w - wd ≤ (preM l b).s - (preM l a).s := by
  have h2 := (can_noM hc).2
  unfold prc at h2
  rw [btw_line ha hb h1] at h2
  rcases prcM_fits h2 with h3 | h3
  · exact .inl h3
  · right
    have h3 : (preM l b).w - (preM l a).w - ((preM l b).s - (preM l a).s) ≤ wd := h3
    omega
/-- No run is outside. -/
theorem pos_in (h : ∀ x ∈ l, PlIt x) (ha : a < l.length) (hb : b ≤ l.length) (h1 : l[a].kind = 1) (hc : canO l wd a b = some p) (hk : a ≤ k) (hkb : k < b) (hkl : k < l.length) (hk1 : l[k].kind = 1) :
    x ≤ posP l wd x a b last k ∧ posP l wd x a b last k + l[k].width ≤ x + wd := by
  rw [pos_line ha (by omega) h1]
  have hr := can_room ha (by omega) h1 hc
  have m1 := pre_mono h hk (by omega)
  have m2 := pre_mono h (i := k + 1) (j := b) (by omega) hb
  have hx := pre_box hkl hk1 (h _ (List.getElem_mem hkl))
  have hw := (h _ (List.getElem_mem hkl)).box hk1
  unfold movP
  show _ ∧ _
  split
  · rename_i he
    split
    · omega
    · have s1 := scl_nn (a := wd - ((preM l b).w - (preM l a).w)) (b := (meSub (preM l k) (preM l a)).g) (c := (meSub (preM l b) (preM l a)).g) (by omega) (by show 0 ≤ (preM l k).g - (preM l a).g; omega)
      have s2 := scl_le (a := wd - ((preM l b).w - (preM l a).w)) (b := (meSub (preM l k) (preM l a)).g) (c := (meSub (preM l b) (preM l a)).g) (by omega) (by show (preM l k).g - (preM l a).g ≤ (preM l b).g - (preM l a).g; omega)
      omega
  · split
    · have s1 := scl_step (a := -(wd - ((preM l b).w - (preM l a).w))) (b := 0) (b' := (preM l k).s - (preM l a).s) (c := (preM l b).s - (preM l a).s) (by omega) (by omega) (by omega)
      have s2 := scl_rest (a := -(wd - ((preM l b).w - (preM l a).w))) (b := (preM l k).s - (preM l a).s) (c := (preM l b).s - (preM l a).s) (by omega) (by omega) (by omega)
      rw [scl_zero] at s1
      show x ≤ x + ((preM l k).w - (preM l a).w) + -sclP _ ((preM l k).s - (preM l a).s) ((preM l b).s - (preM l a).s) ∧ x + ((preM l k).w - (preM l a).w) + -sclP _ ((preM l k).s - (preM l a).s) ((preM l b).s - (preM l a).s) + _ ≤ _
      omega
    · omega
/-- Behind a box the next item begins where it ends. -/
theorem pos_box (h : ∀ x ∈ l, PlIt x) (ha : a < l.length) (hb : a < b) (h1 : l[a].kind = 1) (hkl : k < l.length) (hk1 : l[k].kind = 1) : posP l wd x a b last (k + 1) = posP l wd x a b last k + l[k].width := by
  rw [pos_line ha hb h1, pos_line ha hb h1]
  obtain ⟨e1, e2, e3⟩ := pre_box hkl hk1 (h _ (List.getElem_mem hkl))
  unfold movP meSub
  simp only
  rw [e1, e2, e3]
  omega
theorem pos_pen (ha : a < l.length) (hb : a < b) (h1 : l[a].kind = 1) (hkl : k < l.length) (hk3 : l[k].kind = 3) : posP l wd x a b last (k + 1) = posP l wd x a b last k := by
  rw [pos_line ha hb h1, pos_line ha hb h1, pre_pen hkl hk3]
/-- Behind a glue there is a gap. -/
theorem pos_glue (h : ∀ x ∈ l, PlIt x) (ha : a < l.length) (hb : b ≤ l.length) (h1 : l[a].kind = 1) (hc : canO l wd a b = some p) (hk : a ≤ k) (hkb : k < b) (hkl : k < l.length) (hk2 : l[k].kind = 2) :
    posP l wd x a b last k < posP l wd x a b last (k + 1) := by
  rw [pos_line ha (by omega) h1, pos_line ha (by omega) h1]
  have hr := can_room ha (by omega) h1 hc
  have m1 := pre_mono h hk (by omega)
  have m2 := pre_mono h (i := k + 1) (j := b) (by omega) hb
  have hx := pre_glue hkl hk2
  have hw := (h _ (List.getElem_mem hkl)).glue hk2
  unfold movP meSub
  simp only
  split
  · split
    · omega
    · have s1 := scl_mono (a := wd - ((preM l b).w - (preM l a).w)) (b := (preM l k).g - (preM l a).g) (b' := (preM l (k + 1)).g - (preM l a).g) (c := (preM l b).g - (preM l a).g) (by omega) (by omega)
      omega
  · split
    · have s1 := scl_step (a := -(wd - ((preM l b).w - (preM l a).w))) (b := (preM l k).s - (preM l a).s) (b' := (preM l (k + 1)).s - (preM l a).s) (c := (preM l b).s - (preM l a).s) (by omega) (by omega) (by omega)
      omega
    · omega
/-- A line with a glue, that isn't a last one, is as wide as there is room. -/
theorem pos_full (h : ∀ x ∈ l, PlIt x) (ha : a < l.length) (hb : b ≤ l.length) (hab : a < b) (h1 : l[a].kind = 1) (hc : canO l wd a b = some p) (hk : a ≤ k) (hkb : k < b) (hkl : k < l.length) (hk2 : l[k].kind = 2) :
    posP l wd x a b false b = x + wd := by
  rw [pos_line ha (by omega) h1]
  have hr := can_room ha (by omega) h1 hc
  have m1 := pre_mono h hk (by omega)
  have m2 := pre_mono h (i := k + 1) (j := b) (by omega) hb
  have hx := pre_glue hkl hk2
  have hw := (h _ (List.getElem_mem hkl)).glue hk2
  unfold movP meSub
  simp only
  split
  · rw [if_neg (by decide), scl_full (by omega)]
    omega
  · split
    · rw [scl_full (by omega)]
      omega
    · omega
end
end Go.Proofs.YtfnkokfkhjdkfaaDoor

/-
  The document's items are Make's.
-/
namespace Go.Proofs.YtfnkokfkhjdkfaaDoor
open Go Go.Lib

mutual
theorem nx_spn (sz : Int) : ∀ (x : St) (s : Sty) (p : List It × Int), p.2 ≤ (spnP sz x s p).2
  | .mk k t _ _ ks, s, p => by
    rw [spnP]
    repeat' split
    all_goals first
      | exact Int.le_refl _
      | exact nx_spns sz ks _ _
      | exact Int.le_trans (show p.2 ≤ p.2 + 1 by omega) (nx_spns sz ks _ (p.1, p.2 + 1))
theorem nx_spns (sz : Int) : ∀ (l : List St) (s : Sty) (p : List It × Int), p.2 ≤ (spnsP sz l s p).2
  | [], s, p => by rw [spnsP]; exact Int.le_refl _
  | x :: l, s, p => by
    rw [spnsP]
    exact Int.le_trans (nx_spn sz x s p) (nx_spns sz l s _)
end
mutual
theorem rS_eq (sz : Int) : ∀ (x : St) (f lk : Int) (p : List It × Int), 0 ≤ lk → 0 ≤ p.2 → Pre p.1 → rS sz x f lk p = spnP sz x ⟨f, lk, false⟩ p
  | .mk k t _ _ ks, f, lk, p, h0, h1, hp => by
    have e0 : max (0 : Int) lk = lk := by omega
    have a5 := rL_eq sz ks (slF f) lk p h0 h1 hp
    have a6 := rL_eq sz ks (bdF f) lk p h0 h1 hp
    have a7 := rL_eq sz ks f p.2 (p.1, p.2 + 1) h1 (by simp only; omega) hp
    have a8 : (if 0 < lk then (relL p.1.length lk (rL sz ks f (-1) p).1, (rL sz ks f (-1) p).2) else rL sz ks f (-1) p) = spnsP sz ks ⟨f, lk, true⟩ p := by
      rw [rL_img]
      split
      · rw [rel_image sz lk f ks p hp]
      · have : lk = 0 := by omega
        subst this
        rfl
    rw [rS, spnP, e0, a5, a6, a7, a8, if_neg (by omega : ¬ lk < 0)]
    simp [glue_img sz f 0 lk false false]
theorem rL_eq (sz : Int) : ∀ (l : List St) (f lk : Int) (p : List It × Int), 0 ≤ lk → 0 ≤ p.2 → Pre p.1 → rL sz l f lk p = spnsP sz l ⟨f, lk, false⟩ p
  | [], f, lk, p, _, _, _ => by rw [rL, spnsP]
  | x :: l, f, lk, p, h0, h1, hp => by
    rw [rL, spnsP, rS_eq sz x f lk p h0 h1 hp]
    exact rL_eq sz l f lk _ h0 (Int.le_trans h1 (nx_spn sz x _ p)) (spn_pre sz x _ p hp).1
end
/-- What the document's Make tells. -/
def makeR (l : List St) (f sz link : Int) : List It × Int := (dropG (rL sz l f 0 ([], link)).1, (rL sz l f 0 ([], link)).2)
theorem make_same (l : List St) (f sz link : Int) (h : 0 ≤ link) : makeR l f sz link = makeL l f sz link := by
  unfold makeR makeL
  rw [rL_eq sz l f 0 ([], link) (Int.le_refl _) h (fun e => by cases e)]
end Go.Proofs.YtfnkokfkhjdkfaaDoor

