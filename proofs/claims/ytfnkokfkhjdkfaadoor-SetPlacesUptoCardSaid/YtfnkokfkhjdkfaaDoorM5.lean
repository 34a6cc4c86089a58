/-
  Texts of the proof, one behind the other: Spb, Spf, Spe.
-/
import Derived.Test.YtfnkokfkhjdkfaaDoorM4
/-
  Items of which no two that are no box stand side by side: how lines part them. No program in sight.
-/
namespace Go.Proofs.YtfnkokfkhjdkfaaDoor

structure Alt (l : List It) : Prop where
  pl : ∀ x ∈ l, PlIt x
  back : ∀ i (h : i < l.length), l[i].kind ≠ 1 → 0 < i ∧ ∃ y, l[i - 1]? = some y ∧ y.kind = 1
  last : ∀ h : 0 < l.length, (l[l.length - 1]).kind = 1 ∨ ((l[l.length - 1]).kind = 3 ∧ (l[l.length - 1]).cost ≤ -10000)
  pen : ∀ x ∈ l, x.kind = 3 → x.cost < 10000
section
variable {l : List It} {wd x p : Int} {a b i e f : Nat}
theorem Alt.leg (h : Alt l) (hi : i < l.length) (hk : l[i].kind ≠ 1) : legP l i = true := by
  obtain ⟨h0, y, hy, ky⟩ := h.back i hi hk
  have hm := List.getElem_mem hi
  rcases (h.pl _ hm).kind with h1 | h2 | h3
  · exact absurd h1 hk
  · obtain ⟨j, rfl⟩ : ∃ j, i = j + 1 := ⟨i - 1, by omega⟩
    rw [leg_glue hi h2]
    rw [Nat.add_sub_cancel] at hy
    obtain ⟨hj, ej⟩ := List.getElem?_eq_some_iff.1 hy
    rw [ej, ky]
    rfl
  · rw [leg_pen hi h3]
    exact decide_eq_true (h.pen _ hm h3)
theorem leg_not (hi : i < l.length) (hg : legP l i = true) : l[i].kind ≠ 1 := fun hk => by
  rw [leg_else hi (by omega) (by omega)] at hg
  cases hg
/-- A line begins with a box, or at the end. -/
theorem Alt.from_ (h : Alt l) (ha : a = 0 ∨ ∃ hj : a - 1 < l.length, 0 < a ∧ (l[a - 1]).kind ≠ 1) : a = l.length ∨ ∃ hj : a < l.length, l[a].kind = 1 := by
  by_cases c : a = l.length
  · exact .inl c
  right
  rcases ha with rfl | ⟨hj, h0, hk⟩
  · refine ⟨by omega, ?_⟩
    by_cases hk : (l[0]'(by omega)).kind = 1
    · exact hk
    · exact absurd (h.back 0 (by omega) hk).1 (by omega)
  · refine ⟨by omega, ?_⟩
    by_cases hk2 : (l[a]'(by omega)).kind = 1
    · exact hk2
    · obtain ⟨_, y, hy, ky⟩ := h.back a (by omega) hk2
      obtain ⟨_, ey⟩ := List.getElem?_eq_some_iff.1 hy
      rw [ey] at hk
      exact absurd ky hk
/-- A line ends behind a box. -/
theorem Alt.to_ (h : Alt l) (he : e ≤ l.length) (h0 : f < e) (hg : legP l e = true) (hp : canO l wd f e = some p) : ∃ hj : e - 1 < l.length, (l[e - 1]).kind = 1 := by
  refine ⟨by omega, ?_⟩
  by_cases c : e = l.length
  · subst c
    rcases h.last (by omega) with h1 | ⟨h3, h4⟩
    · exact h1
    · have := noM_iff.1 (can_noM hp).1 (l.length - 1) (by omega) (by omega)
      rw [must_pen (by omega) h3] at this
      exact absurd h4 (of_decide_eq_false this)
  · obtain ⟨_, y, hy, ky⟩ := h.back e (by omega) (leg_not (by omega) hg)
    obtain ⟨_, ey⟩ := List.getElem?_eq_some_iff.1 hy
    rw [ey]
    exact ky
/-- What a line is. -/
structure LnAt (l : List It) (wd : Int) (a b : Nat) : Prop where
  lt : a < b
  le : b ≤ l.length
  one : ∃ h : a < l.length, l[a].kind = 1
  two : ∃ h : b - 1 < l.length, (l[b - 1]).kind = 1
  leg : legP l b = true
  can : ∃ p, canO l wd a b = some p
theorem Chain.fromOk {es : List Nat} {c : Int} (hc : Chain l wd es f c) (hf : f ≤ l.length) : f = 0 ∨ ∃ hj : f - 1 < l.length, 0 < f ∧ (l[f - 1]).kind ≠ 1 := by
  rcases hc.inv with ⟨_, rfl, _⟩ | ⟨es', e, f', c', p, _, rfl, _, _, _, he, hg, _⟩
  · exact .inl rfl
  · refine .inr ⟨by omega, by omega, ?_⟩
    exact leg_not (by omega) hg
theorem Alt.line (h : Alt l) {es : List Nat} {c : Int} (hc : Chain l wd es f c) (hf : f ≤ e) (he : e ≤ l.length) (hg : legP l e = true) (hp : canO l wd f e = some p) : (f = e ∧ e = l.length) ∨ LnAt l wd f e := by
  rcases h.from_ (hc.fromOk (by omega)) with h0 | ⟨h1, h2⟩
  · exact .inl ⟨by omega, by omega⟩
  right
  have hlt : f < e := by
    by_cases c0 : f = e
    · subst c0
      exact absurd h2 (leg_not h1 hg)
    · omega
  exact ⟨hlt, he, ⟨h1, h2⟩, h.to_ he hlt hg hp, hg, p, hp⟩
theorem can_boxes (hw : 0 ≤ wd) (hf : f ≤ i) (hi : i ≤ l.length) (hb : ∀ k (hk : k < i), f ≤ k → (l[k]'(by omega)).kind = 1) (hn : (preM l i).w - (preM l f).w ≤ wd) : ∃ p, canO l wd f i = some p := by
  have h1 : noM l f i = true := noM_iff.2 fun k hk hki => must_else (by omega) (by rw [hb k hki hk]; decide)
  rw [can_yes h1]
  unfold prc prcM
  have h2 : (btw l f i).w ≤ wd := by
    unfold btw
    by_cases c : f < i
    · rw [bxF_box (by omega) (hb f c (Nat.le_refl _)), Nat.min_eq_left (by omega)]
      exact hn
    · have := bxF_ge l f
      rw [Nat.min_eq_right (by omega)]
      show (preM l i).w - (preM l i).w ≤ wd
      omega
  rw [if_neg (by omega)]
  split <;> exact ⟨_, rfl⟩
/-- Boxes that stand side by side have room: so there is a way. -/
theorem Alt.way (h : Alt l) (hw : 0 ≤ wd) (hn : ∀ f i, f ≤ i → (hi : i ≤ l.length) → (∀ k (hk : k < i), f ≤ k → (l[k]'(by omega)).kind = 1) → (f = 0 ∨ ∃ hj : f - 1 < l.length, 0 < f ∧ (l[f - 1]).kind ≠ 1) → (preM l i).w - (preM l f).w ≤ wd) :
    ∃ es c, Chain l wd es (l.length + 1) c := by
  have key : ∀ i, (hi : i ≤ l.length) → ∃ (es : List Nat) (f : Nat) (c : Int), Chain l wd es f c ∧ f ≤ i ∧ ∀ k (hk : k < i), f ≤ k → (l[k]'(by omega)).kind = 1 := by
    intro i
    induction i with
    | zero => exact fun _ => ⟨[], 0, 0, .nil, Nat.le_refl _, fun k hk => absurd hk (by omega)⟩
    | succ i ih =>
      intro hi
      obtain ⟨es, f, c, hc, hf, hb⟩ := ih (by omega)
      by_cases hk : (l[i]'(by omega)).kind = 1
      · refine ⟨es, f, c, hc, by omega, fun k hk' hfk => ?_⟩
        by_cases e : k = i
        · subst e
          exact hk
        · exact hb k (by omega) hfk
      · obtain ⟨p, hp⟩ := can_boxes hw hf (by omega) hb (hn f i hf (by omega) hb (hc.fromOk (by omega)))
        exact ⟨es ++ [i], i + 1, c + p, .snoc i p hc hf (by omega) (h.leg (by omega) hk) hp, Nat.le_refl _, fun k hk' hfk => absurd hk' (by omega)⟩
  obtain ⟨es, f, c, hc, hf, hb⟩ := key l.length (Nat.le_refl _)
  obtain ⟨p, hp⟩ := can_boxes hw hf (Nat.le_refl _) hb (hn f _ hf (Nat.le_refl _) hb (hc.fromOk hf))
  exact ⟨es ++ [l.length], c + p, .snoc _ p hc hf (Nat.le_refl _) (leg_end l) hp⟩
end
end Go.Proofs.YtfnkokfkhjdkfaaDoor

/-
  The runs of a line, as a plain list: where there are gaps, and where there are none. No program in sight.
-/
namespace Go.Proofs.YtfnkokfkhjdkfaaDoor

structure Rn where
  x : Int
  y : Int
  width : Int
  font : Int
  size : Int
  codes : List UInt8
  link : Int
def rnOf (y : It) (at_ : Int) : Rn := ⟨at_, 0, y.width, y.font, y.size, y.codes, y.link⟩
/-- The runs of a line's boxes ahead of k. -/
def rnTo (l : List It) (wd x : Int) (a b : Nat) (last : Bool) : Nat → List Rn
  | 0 => []
  | k + 1 => match l[k]? with
    | some y => if a ≤ k ∧ y.kind = 1 then rnTo l wd x a b last k ++ [rnOf y (posP l wd x a b last k)] else rnTo l wd x a b last k
    | none => rnTo l wd x a b last k
section
variable {l : List It} {wd x : Int} {a b k : Nat} {last : Bool}
theorem rn_box (hk : k < l.length) (ha : a ≤ k) (h1 : l[k].kind = 1) : rnTo l wd x a b last (k + 1) = rnTo l wd x a b last k ++ [rnOf l[k] (posP l wd x a b last k)] := by
  rw [rnTo, List.getElem?_eq_getElem hk]
  simp only
  rw [if_pos ⟨ha, h1⟩]
theorem rn_oth (hk : k < l.length) (h1 : ¬ (a ≤ k ∧ l[k].kind = 1)) : rnTo l wd x a b last (k + 1) = rnTo l wd x a b last k := by
  rw [rnTo, List.getElem?_eq_getElem hk]
  simp only
  rw [if_neg h1]
theorem rn_low : ∀ {k : Nat}, k ≤ a → rnTo l wd x a b last k = []
  | 0, _ => rfl
  | k + 1, h => by
    rw [rnTo]
    split
    · rw [if_neg (by omega)]
      exact rn_low (by omega)
    · exact rn_low (by omega)
theorem rn_pre {i : Nat} : ∀ {j : Nat}, i ≤ j → ∃ r, rnTo l wd x a b last j = rnTo l wd x a b last i ++ r
  | 0, h => by
    obtain rfl : i = 0 := by omega
    exact ⟨[], by simp⟩
  | j + 1, h => by
    by_cases e : i = j + 1
    · subst e
      exact ⟨[], by simp⟩
    · obtain ⟨r, hr⟩ := rn_pre (i := i) (j := j) (by omega)
      rw [rnTo]
      split
      · split
        · exact ⟨r ++ [_], by rw [hr, List.append_assoc]⟩
        · exact ⟨r, hr⟩
      · exact ⟨r, hr⟩
theorem rn_at {j : Nat} (hk : k < l.length) (ha : a ≤ k) (hj : k < j) (h1 : l[k].kind = 1) : (rnTo l wd x a b last j)[(rnTo l wd x a b last k).length]? = some (rnOf l[k] (posP l wd x a b last k)) := by
  obtain ⟨r, hr⟩ := rn_pre (l := l) (wd := wd) (x := x) (a := a) (b := b) (last := last) (i := k + 1) (j := j) (by omega)
  rw [hr, rn_box hk ha h1, List.append_assoc, List.getElem?_append_right (Nat.le_refl _), Nat.sub_self]
  rfl
theorem rn_end (hk : k < l.length) (ha : a ≤ k) (h1 : l[k].kind = 1) : (rnTo l wd x a b last (k + 1)).getLast? = some (rnOf l[k] (posP l wd x a b last k)) := by
  rw [rn_box hk ha h1, List.getLast?_append]
  rfl
/-- The run ahead of a box's: a gap, if a glue stands between, or none. -/
theorem run_gap (hA : Alt l) (hL : LnAt l wd a b) (hk : a < k) (hkb : k < b) (hkl : k < l.length) (h1 : l[k].kind = 1) :
    ∃ r, (rnTo l wd x a b last k).getLast? = some r ∧ 0 ≤ posP l wd x a b last k - r.x - r.width ∧ (0 < posP l wd x a b last k - r.x - r.width ↔ (l[k - 1]'(by omega)).kind = 2) := by
  obtain ⟨ha, ha1⟩ := hL.one
  obtain ⟨p, hp⟩ := hL.can
  obtain ⟨j, rfl⟩ : ∃ j, k = j + 1 := ⟨k - 1, by omega⟩
  simp only [Nat.add_sub_cancel]
  by_cases hj : (l[j]'(by omega)).kind = 1
  · refine ⟨_, rn_end (by omega) (by omega) hj, ?_⟩
    have := pos_box (x := x) (last := last) hA.pl ha hL.lt ha1 (k := j) (by omega) hj (wd := wd)
    show 0 ≤ _ - posP l wd x a b last j - (l[j]'(by omega)).width ∧ (0 < _ - posP l wd x a b last j - (l[j]'(by omega)).width ↔ _)
    rw [this, hj]
    omega
  · obtain ⟨h0, y, hy, ky⟩ := hA.back j (by omega) hj
    obtain ⟨i, rfl⟩ : ∃ i, j = i + 1 := ⟨j - 1, by omega⟩
    rw [Nat.add_sub_cancel] at hy
    obtain ⟨hi, ey⟩ := List.getElem?_eq_some_iff.1 hy
    have hia : a ≤ i := by
      by_cases c : a = i + 1
      · subst c
        exact absurd ha1 hj
      · omega
    have hi1 : (l[i]'(by omega)).kind = 1 := by rw [ey]; exact ky
    rw [rn_oth (k := i + 1) (by omega) (fun q => hj q.2)]
    refine ⟨_, rn_end (by omega) hia hi1, ?_⟩
    have e1 := pos_box (x := x) (last := last) hA.pl ha hL.lt ha1 (k := i) (by omega) hi1 (wd := wd)
    show 0 ≤ _ - posP l wd x a b last i - (l[i]'(by omega)).width ∧ (0 < _ - posP l wd x a b last i - (l[i]'(by omega)).width ↔ _)
    rcases (hA.pl _ (List.getElem_mem (show i + 1 < l.length by omega))).kind with q | q | q
    · exact absurd q hj
    · have e2 := pos_glue (x := x) (last := last) hA.pl ha hL.le ha1 hp (k := i + 1) (by omega) (by omega) (by omega) q
      rw [q]
      omega
    · have e2 := pos_pen (x := x) (last := last) ha hL.lt ha1 (k := i + 1) (by omega) q (wd := wd)
      rw [e2, e1, q]
      omega
/-- The last run of a line with a glue, that isn't a last line, ends where the room does. -/
theorem run_full (hA : Alt l) (hL : LnAt l wd a b) (hk : a ≤ k) (hkb : k < b) (hkl : k < l.length) (h2 : l[k].kind = 2) :
    ∃ r, (rnTo l wd x a b false b).getLast? = some r ∧ r.x + r.width = x + wd := by
  obtain ⟨ha, ha1⟩ := hL.one
  obtain ⟨p, hp⟩ := hL.can
  obtain ⟨hb, hb1⟩ := hL.two
  have e1 := pos_box (x := x) (last := false) hA.pl ha hL.lt ha1 hb hb1 (wd := wd)
  have e2 := pos_full (x := x) hA.pl ha hL.le hL.lt ha1 hp hk hkb hkl h2
  have hlt := hL.lt
  have e3 : b - 1 + 1 = b := by omega
  rw [e3, e2] at e1
  refine ⟨_, by have := rn_end (wd := wd) (x := x) (b := b) (last := false) hb (show a ≤ b - 1 by omega) hb1; rw [e3] at this; exact this, ?_⟩
  exact e1.symm
/-- No run is outside. -/
theorem run_in (hA : Alt l) (hL : LnAt l wd a b) (hk : a ≤ k) (hkb : k < b) (hkl : k < l.length) (h1 : l[k].kind = 1) :
    x ≤ posP l wd x a b last k ∧ posP l wd x a b last k + l[k].width ≤ x + wd := by
  obtain ⟨ha, ha1⟩ := hL.one
  obtain ⟨p, hp⟩ := hL.can
  exact pos_in hA.pl ha hL.le ha1 hp hk hkb hkl h1
end
end Go.Proofs.YtfnkokfkhjdkfaaDoor

/-
  The document's way of parting items into lines, as two rows of numbers. No program in sight.
-/
namespace Go.Proofs.YtfnkokfkhjdkfaaDoor

/-- What is kept of a place j: where the line begins that ends there (below 0: no way leads there). -/
structure FrJ (l : List It) (wd : Int) (fr : List Int) (j : Nat) (q : Int) : Prop where
  le : q ≤ j
  leg : legP l j = true
  can : ∃ p, canO l wd q.toNat j = some p
  was : q = 0 ∨ ∃ r, fr[q.toNat - 1]? = some r ∧ 0 ≤ r
structure R18 (l : List It) (wd : Int) (fr bs : List Int) (i : Nat) : Prop where
  lf : fr.length = l.length + 1
  lb : bs.length = l.length + 1
  yes : ∀ (j : Nat) (q : Int), j < i → fr[j]? = some q → 0 ≤ q → FrJ l wd fr j q
  no : ∀ (j : Nat) (q : Int), j < i → fr[j]? = some q → q < 0 → ∀ es c, ¬ Chain l wd es (j + 1) c
  bd : ∀ (j : Nat) (b : Int), bs[j]? = some b → -300000000 * ((j : Int) + 1) ≤ b ∧ b ≤ 300000000 * ((j : Int) + 1)
/-- Where the loop over the beginnings stands: the row's i-th is q. -/
structure R18k (l : List It) (wd : Int) (fr bs : List Int) (i k : Nat) (q b : Int) : Prop where
  low : -1 ≤ q
  yes : 0 ≤ q → FrJ l wd fr i q
  no : q < 0 → ∀ a, a < k → (a = 0 ∨ ∃ r, fr[a - 1]? = some r ∧ 0 ≤ r) → canO l wd a i = none
  bd : -300000000 * ((i : Int) + 1) ≤ b ∧ b ≤ 300000000 * ((i : Int) + 1)
section
variable {l : List It} {wd : Int} {fr bs : List Int} {i k : Nat} {q b p was : Int}
theorem R18k.start (h : R18 l wd fr bs i) (hb : bs[i]? = some b) : R18k l wd fr bs i 0 (-1) b :=
  ⟨by omega, fun h => by omega, fun _ a ha => absurd ha (Nat.not_lt_zero a), h.bd i b hb⟩
/-- No way leads ahead of k. -/
theorem R18k.skip (h : R18k l wd fr bs i k q b) (hk : k ≠ 0) (hr : ∀ r, fr[k - 1]? = some r → r < 0) : R18k l wd fr bs i (k + 1) q b :=
  ⟨h.low, h.yes, fun hq a ha hw => by
    by_cases e : a = k
    · subst e
      rcases hw with hw | ⟨r, h1, h2⟩
      · exact absurd hw hk
      · have := hr r h1
        omega
    · exact h.no hq a (by omega) hw, h.bd⟩
/-- No line can be from k to i. -/
theorem R18k.none (h : R18k l wd fr bs i k q b) (hc : canO l wd k i = none) : R18k l wd fr bs i (k + 1) q b :=
  ⟨h.low, h.yes, fun hq a ha hw => by
    by_cases e : a = k
    · subst e
      exact hc
    · exact h.no hq a (by omega) hw, h.bd⟩
/-- It costs no less than what is kept. -/
theorem R18k.more (h : R18k l wd fr bs i k q b) (hq : 0 ≤ q) : R18k l wd fr bs i (k + 1) q b :=
  ⟨h.low, h.yes, fun h0 => by omega, h.bd⟩
/-- It is kept. -/
theorem R18k.take (_h : R18k l wd fr bs i k q b) (hki : k ≤ i) (hg : legP l i = true) (hc : canO l wd k i = some p) (hw : k = 0 ∨ ∃ r, fr[k - 1]? = some r ∧ 0 ≤ r) (hb : -300000000 * (k : Int) ≤ was ∧ was ≤ 300000000 * (k : Int)) : R18k l wd fr bs i (k + 1) k (was + p) := by
  have hp := (can_bd hc).1
  refine ⟨by omega, fun _ => ⟨by omega, hg, ⟨p, by rw [Int.toNat_natCast]; exact hc⟩, ?_⟩, fun h0 => by omega, by omega, by omega⟩
  rw [Int.toNat_natCast]
  rcases hw with hw | hw
  · exact .inl (by omega)
  · exact .inr hw
theorem R18.start : R18 l wd (List.replicate (l.length + 1) 0) (List.replicate (l.length + 1) 0) 0 :=
  ⟨by simp, by simp, fun j q h => absurd h (Nat.not_lt_zero j), fun j q h => absurd h (Nat.not_lt_zero j), fun j b h => by
    obtain ⟨hj, e⟩ := List.getElem?_eq_some_iff.1 h
    rw [List.getElem_replicate] at e
    omega⟩
theorem FrJ.set {j : Nat} (h : FrJ l wd fr j q) (hq : 0 ≤ q) (hij : j ≤ i) (v : Int) : FrJ l wd (fr.set i v) j q := by
  refine ⟨h.le, h.leg, h.can, ?_⟩
  rcases h.was with h0 | ⟨r, h1, h2⟩
  · exact .inl h0
  · by_cases c : q = 0
    · exact .inl c
    · refine .inr ⟨r, ?_, h2⟩
      have := h.le
      rw [List.getElem?_set_ne (by omega)]
      exact h1
/-- A place is done. -/
theorem R18.next (h : R18 l wd fr bs i) (hi : i ≤ l.length) (hk : R18k l wd fr bs i (i + 1) q b) : R18 l wd (fr.set i q) (bs.set i b) (i + 1) := by
  have hlf := h.lf
  have hlb := h.lb
  refine ⟨by rw [List.length_set]; exact h.lf, by rw [List.length_set]; exact h.lb, fun j q' hj hq h0 => ?_, fun j q' hj hq h0 es c hc => ?_, fun j b' hb' => ?_⟩
  · by_cases e : i = j
    · subst e
      rw [List.getElem?_set_self (by omega)] at hq
      obtain rfl := Option.some.inj hq
      exact (hk.yes h0).set h0 (Nat.le_refl _) _
    · rw [List.getElem?_set_ne e] at hq
      exact (h.yes j q' (by omega) hq h0).set h0 (by omega) _
  · by_cases e : i = j
    · subst e
      rw [List.getElem?_set_self (by omega)] at hq
      obtain rfl := Option.some.inj hq
      rcases hc.inv with ⟨_, h1, _⟩ | ⟨es', e', f', c', p, _, h1, _, hc', hf, _, _, hp⟩
      · omega
      · obtain rfl : e' = i := by omega
        have hn := hk.no h0 f' (by omega) (by
          by_cases z : f' = 0
          · exact .inl z
          · right
            obtain ⟨r, hr⟩ : ∃ r, fr[f' - 1]? = some r := ⟨_, List.getElem?_eq_getElem (by omega)⟩
            refine ⟨r, hr, ?_⟩
            by_cases y : 0 ≤ r
            · exact y
            · have := h.no (f' - 1) r (by omega) hr (by omega) es' c'
              rw [Nat.sub_add_cancel (by omega)] at this
              exact absurd hc' this)
        rw [hp] at hn
        cases hn
    · rw [List.getElem?_set_ne e] at hq
      exact h.no j q' (by omega) hq h0 es c hc
  · by_cases e : i = j
    · subst e
      rw [List.getElem?_set_self (by omega)] at hb'
      obtain rfl := Option.some.inj hb'
      exact hk.bd
    · rw [List.getElem?_set_ne e] at hb'
      exact h.bd j b' hb'
/-- A place where no line may end. -/
theorem R18.skip (h : R18 l wd fr bs i) (hi : i ≤ l.length) (hg : legP l i = false) : R18 l wd (fr.set i (-1)) bs (i + 1) := by
  have hlf := h.lf
  refine ⟨by rw [List.length_set]; exact h.lf, h.lb, fun j q' hj hq h0 => ?_, fun j q' hj hq h0 es c hc => ?_, h.bd⟩
  · by_cases e : i = j
    · subst e
      rw [List.getElem?_set_self (by omega)] at hq
      obtain rfl := Option.some.inj hq
      omega
    · rw [List.getElem?_set_ne e] at hq
      exact (h.yes j q' (by omega) hq h0).set h0 (by omega) _
  · by_cases e : i = j
    · subst e
      rcases hc.inv with ⟨_, h1, _⟩ | ⟨es', e', f', c', p, _, h1, _, _, _, _, hl, _⟩
      · omega
      · obtain rfl : e' = i := by omega
        rw [hg] at hl
        cases hl
    · rw [List.getElem?_set_ne e] at hq
      exact h.no j q' (by omega) hq h0 es c hc
/-- The places that are told, gathered from behind: what leads to at, and they, are a way. -/
def Ext (l : List It) (wd : Int) (f : Nat) (out : List Nat) : Prop := ∀ es c, Chain l wd es f c → ∃ c', Chain l wd (es ++ out) (l.length + 1) c'
theorem Ext.nil : Ext l wd (l.length + 1) [] := fun es c h => ⟨c, by rw [List.append_nil]; exact h⟩
theorem Ext.cons {out : List Nat} {at_ : Nat} (h : Ext l wd (at_ + 1) out) (hl : at_ ≤ l.length) (_h0 : 0 ≤ q) (hj : FrJ l wd fr at_ q) : Ext l wd q.toNat (at_ :: out) := fun es c hc => by
  obtain ⟨p, hp⟩ := hj.can
  have := hj.le
  obtain ⟨c', hc'⟩ := h (es ++ [at_]) (c + p) (.snoc at_ p hc (by omega) hl hj.leg hp)
  exact ⟨c', by rw [List.append_assoc] at hc'; exact hc'⟩
theorem Ext.done {out : List Nat} (h : Ext l wd 0 out) : ∃ c, Chain l wd out (l.length + 1) c := by
  obtain ⟨c, hc⟩ := h [] 0 .nil
  exact ⟨c, hc⟩
end
end Go.Proofs.YtfnkokfkhjdkfaaDoor

