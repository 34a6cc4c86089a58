/-
  What follows of Split: what stands between places where a line may end has room; no code is lost.
-/
import Derived.Test.YthmfkjgcbcjbaaaDoorItw
import Derived.Test.YthmfkjgcbcjbaaaDoorFcs
namespace Go.Proofs.YthmfkjgcbcjbaaaDoor
open Go.RowKit Go.Lib

/-- How wide the boxes since the last item that is none are. -/
def usedL : Int → List It → Int
  | u, [] => u
  | u, x :: l => usedL (if x.kind ≠ 1 then 0 else u + x.width) l
def fitsOk (wd : Int) : Int → List It → Prop
  | _, [] => True
  | u, x :: l => ((x.kind ≠ 1 ∧ 0 ≤ x.width ∧ x.width ≤ 2179695902) ∨ (x.kind = 1 ∧ u + x.width ≤ wd ∧ 0 ≤ x.width ∧ x.codes ≠ [] ∧ x.width = runL x.font x.size x.codes ∧ 0 ≤ x.size ∧ x.size ≤ 2147483648 ∧ x.codes.length ≤ 100000)) ∧ fitsOk wd (if x.kind ≠ 1 then 0 else u + x.width) l
theorem used_app : ∀ (a b : List It) (u : Int), usedL u (a ++ b) = usedL (usedL u a) b
  | [], b, u => rfl
  | x :: a, b, u => by rw [List.cons_append, usedL, usedL, used_app a b]
theorem fits_app (wd : Int) : ∀ (a b : List It) (u : Int), fitsOk wd u (a ++ b) ↔ fitsOk wd u a ∧ fitsOk wd (usedL u a) b
  | [], b, u => by simp [fitsOk, usedL]
  | x :: a, b, u => by rw [List.cons_append, fitsOk, fitsOk, usedL, fits_app wd a b, and_assoc]
def catL (l : List It) : List UInt8 := l.flatMap It.codes
theorem cat_app (a b : List It) : catL (a ++ b) = catL a ++ catL b := List.flatMap_append
/-- Where Split stands: all so far has room, r is left. -/
def FitAt (wd : Int) (p : List It × Int) : Prop := fitsOk wd 0 p.1 ∧ usedL 0 p.1 = wd - p.2
theorem FitAt.other {wd : Int} {p : List It × Int} (h : FitAt wd p) {x : It} (hx : x.kind ≠ 1) (hw0 : 0 ≤ x.width) (hw1 : x.width ≤ 2179695902) : FitAt wd (p.1 ++ [x], wd) := by
  obtain ⟨h1, h2⟩ := h
  refine ⟨(fits_app wd _ _ _).2 ⟨h1, .inl ⟨hx, hw0, hw1⟩, trivial⟩, ?_⟩
  show usedL 0 (p.1 ++ [x]) = wd - wd
  rw [used_app, usedL, if_pos hx, usedL]
  omega
theorem FitAt.box {wd : Int} {p : List It × Int} (h : FitAt wd p) {f sz lk : Int} {c : List UInt8} (hc : c ≠ []) (hr : runL f sz c ≤ p.2) (s1 : 0 ≤ sz) (s2 : sz ≤ 2147483648) (hl : c.length ≤ 100000) : FitAt wd (p.1 ++ [bxP f sz lk c], p.2 - runL f sz c) := by
  obtain ⟨h1, h2⟩ := h
  refine ⟨(fits_app wd _ _ _).2 ⟨h1, .inr ⟨rfl, ?_, run_nonneg s1 c, hc, rfl, s1, s2, hl⟩, trivial⟩, ?_⟩
  · rw [h2]
    show wd - p.2 + runL f sz c ≤ wd
    omega
  · show usedL 0 (p.1 ++ [bxP f sz lk c]) = wd - (p.2 - runL f sz c)
    rw [used_app, usedL, if_neg (by simp [bxP]), usedL, h2]
    show wd - p.2 + runL f sz c = _
    omega
/-- What fits has room, where each code has room alone. -/
theorem fit_run {wd f sz : Int} {c : List UInt8} {r : Int} (hs : 0 ≤ sz) (hc : c ≠ []) (hw : advL f sz (c.headD 0).toNat ≤ wd) (h0 : -9223372036854775808 ≤ r) (h1 : r ≤ wd) (h2 : wd ≤ 9223372036854775807) (hk : fitN wd f sz c r ≠ 0) : runL f sz (c.take (fitN wd f sz c r)) ≤ r := by
  have hwr : wordR r = r := by unfold wordR; rw [if_pos (by omega)]
  have one : runL f sz (c.take 1) = advL f sz (c.headD 0).toNat := by
    cases c with
    | nil => exact absurd rfl hc
    | cons b l => simp [runL]
  unfold fitN at hk ⊢
  split at hk
  · exact absurd rfl hk
  · rename_i hq
    rw [if_neg hq]
    rw [hwr] at hq ⊢
    have hadv : advL f sz (c.headD 0).toNat ≤ r := by
      by_cases e : r = wd
      · rw [e]; exact hw
      · have : ¬ r < advL f sz (c.headD 0).toNat := fun x => hq ⟨e, x⟩
        omega
    obtain ⟨_, c2, c3, _⟩ := cut_spec (f := f) (size := sz) (width := r) hs c
    have := c2 hc
    rcases c3 with c3 | c3
    · have e : cutL f sz r c = 1 := by omega
      rw [e, one]; exact hadv
    · exact c3
theorem part_fits {wd f sz lk : Int} (hs : 0 ≤ sz) (hz : sz ≤ 2147483648) (hall : ∀ b : UInt8, advL f sz b.toNat ≤ wd) (h2 : wd ≤ 4611686018427387904) (hw0 : 0 ≤ wd) : ∀ (n : Nat) (c : List UInt8) (p : List It × Int), c ≠ [] → c.length ≤ 100000 → -217969590200000 ≤ p.2 → p.2 ≤ wd → FitAt wd p → 2 * c.length + (if p.2 = wd then 0 else 1) < n →
    FitAt wd (partL wd f sz lk n c p) ∧ catL (partL wd f sz lk n c p).1 = catL p.1 ++ c
  | 0, c, p, _, _, _, _, _, hn => by omega
  | n + 1, c, p, hc, hcl, h0, h1, hF, hn => by
    have one : catL [bxP f sz lk c] = c := by simp [catL, bxP]
    by_cases a1 : runL f sz c ≤ p.2
    · rw [part_stand a1]
      exact ⟨hF.box hc a1 hs hz hcl, by simp only; rw [cat_app, one]⟩
    · by_cases a2 : fitN wd f sz c p.2 = 0
      · rw [part_none a1 a2]
        have hrw : p.2 ≠ wd := fun e => by have := fit_full (wd := wd) (f := f) (sz := sz) hc; rw [← e] at this; rw [e] at this a2; omega
        rw [if_neg hrw] at hn
        have := part_fits (f := f) (lk := lk) hs hz hall h2 hw0 n c (p.1 ++ [itPen 0], wd) hc hcl (by simp only; omega) (Int.le_refl _) (hF.other (x := itPen 0) (by simp [itPen]) (Int.le_refl _) (by simp [itPen])) (by simp only [if_pos]; omega)
        refine ⟨this.1, ?_⟩
        rw [this.2]
        simp only
        rw [cat_app]
        simp [catL, itPen]
      · have hfit := fit_run (f := f) hs hc (hall _) (by omega) h1 (by omega) a2
        have hle := fit_le wd f sz c p.2
        generalize hk : fitN wd f sz c p.2 = k at *
        have ht : c.take k ≠ [] := fun e => by
          have q1 := congrArg List.length e
          have q2 := List.length_pos_iff.2 hc
          rw [List.length_take, List.length_nil] at q1
          omega
        have onet : catL [bxP f sz lk (c.take k)] = c.take k := by simp [catL, bxP]
        have hB := hF.box (lk := lk) ht hfit hs hz (by rw [List.length_take]; omega)
        by_cases a3 : c.drop k = []
        · rw [part_last a1 (by rw [hk]; exact a2) (by rw [hk]; exact a3), hk]
          refine ⟨hB, ?_⟩
          simp only
          rw [cat_app, onet]
          have := List.take_append_drop k c
          rw [a3, List.append_nil] at this
          rw [this]
        · rw [part_more a1 (by rw [hk]; exact a2) (by rw [hk]; exact a3), hk]
          have := part_fits (f := f) (lk := lk) hs hz hall h2 hw0 n (c.drop k) ((p.1 ++ [bxP f sz lk (c.take k)]) ++ [itPen 0], wd) a3 (by rw [List.length_drop]; omega) (by simp only; omega) (Int.le_refl _) (hB.other (x := itPen 0) (by simp [itPen]) (Int.le_refl _) (by simp [itPen])) (by simp only [if_pos]; rw [List.length_drop]; split at hn <;> omega)
          refine ⟨this.1, ?_⟩
          rw [this.2]
          simp only
          rw [cat_app, cat_app, onet]
          simp only [catL, itPen, List.flatMap_cons, List.flatMap_nil, List.append_nil, List.append_assoc]
          rw [List.take_append_drop]
/-- Items as Make tells them, of that size. -/
def mkOk (n : Int) (x : It) : Prop := (x.kind ≠ 1 ∧ x.codes = [] ∧ 0 ≤ x.width ∧ x.width ≤ 2179695902) ∨ (x = bxP x.font n x.link x.codes ∧ x.codes ≠ [])
theorem split_fits {wd sz : Int} (hs : 0 ≤ sz) (hz : sz ≤ 2147483648) (hall : ∀ (f : Int) (b : UInt8), advL f sz b.toNat ≤ wd) (h2 : wd ≤ 4611686018427387904) (hw0 : 0 ≤ wd) : ∀ (l : List It) (p : List It × Int), (∀ x ∈ l, mkOk sz x ∧ x.codes.length ≤ 100000) → -217969590200000 ≤ p.2 → p.2 ≤ wd → FitAt wd p →
    FitAt wd (splitL wd l p) ∧ catL (splitL wd l p).1 = catL p.1 ++ catL l
  | [], p, _, _, _, hF => by rw [splitL]; exact ⟨hF, by simp [catL]⟩
  | x :: l, p, hx, h0, h1, hF => by
    obtain ⟨hm, hcl⟩ := hx x (List.mem_cons_self ..)
    have hl := fun y hy => hx y (List.mem_cons_of_mem _ hy)
    rw [splitL]
    rcases hm with ⟨hk, hnil, hm0, hm1⟩ | ⟨he, hne⟩
    · rw [if_pos hk]
      have := split_fits hs hz hall h2 hw0 l (p.1 ++ [x], wd) hl (by simp only; omega) (Int.le_refl _) (hF.other hk hm0 hm1)
      refine ⟨this.1, ?_⟩
      rw [this.2]
      simp only
      rw [cat_app]
      simp [catL, hnil]
    · have hk1 : x.kind = 1 := by rw [he]; rfl
      have hsz : x.size = sz := by rw [he]; rfl
      rw [if_neg (by rw [hk1]; simp), if_neg hne, hsz]
      have hpl := part_len (f := x.font) (lk := x.link) hs hz hw0 (2 * x.codes.length + 2) x.codes p hcl h0 h1
      have hpf := part_fits (f := x.font) (lk := x.link) hs hz (hall x.font) h2 hw0 (2 * x.codes.length + 2) x.codes p hne hcl h0 h1 hF (by split <;> omega)
      have := split_fits hs hz hall h2 hw0 l _ hl hpl.2.1 hpl.2.2 hpf.1
      refine ⟨this.1, ?_⟩
      rw [this.2, hpf.2]
      simp [catL]
/-! ### Make's items are of that kind -/
def Mk (sz : Int) (l : List It) : Prop := ∀ x ∈ l, mkOk sz x
theorem Mk.snoc {sz : Int} {l : List It} {x : It} (h : Mk sz l) (hx : mkOk sz x) : Mk sz (l ++ [x]) := fun y hy => by
  rcases List.mem_append.1 hy with hy | hy
  · exact h y hy
  · rw [List.mem_singleton] at hy; subst hy; exact hx
theorem Mk.dropG {sz : Int} {l : List It} (h : Mk sz l) : Mk sz (dropG l) := by
  unfold Go.Proofs.YthmfkjgcbcjbaaaDoor.dropG
  split
  · exact fun y hy => h y (List.dropLast_subset l hy)
  · exact h
theorem Mk.glue {sz : Int} {s : Sty} {l : List It} (h : Mk sz l) (s1 : 0 ≤ sz) (s2 : sz ≤ 2147483648) : Mk sz (glueP sz s l) := by
  unfold glueP
  split
  · exact h.snoc (.inl ⟨by simp [itGlue], rfl, adv_nonneg (by decide) s1, adv_le (by decide) s1 s2⟩)
  · exact h
theorem Mk.brk {sz : Int} {l : List It} (h : Mk sz l) : Mk sz (brkP l) := by
  unfold brkP
  split
  · exact h.dropG.snoc (.inl ⟨by simp [itPen], rfl, Int.le_refl _, by simp [itPen]⟩)
  · exact h.dropG
theorem Mk.word {sz : Int} {s : Sty} {t : List UInt8} {l : List It} (h : Mk sz l) : Mk sz (wordP sz s t l) := by
  unfold wordP
  split
  · exact h
  · rename_i hn
    exact h.snoc (.inr ⟨rfl, by show codesL t ≠ []; rw [codesL_step t hn]; simp⟩)
theorem Mk.txt {sz : Int} {s : Sty} (s1 : 0 ≤ sz) (s2 : sz ≤ 2147483648) : ∀ (t cur : List UInt8) {l : List It}, Mk sz l → Mk sz (txtP sz s cur t l)
  | [], cur, l, h => by rw [txtP]; exact h.word
  | b :: t, cur, l, h => by
    rw [txtP]
    split
    · exact Mk.txt s1 s2 t [] (h.word.glue s1 s2)
    · exact Mk.txt s1 s2 t (cur ++ [b]) h
mutual
theorem Mk.spn {sz : Int} (s1 : 0 ≤ sz) (s2 : sz ≤ 2147483648) : ∀ (x : St) (s : Sty) (p : List It × Int), Mk sz p.1 → Mk sz (spnP sz x s p).1
  | .mk k t _ _ ks, s, p, h => by
    rw [spnP]
    repeat' split
    all_goals first
      | exact Mk.txt s1 s2 t [] h
      | exact h.glue s1 s2
      | exact h.brk
      | exact Mk.spns s1 s2 ks _ _ h
      | exact h
theorem Mk.spns {sz : Int} (s1 : 0 ≤ sz) (s2 : sz ≤ 2147483648) : ∀ (l : List St) (s : Sty) (p : List It × Int), Mk sz p.1 → Mk sz (spnsP sz l s p).1
  | [], s, p, h => by rw [spnsP]; exact h
  | x :: l, s, p, h => by
    rw [spnsP]
    exact Mk.spns s1 s2 l s _ (Mk.spn s1 s2 x s p h)
end
theorem Mk.make {sz f lk : Int} (s1 : 0 ≤ sz) (s2 : sz ≤ 2147483648) (l : List St) : Mk sz (makeL l f sz lk).1 := by
  unfold makeL
  exact (Mk.spns s1 s2 l _ _ (fun x hx => by cases hx)).dropG
end Go.Proofs.YthmfkjgcbcjbaaaDoor
