/-
  Where lines end: a place that is done, and what is told at the end, as plain lists. No program in sight.
-/
import Derived.Test.YtjkkinccehfmoaaWpa
namespace Go.Proofs.Ytjkkinccehfmoaa

theorem get_snoc {α : Type} {l : List α} {x w : α} {n : Nat} (h : (l ++ [x])[n]? = some w) : (n < l.length ∧ l[n]? = some w) ∨ (n = l.length ∧ w = x) := by
  by_cases c : n < l.length
  · rw [List.getElem?_append_left c] at h; exact .inl ⟨c, h⟩
  · have hn := (List.getElem?_eq_some_iff.1 h).1
    rw [List.length_append, List.length_singleton] at hn
    have e : n = l.length := by omega
    subst e
    rw [List.getElem?_append_right (Nat.le_refl _)] at h
    simp at h
    exact .inr ⟨rfl, h.symm⟩
theorem snoc_get {α : Type} {l : List α} {x w : α} {n : Nat} (h : l[n]? = some w) : (l ++ [x])[n]? = some w := by
  rw [List.getElem?_append_left (List.getElem?_eq_some_iff.1 h).1]; exact h
theorem snoc_last {α : Type} (l : List α) (x : α) : (l ++ [x])[l.length]? = some x := by simp
theorem WsOk.chained {l : List It} {wd : Int} {ws : List Wy} {i : Nat} (h : WsOk l wd ws i) {es : List Nat} {f : Nat} {c : Int} (hc : Chain l wd es f c) : f ≤ i → ∃ (n : Nat) (w : Wy), ws[n]? = some w ∧ w.f = f := by
  induction hc with
  | nil => intro _; exact ⟨0, _, h.head, rfl⟩
  | @snoc es f c e p h1 h2 h3 h4 h5 ih =>
    intro hi
    obtain ⟨n, w, hw, hf⟩ := ih (by omega)
    subst hf
    exact h.comp e (by omega) h3 h4 n w p hw h2 h5
section
variable {l : List It} {wd : Int} {ws : List Wy} {first i : Nat} {bc ba : Int}
theorem WsOk.found (h : WsOk l wd ws i) (hF : FrOk l wd ws first i) (hi : i ≤ l.length) (hg : legP l i = true) (hB : Bst l wd ws first i ws.length bc ba) (hb : 0 ≤ ba) : WsOk l wd (ws ++ [⟨i + 1, bc, ba⟩]) (i + 1) := by
  rcases hB with ⟨h1, _⟩ | ⟨a, v, p, h1, h2, h3, h4, h5, h6, h7⟩
  · omega
  · have hv := h.le a v h4
    have hcan : canO l wd v.f i = some p := by
      rw [can_yes (noM_iff.2 fun k k1 k2 => hF.may a v k h2 h4 k1 k2)]; exact h5
    refine ⟨snoc_get h.head, fun n w q hn => ?_, fun n w q => ?_, fun n m u w hnm q1 q2 => ?_, fun n w q => ?_, fun j hj hl hleg n w q hw hf hc => ?_, fun n w es c hw hc => ?_⟩
    · replace q := get_snoc q
      rcases q with ⟨c, q⟩ | ⟨c, q⟩
      · obtain ⟨a', v', p', e⟩ := h.line n w q hn
        exact ⟨a', v', p', e.1, e.2.1, snoc_get e.2.2.1, e.2.2.2⟩
      · subst c q
        exact ⟨a, v, p, h1, h3, snoc_get h4, Nat.succ_pos _, hv.1, hi, hg, hcan, h6⟩
    · replace q := get_snoc q
      rcases q with ⟨c, q⟩ | ⟨c, q⟩
      · have := h.le n w q; omega
      · subst c q
        have := h.len.2
        simp only
        omega
    · replace q2 := get_snoc q2
      rcases q2 with ⟨c, q2⟩ | ⟨c, q2⟩
      · replace q1 := get_snoc q1
        rcases q1 with ⟨d, q1⟩ | ⟨d, q1⟩
        · exact h.inc n m u w hnm q1 q2
        · omega
      · subst c q2
        replace q1 := get_snoc q1
        rcases q1 with ⟨d, q1⟩ | ⟨d, q1⟩
        · have := (h.le n u q1).1
          simp only
          omega
        · omega
    · replace q := get_snoc q
      rcases q with ⟨c, q⟩ | ⟨c, q⟩
      · exact h.cost n w q
      · subst c q
        have h8 := h.cost a v h4
        have h9 := (can_bd hcan).1
        simp only
        omega
    · by_cases e : j = i
      · subst e
        exact ⟨ws.length, _, snoc_last _ _, rfl⟩
      · replace hw := get_snoc hw
        rcases hw with ⟨c, hw⟩ | ⟨c, hw⟩
        · obtain ⟨m, u, e1, e2⟩ := h.comp j (by omega) hl hleg n w q hw hf hc
          exact ⟨m, u, snoc_get e1, e2⟩
        · subst c hw
          simp only at hf
          omega
    · replace hw := get_snoc hw
      rcases hw with ⟨c, hw⟩ | ⟨c, hw⟩
      · exact h.best n w es _ hw hc
      · subst hw
        simp only at hc ⊢
        rcases hc.inv with ⟨_, e2, _⟩ | ⟨es', e, f', c', q, e1, e2, e3, e4, e5, e6, e7, e8⟩
        · omega
        · have e9 : e = i := by omega
          subst e9
          obtain ⟨m, u, hu, hf⟩ := h.chained e4 (by omega)
          subst hf
          have hb2 := h.best m u es' c' hu e4
          have hm : first ≤ m := by
            rcases Nat.lt_or_ge m first with z | z
            · rw [hF.out m u e z hu (Nat.le_refl _) hi] at e8; cases e8
            · exact z
          have := h7 m u q hm (List.getElem?_eq_some_iff.1 hu).1 hu (can_noM e8).2
          omega
theorem FrOk.must (hF : WsOk l wd ws i) (hm : mustP l i = true) : FrOk l wd ws ws.length (i + 1) :=
  ⟨Nat.le_refl _, fun n w j _ h2 h3 _ => can_no (noM_not (k := i) (hF.le n w h2).1 (by omega) hm), fun n w k h1 h2 => by
    have := (List.getElem?_eq_some_iff.1 h2).1; omega⟩
theorem FrOk.mustF (hF : WsOk l wd ws i) (hm : mustP l i = true) : FrOk l wd (ws ++ [⟨i + 1, bc, ba⟩]) ws.length (i + 1) :=
  ⟨by simp, fun n w j h1 h2 h3 _ => by
    replace h2 := get_snoc h2
    rcases h2 with ⟨c, h2⟩ | ⟨c, h2⟩
    · exact can_no (noM_not (k := i) (hF.le n w h2).1 (by omega) hm)
    · omega, fun n w k h1 h2 h3 h4 => by
    replace h2 := get_snoc h2
    rcases h2 with ⟨c, h2⟩ | ⟨c, h2⟩
    · omega
    · subst h2; simp only at h3; omega⟩
theorem FrOk.free (hF : FrOk l wd ws first i) (hm : mustP l i = false) : FrOk l wd ws first (i + 1) :=
  ⟨hF.le, fun n w j h1 h2 h3 h4 => hF.out n w j h1 h2 (by omega) h4, fun n w k h1 h2 h3 h4 => by
    by_cases e : k = i
    · rw [e]; exact hm
    · exact hF.may n w k h1 h2 h3 (by omega)⟩
theorem FrOk.freeF (hF : FrOk l wd ws first i) (hm : mustP l i = false) : FrOk l wd (ws ++ [⟨i + 1, bc, ba⟩]) first (i + 1) :=
  ⟨by rw [List.length_append]; have := hF.le; omega, fun n w j h1 h2 h3 h4 => by
    replace h2 := get_snoc h2
    rcases h2 with ⟨c, h2⟩ | ⟨c, h2⟩
    · exact hF.out n w j h1 h2 (by omega) h4
    · have := hF.le; omega, fun n w k h1 h2 h3 h4 => by
    replace h2 := get_snoc h2
    rcases h2 with ⟨c, h2⟩ | ⟨c, h2⟩
    · exact hF.free hm |>.may n w k h1 h2 h3 h4
    · subst h2; simp only at h3; omega⟩
/-- From a way back to the first: where its lines end, the last one first. -/
inductive Lnk (ws : List Wy) : Nat → List Nat → Prop
  | zero : Lnk ws 0 []
  | step {n a : Nat} {w : Wy} {rs : List Nat} : ws[n]? = some w → 0 < n → w.a = (a : Int) → a < n → 0 < w.f → Lnk ws a rs → Lnk ws n ((w.f - 1) :: rs)
theorem WsOk.chain (h : WsOk l wd ws i) : ∀ (n : Nat) (w : Wy), ws[n]? = some w → ∃ rs, Lnk ws n rs ∧ Chain l wd rs.reverse w.f w.c := by
  intro n
  induction n using Nat.strongRecOn with
  | _ n ih =>
    intro w hw
    rcases Nat.eq_zero_or_pos n with rfl | hn
    · rw [h.head] at hw
      injection hw with hw
      subst hw
      exact ⟨[], .zero, .nil⟩
    · obtain ⟨a, v, p, e1, e2, e3, e4, e5, e6, e7, e8, e9⟩ := h.line n w hw hn
      obtain ⟨rs, r1, r2⟩ := ih a e2 v e3
      refine ⟨(w.f - 1) :: rs, .step hw hn e1 e2 e4 r1, ?_⟩
      have := Chain.snoc (w.f - 1) p r2 e5 e6 e7 e8
      rw [← e9, show w.f - 1 + 1 = w.f by omega] at this
      rw [List.reverse_cons]
      exact this
end
/-- What Breaks tells. -/
def BrkOk (l : List It) (wd : Int) (es : List Nat) (ok : Bool) : Prop :=
  (ok = true ∧ ∃ c, Chain l wd es (l.length + 1) c ∧ ∀ es' c', Chain l wd es' (l.length + 1) c' → c ≤ c') ∨
  (ok = false ∧ es = [] ∧ ∀ es' c', ¬ Chain l wd es' (l.length + 1) c')
theorem BrkOk.no {l : List It} {wd : Int} {ws : List Wy} {w : Wy} (h : WsOk l wd ws (l.length + 1)) (hw : ws[ws.length - 1]? = some w) (hf : w.f ≠ l.length + 1) : BrkOk l wd [] false := by
  refine .inr ⟨rfl, rfl, fun es' c' hc => ?_⟩
  obtain ⟨n, v, hv, e⟩ := h.chained hc (Nat.le_refl _)
  have hn := (List.getElem?_eq_some_iff.1 hv).1
  by_cases c : n = ws.length - 1
  · subst c; rw [hw] at hv; injection hv with hv; subst hv; exact hf e
  · have := h.inc n _ v w (by omega) hv hw
    have := (h.le _ w hw).1
    omega
theorem BrkOk.yes {l : List It} {wd : Int} {ws : List Wy} {w : Wy} {rs : List Nat} (h : WsOk l wd ws (l.length + 1)) (hw : ws[ws.length - 1]? = some w) (hf : w.f = l.length + 1) (_hn : 0 < ws.length - 1) (hc : Chain l wd rs.reverse w.f w.c) : BrkOk l wd rs.reverse true :=
  .inl ⟨rfl, w.c, by rw [← hf]; exact hc, fun es' c' hc' => h.best _ w es' c' hw (by rw [hf]; exact hc')⟩
/-- If a line may be all of it, there is an answer, which costs no more. -/
theorem one_chain {l : List It} {wd : Int} {p : Int} (h : canO l wd 0 l.length = some p) : Chain l wd [l.length] (l.length + 1) p := by
  have := Chain.snoc l.length p (Chain.nil (l := l) (wd := wd)) (Nat.zero_le _) (Nat.le_refl _) (leg_end l) h
  rwa [Int.zero_add, List.nil_append] at this
end Go.Proofs.Ytjkkinccehfmoaa
