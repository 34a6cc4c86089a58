/-
  The document's example of lines, and words of one width, as plain lists. No program in sight.
-/
import Derived.Test.YtjkkinccehfmoaaWpb
import Derived.KernelRfl
namespace Go.Proofs.Ytjkkinccehfmoaa

def wb (w : Int) : It := ⟨1, w, 0, 0, 0, [120], 0, 0, 0⟩
def wg (w g s : Int) : It := ⟨2, w, g, s, 0, [], 0, 0, 0⟩
def awL : List It := [wb 40, wg 12 6 4, wb 40, wg 12 6 4, wb 40]
theorem awL_leg : ∀ e, e ≤ 5 → legP awL e = true → e = 1 ∨ e = 3 ∨ e = 5
  | 0, _, h => by have : legP awL 0 = false := by kernel_rfl
                  rw [this] at h; cases h
  | 1, _, _ => .inl rfl
  | 2, _, h => by have : legP awL 2 = false := by kernel_rfl
                  rw [this] at h; cases h
  | 3, _, _ => .inr (.inl rfl)
  | 4, _, h => by have : legP awL 4 = false := by kernel_rfl
                  rw [this] at h; cases h
  | 5, _, _ => .inr (.inr rfl)
  | n + 6, h, _ => by omega
theorem aw_first {wd : Int} {es : List Nat} {f : Nat} {c : Int} (h : Chain awL wd es f c) (hf : f ≤ 1) : es = [] ∧ f = 0 ∧ c = 0 := by
  rcases h.inv with ⟨h1, h2, h3⟩ | ⟨es', e, f', c', p, h1, h2, h3, h4, h5, h6, h7, h8⟩
  · exact ⟨h1, h2, h3⟩
  · rcases awL_leg e (by omega) h7 with q | q | q <;> omega
theorem aw92_1 {es : List Nat} {f : Nat} {c : Int} (h : Chain awL 92 es f c) (hf : f = 2) : es = [1] ∧ c = 100200100 := by
  rcases h.inv with ⟨h1, h2, h3⟩ | ⟨es', e, f', c', p, h1, h2, h3, h4, h5, h6, h7, h8⟩
  · omega
  · have he : e = 1 := by omega
    subst he
    obtain ⟨g1, g2, g3⟩ := aw_first h4 h5
    subst g1 g2 g3
    have : canO awL 92 0 1 = some 100200100 := by kernel_rfl
    rw [this] at h8
    injection h8 with h8
    exact ⟨h1, by omega⟩
theorem aw92_3 {es : List Nat} {f : Nat} {c : Int} (h : Chain awL 92 es f c) (hf : f = 4) : (es = [3] ∧ c = 100) ∨ 100000000 ≤ c := by
  rcases h.inv with ⟨h1, h2, h3⟩ | ⟨es', e, f', c', p, h1, h2, h3, h4, h5, h6, h7, h8⟩
  · omega
  · have he : e = 3 := by omega
    subst he
    rcases h4.inv with ⟨g1, g2, g3⟩ | ⟨es2, e2, f2, c2, p2, g1, g2, g3, g4, g5, g6, g7, g8⟩
    · subst g1 g2 g3
      have : canO awL 92 0 3 = some 100 := by kernel_rfl
      rw [this] at h8
      injection h8 with h8
      exact .inl ⟨h1, by omega⟩
    · have he2 : e2 = 1 := by rcases awL_leg e2 (by omega) g7 with q | q | q <;> omega
      subst he2
      have hc := (aw92_1 h4 g2).2
      subst g2
      have : canO awL 92 2 3 = some 100200100 := by kernel_rfl
      rw [this] at h8
      injection h8 with h8
      exact .inr (by omega)
theorem aw92_chain : Chain awL 92 [3, 5] 6 200 := by
  have h1 := Chain.snoc (l := awL) (wd := 92) 3 100 Chain.nil (by decide) (by decide) (by kernel_rfl) (by kernel_rfl)
  exact Chain.snoc (l := awL) (wd := 92) 5 100 h1 (by decide) (by decide) (by kernel_rfl) (by kernel_rfl)
theorem aw92 {es : List Nat} {ok : Bool} (h : BrkOk awL 92 es ok) : ok = true ∧ es = [3, 5] := by
  rcases h with ⟨h1, c, h2, h3⟩ | ⟨_, _, h3⟩
  · refine ⟨h1, ?_⟩
    have hle := h3 _ _ aw92_chain
    rcases h2.inv with ⟨_, g2, _⟩ | ⟨es', e, f', c', p, g1, g2, g3, g4, g5, g6, g7, g8⟩
    · have : awL.length = 5 := rfl
      omega
    · have hl : awL.length = 5 := rfl
      have he : e = 5 := by omega
      subst he
      rcases g4.inv with ⟨k1, k2, k3⟩ | ⟨es2, e2, f2, c2, p2, k1, k2, k3, k4, k5, k6, k7, k8⟩
      · subst k1 k2 k3
        have : canO awL 92 0 5 = none := by kernel_rfl
        rw [this] at g8; cases g8
      · rcases awL_leg e2 (by omega) k7 with q | q | q
        · subst q
          have hc := (aw92_1 g4 k2).2
          subst k2
          have : canO awL 92 2 5 = some 100 := by kernel_rfl
          rw [this] at g8
          injection g8 with g8
          omega
        · subst q
          rcases aw92_3 g4 k2 with ⟨q1, q2⟩ | q
          · rw [g1, q1]; rfl
          · subst k2
            have : canO awL 92 4 5 = some 100 := by kernel_rfl
            rw [this] at g8
            injection g8 with g8
            omega
        · omega
  · exact absurd aw92_chain (h3 _ _)
theorem aw30 {es : List Nat} {ok : Bool} (h : BrkOk awL 30 es ok) : ok = false := by
  rcases h with ⟨h1, c, h2, h3⟩ | ⟨h1, _, _⟩
  · exfalso
    have hz : 0 < es.length := by
      rcases Nat.eq_zero_or_pos es.length with z | z
      · have e := List.length_eq_zero_iff.1 z
        subst e
        have := h2.next
        cases this
      · exact z
    obtain ⟨c', p, _, a2, a3, a4, a5, _⟩ := h2.at_ hz
    have e0 : nextF (es.take 0) = 0 := rfl
    rw [e0] at a5
    rcases awL_leg _ a3 a4 with q | q | q <;> rw [q] at a5
    · have : canO awL 30 0 1 = none := by kernel_rfl
      rw [this] at a5; cases a5
    · have : canO awL 30 0 3 = none := by kernel_rfl
      rw [this] at a5; cases a5
    · have : canO awL 30 0 5 = none := by kernel_rfl
      rw [this] at a5; cases a5
  · exact h1
theorem aw_sum : btw awL 1 4 = ⟨52, 6, 4⟩ := by kernel_rfl

/-- Words of one width, with spaces between. -/
def wdL : Nat → List It
  | 0 => []
  | 1 => [wb 10]
  | n + 2 => wb 10 :: wg 2 0 0 :: wdL (n + 1)
theorem wdL_len : ∀ n, (wdL (n + 1)).length = 2 * n + 1
  | 0 => rfl
  | n + 1 => by rw [wdL, List.length_cons, List.length_cons, wdL_len n]; omega
theorem wdL_box : ∀ (n k : Nat), k < n → (wdL n)[2 * k]? = some (wb 10)
  | 0, _, h => by omega
  | 1, 0, _ => rfl
  | 1, k + 1, h => by omega
  | n + 2, 0, _ => rfl
  | n + 2, k + 1, h => by
    rw [wdL, show 2 * (k + 1) = 2 * k + 1 + 1 by omega, List.getElem?_cons_succ, List.getElem?_cons_succ]
    exact wdL_box (n + 1) k (by omega)
theorem wdL_glue : ∀ (n k : Nat), k + 1 < n → (wdL n)[2 * k + 1]? = some (wg 2 0 0)
  | 0, _, h => by omega
  | 1, _, h => by omega
  | n + 2, 0, _ => rfl
  | n + 2, k + 1, h => by
    rw [wdL, show 2 * (k + 1) + 1 = 2 * k + 1 + 1 + 1 by omega, List.getElem?_cons_succ, List.getElem?_cons_succ]
    exact wdL_glue (n + 1) k (by omega)
theorem wdL_snoc : ∀ n, 0 < n → wdL (n + 1) = wdL n ++ [wg 2 0 0, wb 10]
  | 0, h => by omega
  | 1, _ => rfl
  | n + 2, _ => by
    show wb 10 :: wg 2 0 0 :: wdL (n + 2) = wb 10 :: wg 2 0 0 :: (wdL (n + 1) ++ [wg 2 0 0, wb 10])
    rw [wdL_snoc (n + 1) (by omega)]
theorem wdL_w {n : Nat} : ∀ x ∈ wdL n, itW x := by
  have key : ∀ n, ∀ x ∈ wdL n, x = wb 10 ∨ x = wg 2 0 0 := by
    intro n
    induction n using wdL.induct with
    | case1 => intro x h; cases h
    | case2 => intro x h; exact .inl (List.mem_singleton.1 h)
    | case3 n ih =>
      intro x h
      rw [wdL] at h
      rcases List.mem_cons.1 h with h | h
      · exact .inl h
      · rcases List.mem_cons.1 h with h | h
        · exact .inr h
        · exact ih x h
  intro x h
  rcases key n x h with rfl | rfl <;> exact ⟨⟨by decide, by decide⟩, ⟨by decide, by decide⟩, by decide, by decide⟩
theorem wd_pre {n : Nat} : ∀ q, q < n → preM (wdL n) (2 * q) = ⟨12 * (q : Int), 0, 0⟩ ∧ preM (wdL n) (2 * q + 1) = ⟨12 * (q : Int) + 10, 0, 0⟩
  | 0, h => by
    refine ⟨rfl, ?_⟩
    rw [preM, wdL_box n 0 h]
    rfl
  | q + 1, h => by
    obtain ⟨_, h2⟩ := wd_pre (n := n) q (by omega)
    have h3 : preM (wdL n) (2 * (q + 1)) = ⟨12 * ((q + 1 : Nat) : Int), 0, 0⟩ := by
      rw [show 2 * (q + 1) = 2 * q + 1 + 1 by omega, preM, wdL_glue n q h, h2]
      show meAdd _ _ = _
      unfold meAdd wg
      rw [if_neg (by decide)]
      simp only [Me.mk.injEq]
      refine ⟨?_, ?_, ?_⟩ <;> omega
    refine ⟨h3, ?_⟩
    rw [preM, wdL_box n (q + 1) h, h3]
    rfl
theorem wd_get {n k : Nat} (h : k < n) (hl : 2 * k < (wdL n).length) : (wdL n)[2 * k] = wb 10 := by
  have := wdL_box n k h
  rw [List.getElem?_eq_getElem hl] at this
  injection this
theorem wd_len {n : Nat} (h : 0 < n) : (wdL n).length = 2 * n - 1 := by
  obtain ⟨m, rfl⟩ : ∃ m, n = m + 1 := ⟨n - 1, by omega⟩
  rw [wdL_len]; omega
theorem wd_leg {n e : Nat} (hn : 0 < n) (he : e ≤ (wdL n).length) (hg : legP (wdL n) e = true) : ∃ k, k < n ∧ e = 2 * k + 1 := by
  have hl := wd_len hn
  obtain ⟨k, q | q⟩ : ∃ k, e = 2 * k ∨ e = 2 * k + 1 := ⟨e / 2, by omega⟩
  · exfalso
    subst q
    have hk : k < n := by omega
    have h1 : 2 * k < (wdL n).length := by omega
    have h2 := wd_get hk h1
    rw [leg_else h1 (by rw [h2]; decide) (by rw [h2]; decide)] at hg
    cases hg
  · exact ⟨k, by omega, q⟩
theorem wd_box {n a : Nat} (ha : a < n) : bxP (wdL n) (2 * a) = 2 * a := by
  have hl := wd_len (n := n) (by omega)
  exact bxP_box (by omega) (by rw [wd_get ha]; rfl)
theorem wd_btw {n a k : Nat} (h : a ≤ k) (hk : k < n) : btw (wdL n) (2 * a) (2 * k + 1) = ⟨12 * ((k : Int) - a) + 10, 0, 0⟩ := by
  unfold btw
  rw [wd_box (by omega), Nat.min_eq_left (by omega), (wd_pre k hk).2, (wd_pre a (by omega)).1]
  unfold meSub
  simp only [Me.mk.injEq]
  refine ⟨?_, ?_, ?_⟩ <;> omega
theorem wd_even {n : Nat} {wd : Int} {es : List Nat} {f : Nat} {c : Int} (hn : 0 < n) (h : Chain (wdL n) wd es f c) : ∃ a, a ≤ n ∧ f = 2 * a := by
  rcases h.inv with ⟨_, h2, _⟩ | ⟨es', e, f', c', p, h1, h2, h3, h4, h5, h6, h7, h8⟩
  · exact ⟨0, Nat.zero_le _, h2⟩
  · obtain ⟨k, hk, he⟩ := wd_leg hn h6 h7
    exact ⟨k + 1, hk, by omega⟩
theorem wd_line {n r a e : Nat} {p : Int} (hn : 0 < n) (he : e ≤ (wdL n).length) (hg : legP (wdL n) e = true) (hf : 2 * a ≤ e) (h : canO (wdL n) (12 * (r : Int) - 2) (2 * a) e = some p) : ∃ k, k < n ∧ e = 2 * k + 1 ∧ a ≤ k ∧ k + 1 ≤ a + r := by
  obtain ⟨k, hk, rfl⟩ := wd_leg hn he hg
  have hak : a ≤ k := by omega
  have hp := (can_noM h).2
  unfold prc at hp
  rw [wd_btw hak hk] at hp
  have := prcM_fits hp
  simp only at this
  exact ⟨k, hk, rfl, hak, by omega⟩
theorem wd_count {n r : Nat} {es : List Nat} {f : Nat} {c : Int} (hn : 0 < n) (h : Chain (wdL n) (12 * (r : Int) - 2) es f c) : f ≤ 2 * (r * es.length) := by
  induction h with
  | nil => simp
  | @snoc es f c e p h1 h2 h3 h4 h5 ih =>
    obtain ⟨a, ha, rfl⟩ := wd_even hn h1
    obtain ⟨k, hk, rfl, hak, hr⟩ := wd_line hn h3 h4 h2 h5
    rw [List.length_append, List.length_singleton, Nat.mul_add, Nat.mul_one]
    omega
theorem wd_chain {n r : Nat} (hn : 0 < n) (hr : 0 < r) : ∀ j, j ≤ n → ∃ es c, Chain (wdL n) (12 * (r : Int) - 2) es (2 * j) c
  | 0, _ => ⟨[], 0, .nil⟩
  | j + 1, hj => by
    obtain ⟨es, c, h⟩ := wd_chain hn hr j (by omega)
    have hl := wd_len hn
    have h1 : 2 * j < (wdL n).length := by omega
    have hg := wd_get (n := n) (k := j) (by omega) h1
    have hnm : noM (wdL n) (2 * j) (2 * j + 1) = true := noM_iff.2 fun k k1 k2 => by
      have : k = 2 * j := by omega
      subst this
      exact must_else h1 (by rw [hg]; decide)
    have hp : ∃ p, canO (wdL n) (12 * (r : Int) - 2) (2 * j) (2 * j + 1) = some p := by
      rw [can_yes hnm]
      unfold prc
      rw [wd_btw (Nat.le_refl _) (by omega)]
      unfold prcM
      rw [if_neg (by simp only; omega)]
      split
      · exact ⟨_, rfl⟩
      · exact ⟨_, rfl⟩
    obtain ⟨p, hp⟩ := hp
    have hlg : legP (wdL n) (2 * j + 1) = true := by
      by_cases q : 2 * j + 1 = (wdL n).length
      · rw [q]; exact leg_end _
      · have h2 : 2 * j + 1 < (wdL n).length := by omega
        have h3 := wdL_glue n j (by omega)
        rw [List.getElem?_eq_getElem h2] at h3
        injection h3 with h3
        rw [leg_glue h2 (by rw [h3]; rfl), hg]
        rfl
    refine ⟨es ++ [2 * j + 1], c + p, ?_⟩
    exact Chain.snoc (2 * j + 1) p h (by omega) (by omega) hlg hp
/-- Words of one width have a way, in no fewer lines than they need, and no line has more than have room. -/
theorem wd_told {n r : Nat} {es : List Nat} {ok : Bool} (hn : 0 < n) (hr : 0 < r) (h : BrkOk (wdL n) (12 * (r : Int) - 2) es ok) : ok = true ∧ n ≤ r * es.length ∧ ∃ c, Chain (wdL n) (12 * (r : Int) - 2) es (2 * n) c := by
  have hl := wd_len hn
  have hl2 : (wdL n).length + 1 = 2 * n := by omega
  rcases h with ⟨h1, c, h2, _⟩ | ⟨_, _, h3⟩
  · rw [hl2] at h2
    have := wd_count hn h2
    exact ⟨h1, by omega, c, h2⟩
  · exfalso
    obtain ⟨es', c', h'⟩ := wd_chain hn hr n (Nat.le_refl _)
    rw [← hl2] at h'
    exact h3 _ _ h'
theorem wd_each {n r : Nat} {es : List Nat} {c : Int} (hn : 0 < n) (h : Chain (wdL n) (12 * (r : Int) - 2) es (2 * n) c) {i : Nat} (hi : i < es.length) : ∃ a k, nextF (es.take i) = 2 * a ∧ es[i] = 2 * k + 1 ∧ a ≤ k ∧ k + 1 ≤ a + r ∧ k < n ∧ nextF (es.take (i + 1)) = 2 * k + 2 := by
  obtain ⟨c', p, a1, a2, a3, a4, a5, a6⟩ := h.at_ hi
  obtain ⟨a, ha, hf⟩ := wd_even hn a1
  rw [hf] at a2 a5
  obtain ⟨k, hk, he, hak, hr⟩ := wd_line hn a3 a4 a2 a5
  exact ⟨a, k, hf, he, hak, hr, hk, by rw [a6, he]⟩
end Go.Proofs.Ytjkkinccehfmoaa
