/-
  Plain lists of bytes: clean texts, lines, blanks. No program in sight.
-/
import Derived.Test.YtonajkcdkihchaaDoorUtf
namespace Go.Proofs.YtonajkcdkihchaaDoor
open Go Go.Lib

/-! ### Clean -/
/-- What the rune ahead comes to. -/
def piece (l : List UInt8) : List UInt8 := if (decodeL l).1 = 0 then [239, 191, 189] else if (decodeL l).1 = 13 then (if hasPrefix (l.drop 1) [10] then [] else [10]) else encodeRune (decodeL l).1
def cleanGo : Nat → List UInt8 → List UInt8
  | 0, _ => []
  | n + 1, l => if l = [] then [] else piece l ++ cleanGo n (l.drop (decodeL l).2)
def cleanL (l : List UInt8) : List UInt8 := cleanGo l.length l
theorem cleanGo_nil : ∀ n, cleanGo n [] = []
  | 0 => rfl
  | _ + 1 => by simp [cleanGo]
theorem cleanGo_fuel : ∀ (n m : Nat) (l : List UInt8), l.length ≤ n → l.length ≤ m → cleanGo n l = cleanGo m l
  | 0, m, l, hn, _ => by
    have : l = [] := List.eq_nil_of_length_eq_zero (by omega)
    subst this
    rw [cleanGo_nil, cleanGo_nil]
  | n + 1, 0, l, _, hm => by
    have : l = [] := List.eq_nil_of_length_eq_zero (by omega)
    subst this
    rw [cleanGo_nil, cleanGo_nil]
  | n + 1, m + 1, l, hn, hm => by
    by_cases hne : l = []
    · subst hne
      rw [cleanGo_nil, cleanGo_nil]
    · have hw := decodeL_width l
      have hl : 0 < l.length := List.length_pos_iff.2 hne
      simp only [cleanGo, if_neg hne]
      rw [cleanGo_fuel n m _ (by rw [List.length_drop]; omega) (by rw [List.length_drop]; omega)]
theorem cleanL_nil : cleanL [] = [] := rfl
theorem cleanL_step (l : List UInt8) (hne : l ≠ []) : cleanL l = piece l ++ cleanL (l.drop (decodeL l).2) := by
  have hw := decodeL_width l
  have hl : 0 < l.length := List.length_pos_iff.2 hne
  unfold cleanL
  obtain ⟨n, hn⟩ : ∃ n, l.length = n + 1 := ⟨l.length - 1, by omega⟩
  rw [hn]
  simp only [cleanGo, if_neg hne]
  rw [cleanGo_fuel n _ _ (by rw [List.length_drop]; omega) (Nat.le_refl _)]

/-- A rune of a clean text. -/
def goodR (r : Int) : Prop := okR r ∧ r ≠ 0 ∧ r ≠ 13
theorem enc_lost : encodeRune 65533 = [239, 191, 189] := by decide +kernel
theorem enc_lf : encodeRune 10 = [10] := by decide +kernel
theorem piece_good (l : List UInt8) : ∃ rs, piece l = bytesR rs ∧ ∀ r ∈ rs, goodR r := by
  have ho := decode_ok l
  unfold piece
  split
  · exact ⟨[65533], by show _ = encodeRune 65533 ++ []; rw [enc_lost]; rfl, fun r h => by
      rw [List.mem_singleton] at h; subst h; exact ⟨by unfold okR; omega, by omega, by omega⟩⟩
  · split
    · split
      · exact ⟨[], rfl, fun r h => by cases h⟩
      · exact ⟨[10], by show _ = encodeRune 10 ++ []; rw [enc_lf]; rfl, fun r h => by
          rw [List.mem_singleton] at h; subst h; exact ⟨by unfold okR; omega, by omega, by omega⟩⟩
    · exact ⟨[((decodeL l).1 : Int)], by show _ = encodeRune _ ++ []; rw [List.append_nil], fun r h => by
        rw [List.mem_singleton] at h; subst h; exact ⟨ho, by omega, by omega⟩⟩
theorem cleanGo_good : ∀ (n : Nat) (l : List UInt8), ∃ rs, cleanGo n l = bytesR rs ∧ ∀ r ∈ rs, goodR r
  | 0, _ => ⟨[], rfl, fun _ h => by cases h⟩
  | n + 1, l => by
    unfold cleanGo
    split
    · exact ⟨[], rfl, fun _ h => by cases h⟩
    · obtain ⟨a, ea, ha⟩ := piece_good l
      obtain ⟨b, eb, hb⟩ := cleanGo_good n (l.drop (decodeL l).2)
      exact ⟨a ++ b, by rw [ea, eb, bytesR_append], fun r h => (List.mem_append.1 h).elim (ha r) (hb r)⟩
theorem cleanL_good (l : List UInt8) : ∃ rs, cleanL l = bytesR rs ∧ ∀ r ∈ rs, goodR r := cleanGo_good _ _
/-- A clean text stays as it is. -/
theorem clean_bytesR : ∀ (rs : List Int), (∀ r ∈ rs, goodR r) → cleanL (bytesR rs) = bytesR rs
  | [], _ => rfl
  | r :: rs, h => by
    obtain ⟨h1, h2, h3⟩ := h r (List.mem_cons_self ..)
    have hd := dec_enc r h1 (bytesR rs)
    have hr : ((r.toNat : Nat) : Int) = r := by unfold okR at h1; omega
    rw [bytesR_cons, cleanL_step _ (by simp [enc_ne]), hd, List.drop_left, clean_bytesR rs (fun x hx => h x (List.mem_cons_of_mem _ hx))]
    congr 1
    unfold piece
    rw [hd]
    dsimp only
    rw [if_neg (by omega), if_neg (by omega), hr]
theorem clean_clean (l : List UInt8) : cleanL (cleanL l) = cleanL l := by
  obtain ⟨rs, e, h⟩ := cleanL_good l
  rw [e, clean_bytesR rs h]
theorem clean_none (l : List UInt8) : ∀ b ∈ cleanL l, b.toNat ≠ 0 ∧ b.toNat ≠ 13 := by
  obtain ⟨rs, e, h⟩ := cleanL_good l
  rw [e]
  intro b hb
  obtain ⟨r, hr, hbr⟩ := List.mem_flatMap.1 hb
  obtain ⟨h1, h2, h3⟩ := h r hr
  have := enc_bytes r h1 b hbr
  unfold okR at h1
  omega
theorem piece_len (l : List UInt8) : (piece l).length ≤ 4 := by
  unfold piece
  have := enc_len (decodeL l).1
  split
  · simp
  · split
    · split <;> simp
    · omega
theorem cleanGo_len : ∀ (n : Nat) (l : List UInt8), (cleanGo n l).length ≤ 4 * n
  | 0, _ => by simp [cleanGo]
  | n + 1, l => by
    unfold cleanGo
    split
    · simp
    · have h1 := piece_len l
      have h2 := cleanGo_len n (l.drop (decodeL l).2)
      rw [List.length_append]
      omega
theorem cleanL_len (l : List UInt8) : (cleanL l).length ≤ 4 * l.length := cleanGo_len _ _

/-! ### Lines -/
def linesFrom : List UInt8 → List UInt8 → List (List UInt8)
  | cur, [] => if cur = [] then [] else [cur]
  | cur, b :: l => if b = 10 then cur :: linesFrom [] l else linesFrom (cur ++ [b]) l
def linesL (l : List UInt8) : List (List UInt8) := linesFrom [] l
theorem linesFrom_run : ∀ (a cur l : List UInt8), (∀ b ∈ a, b ≠ 10) → linesFrom cur (a ++ l) = linesFrom (cur ++ a) l
  | [], cur, l, _ => by simp
  | b :: a, cur, l, h => by
    rw [List.cons_append, linesFrom, if_neg (h b (List.mem_cons_self ..)), linesFrom_run a _ l (fun x hx => h x (List.mem_cons_of_mem _ hx)), List.append_assoc]
    rfl
theorem linesFrom_len : ∀ (l cur : List UInt8), (linesFrom cur l).length ≤ l.length + 1
  | [], cur => by unfold linesFrom; split <;> simp
  | b :: l, cur => by
    unfold linesFrom
    split
    · have := linesFrom_len l []; rw [List.length_cons, List.length_cons]; omega
    · have := linesFrom_len l (cur ++ [b]); rw [List.length_cons]; omega
theorem linesL_len (l : List UInt8) : (linesL l).length ≤ l.length + 1 := linesFrom_len l []
/-- No line has an LF. -/
theorem linesFrom_none : ∀ (l cur : List UInt8), (∀ b ∈ cur, b ≠ 10) → ∀ x ∈ linesFrom cur l, ∀ b ∈ x, b ≠ 10
  | [], cur, h, x, hx => by
    unfold linesFrom at hx
    split at hx
    · cases hx
    · rw [List.mem_singleton] at hx; subst hx; exact h
  | c :: l, cur, h, x, hx => by
    unfold linesFrom at hx
    split at hx
    · rcases List.mem_cons.1 hx with rfl | hx
      · exact h
      · exact linesFrom_none l [] (fun b hb => by cases hb) x hx
    · next hc =>
      refine linesFrom_none l (cur ++ [c]) (fun b hb => ?_) x hx
      rcases List.mem_append.1 hb with hb | hb
      · exact h b hb
      · rw [List.mem_singleton] at hb; subst hb; exact hc
theorem linesL_none (l : List UInt8) : ∀ x ∈ linesL l, ∀ b ∈ x, b ≠ 10 := linesFrom_none l [] (fun b hb => by cases hb)
/-- The lines, an LF behind each. -/
def joinLF (ls : List (List UInt8)) : List UInt8 := ls.flatMap fun x => x ++ [10]
theorem joinLF_from : ∀ (l cur : List UInt8), joinLF (linesFrom cur l) = cur ++ l ∨ joinLF (linesFrom cur l) = cur ++ l ++ [10]
  | [], cur => by
    unfold linesFrom
    split
    · next h => left; rw [h]; rfl
    · right; simp [joinLF]
  | b :: l, cur => by
    unfold linesFrom
    split
    · next h =>
      subst h
      have e : joinLF (cur :: linesFrom [] l) = cur ++ [10] ++ joinLF (linesFrom [] l) := by simp [joinLF]
      rw [e]
      rcases joinLF_from l [] with h | h <;> rw [h] <;> simp
    · rcases joinLF_from l (cur ++ [b]) with h | h <;> rw [h] <;> simp
theorem joinLF_lines (l : List UInt8) : joinLF (linesL l) = l ∨ joinLF (linesL l) = l ++ [10] := by
  have := joinLF_from l []
  simpa [linesL] using this
/-- Two texts with an LF between. -/
theorem linesFrom_join : ∀ (a cur b : List UInt8), (∀ (h : a ≠ []), a.getLast h ≠ 10) → (a = [] → cur ≠ []) → linesFrom cur (a ++ 10 :: b) = linesFrom cur a ++ linesFrom [] b
  | [], cur, b, _, h2 => by
    have e1 : linesFrom cur (10 :: b) = cur :: linesFrom [] b := by rw [linesFrom, if_pos rfl]
    have e2 : linesFrom cur [] = [cur] := by rw [linesFrom, if_neg (h2 rfl)]
    rw [List.nil_append, e1, e2]; rfl
  | c :: a, cur, b, h1, _ => by
    have hlast : ∀ (h : a ≠ []), a.getLast h ≠ 10 := fun h => by
      have := h1 (by simp)
      rwa [List.getLast_cons h] at this
    rw [List.cons_append, linesFrom, linesFrom]
    by_cases hc : c = 10
    · rw [if_pos hc, if_pos hc]
      have ha : a ≠ [] := fun e => by
        subst e
        exact h1 (by simp) (by simpa using hc)
      rw [linesFrom_join a [] b hlast (fun e => absurd e ha)]
      rfl
    · rw [if_neg hc, if_neg hc, linesFrom_join a (cur ++ [c]) b hlast (fun _ => by simp)]
theorem lines_join (a b : List UInt8) (h0 : a ≠ []) (h1 : a.getLast h0 ≠ 10) : linesL (a ++ 10 :: b) = linesL a ++ linesL b :=
  linesFrom_join a [] b (fun _ => h1) (fun e => absurd e h0)

/-! ### Blank, Trim -/
def isB (b : UInt8) : Bool := decide (b.toNat = 32) || decide (b.toNat = 9)
def ws (b : UInt8) : Bool := isB b || decide (b.toNat = 10)
def blankL (l : List UInt8) : Bool := l.all isB
theorem isB_big {b : UInt8} (h : 128 ≤ b.toNat) : isB b = false := by unfold isB; rw [decide_eq_false (by omega), decide_eq_false (by omega)]; rfl
theorem ws_big {b : UInt8} (h : 128 ≤ b.toNat) : ws b = false := by unfold ws; rw [isB_big h, decide_eq_false (by omega)]; rfl
theorem blank_snoc (l : List UInt8) (b : UInt8) : blankL (l ++ [b]) = (blankL l && isB b) := by unfold blankL; simp
theorem blank_no {l : List UInt8} {b : UInt8} (h : b ∈ l) (hb : isB b = false) : blankL l = false := by
  unfold blankL
  rw [← Bool.not_eq_true, List.all_eq_true]
  intro k
  rw [k b h] at hb
  cases hb

def trimL (l : List UInt8) : List UInt8 := ((l.dropWhile ws).reverse.dropWhile ws).reverse
/-- Nothing, or what begins and ends with what is no blank. -/
def Core (m : List UInt8) : Prop := m = [] ∨ ((∃ a t, m = a :: t ∧ ws a = false) ∧ ∃ t z, m = t ++ [z] ∧ ws z = false)
theorem dropWhile_all {a : List UInt8} (h : ∀ b ∈ a, ws b = true) (l : List UInt8) : (a ++ l).dropWhile ws = l.dropWhile ws := by
  induction a with
  | nil => rfl
  | cons b a ih =>
    rw [List.cons_append, List.dropWhile_cons, if_pos (h b (List.mem_cons_self ..))]
    exact ih fun x hx => h x (List.mem_cons_of_mem _ hx)
theorem dropWhile_none {a : List UInt8} (h : ∀ b ∈ a, ws b = true) : a.dropWhile ws = [] := by
  have := dropWhile_all h []
  simpa using this
theorem trim_of {a m b : List UInt8} (ha : ∀ x ∈ a, ws x = true) (hb : ∀ x ∈ b, ws x = true) (hm : Core m) : trimL (a ++ m ++ b) = m := by
  have hbr : ∀ x ∈ b.reverse, ws x = true := fun x hx => hb x (List.mem_reverse.1 hx)
  unfold trimL
  rw [List.append_assoc, dropWhile_all ha]
  rcases hm with rfl | ⟨⟨c, t, e1, w1⟩, t2, z, e2, w2⟩
  · rw [List.nil_append, dropWhile_none hb]; rfl
  · have e3 : (m ++ b).dropWhile ws = m ++ b := by
      rw [e1, List.cons_append, List.dropWhile_cons, w1]; simp
    rw [e3, List.reverse_append, dropWhile_all hbr, e2, List.reverse_append, List.reverse_singleton, List.singleton_append, List.dropWhile_cons, w2]
    simp
theorem split_head : ∀ l : List UInt8, ∃ a r, l = a ++ r ∧ (∀ x ∈ a, ws x = true) ∧ (r = [] ∨ ∃ c t, r = c :: t ∧ ws c = false)
  | [] => ⟨[], [], rfl, (fun _ h => by cases h), .inl rfl⟩
  | b :: l => by
    cases hb : ws b with
    | false => exact ⟨[], b :: l, rfl, fun _ h => (by cases h), .inr ⟨b, l, rfl, hb⟩⟩
    | true =>
      obtain ⟨a, r, e, h1, h2⟩ := split_head l
      exact ⟨b :: a, r, by rw [e]; rfl, fun x hx => (List.mem_cons.1 hx).elim (fun e => e ▸ hb) (h1 x), h2⟩
theorem split_trim (l : List UInt8) : ∃ a m b, l = a ++ m ++ b ∧ (∀ x ∈ a, ws x = true) ∧ (∀ x ∈ b, ws x = true) ∧ Core m := by
  obtain ⟨a, r, e, h1, h2⟩ := split_head l
  rcases h2 with rfl | ⟨c, t, rfl, hc⟩
  · exact ⟨a, [], [], by rw [e]; simp, h1, (fun _ h => by cases h), .inl rfl⟩
  · obtain ⟨b', m', e', k1, k2⟩ := split_head (c :: t).reverse
    have e2 : c :: t = m'.reverse ++ b'.reverse := by
      have := congrArg List.reverse e'
      simpa using this
    refine ⟨a, m'.reverse, b'.reverse, by rw [e, e2, List.append_assoc], h1, fun x hx => k1 x (List.mem_reverse.1 hx), ?_⟩
    rcases k2 with rfl | ⟨z, t', rfl, hz⟩
    · rw [List.reverse_nil, List.nil_append] at e2
      have := k1 c (List.mem_reverse.1 (e2 ▸ List.mem_cons_self ..))
      rw [hc] at this
      cases this
    · refine .inr ⟨?_, ⟨t'.reverse, z, by rw [List.reverse_cons], hz⟩⟩
      rw [List.reverse_cons] at e2 ⊢
      cases ht : t'.reverse with
      | nil =>
        rw [ht] at e2
        simp only [List.nil_append, List.singleton_append, List.cons.injEq] at e2
        exact ⟨z, [], rfl, hz⟩
      | cons d u =>
        rw [ht] at e2
        simp only [List.cons_append, List.cons.injEq] at e2
        exact ⟨d, u ++ [z], rfl, e2.1 ▸ hc⟩
theorem trim_core (l : List UInt8) : Core (trimL l) := by
  obtain ⟨a, m, b, e, h1, h2, h3⟩ := split_trim l
  rw [e, trim_of h1 h2 h3]; exact h3
theorem trim_trim (l : List UInt8) : trimL (trimL l) = trimL l := by
  have := trim_of (a := []) (b := []) (fun _ h => by cases h) (fun _ h => by cases h) (trim_core l)
  simpa using this
theorem trim_more (l a b : List UInt8) (ha : ∀ x ∈ a, ws x = true) (hb : ∀ x ∈ b, ws x = true) : trimL (a ++ l ++ b) = trimL l := by
  obtain ⟨a', m, b', e, h1, h2, h3⟩ := split_trim l
  have e2 : a ++ (a' ++ m ++ b') ++ b = (a ++ a') ++ m ++ (b' ++ b) := by simp
  rw [e, e2, trim_of h1 h2 h3]
  exact trim_of (fun x hx => (List.mem_append.1 hx).elim (ha x) (h1 x)) (fun x hx => (List.mem_append.1 hx).elim (h2 x) (hb x)) h3
theorem trim_blank (l : List UInt8) (h : blankL l = true) : trimL l = [] := by
  have := trim_of (a := l) (m := []) (b := []) (fun x hx => by
    have := List.all_eq_true.1 h x hx
    unfold ws; rw [this]; rfl) (fun _ h => by cases h) (.inl rfl)
  simpa using this
theorem trim_len (l : List UInt8) : (trimL l).length ≤ l.length := by
  obtain ⟨a, m, b, e, h1, h2, h3⟩ := split_trim l
  rw [e, trim_of h1 h2 h3, List.length_append, List.length_append]; omega
theorem trim_first {l : List UInt8} (h : trimL l ≠ []) : blankL ((trimL l).take 1) = false := by
  rcases trim_core l with e | ⟨⟨a, t, e, w⟩, _⟩
  · exact absurd e h
  · rw [e]
    refine blank_no (b := a) (by simp) ?_
    unfold ws at w
    rw [Bool.or_eq_false_iff] at w
    exact w.1
theorem trim_last {l : List UInt8} (h : trimL l ≠ []) : blankL ((trimL l).drop ((trimL l).length - 1)) = false := by
  rcases trim_core l with e | ⟨_, t, z, e, w⟩
  · exact absurd e h
  · rw [e]
    refine blank_no (b := z) (by simp) ?_
    unfold ws at w
    rw [Bool.or_eq_false_iff] at w
    exact w.1
end Go.Proofs.YtonajkcdkihchaaDoor
