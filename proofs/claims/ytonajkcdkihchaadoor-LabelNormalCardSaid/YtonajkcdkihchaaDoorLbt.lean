/-
  Plain lists of bytes: labels, a label as it is looked for, lines, definitions. No program in sight.
-/
import Derived.Test.YtonajkcdkihchaaDoorTrh
import Derived.Test.YtonajkcdkihchaaDoorSrct
namespace Go.Proofs.YtonajkcdkihchaaDoor
open Go Go.Lib

/-! ### A label -/
/-- How many bytes there are up to the ], with it; 0: none. k: how many stand ahead; h: whether the next sign is hidden. -/
def labS : Nat → Bool → List UInt8 → Nat
  | _, _, [] => 0
  | k, h, b :: l => if 999 < k then 0 else if h then labS (k + 1) false l else if b.toNat = 92 then labS (k + 1) true l else if b.toNat = 91 then 0 else if b.toNat = 93 then k + 1 else labS (k + 1) false l
theorem labS_far (k : Nat) (h : Bool) (l : List UInt8) (hk : 999 < k) : labS k h l = 0 := by
  cases l with
  | nil => rfl
  | cons b l => rw [labS, if_pos hk]
theorem labS_hid {k : Nat} (b : UInt8) (l : List UInt8) (hk : ¬ 999 < k) : labS k true (b :: l) = labS (k + 1) false l := by rw [labS, if_neg hk, if_pos rfl]
theorem labS_back {k : Nat} (b : UInt8) (l : List UInt8) (hk : ¬ 999 < k) (hb : b.toNat = 92) : labS k false (b :: l) = labS (k + 1) true l := by rw [labS, if_neg hk, if_neg (by decide), if_pos hb]
theorem labS_open {k : Nat} (b : UInt8) (l : List UInt8) (hk : ¬ 999 < k) (hb : b.toNat = 91) : labS k false (b :: l) = 0 := by rw [labS, if_neg hk, if_neg (by decide), if_neg (by omega), if_pos hb]
theorem labS_shut {k : Nat} (b : UInt8) (l : List UInt8) (hk : ¬ 999 < k) (hb : b.toNat = 93) : labS k false (b :: l) = k + 1 := by rw [labS, if_neg hk, if_neg (by decide), if_neg (by omega), if_neg (by omega), if_pos hb]
theorem labS_go {k : Nat} (b : UInt8) (l : List UInt8) (hk : ¬ 999 < k) (h1 : b.toNat ≠ 92) (h2 : b.toNat ≠ 91) (h3 : b.toNat ≠ 93) : labS k false (b :: l) = labS (k + 1) false l := by rw [labS, if_neg hk, if_neg (by decide), if_neg h1, if_neg h2, if_neg h3]
/-- Bytes of a rune that isn't ASCII. -/
theorem labS_big : ∀ (c : List UInt8) (k : Nat) (h : Bool) (l : List UInt8), c ≠ [] → ¬ 999 < k → (∀ b ∈ c, 128 ≤ b.toNat) → labS k h (c ++ l) = labS (k + c.length) false l
  | [], _, _, _, hc, _, _ => absurd rfl hc
  | b :: c, k, h, l, _, hk, hb => by
    have h1 := hb b (List.mem_cons_self ..)
    have e : labS k h (b :: (c ++ l)) = labS (k + 1) false (c ++ l) := by
      cases h with
      | true => exact labS_hid b _ hk
      | false => exact labS_go b _ hk (by omega) (by omega) (by omega)
    rw [List.cons_append, e]
    by_cases hc : c = []
    · subst hc; rfl
    · by_cases hf : 999 < k + 1
      · rw [labS_far _ _ _ hf, labS_far _ _ _ (by rw [List.length_cons]; omega)]
      · rw [labS_big c (k + 1) false l hc hf (fun x hx => hb x (List.mem_cons_of_mem _ hx)), List.length_cons, show k + 1 + c.length = k + (c.length + 1) by omega]
theorem labS_le : ∀ (l : List UInt8) (k : Nat) (h : Bool), labS k h l ≤ k + l.length
  | [], _, _ => Nat.zero_le _
  | b :: l, k, h => by
    have h1 := labS_le l (k + 1) false
    have h2 := labS_le l (k + 1) true
    rw [labS, List.length_cons]
    split
    · omega
    · split
      · omega
      · split
        · omega
        · split
          · omega
          · split <;> omega
/-- What stands in the [ and ] ahead; nothing, if there is no label. -/
def lblI (l : List UInt8) : List UInt8 := if hasPrefix l [91] then (l.drop 1).take (labS 0 false (l.drop 1) - 1) else []
def lblT (l : List UInt8) : List UInt8 := if trimL (lblI l) = [] then [] else lblI l
def lblN (l : List UInt8) : Nat := if trimL (lblI l) = [] then 0 else (lblI l).length + 2
theorem lblI_le (l : List UInt8) : lblI l = [] ∨ (lblI l).length + 2 ≤ l.length := by
  unfold lblI
  split
  · by_cases h0 : labS 0 false (l.drop 1) = 0
    · rw [h0]; exact .inl rfl
    · have h := labS_le (l.drop 1) 0 false
      refine .inr ?_
      rw [List.length_take]
      rw [List.length_drop] at *
      omega
  · exact .inl rfl
theorem trim_nil : trimL [] = [] := rfl
theorem lbl_le (l : List UInt8) : (lblT l).length ≤ l.length ∧ lblN l ≤ l.length := by
  unfold lblT lblN
  rcases lblI_le l with e | h
  · rw [e, trim_nil, if_pos rfl, if_pos rfl]; exact ⟨Nat.zero_le _, Nat.zero_le _⟩
  · split
    · exact ⟨Nat.zero_le _, Nat.zero_le _⟩
    · omega

/-! ### As it is looked for -/
def smR (r : Int) : Int := if (65 ≤ r ∧ r ≤ 90) ∨ (192 ≤ r ∧ r ≤ 222 ∧ r ≠ 215) then r + 32 else r
def wsR (r : Int) : Bool := decide (r = 32) || decide (r = 9) || decide (r = 10)
def gapL (g : Bool) : List UInt8 := if g then [32] else []
def nrmGo : Nat → Bool → List UInt8 → List UInt8
  | 0, _, _ => []
  | n + 1, g, l => if l = [] then [] else if wsR (decodeL l).1 then nrmGo n true (l.drop (decodeL l).2) else gapL g ++ encodeRune (smR (decodeL l).1) ++ nrmGo n false (l.drop (decodeL l).2)
def nrmF (g : Bool) (l : List UInt8) : List UInt8 := nrmGo l.length g l
def nrmL (l : List UInt8) : List UInt8 := nrmF false (trimL l)
theorem nrmGo_nil : ∀ n g, nrmGo n g [] = []
  | 0, _ => rfl
  | _ + 1, _ => by simp [nrmGo]
theorem nrmGo_fuel : ∀ (n m : Nat) (g : Bool) (l : List UInt8), l.length ≤ n → l.length ≤ m → nrmGo n g l = nrmGo m g l
  | 0, m, g, l, hn, _ => by
    have : l = [] := List.eq_nil_of_length_eq_zero (by omega)
    subst this
    rw [nrmGo_nil, nrmGo_nil]
  | n + 1, 0, g, l, _, hm => by
    have : l = [] := List.eq_nil_of_length_eq_zero (by omega)
    subst this
    rw [nrmGo_nil, nrmGo_nil]
  | n + 1, m + 1, g, l, hn, hm => by
    by_cases hne : l = []
    · subst hne
      rw [nrmGo_nil, nrmGo_nil]
    · have hw := decodeL_width l
      have hl : 0 < l.length := List.length_pos_iff.2 hne
      simp only [nrmGo, if_neg hne]
      rw [nrmGo_fuel n m true _ (by rw [List.length_drop]; omega) (by rw [List.length_drop]; omega), nrmGo_fuel n m false _ (by rw [List.length_drop]; omega) (by rw [List.length_drop]; omega)]
theorem nrmF_nil (g : Bool) : nrmF g [] = [] := rfl
theorem nrmF_step (g : Bool) (l : List UInt8) (hne : l ≠ []) : nrmF g l = if wsR (decodeL l).1 then nrmF true (l.drop (decodeL l).2) else gapL g ++ encodeRune (smR (decodeL l).1) ++ nrmF false (l.drop (decodeL l).2) := by
  have hw := decodeL_width l
  have hl : 0 < l.length := List.length_pos_iff.2 hne
  unfold nrmF
  obtain ⟨n, hn⟩ : ∃ n, l.length = n + 1 := ⟨l.length - 1, by omega⟩
  rw [hn]
  simp only [nrmGo, if_neg hne]
  rw [nrmGo_fuel n _ true _ (by rw [List.length_drop]; omega) (Nat.le_refl _), nrmGo_fuel n _ false _ (by rw [List.length_drop]; omega) (Nat.le_refl _)]
theorem gap_len (g : Bool) : (gapL g).length ≤ 1 := by cases g <;> decide
theorem nrmGo_len : ∀ (n : Nat) (g : Bool) (l : List UInt8), (nrmGo n g l).length ≤ 5 * n
  | 0, _, _ => by simp [nrmGo]
  | n + 1, g, l => by
    have h1 := nrmGo_len n true (l.drop (decodeL l).2)
    have h2 := nrmGo_len n false (l.drop (decodeL l).2)
    have h3 := gap_len g
    have h4 := enc_len (smR (decodeL l).1)
    unfold nrmGo
    split
    · simp
    · split
      · omega
      · rw [List.length_append, List.length_append]; omega
theorem nrm_len (l : List UInt8) : (nrmL l).length ≤ 5 * l.length := by
  have h1 := nrmGo_len (trimL l).length false (trimL l)
  have h2 := trim_len l
  unfold nrmL nrmF
  omega

/-! ### .. of ASCII -/
def lowB (b : UInt8) : UInt8 := if 65 ≤ b.toNat ∧ b.toNat ≤ 90 then b + 32 else b
theorem low_toNat (b : UInt8) : (lowB b).toNat = if 65 ≤ b.toNat ∧ b.toNat ≤ 90 then b.toNat + 32 else b.toNat := by
  unfold lowB
  split
  · rw [UInt8.toNat_add]; show (b.toNat + 32) % 256 = _; omega
  · rfl
theorem low_low (b : UInt8) : lowB (lowB b) = lowB b := by
  refine UInt8.toNat_inj.1 ?_
  rw [low_toNat (lowB b), low_toNat b]
  by_cases c : 65 ≤ b.toNat ∧ b.toNat ≤ 90
  · rw [if_pos c, if_neg (by omega)]
  · rw [if_neg c, if_neg c]
theorem ws_iff (b : UInt8) : ws b = true ↔ (b.toNat = 32 ∨ b.toNat = 9 ∨ b.toNat = 10) := by
  unfold ws isB
  simp only [Bool.or_eq_true, decide_eq_true_eq, or_assoc]
theorem wsN_iff (b : UInt8) : ws b = false ↔ ¬ (b.toNat = 32 ∨ b.toNat = 9 ∨ b.toNat = 10) := by
  rw [← ws_iff, Bool.not_eq_true]
theorem low_ws (b : UInt8) : ws (lowB b) = ws b := by
  rw [Bool.eq_iff_iff, ws_iff, ws_iff, low_toNat]
  split <;> omega
def nA : Bool → List UInt8 → List UInt8
  | _, [] => []
  | g, b :: l => if ws b then nA true l else gapL g ++ lowB b :: nA false l
theorem nA_ws {b : UInt8} (g : Bool) (l : List UInt8) (h : ws b = true) : nA g (b :: l) = nA true l := by rw [nA, if_pos h]
theorem nA_no {b : UInt8} (g : Bool) (l : List UInt8) (h : ws b = false) : nA g (b :: l) = gapL g ++ lowB b :: nA false l := by rw [nA, if_neg (by rw [h]; decide)]
theorem nA_len : ∀ (l : List UInt8) (g : Bool), (nA g l).length ≤ l.length + (gapL g).length
  | [], g => by simp [nA]
  | b :: l, g => by
    cases h : ws b with
    | true =>
      have := nA_len l true
      rw [nA_ws g l h, List.length_cons]
      have e : (gapL true).length = 1 := rfl
      omega
    | false =>
      have := nA_len l false
      rw [nA_no g l h, List.length_append, List.length_cons, List.length_cons]
      have e : (gapL false).length = 0 := rfl
      omega
theorem nA_big : ∀ (l : List UInt8) (g : Bool), (∀ b ∈ l, b.toNat < 128) → ∀ b ∈ nA g l, b.toNat < 128
  | [], g, _, b, hb => by cases hb
  | c :: l, g, h, b, hb => by
    have ht := fun x hx => h x (List.mem_cons_of_mem _ hx)
    have hc := h c (List.mem_cons_self ..)
    cases hw : ws c with
    | true => rw [nA_ws g l hw] at hb; exact nA_big l true ht b hb
    | false =>
      rw [nA_no g l hw] at hb
      rcases List.mem_append.1 hb with hb | hb
      · cases g with
        | true => rw [List.mem_singleton.1 hb]; decide
        | false => cases hb
      · rcases List.mem_cons.1 hb with rfl | hb
        · rw [low_toNat]; split <;> omega
        · exact nA_big l false ht b hb
theorem nA_nA : ∀ (l : List UInt8) (g : Bool), nA false (nA g l) = nA g l
  | [], g => rfl
  | b :: l, g => by
    cases h : ws b with
    | true => rw [nA_ws g l h, nA_nA l true]
    | false =>
      rw [nA_no g l h]
      have h2 : ws (lowB b) = false := by rw [low_ws]; exact h
      cases g with
      | true =>
        show nA false (32 :: lowB b :: nA false l) = 32 :: lowB b :: nA false l
        rw [nA_ws false _ (by decide), nA_no true _ h2, low_low, nA_nA l false]; rfl
      | false =>
        show nA false (lowB b :: nA false l) = lowB b :: nA false l
        rw [nA_no false _ h2, low_low, nA_nA l false]; rfl
theorem nA_last : ∀ (l : List UInt8) (g : Bool), nA g l = [] ∨ ∃ t z, nA g l = t ++ [z] ∧ ws z = false
  | [], _ => .inl rfl
  | b :: l, g => by
    cases h : ws b with
    | true => rw [nA_ws g l h]; exact nA_last l true
    | false =>
      have h2 : ws (lowB b) = false := by rw [low_ws]; exact h
      rw [nA_no g l h]
      rcases nA_last l false with e | ⟨t, z, e, hz⟩
      · rw [e]; exact .inr ⟨gapL g, lowB b, rfl, h2⟩
      · rw [e]; exact .inr ⟨gapL g ++ lowB b :: t, z, by simp, hz⟩
theorem nA_core {m : List UInt8} (h : Core m) : Core (nA false m) := by
  rcases h with rfl | ⟨⟨a, t, rfl, wa⟩, _⟩
  · exact .inl rfl
  · rcases nA_last (a :: t) false with e | h2
    · exact .inl e
    · refine .inr ⟨⟨lowB a, nA false t, nA_no false t wa, by rw [low_ws]; exact wa⟩, h2⟩
theorem trim_of_core {m : List UInt8} (h : Core m) : trimL m = m := by
  have := trim_of (a := []) (b := []) (fun _ h => by cases h) (fun _ h => by cases h) h
  simpa using this
theorem enc_ascii {b : UInt8} (h : b.toNat < 128) : encodeRune (b.toNat : Int) = [b] := by
  unfold encodeRune
  rw [encodeRuneZ_one (by omega) (by omega)]
  simp
theorem sm_ascii {b : UInt8} (h : b.toNat < 128) : smR (b.toNat : Int) = ((lowB b).toNat : Int) := by
  unfold smR
  rw [low_toNat]
  split <;> split <;> omega
theorem wsR_ascii (b : UInt8) : wsR (b.toNat : Int) = ws b := by
  rw [Bool.eq_iff_iff, ws_iff]
  unfold wsR
  simp only [Bool.or_eq_true, decide_eq_true_eq]
  omega
theorem nrm_ascii : ∀ (l : List UInt8) (g : Bool), (∀ b ∈ l, b.toNat < 128) → nrmF g l = nA g l
  | [], _, _ => rfl
  | b :: l, g, h => by
    have hb := h b (List.mem_cons_self ..)
    have ht := fun x hx => h x (List.mem_cons_of_mem _ hx)
    have hd : decodeL (b :: l) = (b.toNat, 1) := by
      rcases chunk _ b l rfl with ⟨_, e⟩ | ⟨h1, _⟩
      · exact e
      · omega
    rw [nrmF_step g _ (by simp), hd]
    dsimp only
    rw [wsR_ascii, List.drop_one, List.tail_cons, nrm_ascii l true ht, nrm_ascii l false ht, sm_ascii hb, enc_ascii (by rw [low_toNat]; split <;> omega)]
    rw [nA]
    split
    · rfl
    · simp
theorem trim_mem {l : List UInt8} {b : UInt8} (h : b ∈ trimL l) : b ∈ l := by
  obtain ⟨a, m, c, e, h1, h2, h3⟩ := split_trim l
  rw [e, trim_of h1 h2 h3] at h
  rw [e]
  exact List.mem_append_left _ (List.mem_append_right _ h)
theorem nrmL_ascii {l : List UInt8} (h : ∀ b ∈ l, b.toNat < 128) : nrmL l = nA false (trimL l) := nrm_ascii _ false fun b hb => h b (trim_mem hb)
theorem nrmL_big {l : List UInt8} (h : ∀ b ∈ l, b.toNat < 128) : ∀ b ∈ nrmL l, b.toNat < 128 := by
  rw [nrmL_ascii h]; exact nA_big _ _ fun b hb => h b (trim_mem hb)
theorem nrm_size {l : List UInt8} (h : ∀ b ∈ l, b.toNat < 128) : (nrmL l).length ≤ l.length := by
  rw [nrmL_ascii h]
  have h1 := nA_len (trimL l) false
  have h2 := trim_len l
  have e : (gapL false).length = 0 := rfl
  omega
/-- AS IT IS LOOKED FOR, AGAIN. -/
theorem nrm_nrm {l : List UInt8} (h : ∀ b ∈ l, b.toNat < 128) : nrmL (nrmL l) = nrmL l := by
  rw [nrmL_ascii (nrmL_big h), nrmL_ascii h, trim_of_core (nA_core (trim_core l)), nA_nA]
/-- BLANKS ABOUT IT. -/
theorem nrm_about {l a b : List UInt8} (ha : ∀ x ∈ a, ws x = true) (hb : ∀ x ∈ b, ws x = true) : nrmL (a ++ l ++ b) = nrmL l := by
  unfold nrmL
  rw [trim_more l a b ha hb]
/-- GREAT LETTERS, LFs FOR BLANKS. -/
def upB (b : UInt8) : UInt8 := if 97 ≤ b.toNat ∧ b.toNat ≤ 122 then b - 32 else if b.toNat = 32 then 10 else b
theorem upB_toNat (b : UInt8) : (upB b).toNat = if 97 ≤ b.toNat ∧ b.toNat ≤ 122 then b.toNat - 32 else if b.toNat = 32 then 10 else b.toNat := by
  unfold upB
  split
  · next h =>
    rw [UInt8.toNat_sub]
    show (256 - 32 + b.toNat) % 256 = _
    omega
  · split <;> rfl
theorem upB_ws (b : UInt8) : ws (upB b) = ws b := by
  rw [Bool.eq_iff_iff, ws_iff, ws_iff, upB_toNat]
  split
  · omega
  · split <;> omega
theorem upB_low {b : UInt8} (h : ws b = false) : lowB (upB b) = lowB b := by
  rw [wsN_iff] at h
  refine UInt8.toNat_inj.1 ?_
  rw [low_toNat, low_toNat, upB_toNat]
  split
  · split <;> split <;> omega
  · split
    · omega
    · rfl
theorem nA_map : ∀ (l : List UInt8) (g : Bool), nA g (l.map upB) = nA g l
  | [], _ => rfl
  | b :: l, g => by
    rw [List.map_cons]
    cases h : ws b with
    | true => rw [nA_ws g _ h, nA_ws g _ (by rw [upB_ws]; exact h), nA_map l true]
    | false => rw [nA_no g _ h, nA_no g _ (by rw [upB_ws]; exact h), nA_map l false, upB_low h]
theorem trim_map (l : List UInt8) : trimL (l.map upB) = (trimL l).map upB := by
  obtain ⟨a, m, b, e, h1, h2, h3⟩ := split_trim l
  rw [e, trim_of h1 h2 h3, List.map_append, List.map_append]
  refine trim_of (fun x hx => ?_) (fun x hx => ?_) ?_
  · obtain ⟨y, hy, rfl⟩ := List.mem_map.1 hx; rw [upB_ws]; exact h1 y hy
  · obtain ⟨y, hy, rfl⟩ := List.mem_map.1 hx; rw [upB_ws]; exact h2 y hy
  · rcases h3 with rfl | ⟨⟨c, t, rfl, w1⟩, t2, z, e2, w2⟩
    · exact .inl rfl
    · exact .inr ⟨⟨upB c, t.map upB, rfl, by rw [upB_ws]; exact w1⟩, t2.map upB, upB z, by rw [e2, List.map_append]; rfl, by rw [upB_ws]; exact w2⟩
theorem up_big {l : List UInt8} (h : ∀ b ∈ l, b.toNat < 128) : ∀ b ∈ l.map upB, b.toNat < 128 := fun b hb => by
  obtain ⟨y, hy, rfl⟩ := List.mem_map.1 hb
  have := h y hy
  rw [upB_toNat]
  split
  · omega
  · split <;> omega
theorem nrm_up {l : List UInt8} (h : ∀ b ∈ l, b.toNat < 128) : nrmL (l.map upB) = nrmL l := by
  rw [nrmL_ascii (up_big h), nrmL_ascii h, trim_map, nA_map]

/-! ### Definitions -/
/-- The line ahead, without its LF; how many bytes it has with it. -/
def lneL (l : List UInt8) : List UInt8 := l.takeWhile fun b => !decide (b.toNat = 10)
def lneN (l : List UInt8) : Nat := if (lneL l).length < l.length then (lneL l).length + 1 else (lneL l).length
theorem lne_len : ∀ l : List UInt8, (lneL l).length ≤ l.length
  | [] => Nat.le_refl _
  | b :: l => by
    have := lne_len l
    unfold lneL at *
    rw [List.takeWhile_cons]
    split
    · rw [List.length_cons, List.length_cons]; omega
    · simp
theorem lne_le (l : List UInt8) : lneN l ≤ l.length := by
  have := lne_len l
  unfold lneN
  split <;> omega
/-- A title behind spaces, up to its line's end. -/
def ttA (l : List UInt8) : Nat := spcN true false l
def ttM (l : List UInt8) : Nat := titN (l.drop (ttA l))
def ttB (l : List UInt8) : Bool := !decide (ttA l = 0) && !decide (ttM l = 0)
def ttE (l : List UInt8) : List UInt8 := l.drop (ttA l + ttM l)
def ttK (l : List UInt8) : Bool := ttB l && blankL (lneL (ttE l))
def ttT (l : List UInt8) : List UInt8 := if ttB l then titT (l.drop (ttA l)) else []
def ttN (l : List UInt8) : Nat := if ttB l then ttA l + ttM l + lneN (ttE l) else 0
theorem tt_le (l : List UInt8) : ttA l + ttM l ≤ l.length ∧ ttN l ≤ l.length := by
  have h1 : ttA l ≤ l.length := spc_le true l false
  have h2 : ttM l ≤ (l.drop (ttA l)).length := (tit_le _).1
  have h3 := lne_le (ttE l)
  unfold ttE at *
  rw [List.length_drop] at *
  unfold ttN ttE
  split <;> omega
/-- What ends a definition. -/
def edT (l : List UInt8) : List UInt8 := if ttK l then ttT l else []
def edN (l : List UInt8) : Nat := if ttK l then ttN l else lneN l
def edB (l : List UInt8) : Bool := ttK l || blankL (lneL l)
theorem ed_le (l : List UInt8) : edN l ≤ l.length := by
  have h1 := (tt_le l).2
  have h2 := lne_le l
  unfold edN
  split <;> omega
/-- A definition. -/
def dfC (l : List UInt8) : Bool := !decide (lblN l = 0) && hasPrefix (l.drop (lblN l)) [58]
def dfA (l : List UInt8) : Nat := lblN l + 1 + spcN true false (l.drop (lblN l + 1))
def dfM (l : List UInt8) : Nat := dstN (l.drop (dfA l))
def dfE (l : List UInt8) : List UInt8 := l.drop (dfA l + dfM l)
def dfB (l : List UInt8) : Bool := dfC l && !decide (dfM l = 0) && edB (dfE l)
def dfN (l : List UInt8) : Nat := if dfB l then dfA l + dfM l + edN (dfE l) else 0
def dfL (l : List UInt8) : List UInt8 := if dfB l then nrmL (lblT l) else []
def dfD (l : List UInt8) : List UInt8 := if dfB l then dstT (l.drop (dfA l)) else []
def dfT (l : List UInt8) : List UInt8 := if dfB l then edT (dfE l) else []
theorem dfC_lt {l : List UInt8} (h : dfC l = true) : 0 < lblN l ∧ lblN l + 1 ≤ l.length := by
  unfold dfC at h
  rw [Bool.and_eq_true] at h
  obtain ⟨h1, h2⟩ := h
  refine ⟨by simp at h1; omega, ?_⟩
  cases hd : l.drop (lblN l) with
  | nil => rw [hd] at h2; cases h2
  | cons b t =>
    have := congrArg List.length hd
    rw [List.length_drop, List.length_cons] at this
    omega
theorem dfA_le {l : List UInt8} (h : dfC l = true) : dfA l ≤ l.length := by
  have h1 := (dfC_lt h).2
  have h2 := spc_le true (l.drop (lblN l + 1)) false
  rw [List.length_drop] at h2
  unfold dfA
  omega
theorem dfE_le {l : List UInt8} (h : dfC l = true) : dfA l + dfM l ≤ l.length := by
  have h1 := dfA_le h
  have h2 := dst_le (l.drop (dfA l))
  rw [List.length_drop] at h2
  unfold dfM
  omega
theorem df_le (l : List UInt8) : dfN l ≤ l.length := by
  unfold dfN
  split
  · next h =>
    have hc : dfC l = true := by unfold dfB at h; simp only [Bool.and_eq_true] at h; exact h.1.1
    have h1 := dfE_le hc
    have h2 := ed_le (dfE l)
    unfold dfE at *
    rw [List.length_drop] at h2
    omega
  · exact Nat.zero_le _
theorem df_pos {l : List UInt8} (h : dfB l = true) : 0 < dfN l := by
  have hc : dfC l = true := by unfold dfB at h; simp only [Bool.and_eq_true] at h; exact h.1.1
  have h1 := (dfC_lt hc).1
  unfold dfN
  rw [if_pos h]
  unfold dfA
  omega
theorem df_zero {l : List UInt8} (h : dfN l = 0) : dfB l = false := by
  cases hb : dfB l with
  | false => rfl
  | true => have := df_pos hb; omega
/-- All definitions ahead: labels, destinations, titles, one behind the other; and what stands behind. -/
abbrev Rf := List UInt8 × List UInt8 × List UInt8
def dfsGo : Nat → List UInt8 → List Rf
  | 0, _ => []
  | n + 1, l => if dfN l = 0 then [] else (dfL l, dfD l, dfT l) :: dfsGo n (l.drop (dfN l))
def dfrGo : Nat → List UInt8 → List UInt8
  | 0, l => l
  | n + 1, l => if dfN l = 0 then l else dfrGo n (l.drop (dfN l))
theorem dfs_fuel : ∀ (n m : Nat) (l : List UInt8), l.length ≤ n → l.length ≤ m → dfsGo n l = dfsGo m l ∧ dfrGo n l = dfrGo m l
  | 0, 0, _, _, _ => ⟨rfl, rfl⟩
  | 0, m + 1, l, h, _ => by
    have : dfN l = 0 := by have := df_le l; omega
    unfold dfsGo dfrGo
    rw [if_pos this, if_pos this]; exact ⟨rfl, rfl⟩
  | n + 1, 0, l, _, h => by
    have : dfN l = 0 := by have := df_le l; omega
    unfold dfsGo dfrGo
    rw [if_pos this, if_pos this]; exact ⟨rfl, rfl⟩
  | n + 1, m + 1, l, h1, h2 => by
    unfold dfsGo dfrGo
    by_cases h : dfN l = 0
    · rw [if_pos h, if_pos h, if_pos h, if_pos h]; exact ⟨rfl, rfl⟩
    · have := dfs_fuel n m (l.drop (dfN l)) (by rw [List.length_drop]; omega) (by rw [List.length_drop]; omega)
      rw [if_neg h, if_neg h, if_neg h, if_neg h, this.1, this.2]; exact ⟨rfl, rfl⟩
def dfsL (l : List UInt8) : List Rf := dfsGo l.length l
def dfrL (l : List UInt8) : List UInt8 := dfrGo l.length l
theorem dfs_stop {l : List UInt8} (h : dfN l = 0) : dfsL l = [] ∧ dfrL l = l := by
  unfold dfsL dfrL
  cases l.length with
  | zero => exact ⟨rfl, rfl⟩
  | succ n => unfold dfsGo dfrGo; rw [if_pos h, if_pos h]; exact ⟨rfl, rfl⟩
theorem dfs_step {l : List UInt8} (h : dfN l ≠ 0) : dfsL l = (dfL l, dfD l, dfT l) :: dfsL (l.drop (dfN l)) ∧ dfrL l = dfrL (l.drop (dfN l)) := by
  have hle := df_le l
  obtain ⟨n, hn⟩ : ∃ n, l.length = n + 1 := ⟨l.length - 1, by omega⟩
  unfold dfsL dfrL
  rw [hn]
  simp only [dfsGo, dfrGo, if_neg h]
  have := dfs_fuel n (l.drop (dfN l)).length (l.drop (dfN l)) (by rw [List.length_drop]; omega) (Nat.le_refl _)
  rw [this.1, this.2]
  exact ⟨rfl, rfl⟩
/-- The first of that label. -/
def fndL (n : List UInt8) : List Rf → Option Rf
  | [] => none
  | r :: l => if r.1 = n then some r else fndL n l
end Go.Proofs.YtonajkcdkihchaaDoor
