/-
  Plain lists of bytes: spaces, destinations, titles, links in ( and ). No program in sight.
-/
import Derived.Test.YtggeknhggpdpkaaGreatDoorNmt
namespace Go.Proofs.YtggeknhggpdpkaaGreatDoor
open Go Go.Lib

/-- How many bytes the first sign has, with a \ that hides it. -/
def widN (l : List UInt8) : Nat := if escB l then 2 else 1
theorem wid_pos (l : List UInt8) : 1 ≤ widN l ∧ widN l ≤ 2 := by unfold widN; split <;> omega
theorem wid_le {l : List UInt8} (h : l ≠ []) : widN l ≤ l.length := by
  have hp := List.length_pos_iff.2 h
  unfold widN
  split
  · next he =>
    unfold escB at he
    simp only [Bool.and_eq_true, decide_eq_true_eq] at he
    omega
  · omega
/-- So many bytes more, if there are any. -/
def upN (w : Nat) : Nat → Nat
  | 0 => 0
  | k + 1 => k + 1 + w
theorem up_zero (n : Nat) : upN 0 n = n := by cases n <;> rfl
theorem up_none (a : Nat) : upN a 0 = 0 := rfl
theorem up_pos {n : Nat} (a : Nat) (h : n ≠ 0) : upN a n = n + a := by cases n with
  | zero => exact absurd rfl h
  | succ n => rfl
theorem up_up (a b n : Nat) : upN a (upN b n) = upN (a + b) n := by
  by_cases h : n = 0
  · subst h; rfl
  · rw [up_pos b h, up_pos a (by omega), up_pos (a + b) h]; omega
theorem up_le (a n : Nat) : upN a n ≤ n + a := by cases n with
  | zero => exact Nat.zero_le _
  | succ n => exact Nat.le_refl _
theorem esc_cons {b : UInt8} {l : List UInt8} (h : escB (b :: l) = true) : b = 92 ∧ ∃ c t, l = c :: t ∧ signB c = true := by
  unfold escB at h
  rw [pre1_cons] at h
  simp only [Bool.and_eq_true, decide_eq_true_eq, beq_iff_eq] at h
  obtain ⟨⟨h1, h2⟩, h3⟩ := h
  cases l with
  | nil => simp at h2
  | cons c t => exact ⟨h1.symm, c, t, rfl, h3⟩
theorem esc_two {c : UInt8} (t : List UInt8) (h : signB c = true) : escB (92 :: c :: t) = true := by
  unfold escB
  rw [pre1_cons]
  simp [h]
theorem esc_ne {b : UInt8} (l : List UInt8) (h : b ≠ 92) : escB (b :: l) = false := by
  unfold escB
  rw [pre1_cons, show ((92 : UInt8) == b) = false from beq_eq_false_iff_ne.2 (fun e => h e.symm)]
  rfl

/-! ### Spaces -/
/-- How many spaces are ahead; if one, those ahead of the second LF among them (of the first, if e). -/
def spcN (one : Bool) : Bool → List UInt8 → Nat
  | _, [] => 0
  | e, b :: l => if b.toNat = 32 ∨ b.toNat = 9 then spcN one e l + 1 else if b.toNat = 10 then (if (one && e) = true then 0 else spcN one true l + 1) else 0
theorem spc_le (one : Bool) : ∀ (l : List UInt8) (e : Bool), spcN one e l ≤ l.length
  | [], _ => Nat.le_refl _
  | b :: l, e => by
    have h1 := spc_le one l e
    have h2 := spc_le one l true
    rw [spcN, List.length_cons]
    split
    · omega
    · split
      · split <;> omega
      · omega

/-! ### A destination in < and > -/
/-- Behind the <: how many bytes up to the >, and with it; 0: there is none. (Behind a \ a sign is gone past.) -/
def encS : Bool → List UInt8 → Nat
  | _, [] => 0
  | true, _ :: l => upN 1 (encS false l)
  | false, b :: l => if b.toNat = 10 ∨ b.toNat = 60 then 0 else if b.toNat = 62 then 1 else upN 1 (encS (escB (b :: l)) l)
def encN (l : List UInt8) : Nat := encS false l
theorem enc_none (l : List UInt8) (b : UInt8) (h : b.toNat = 10 ∨ b.toNat = 60) : encN (b :: l) = 0 := by unfold encN encS; rw [if_pos h]
theorem enc_last (l : List UInt8) (b : UInt8) (h : b.toNat = 62) : encN (b :: l) = 1 := by unfold encN encS; rw [if_neg (by omega), if_pos h]
theorem enc_go (l : List UInt8) (b : UInt8) (h : ¬ (b.toNat = 10 ∨ b.toNat = 60)) (h2 : ¬ b.toNat = 62) : encN (b :: l) = upN (widN (b :: l)) (encN ((b :: l).drop (widN (b :: l)))) := by
  unfold encN
  conv => lhs; unfold encS
  rw [if_neg h, if_neg h2]
  unfold widN
  cases e : escB (b :: l) with
  | true =>
    obtain ⟨_, c, t, rfl, _⟩ := esc_cons e
    exact up_up 1 1 _
  | false => rfl
theorem encS_le : ∀ (l : List UInt8) (s : Bool), encS s l ≤ l.length
  | [], s => by cases s <;> exact Nat.le_refl _
  | b :: l, s => by
    have h1 := encS_le l false
    have h2 := encS_le l (escB (b :: l))
    rw [List.length_cons]
    cases s with
    | true =>
      rw [encS]
      have := up_le 1 (encS false l)
      omega
    | false =>
      rw [encS]
      have := up_le 1 (encS (escB (b :: l)) l)
      split
      · omega
      · split <;> omega
theorem enc_le2 (l : List UInt8) : encN l ≤ l.length := encS_le l false

/-! ### A destination without < and > -/
def stdB (b : UInt8) : Bool := decide (32 < b.toNat) && decide (b.toNat ≠ 127)
/-- With so many ( open: how many bytes, and 1; 0: it is none. -/
def barS : Bool → Nat → List UInt8 → Nat
  | _, o, [] => if o = 0 then 1 else 0
  | true, o, _ :: l => upN 1 (barS false o l)
  | false, o, b :: l => if stdB b = false then (if o = 0 then 1 else 0) else if b.toNat = 41 then (if o = 0 then 1 else upN 1 (barS false (o - 1) l)) else if b.toNat = 40 then (if 32 ≤ o then 0 else upN 1 (barS false (o + 1) l)) else upN 1 (barS (escB (b :: l)) o l)
def barN (o : Nat) (l : List UInt8) : Nat := barS false o l
theorem bar_nil (o : Nat) : barN o [] = if o = 0 then 1 else 0 := rfl
theorem bar_stop (o : Nat) (b : UInt8) (l : List UInt8) (h : stdB b = false) : barN o (b :: l) = if o = 0 then 1 else 0 := by unfold barN barS; rw [if_pos h]
theorem bar_shut0 (b : UInt8) (l : List UInt8) (h : stdB b = true) (h1 : b.toNat = 41) : barN 0 (b :: l) = 1 := by unfold barN barS; rw [if_neg (by rw [h]; decide), if_pos h1, if_pos rfl]
theorem bar_shut (o : Nat) (b : UInt8) (l : List UInt8) (h : stdB b = true) (h1 : b.toNat = 41) : barN (o + 1) (b :: l) = upN 1 (barN o l) := by
  unfold barN
  conv => lhs; unfold barS
  rw [if_neg (by rw [h]; decide), if_pos h1, if_neg (by omega)]
  rfl
theorem bar_many (o : Nat) (b : UInt8) (l : List UInt8) (h : stdB b = true) (h1 : b.toNat = 40) (h2 : 32 ≤ o) : barN o (b :: l) = 0 := by unfold barN barS; rw [if_neg (by rw [h]; decide), if_neg (by omega), if_pos h1, if_pos h2]
theorem bar_open (o : Nat) (b : UInt8) (l : List UInt8) (h : stdB b = true) (h1 : b.toNat = 40) (h2 : o < 32) : barN o (b :: l) = upN 1 (barN (o + 1) l) := by
  unfold barN
  conv => lhs; unfold barS
  rw [if_neg (by rw [h]; decide), if_neg (by omega), if_pos h1, if_neg (by omega)]
theorem bar_go (o : Nat) (b : UInt8) (l : List UInt8) (h : stdB b = true) (h1 : b.toNat ≠ 41) (h2 : b.toNat ≠ 40) : barN o (b :: l) = upN (widN (b :: l)) (barN o ((b :: l).drop (widN (b :: l)))) := by
  unfold barN
  conv => lhs; unfold barS
  rw [if_neg (by rw [h]; decide), if_neg h1, if_neg h2]
  unfold widN
  cases e : escB (b :: l) with
  | true =>
    obtain ⟨_, c, t, rfl, _⟩ := esc_cons e
    exact up_up 1 1 _
  | false => rfl
theorem wid_paren (b : UInt8) (l : List UInt8) (h : b.toNat = 41 ∨ b.toNat = 40) : widN (b :: l) = 1 := by
  unfold widN
  rw [esc_ne l (fun e => by subst e; revert h; decide)]
  rfl
theorem barS_le : ∀ (l : List UInt8) (s : Bool) (o : Nat), barS s o l ≤ l.length + 1
  | [], s, o => by cases s <;> (unfold barS; split <;> simp)
  | b :: l, s, o => by
    rw [List.length_cons]
    cases s with
    | true =>
      rw [barS]
      have h1 := barS_le l false o
      have := up_le 1 (barS false o l)
      omega
    | false =>
      rw [barS]
      have a1 := barS_le l false (o - 1)
      have a2 := up_le 1 (barS false (o - 1) l)
      have a3 := barS_le l false (o + 1)
      have a4 := up_le 1 (barS false (o + 1) l)
      have a5 := barS_le l (escB (b :: l)) o
      have a6 := up_le 1 (barS (escB (b :: l)) o l)
      split
      · split <;> omega
      · split
        · split <;> omega
        · split
          · split <;> omega
          · omega
theorem bar_le (o : Nat) (l : List UInt8) : barN o l ≤ l.length + 1 := barS_le l false o

/-! ### A destination -/
def dstB (l : List UInt8) : Bool := if hasPrefix l [60] then decide (encN (l.drop 1) ≠ 0) else decide (barN 0 l ≠ 0)
def dstN (l : List UInt8) : Nat := if hasPrefix l [60] then upN 1 (encN (l.drop 1)) else barN 0 l - 1
def dstT (l : List UInt8) : List UInt8 := if hasPrefix l [60] then plainL ((l.drop 1).take (encN (l.drop 1) - 1)) else plainL (l.take (barN 0 l - 1))
theorem dst_le (l : List UInt8) : dstN l ≤ l.length := by
  unfold dstN
  have h1 := enc_le2 (l.drop 1)
  have h2 := bar_le 0 l
  rw [List.length_drop] at h1
  split
  · next h =>
    obtain ⟨z, rfl⟩ := (pre_iff _ _).1 h
    have := up_le 1 (encN (([60] ++ z).drop 1))
    simp only [List.cons_append, List.nil_append, List.length_cons] at *
    omega
  · omega

/-! ### A title -/
/-- Behind the first sign f: how many bytes up to the last one, e, and with it; 0: there is none. k: the line is blank so far, and isn't the first one. -/
def titS (f e : UInt8) : Bool → Bool → List UInt8 → Nat
  | _, _, [] => 0
  | true, k, _ :: l => upN 1 (titS f e false k l)
  | false, k, b :: l => if b = e then 1 else if b = f then 0 else if b.toNat = 10 then (if k = true then 0 else upN 1 (titS f e false true l)) else if b.toNat = 32 ∨ b.toNat = 9 then upN 1 (titS f e false k l) else upN 1 (titS f e (escB (b :: l)) false l)
def tlsN (f e : UInt8) (k : Bool) (l : List UInt8) : Nat := titS f e false k l
/-- The sign that ends a title; 0: it begins none. -/
def endC (l : List UInt8) : Nat := if l.headD 0 = 34 ∨ l.headD 0 = 39 then (l.headD 0).toNat else if l.headD 0 = 40 then 41 else 0
def titN (l : List UInt8) : Nat := if endC l = 0 then 0 else upN 1 (tlsN (l.headD 0) (UInt8.ofNat (endC l)) false (l.drop 1))
def titT (l : List UInt8) : List UInt8 := plainL ((l.drop 1).take (titN l - 2))
theorem tls_last {f e : UInt8} (k : Bool) {b : UInt8} (l : List UInt8) (h : b = e) : tlsN f e k (b :: l) = 1 := by unfold tlsN titS; rw [if_pos h]
theorem tls_none {f e : UInt8} (k : Bool) {b : UInt8} (l : List UInt8) (h : b ≠ e) (h1 : b = f) : tlsN f e k (b :: l) = 0 := by unfold tlsN titS; rw [if_neg h, if_pos h1]
theorem tls_blank {f e : UInt8} {b : UInt8} (l : List UInt8) (h : b ≠ e) (h1 : b ≠ f) (h2 : b.toNat = 10) : tlsN f e true (b :: l) = 0 := by unfold tlsN titS; rw [if_neg h, if_neg h1, if_pos h2, if_pos rfl]
theorem tls_line {f e : UInt8} {b : UInt8} (l : List UInt8) (h : b ≠ e) (h1 : b ≠ f) (h2 : b.toNat = 10) : tlsN f e false (b :: l) = upN 1 (tlsN f e true l) := by
  unfold tlsN
  conv => lhs; unfold titS
  rw [if_neg h, if_neg h1, if_pos h2, if_neg (by decide)]
theorem tls_space {f e : UInt8} (k : Bool) {b : UInt8} (l : List UInt8) (h : b ≠ e) (h1 : b ≠ f) (h2 : b.toNat = 32 ∨ b.toNat = 9) : tlsN f e k (b :: l) = upN 1 (tlsN f e k l) := by
  unfold tlsN
  conv => lhs; unfold titS
  rw [if_neg h, if_neg h1, if_neg (by omega), if_pos h2]
theorem tls_go {f e : UInt8} (k : Bool) {b : UInt8} (l : List UInt8) (h : b ≠ e) (h1 : b ≠ f) (h2 : b.toNat ≠ 10) (h3 : ¬ (b.toNat = 32 ∨ b.toNat = 9)) : tlsN f e k (b :: l) = upN (widN (b :: l)) (tlsN f e false ((b :: l).drop (widN (b :: l)))) := by
  unfold tlsN
  conv => lhs; unfold titS
  rw [if_neg h, if_neg h1, if_neg h2, if_neg h3]
  unfold widN
  cases e : escB (b :: l) with
  | true =>
    obtain ⟨_, c, t, rfl, _⟩ := esc_cons e
    exact up_up 1 1 _
  | false => rfl
theorem wid_low (b : UInt8) (l : List UInt8) (h : b.toNat = 10 ∨ b.toNat = 32 ∨ b.toNat = 9) : widN (b :: l) = 1 := by
  unfold widN
  rw [esc_ne l (fun e => by subst e; revert h; decide)]
  rfl
theorem titS_le (f e : UInt8) : ∀ (l : List UInt8) (s k : Bool), titS f e s k l ≤ l.length
  | [], s, k => by cases s <;> exact Nat.le_refl _
  | b :: l, s, k => by
    rw [List.length_cons]
    cases s with
    | true =>
      rw [titS]
      have h1 := titS_le f e l false k
      have := up_le 1 (titS f e false k l)
      omega
    | false =>
      rw [titS]
      have a1 := titS_le f e l false true
      have a2 := up_le 1 (titS f e false true l)
      have a3 := titS_le f e l false k
      have a4 := up_le 1 (titS f e false k l)
      have a5 := titS_le f e l (escB (b :: l)) false
      have a6 := up_le 1 (titS f e (escB (b :: l)) false l)
      split
      · omega
      · split
        · omega
        · split
          · split <;> omega
          · split <;> omega
theorem tls_le (f e : UInt8) (k : Bool) (l : List UInt8) : tlsN f e k l ≤ l.length := titS_le f e l false k
theorem tit_le (l : List UInt8) : titN l ≤ l.length ∧ (titN l = 0 ∨ 2 ≤ titN l) := by
  unfold titN
  split
  · exact ⟨Nat.zero_le _, .inl rfl⟩
  · next h =>
    cases l with
    | nil => exact absurd rfl h
    | cons b l =>
      have h1 := tls_le ((b :: l).headD 0) (UInt8.ofNat (endC (b :: l))) false l
      rw [List.length_cons, List.drop_succ_cons, List.drop_zero]
      generalize tlsN ((b :: l).headD 0) (UInt8.ofNat (endC (b :: l))) false l = n at *
      cases n with
      | zero => exact ⟨Nat.zero_le _, .inl rfl⟩
      | succ n =>
        show n + 1 + 1 ≤ l.length + 1 ∧ (n + 1 + 1 = 0 ∨ 2 ≤ n + 1 + 1)
        omega

/-! ### A link in ( and ) -/
/-- Spaces, perhaps a title, and spaces behind it: how many bytes, and the title. -/
def sptN (l : List UInt8) : Nat := if spcN false false l = 0 then 0 else spcN false false l + titN (l.drop (spcN false false l)) + spcN false false (l.drop (spcN false false l + titN (l.drop (spcN false false l))))
def sptT (l : List UInt8) : List UInt8 := if spcN false false l = 0 then [] else titT (l.drop (spcN false false l))
/-- Where the destination begins, and where the title may. -/
def inlA (l : List UInt8) : Nat := 1 + spcN false false (l.drop 1)
def inlM (l : List UInt8) : Nat := inlA l + dstN (l.drop (inlA l))
def inlE (l : List UInt8) : Nat := inlM l + sptN (l.drop (inlM l))
def inlB (l : List UInt8) : Bool := hasPrefix l [40] && dstB (l.drop (inlA l)) && hasPrefix (l.drop (inlE l)) [41]
def inlN (l : List UInt8) : Nat := if inlB l then inlE l + 1 else 0
def inlD (l : List UInt8) : List UInt8 := if inlB l then dstT (l.drop (inlA l)) else []
def inlT (l : List UInt8) : List UInt8 := if inlB l then sptT (l.drop (inlM l)) else []
theorem spt_le (l : List UInt8) : sptN l ≤ l.length := by
  unfold sptN
  have h1 := spc_le false l false
  have h2 := (tit_le (l.drop (spcN false false l))).1
  have h3 := spc_le false (l.drop (spcN false false l + titN (l.drop (spcN false false l)))) false
  rw [List.length_drop] at h2 h3
  split <;> omega
end Go.Proofs.YtggeknhggpdpkaaGreatDoor
