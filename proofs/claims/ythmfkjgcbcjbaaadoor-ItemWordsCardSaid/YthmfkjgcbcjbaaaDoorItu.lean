/-
  Boxes that have no room are parted: as plain lists.
-/
import Derived.Test.YthmfkjgcbcjbaaaDoorItt
import Derived.Test.YthmfkjgcbcjbaaaDoorHld
namespace Go.Proofs.YthmfkjgcbcjbaaaDoor
open Go.RowKit Go.Lib Go.Maps

theorem Spl.only {w0 W W' : World} {wd r : Int} {B X : Nat} {v : Value} {its : List It} (h : Spl w0 wd W B v its r) (k : OnlyX X W W') (hB : X ≠ B) (hv : v.ownBlock ≠ some X) (h0 : w0.heap.size ≤ X) : Spl w0 wd W' B v its r :=
  ⟨⟨by unfold Blk; rw [k.block B (fun e => hB e.symm)]; exact h.own.box, h.own.low, row_same h.own.row fun g e => k.block g (fun q => hv (by rw [← q]; exact e)), h.own.ne⟩,
    ⟨k.os.trans h.keep.os, k.tape.trans h.keep.tape, k.output.trans h.keep.output, by rw [k.size]; exact h.keep.size, fun b hb => (k.block b (by omega)).trans (h.keep.block b hb)⟩⟩
theorem Mvd.only {W W1 W' : World} {B X : Nat} {v v1 : Value} (h : Mvd W W1 B v v1) (k : OnlyX X W1 W') (hX : W.heap.size ≤ X) : Mvd W W' B v v1 :=
  ⟨k.os.trans h.os, k.tape.trans h.tape, k.output.trans h.output, by rw [k.size]; exact h.size, fun b hb h0 h1 => (k.block b (by omega)).trans (h.block b hb h0 h1), h.lies⟩
theorem Sd.only {B : Nat} {W W' : World} {v : Value} {b X : Nat} {t : TypeId} {cs : Array Value} (h : Sd B W v b t cs) (k : OnlyX X W W') (hb : b ≠ X) : Sd B W' v b t cs :=
  ⟨by unfold Blk; rw [k.block b hb]; exact h.blk, h.box, h.row⟩
def bxP (f sz lk : Int) (c : List UInt8) : It := ⟨1, runL f sz c, 0, 0, 0, c, f, sz, lk⟩
/-- The parts of a box of codes, and what is left of the width. -/
def partL (wd f sz lk : Int) : Nat → List UInt8 → List It × Int → List It × Int
  | 0, _, p => p
  | n + 1, c, p =>
    if runL f sz c ≤ p.2 then (p.1 ++ [bxP f sz lk c], p.2 - runL f sz c)
    else if fitN wd f sz c p.2 = 0 then partL wd f sz lk n c (p.1 ++ [itPen 0], wd)
    else if c.drop (fitN wd f sz c p.2) = [] then (p.1 ++ [bxP f sz lk (c.take (fitN wd f sz c p.2))], p.2 - runL f sz (c.take (fitN wd f sz c p.2)))
    else partL wd f sz lk n (c.drop (fitN wd f sz c p.2)) ((p.1 ++ [bxP f sz lk (c.take (fitN wd f sz c p.2))]) ++ [itPen 0], wd)
theorem cutL_le (f sz w : Int) (c : List UInt8) : cutL f sz w c ≤ c.length := by
  unfold cutL
  split
  · omega
  · rename_i h
    have := cutGo_le f sz w 0 c
    have := List.length_pos_iff.2 h
    omega
theorem fit_le (wd f sz : Int) (c : List UInt8) (r : Int) : fitN wd f sz c r ≤ c.length := by
  unfold fitN
  split
  · omega
  · exact cutL_le _ _ _ _
theorem fit_full {wd f sz : Int} {c : List UInt8} (h : c ≠ []) : 0 < fitN wd f sz c wd := by
  unfold fitN cutL
  rw [if_neg (fun q => q.1 rfl), if_neg h]
  omega
/-- Where something fits, all of the width is left, or not less than nothing. -/
theorem fit_room {wd f sz : Int} {c : List UInt8} {r : Int} (hs : 0 ≤ sz) (h : fitN wd f sz c r ≠ 0) : r = wd ∨ 0 ≤ r := by
  unfold fitN at h
  split at h
  · exact absurd rfl h
  · rename_i q
    by_cases e : r = wd
    · exact .inl e
    · have a := adv_nonneg (f := f) (c.headD 0).toNat_lt hs
      have : ¬ wordR r < advL f sz (c.headD 0).toNat := fun x => q ⟨e, x⟩
      unfold wordR at this
      split at this <;> omega
theorem part_stand {wd f sz lk : Int} {n : Nat} {c : List UInt8} {p : List It × Int} (h : runL f sz c ≤ p.2) : partL wd f sz lk (n + 1) c p = (p.1 ++ [bxP f sz lk c], p.2 - runL f sz c) := by rw [partL, if_pos h]
theorem part_none {wd f sz lk : Int} {n : Nat} {c : List UInt8} {p : List It × Int} (h : ¬ runL f sz c ≤ p.2) (h0 : fitN wd f sz c p.2 = 0) : partL wd f sz lk (n + 1) c p = partL wd f sz lk n c (p.1 ++ [itPen 0], wd) := by rw [partL, if_neg h, if_pos h0]
theorem part_last {wd f sz lk : Int} {n : Nat} {c : List UInt8} {p : List It × Int} (h : ¬ runL f sz c ≤ p.2) (h0 : fitN wd f sz c p.2 ≠ 0) (h1 : c.drop (fitN wd f sz c p.2) = []) : partL wd f sz lk (n + 1) c p = (p.1 ++ [bxP f sz lk (c.take (fitN wd f sz c p.2))], p.2 - runL f sz (c.take (fitN wd f sz c p.2))) := by rw [partL, if_neg h, if_neg h0, if_pos h1]
theorem part_more {wd f sz lk : Int} {n : Nat} {c : List UInt8} {p : List It × Int} (h : ¬ runL f sz c ≤ p.2) (h0 : fitN wd f sz c p.2 ≠ 0) (h1 : c.drop (fitN wd f sz c p.2) ≠ []) : partL wd f sz lk (n + 1) c p = partL wd f sz lk n (c.drop (fitN wd f sz c p.2)) ((p.1 ++ [bxP f sz lk (c.take (fitN wd f sz c p.2))]) ++ [itPen 0], wd) := by rw [partL, if_neg h, if_neg h0, if_neg h1]
/-- How many there are, and what is left. -/
theorem part_len {wd f sz lk : Int} (hs : 0 ≤ sz) (h2 : sz ≤ 2147483648) (hw : 0 ≤ wd) : ∀ (n : Nat) (c : List UInt8) (p : List It × Int), c.length ≤ 100000 → -217969590200000 ≤ p.2 → p.2 ≤ wd →
    (partL wd f sz lk n c p).1.length ≤ p.1.length + 2 * n ∧ -217969590200000 ≤ (partL wd f sz lk n c p).2 ∧ (partL wd f sz lk n c p).2 ≤ wd
  | 0, c, p, _, h3, h4 => by unfold partL; exact ⟨by omega, h3, h4⟩
  | n + 1, c, p, hc, h3, h4 => by
    by_cases a1 : runL f sz c ≤ p.2
    · rw [part_stand a1]
      have := run_nonneg (f := f) hs c
      exact ⟨by simp; omega, by simp only; omega, by simp only; omega⟩
    · by_cases a2 : fitN wd f sz c p.2 = 0
      · rw [part_none a1 a2]
        have := part_len (f := f) (lk := lk) hs h2 hw n c (p.1 ++ [itPen 0], wd) hc (by simp only; omega) (Int.le_refl _)
        simp only [List.length_append, List.length_singleton] at this
        omega
      · have r1 := run_nonneg (f := f) hs (c.take (fitN wd f sz c p.2))
        have r2 := run_le (f := f) hs h2 (c.take (fitN wd f sz c p.2))
        have r3 : ((c.take (fitN wd f sz c p.2)).length : Int) ≤ 100000 := by rw [List.length_take]; omega
        have r4 := fit_room hs a2
        by_cases a3 : c.drop (fitN wd f sz c p.2) = []
        · rw [part_last a1 a2 a3]
          exact ⟨by simp; omega, by simp only; omega, by simp only; omega⟩
        · rw [part_more a1 a2 a3]
          have := part_len (f := f) (lk := lk) hs h2 hw n (c.drop (fitN wd f sz c p.2)) ((p.1 ++ [bxP f sz lk (c.take (fitN wd f sz c p.2))]) ++ [itPen 0], wd) (by rw [List.length_drop]; omega) (by simp only; omega) (Int.le_refl _)
          simp only [List.length_append, List.length_singleton] at this
          omega
end Go.Proofs.YthmfkjgcbcjbaaaDoor
