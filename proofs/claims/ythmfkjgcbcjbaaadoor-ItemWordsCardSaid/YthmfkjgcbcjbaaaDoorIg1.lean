/-
  What follows of items of spans: no glue stands first, last, or beside another one or a penalty; no box has a blank. Plain lists; no program in sight.
-/
import Derived.Test.YthmfkjgcbcjbaaaDoorItp
namespace Go.Proofs.YthmfkjgcbcjbaaaDoor
open Go Go.Lib

/-- Whatever is no box stands behind a box; glues are wide; boxes have codes, none of them a blank. -/
structure Gd (l : List It) : Prop where
  kind : ∀ x ∈ l, x.kind = 1 ∨ x.kind = 2 ∨ x.kind = 3
  back : ∀ i (h : i < l.length), l[i].kind ≠ 1 → 0 < i ∧ ∃ y, l[i - 1]? = some y ∧ y.kind = 1
  wide : ∀ x ∈ l, x.kind = 2 → 3 ≤ x.width
  full : ∀ x ∈ l, x.kind = 1 → x.codes ≠ [] ∧ ∀ b ∈ x.codes, b ≠ 32
theorem Gd.nil : Gd [] := ⟨(fun x h => by cases h), (fun i h => absurd h (Nat.not_lt_zero i)), (fun x h => by cases h), (fun x h => by cases h)⟩
theorem ends_some {k : Int} {l : List It} (h : endsK k l = true) : ∃ y, l[l.length - 1]? = some y ∧ y.kind = k := by
  unfold endsK at h
  rw [List.getLast?_eq_getElem?] at h
  cases e : l[l.length - 1]? with
  | none => rw [e] at h; cases h
  | some y => rw [e] at h; exact ⟨y, rfl, by simpa using h⟩
theorem ends_len {k : Int} {l : List It} (h : endsK k l = true) : 0 < l.length := by
  cases l with
  | nil => cases h
  | cons x l => simp
/-- One more behind. -/
theorem Gd.snoc {l : List It} {x : It} (h : Gd l) (hk : x.kind = 1 ∨ x.kind = 2 ∨ x.kind = 3) (hb : x.kind = 1 ∨ endsK 1 l = true) (hw : x.kind = 2 → 3 ≤ x.width) (hf : x.kind = 1 → x.codes ≠ [] ∧ ∀ b ∈ x.codes, b ≠ 32) : Gd (l ++ [x]) := by
  refine ⟨fun y hy => ?_, fun i hi hn => ?_, fun y hy => ?_, fun y hy => ?_⟩
  · rcases List.mem_append.1 hy with hy | hy
    · exact h.kind y hy
    · rw [List.mem_singleton] at hy; subst hy; exact hk
  · by_cases hil : i < l.length
    · rw [List.getElem_append_left hil] at hn
      obtain ⟨h0, y, e, ey⟩ := h.back i hil hn
      exact ⟨h0, y, by rw [List.getElem?_append_left (by omega)]; exact e, ey⟩
    · have e : i = l.length := by rw [List.length_append, List.length_singleton] at hi; omega
      subst e
      simp only [List.getElem_append_right (Nat.le_refl _), Nat.sub_self, List.getElem_singleton] at hn
      rcases hb with hb | hb
      · exact absurd hb hn
      · obtain ⟨y, e, ey⟩ := ends_some hb
        have := ends_len hb
        exact ⟨this, y, by rw [List.getElem?_append_left (by omega)]; exact e, ey⟩
  · rcases List.mem_append.1 hy with hy | hy
    · exact h.wide y hy
    · rw [List.mem_singleton] at hy; subst hy; exact hw
  · rcases List.mem_append.1 hy with hy | hy
    · exact h.full y hy
    · rw [List.mem_singleton] at hy; subst hy; exact hf
theorem Gd.dropLast {l : List It} (h : Gd l) : Gd l.dropLast := by
  refine ⟨fun y hy => h.kind y (List.dropLast_subset l hy), fun i hi hn => ?_, fun y hy => h.wide y (List.dropLast_subset l hy), fun y hy => h.full y (List.dropLast_subset l hy)⟩
  rw [List.length_dropLast] at hi
  rw [List.getElem_dropLast] at hn
  obtain ⟨h0, y, e, ey⟩ := h.back i (by omega) hn
  exact ⟨h0, y, by rw [List.getElem?_dropLast, if_pos (by omega)]; exact e, ey⟩
theorem Gd.dropG {l : List It} (h : Gd l) : Gd (dropG l) := by
  unfold Go.Proofs.YthmfkjgcbcjbaaaDoor.dropG
  split
  · exact h.dropLast
  · exact h
theorem glue_wide {sz : Int} (s : Sty) (h : 4000 ≤ sz) (h2 : sz ≤ 2147483648) : 3 ≤ (itGlue sz s).width := by
  show 3 ≤ advL s.font sz 32
  rw [adv_div (by decide) (by omega)]
  have := mul_range (f := s.font) (c := 32) (by decide) (show (0 : Int) ≤ sz by omega)
  omega
theorem Gd.glue {sz : Int} {s : Sty} {l : List It} (h : Gd l) (h1 : 4000 ≤ sz) (h2 : sz ≤ 2147483648) : Gd (glueP sz s l) := by
  unfold glueP
  split
  · rename_i e
    exact h.snoc (.inr (.inl rfl)) (.inr e) (fun _ => glue_wide s h1 h2) (fun q => by cases q)
  · exact h
theorem Gd.brk {l : List It} (h : Gd l) : Gd (brkP l) := by
  unfold brkP
  split
  · rename_i e
    exact h.dropG.snoc (.inr (.inr rfl)) (.inr e) (fun q => by cases q) (fun q => by cases q)
  · exact h.dropG
end Go.Proofs.YthmfkjgcbcjbaaaDoor
