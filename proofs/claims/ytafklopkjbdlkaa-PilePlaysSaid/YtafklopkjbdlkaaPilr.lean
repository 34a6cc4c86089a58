/-
  The document's pile: Len, At, Push, Cut, Pop of a pile in memory.
-/
import Derived.Test.YtafklopkjbdlkaaPilc
import Derived.Test.YtafklopkjbdlkaaPilt
namespace Go.Proofs.Ytafklopkjbdlkaa
open Go.RowKit Go.Lib

theorem differR : 30 ≠ 3 := by decide
/-- Block B holds the document's pile xs. -/
abbrev PR (n₀ : Nat) (w : World) (B : Nat) (v : Value) (xs : List Int) : Prop := Pil n₀ 30 3 w B v (xs.map (Value.int .i64))

theorem formsR {n₀ B : Nat} {w : World} {v : Value} {xs : List Int} (h : PR n₀ w B v xs) : ∃ a cap, v = .slice a xs.length cap ∧ xs.length ≤ cap ∧ cap ≤ maxLen := by
  rcases h.forms with ⟨rfl, h0⟩ | ⟨g, cap, rfl, h1, h2⟩
  · have : xs = [] := by simpa using h0
    subst this
    exact ⟨none, 0, rfl, Nat.le_refl _, by simp [maxLen]⟩
  · exact ⟨some ⟨g, 0, none⟩, cap, by simp, by simpa using h1, h2⟩
theorem someR {n₀ B : Nat} {w : World} {v : Value} {xs : List Int} (h : PR n₀ w B v xs) (hx : 0 < xs.length) : ∃ g cap, v = .slice (some ⟨g, 0, none⟩) xs.length cap ∧ xs.length ≤ cap ∧ cap ≤ maxLen ∧ n₀ ≤ g ∧ g ≠ B ∧
    ∀ k, k < xs.length → w.cell? ⟨g, k, none⟩ = some (Value.int .i64 (xs.getD k 0)) := by
  rcases h.forms with ⟨rfl, h0⟩ | ⟨g, cap, rfl, h1, h2⟩
  · have : xs = [] := by simpa using h0
    subst this
    exact absurd hx (by simp)
  · have hr := h.row
    rw [List.length_map] at hr
    refine ⟨g, cap, by simp, by simpa using h1, h2, (hr.lt g rfl).1, fun e => h.box.not_row differR h.row (by simp [Value.ownBlock, e]), fun k hk => ?_⟩
    rw [hr.cellAt k (by omega), List.getElem?_map, List.getElem?_eq_getElem hk]
    simp [List.getD, List.getElem?_eq_getElem hk]

theorem lenR_any {n₀ B : Nat} {v : Value} {xs : List Int} {w : World} (h : PR n₀ w B v xs) :
    Calls Try.prog 19 #[.pointer (some ⟨B, 0, none⟩)] w fun e w' => e = .returned (.int .i64 (xs.length : Int)) ∧ w = w' := by
  obtain ⟨a, cap, rfl, hc, hm⟩ := formsR h
  have hcell := h.box.cell
  have hl : xs.length ≤ 9223372036854775807 := by simp only [maxLen] at hm; omega
  clear h hm
  go_enter Try.func19, Try.ntmps19
  go_wp2_with fail
  go_ret
  exact ⟨rfl, rfl⟩

theorem atR_any {n₀ B : Nat} {v : Value} {xs : List Int} {w : World} (h : PR n₀ w B v xs) (i : Int) :
    Calls Try.prog 16 #[.pointer (some ⟨B, 0, none⟩), .int .i64 i] w fun e w' => e = .returned (.tuple #[.int .i64 (atI xs i), .bool (is xs.length i)]) ∧ w = w' := by
  by_cases h0 : i < 0
  · have e1 : atI xs i = 0 := by rw [atI, if_neg (by omega)]
    have e2 : is xs.length i = false := by rw [is, decide_eq_false (by omega)]; rfl
    rw [e1, e2]
    clear e1 e2 h
    go_enter Try.func16, Try.ntmps16
    go_wp2_with fail
    go_ret2
    exact ⟨rfl, rfl⟩
  · by_cases h1 : (xs.length : Int) ≤ i
    · have e1 : atI xs i = 0 := by rw [atI, if_neg (by omega)]
      have e2 : is xs.length i = false := by rw [is, decide_eq_true (by omega), decide_eq_false (by omega)]; rfl
      rw [e1, e2]
      obtain ⟨a, cap, rfl, hc, hm⟩ := formsR h
      have hcell := h.box.cell
      have hl : xs.length ≤ 9223372036854775807 := by simp only [maxLen] at hm; omega
      have h2 : 0 ≤ i := by omega
      clear e1 e2 h hm
      generalize xs.length = n at *
      go_enter Try.func16, Try.ntmps16
      go_wp2_with fail
      go_ret2
      exact ⟨rfl, rfl⟩
    · obtain ⟨k, rfl⟩ : ∃ k : Nat, i = (k : Int) := ⟨i.toNat, by omega⟩
      have hk : k < xs.length := by omega
      have e1 : atI xs k = xs.getD k 0 := by rw [atI, if_pos (by omega), Int.toNat_natCast]
      have e2 : is xs.length k = true := by rw [is, decide_eq_true (by omega), decide_eq_true (by omega)]; rfl
      rw [e1, e2]
      obtain ⟨g, cap, rfl, hc, hm, hn, hne, hcells⟩ := someR h (by omega)
      have hcell := h.box.cell
      have hck := hcells k hk
      have hl : cap ≤ 9223372036854775807 := by simp only [maxLen] at hm; omega
      clear h hm hcells h0 h1 e1 e2
      generalize xs.getD k 0 = y at *
      go_enter Try.func16, Try.ntmps16
      go_wp2_with fail
      go_ret2
      exact ⟨rfl, rfl⟩

/-- Whatever the document's pile had: a new row. -/
theorem PR.made {n₀ : Nat} {w w1 : World} {B : Nat} {v v' : Value} {xs us : List Int} (k : PR n₀ w B v xs) (hw : n₀ ≤ w.heap.size) (hown : w1.ownsRow w.heap.size 3 1 v' us.length (us.map (Value.int .i64))) (hg : Below w.heap.size w w1) (hv : v' ≠ .slice none 0 0) :
    Boxed w1 B 30 v ∧ PR n₀ (w1.setCell ⟨B, 0, none⟩ v') B v' us ∧ Moved w (w1.setCell ⟨B, 0, none⟩ v') B v v' := by
  refine Pil.stored differR k (us := us.map (Value.int .i64)) ?_ ⟨hg.os, hg.tape, hg.output, hg.size, fun i hi _ => hg.block i hi⟩ ?_
  · rw [List.length_map]; exact Go.Joins.ownsRow_le hown hw
  · rcases hown.2 with ⟨e, _⟩ | ⟨g, cap, cur, rfl, hb, _⟩
    · exact absurd e hv
    · exact .inr ⟨g, rfl, hb⟩

set_option maxHeartbeats 800000 in
theorem pushR_any {n₀ B : Nat} {v : Value} {xs : List Int} {w : World} (h : PR n₀ w B v xs) (hn : n₀ ≤ w.heap.size) (hl : xs.length ≤ 1000) (x : Int) :
    Calls Try.prog 8 #[.pointer (some ⟨B, 0, none⟩), .int .i64 x] w fun e w' => e = .returned (.tuple #[]) ∧ ∃ v', PR n₀ w' B v' (xs ++ [x]) ∧ Moved w w' B v v' := by
  have HP := Lib.hid h
  obtain ⟨i0, hi, hz0, hz1, hz2⟩ := info_parts infoI
  have hlt := h.box.lt
  have hcell : (w.alloc (.cells #[] 3)).cell? ⟨B, 0, none⟩ = some v := (h.box.alloc _).cell
  have own0 : (w.alloc (.cells #[] 3)).ownsRow w.heap.size 3 1 (.slice (some ⟨w.heap.size, 0, none⟩) 0 0) 0 [] := World.ownsRow_lit w #[] 0 (Nat.le_refl _) (Nat.zero_le _) rfl
  have hb0 : Below w.heap.size w (w.alloc (.cells #[] 3)) := (Below.refl _ w).alloc (Nat.le_refl _) _
  rcases h.forms with ⟨rfl, e0⟩ | ⟨g, cap, rfl, hc, hm⟩
  · obtain rfl : xs = [] := by simpa using e0
    clear h
    have own1 := own0.alloc (.cells #[.int .i64 x] 3)
    have c1 := cell_one_new (w.alloc (.cells #[] 3)) (.int .i64 x) 3
    rw [World.size_alloc] at c1
    go_enter Try.func8, Try.ntmps8
    go_wp2_with (at_builtin; go_loud (first
      | (refine wpList_append_own_none rfl _ _ 23 rfl w.heap.size 3 i0 1 Try.underlying23 hi _ _ _ rfl own0 rfl ?_)
      | (refine wpList_append_own_at _ rfl _ _ 23 rfl w.heap.size 3 i0 (.int .i64 0) 1 8 Try.underlying23 hi hz0 hz1 hz2 rfl (by decide) _ _ _ rfl own1 ⟨w.heap.size + 1, 0, none⟩ 1 1 [.int .i64 x] rfl rfl c1 (by simp [Value.oneCell']) (by simp [maxLen]) (by omega) (by simp; omega) ?_
         intro v' w1 hown' hgrow hnil hat
         obtain ⟨g', cap', rfl⟩ := ownsRow_succ hown'
         have hb1 : Below w.heap.size w w1 := (hb0.alloc (by simp) _).grown hgrow (by simp; omega) (fun k e => by cases e; exact Nat.le_refl _)
         have hst := PR.made HP.out (us := [x]) (w1 := w1) (v' := .slice (some ⟨g', 0, none⟩) (0 + 1) cap') hn (by simpa using hown') hb1 (fun e => by cases e)
         have hc1 := hst.1.cell
         have hf1 := hst.1.frozen
         have HS := Lib.hid hst.2
         clear hst hown' hgrow hnil hat hb1)))
    go_end0
    exact ⟨rfl, _, HS.out.1, HS.out.2⟩
  · rw [List.length_map] at *
    have cs := (h.row.alloc (.cells #[] 3)).cells (g := g) rfl
    have hm' : cap ≤ 9223372036854775807 := by simp only [maxLen] at hm; omega
    clear h hm
    go_enter Try.func8, Try.ntmps8
    go_wp2_with (at_builtin; go_loud (first
      | (refine wpList_append_own_at _ rfl _ _ 23 rfl w.heap.size 3 i0 (.int .i64 0) 1 8 Try.underlying23 hi hz0 hz1 hz2 rfl (by decide) _ _ _ rfl own0 ⟨g, 0, none⟩ xs.length cap (xs.map (Value.int .i64)) rfl (by simp) cs (by simp [Value.oneCell']) (by simp only [maxLen]; omega) (by omega) (by simp) ?_
         intro v1 w2 hown1 hgrow1 hnil1 hat1
         rw [Nat.zero_add, List.nil_append] at hown1
         obtain ⟨g1, cap1, rfl⟩ : ∃ g1 cap1, v1 = .slice (some ⟨g1, 0, none⟩) xs.length cap1 := by
           rcases Go.Joins.ownsRow_forms hown1 with ⟨e, _⟩ | h
           · have := (hnil1.1 e).1; cases this
           · exact h
         have hb1 : Below w.heap.size w w2 := hb0.grown hgrow1 (by simp) (fun k e => by cases e; exact Nat.le_refl _)
         have own1 := hown1.alloc (.cells #[.int .i64 x] 3)
         have c1 := cell_one_new w2 (.int .i64 x) 3
         have hs2 := hb1.size
         clear hgrow1 hnil1 hat1 hown1)
      | (refine wpList_append_own_at _ rfl _ _ 23 rfl w.heap.size 3 i0 (.int .i64 0) 1 8 Try.underlying23 hi hz0 hz1 hz2 rfl (by decide) _ _ _ rfl own1 ⟨w2.heap.size, 0, none⟩ 1 1 [.int .i64 x] rfl rfl c1 (by simp [Value.oneCell']) (by simp only [maxLen]; omega) (by omega) (by simp; omega) ?_
         intro v' w1 hown' hgrow hnil hat
         obtain ⟨g', cap', rfl⟩ := ownsRow_succ hown'
         have hb2 : Below w.heap.size w w1 := (hb1.alloc hs2 _).grown hgrow (by simp; omega) (fun k e => (own1.lt k e).1)
         have hst := PR.made HP.out (us := xs ++ [x]) (w1 := w1) (v' := .slice (some ⟨g', 0, none⟩) (xs.length + 1) cap') hn (by simpa using hown') hb2 (fun e => by cases e)
         have hc1 := hst.1.cell
         have hf1 := hst.1.frozen
         have HS := Lib.hid hst.2
         clear hst hown' hgrow hnil hat hb2)))
    go_end0
    exact ⟨rfl, _, HS.out.1, HS.out.2⟩
end Go.Proofs.Ytafklopkjbdlkaa
