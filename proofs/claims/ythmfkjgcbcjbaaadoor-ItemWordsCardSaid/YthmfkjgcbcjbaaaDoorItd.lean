/-
  Contracts of endsWith and dropGlue, of the package item.
-/
import Derived.Test.YthmfkjgcbcjbaaaDoorItc
namespace Go.Proofs.YthmfkjgcbcjbaaaDoor
open Go.RowKit Go.Lib Go.Maps

/-- What item's methods work on: the list at block B, the next link's number; all of it made since w0. -/
structure Md (w0 : World) (W : World) (B : Nat) (v : Value) (its : List It) (nx : Int) : Prop where
  own : Own w0.heap.size 47 W B [.int .i64 nx] v its
  keep : Keeps w0 W
def PostMd (w0 W : World) (B : Nat) (v : Value) (its : List It) (nx : Int) (W' : World) : Prop := ∃ v', Md w0 W' B v' its nx ∧ Mvd W W' B v v'
section
variable {w0 W : World} {B : Nat} {v : Value} {its : List It} {nx : Int}
theorem Md.moved {W' : World} {v' : Value} {its' : List It} {nx' : Int} (h : Md w0 W B v its nx) (o : Own w0.heap.size 47 W' B [.int .i64 nx'] v' its') (m : Mvd W W' B v v') : PostMd w0 W B v its' nx' W' :=
  ⟨v', ⟨o, Below.trans h.keep (h.own.below m h.keep.size)⟩, m⟩
theorem Md.to {W' : World} (h : Md w0 W B v its nx) (k : Keeps W W') : Md w0 W' B v its nx := ⟨h.own.keep k, h.keep.trans k⟩
theorem Md.post (h : Md w0 W B v its nx) {W' : World} (k : Keeps W W') : PostMd w0 W B v its nx W' := ⟨v, h.to k, Mvd.keep k⟩
theorem PostMd.from {W1 W' : World} (k : Keeps W W1) (h : PostMd w0 W1 B v its nx W') : PostMd w0 W B v its nx W' := by
  obtain ⟨v', m, c⟩ := h
  exact ⟨v', m, (Mvd.keep k).trans c⟩
theorem PostMd.keep {W1 W' : World} (h : PostMd w0 W B v its nx W1) (k : Keeps W1 W') : PostMd w0 W B v its nx W' := by
  obtain ⟨v', m, c⟩ := h
  exact ⟨v', m.to k, c.trans (Mvd.keep k)⟩
theorem ends_nil (k : Int) : endsK k [] = false := rfl
theorem ends_app (k : Int) (l : List It) (x : It) : endsK k (l ++ [x]) = (x.kind == k) := by unfold endsK; rw [List.getLast?_append]; rfl
set_option maxRecDepth 100000 in
theorem endsWith_any (k : Int) (h : Md w0 W B v its nx) (hl : its.length ≤ 1000000) :
    Calls Tryd.prog 27 #[.pointer (some ⟨B, 0, none⟩), .int .i64 k] W fun e w' => e = .returned (.bool (endsK k its)) ∧ W = w' := by
  have b0 := h.own.box.cell 0 (v := v) rfl
  rcases List.eq_nil_or_concat its with rfl | ⟨l, x, rfl⟩
  · obtain ⟨A, cap, rfl, h1, h2⟩ := row_form h.own.row
    rw [ends_nil]
    simp only [List.length_nil] at *
    clear h
    go_enter Tryd.func27, Tryd.ntmps27
    go_wp2_with fail
    go_ret
    exact ⟨rfl, rfl⟩
  · rw [List.concat_eq_append] at *
    obtain ⟨g, cap, rfl, h1, h2⟩ := h.own.at_ (by simp)
    rw [ends_app]
    have c0 := h.own.cell (i := l.length) (by simp) 0 (by decide)
    rw [List.getElem_append_right (Nat.le_refl _)] at c0
    simp only [Nat.sub_self, List.getElem_singleton, Nat.add_zero] at c0
    have c1 : W.cell? ⟨g, l.length * 9, none⟩ = some (.int .i64 x.kind) := c0
    clear c0 h
    simp only [List.length_append, List.length_singleton] at *
    generalize l.length = n at *
    have hw : IntKind.i64.wrap (((n + 1 : Nat) : Int) - 1) = (n : Int) := by rw [IntWalk.i64_in _ (by omega)]; omega
    have hn : n < n + 1 := by omega
    cases hb : (x.kind == k)
    all_goals
      go_enter Tryd.func27, Tryd.ntmps27
      go_wp2_with fail
      go_ret
      exact ⟨rfl, rfl⟩
theorem drop_not (h : endsK 2 its = false) : dropG its = its := by unfold dropG; rw [if_neg (by rw [h]; decide)]
theorem drop_yes (h : endsK 2 its = true) : dropG its = its.dropLast := by unfold dropG; rw [if_pos h]
theorem ends_pos {k : Int} (h : endsK k its = true) : 0 < its.length := by
  cases its with
  | nil => cases h
  | cons x l => simp
set_option maxRecDepth 100000 in
theorem dropGlue_any (h : Md w0 W B v its nx) (hl : its.length ≤ 1000000) :
    Calls Tryd.prog 18 #[.pointer (some ⟨B, 0, none⟩)] W fun e w' => e = .returned (.tuple #[]) ∧ PostMd w0 W B v (dropG its) nx w' := by
  have EW := Lib.hid (endsWith_any 2 h hl)
  cases he : endsK 2 its with
  | false =>
    rw [he] at EW
    have FIN := Lib.hid (show PostMd w0 W B v (dropG its) nx W by rw [drop_not he]; exact h.post (Keeps.refl _))
    clear h
    go_enter Tryd.func18, Tryd.ntmps18
    go_wp2_with fail
    refine EW.out.mono ?_
    rintro e w1 ⟨rfl, rfl⟩
    go_wp2_with fail
    go_end0
    exact ⟨rfl, FIN.out⟩
  | true =>
    rw [he] at EW
    have hp := ends_pos he
    obtain ⟨g, cap, rfl, h1, h2⟩ := h.own.at_ hp
    have b0 := h.own.box.cell 0 (v := .slice (some ⟨g, 0, none⟩) its.length cap) rfl
    have f0 := h.own.box.free 0
    have FIN := Lib.hid (show PostMd w0 W B (.slice (some ⟨g, 0, none⟩) its.length cap) (dropG its) nx (W.setCell ⟨B, 0, none⟩ (.slice (some ⟨g, 0, none⟩) (its.length - 1) cap)) by
      obtain ⟨o, m⟩ := h.own.pop hp
      rw [drop_yes he]
      exact h.moved o m)
    clear h
    obtain ⟨n, hn⟩ : ∃ n, its.length = n + 1 := ⟨its.length - 1, by omega⟩
    rw [hn] at hl h1 b0 FIN ⊢
    have hw : IntKind.i64.wrap (((n + 1 : Nat) : Int) - 1) = (n : Int) := by rw [IntWalk.i64_in _ (by omega)]; omega
    rw [show n + 1 - 1 = n from rfl] at FIN
    have hs1 : (0 : Int) ≤ (n : Int) := by omega
    have hs2 : (n : Int) ≤ (cap : Int) := by omega
    go_enter Tryd.func18, Tryd.ntmps18
    go_wp2_with fail
    refine EW.out.mono ?_
    rintro e w1 ⟨rfl, rfl⟩
    go_wp2_with fail
    go_region
    go_end0
    exact ⟨rfl, FIN.out.keep (Keeps.refl _).drew⟩
end
end Go.Proofs.YthmfkjgcbcjbaaaDoor
