/-
  Texts of the proof, one behind the other: Itc, Itd.
-/
import Derived.Test.YtfnkokfkhjdkfaaDoorM16
import Derived.Test.YtfnkokfkhjdkfaaDoorM3
import Derived.Test.YtfnkokfkhjdkfaaDoorM12
import Derived.Test.YtfnkokfkhjdkfaaDoorM15
/-
  Contracts of isBlank and of style's methods, of the package item.
-/
namespace Go.Proofs.YtfnkokfkhjdkfaaDoor
open Go.RowKit Go.Lib Go.Maps

def styV (sz : Int) (s : Sty) : Value := .agg #[.int .i64 s.font, .int .i64 sz, .int .i64 s.link, .bool s.image]
set_option maxRecDepth 100000 in
theorem isBlank_any (b : UInt8) (w : World) :
    Calls Tryd.prog 73 #[.int .u8 b.toNat] w fun e w' => e = .returned (.bool (decide (blankB b))) ∧ w = w' := by
  have hb : decide (blankB b) = decide (b.toNat = 32 ∨ b.toNat = 9 ∨ b.toNat = 10) := by unfold blankB; rfl
  rw [hb]
  generalize b.toNat = x
  by_cases h0 : x = 32
  · have t0 := beqT (show (x : Int) = 32 by omega)
    have e : decide (x = 32 ∨ x = 9 ∨ x = 10) = true := decide_eq_true (.inl h0)
    rw [e]
    clear e h0
    go_enter Tryd.func73, Tryd.ntmps73
    go_wp2_with fail
    go_ret
    exact ⟨rfl, rfl⟩
  · have t0 := beqF (show ¬ (x : Int) = 32 by omega)
    by_cases h1 : x = 9
    · have t1 := beqT (show (x : Int) = 9 by omega)
      have e : decide (x = 32 ∨ x = 9 ∨ x = 10) = true := decide_eq_true (.inr (.inl h1))
      rw [e]
      clear e h0 h1
      go_enter Tryd.func73, Tryd.ntmps73
      go_wp2_with fail
      go_ret
      exact ⟨rfl, rfl⟩
    · have t1 := beqF (show ¬ (x : Int) = 9 by omega)
      by_cases h2 : x = 10
      · have t2 := beqT (show (x : Int) = 10 by omega)
        have e : decide (x = 32 ∨ x = 9 ∨ x = 10) = true := decide_eq_true (.inr (.inr h2))
        rw [e]
        clear e h0 h1 h2
        go_enter Tryd.func73, Tryd.ntmps73
        go_wp2_with fail
        go_ret
        exact ⟨rfl, rfl⟩
      · have t2 := beqF (show ¬ (x : Int) = 10 by omega)
        have e : decide (x = 32 ∨ x = 9 ∨ x = 10) = false := decide_eq_false (by omega)
        rw [e]
        clear e h0 h1 h2
        go_enter Tryd.func73, Tryd.ntmps73
        go_wp2_with fail
        go_ret
        exact ⟨rfl, rfl⟩
set_option maxRecDepth 100000 in
theorem inImage_any (sz : Int) (s : Sty) (w : World) :
    Calls Tryd.prog 62 #[styV sz s] w fun e w' => e = .returned (styV sz { s with image := true }) ∧ Keeps w w' := by
  obtain ⟨f, l, b⟩ := s
  unfold styV
  go_enter Tryd.func62, Tryd.ntmps62
  go_wp2_with fail
  exact ret_blk rfl rfl rfl (blk_two _ _ _ _) Tryd.underlying53 (by kernel_rfl) ⟨rfl, keeps_two _ _ _⟩
set_option maxRecDepth 100000 in
theorem mono_any (sz : Int) (s : Sty) (w : World) :
    Calls Tryd.prog 56 #[styV sz s] w fun e w' => e = .returned (styV sz { s with font := 4 }) ∧ Keeps w w' := by
  obtain ⟨f, l, b⟩ := s
  unfold styV
  go_enter Tryd.func56, Tryd.ntmps56
  go_wp2_with fail
  exact ret_blk rfl rfl rfl (blk_two _ _ _ _) Tryd.underlying53 (by kernel_rfl) ⟨rfl, keeps_two _ _ _⟩
set_option maxRecDepth 100000 in
theorem slanted_any (sz : Int) (s : Sty) (w : World) :
    Calls Tryd.prog 59 #[styV sz s] w fun e w' => e = .returned (styV sz { s with font := slF s.font }) ∧ Keeps w w' := by
  obtain ⟨f, l, b⟩ := s
  unfold styV slF
  by_cases h0 : f = 0
  · subst h0
    go_enter Tryd.func59, Tryd.ntmps59
    go_wp2_with fail
    exact ret_blk rfl rfl rfl (blk_two _ _ _ _) Tryd.underlying53 (by kernel_rfl) ⟨rfl, keeps_two _ _ _⟩
  · have t0 := beqF h0
    by_cases h1 : f = 1
    · subst h1
      clear h0
      go_enter Tryd.func59, Tryd.ntmps59
      go_wp2_with fail
      exact ret_blk rfl rfl rfl (blk_two _ _ _ _) Tryd.underlying53 (by kernel_rfl) ⟨rfl, keeps_two _ _ _⟩
    · have t1 := beqF h1
      simp only [if_neg h0, if_neg h1]
      clear h0 h1
      go_enter Tryd.func59, Tryd.ntmps59
      go_wp2_with fail
      exact ret_blk rfl rfl rfl (blk_two _ _ _ _) Tryd.underlying53 (by kernel_rfl) ⟨rfl, keeps_two _ _ _⟩
set_option maxRecDepth 100000 in
theorem bold_any (sz : Int) (s : Sty) (w : World) :
    Calls Tryd.prog 60 #[styV sz s] w fun e w' => e = .returned (styV sz { s with font := bdF s.font }) ∧ Keeps w w' := by
  obtain ⟨f, l, b⟩ := s
  unfold styV bdF
  by_cases h0 : f = 0
  · subst h0
    go_enter Tryd.func60, Tryd.ntmps60
    go_wp2_with fail
    exact ret_blk rfl rfl rfl (blk_two _ _ _ _) Tryd.underlying53 (by kernel_rfl) ⟨rfl, keeps_two _ _ _⟩
  · have t0 := beqF h0
    by_cases h1 : f = 2
    · subst h1
      clear h0
      go_enter Tryd.func60, Tryd.ntmps60
      go_wp2_with fail
      exact ret_blk rfl rfl rfl (blk_two _ _ _ _) Tryd.underlying53 (by kernel_rfl) ⟨rfl, keeps_two _ _ _⟩
    · have t1 := beqF h1
      simp only [if_neg h0, if_neg h1]
      clear h0 h1
      go_enter Tryd.func60, Tryd.ntmps60
      go_wp2_with fail
      exact ret_blk rfl rfl rfl (blk_two _ _ _ _) Tryd.underlying53 (by kernel_rfl) ⟨rfl, keeps_two _ _ _⟩
set_option maxRecDepth 100000 in
theorem boxOf_any (sz : Int) (s : Sty) (c : ByteArray) (wd : Int) (w : World) :
    Calls Tryd.prog 54 #[styV sz s, .string c, .int .i64 wd] w fun e w' => e = .returned (.agg #[.int .i64 1, .int .i64 wd, .int .i64 0, .int .i64 0, .int .i64 0, .string c, .int .i64 s.font, .int .i64 sz, .int .i64 s.link]) ∧ Keeps w w' := by
  obtain ⟨f, l, b⟩ := s
  unfold styV
  go_enter Tryd.func54, Tryd.ntmps54
  go_wp2_with fail
  exact ret_blk rfl rfl rfl (blk_two _ _ _ _) Tryd.underlying42 (by kernel_rfl) ⟨rfl, keeps_two _ _ _⟩
set_option maxRecDepth 100000 in
theorem sglue_any (sz : Int) (s : Sty) (w : World) (h1 : 0 ≤ sz) (h2 : sz ≤ 2147483648) (hF : Fnt w) :
    Calls Tryd.prog 75 #[styV sz s] w fun e w' => e = .returned (.agg (itC (itGlue sz s)).toArray) ∧ Keeps w w' := by
  obtain ⟨f, l, b⟩ := s
  have AD := Lib.hid (fun W h => adv_any f sz 32 (by decide) W (by omega) h2 h)
  have HF := Lib.hid (fun o o2 => hF.keep (keeps_two w o o2))
  have d0 := adv_nonneg (f := f) (c := 32) (by decide) h1
  have d1 := adv_le (f := f) (c := 32) (by decide) h1 h2
  clear hF
  unfold styV itGlue itC
  simp only [Int.tdiv_eq_ediv_of_nonneg d0]
  generalize advL f sz 32 = d at *
  go_enter Tryd.func75, Tryd.ntmps75
  go_wp2_with fail
  refine (AD.out _ (HF.out _ _)).mono ?_
  rintro e w' ⟨rfl, rfl⟩
  go_wp2_with fail
  exact ret_blk rfl rfl rfl (blk_two _ _ _ _) Tryd.underlying42 (by kernel_rfl) ⟨rfl, keeps_two _ _ _⟩
end Go.Proofs.YtfnkokfkhjdkfaaDoor

/-
  Contracts of endsWith and dropGlue, of the package item.
-/
namespace Go.Proofs.YtfnkokfkhjdkfaaDoor
open Go.RowKit Go.Lib Go.Maps

/-- What item's methods work on: the list at block B, the next link's number; all of it made since w0. -/
structure Md (w0 : World) (W : World) (B : Nat) (v : Value) (its : List It) (nx : Int) : Prop where
  own : Own w0.heap.size 50 W B [.int .i64 nx] v its
  keep : Keeps w0 W
def PostMd (w0 W : World) (B : Nat) (v : Value) (its : List It) (nx : Int) (W' : World) : Prop := ∃ v', Md w0 W' B v' its nx ∧ Mvd W W' B v v'
section
variable {w0 W : World} {B : Nat} {v : Value} {its : List It} {nx : Int}
theorem Md.moved {W' : World} {v' : Value} {its' : List It} {nx' : Int} (h : Md w0 W B v its nx) (o : Own w0.heap.size 50 W' B [.int .i64 nx'] v' its') (m : Mvd W W' B v v') : PostMd w0 W B v its' nx' W' :=
  ⟨v', ⟨o, Below.trans h.keep (h.own.below m h.keep.size)⟩, m⟩
theorem Md.to {W' : World} (h : Md w0 W B v its nx) (k : Keeps W W') : Md w0 W' B v its nx := ⟨h.own.keep k, h.keep.trans k⟩
theorem Md.post (h : Md w0 W B v its nx) {W' : World} (k : Keeps W W') : PostMd w0 W B v its nx W' := ⟨v, h.to k, Mvd.keep k⟩
theorem PostMd.from {W1 W' : World} (k : Keeps W W1) (h : PostMd w0 W1 B v its nx W') : PostMd w0 W B v its nx W' := by
  obtain ⟨v', m, c⟩ := h
  exact ⟨v', m, (Mvd.keep k).trans c⟩
theorem PostMd.keep {W1 W' : World} (h : PostMd w0 W B v its nx W1) (k : Keeps W1 W') : PostMd w0 W B v its nx W' := by
  obtain ⟨v', m, c⟩ := h
  exact ⟨v', m.to k, c.trans (Mvd.keep k)⟩
theorem ends_nil (k : Int) : endsK k [] = false := rfl
theorem ends_app (k : Int) (l : List It) (x : It) : endsK k (l ++ [x]) = (x.kind == k) := by unfold endsK; rw [List.getLast?_append]; rfl
set_option maxRecDepth 100000 in
theorem endsWith_any (k : Int) (h : Md w0 W B v its nx) (hl : its.length ≤ 1000000) :
    Calls Tryd.prog 33 #[.pointer (some ⟨B, 0, none⟩), .int .i64 k] W fun e w' => e = .returned (.bool (endsK k its)) ∧ W = w' := by
  have b0 := h.own.box.cell 0 (v := v) rfl
  rcases List.eq_nil_or_concat its with rfl | ⟨l, x, rfl⟩
  · obtain ⟨A, cap, rfl, h1, h2⟩ := row_form h.own.row
    rw [ends_nil]
    simp only [List.length_nil] at *
    clear h
    go_enter Tryd.func33, Tryd.ntmps33
    go_wp2_with fail
    go_ret
    exact ⟨rfl, rfl⟩
  · rw [List.concat_eq_append] at *
    obtain ⟨g, cap, rfl, h1, h2⟩ := h.own.at_ (by simp)
    rw [ends_app]
    have c0 := h.own.cell (i := l.length) (by simp) 0 (by decide)
    rw [List.getElem_append_right (Nat.le_refl _)] at c0
    simp only [Nat.sub_self, List.getElem_singleton, Nat.add_zero] at c0
    have c1 : W.cell? ⟨g, l.length * 9, none⟩ = some (.int .i64 x.kind) := c0
    clear c0 h
    simp only [List.length_append, List.length_singleton] at *
    generalize l.length = n at *
    have hw : IntKind.i64.wrap (((n + 1 : Nat) : Int) - 1) = (n : Int) := by rw [IntWalk.i64_in _ (by omega)]; omega
    have hn : n < n + 1 := by omega
    cases hb : (x.kind == k)
    all_goals
      go_enter Tryd.func33, Tryd.ntmps33
      go_wp2_with fail
      go_ret
      exact ⟨rfl, rfl⟩
theorem drop_not (h : endsK 2 its = false) : dropG its = its := by unfold dropG; rw [if_neg (by rw [h]; decide)]
theorem drop_yes (h : endsK 2 its = true) : dropG its = its.dropLast := by unfold dropG; rw [if_pos h]
theorem ends_pos {k : Int} (h : endsK k its = true) : 0 < its.length := by
  cases its with
  | nil => cases h
  | cons x l => simp
set_option maxRecDepth 100000 in
theorem dropGlue_any (h : Md w0 W B v its nx) (hl : its.length ≤ 1000000) :
    Calls Tryd.prog 19 #[.pointer (some ⟨B, 0, none⟩)] W fun e w' => e = .returned (.tuple #[]) ∧ PostMd w0 W B v (dropG its) nx w' := by
  have EW := Lib.hid (endsWith_any 2 h hl)
  cases he : endsK 2 its with
  | false =>
    rw [he] at EW
    have FIN := Lib.hid (show PostMd w0 W B v (dropG its) nx W by rw [drop_not he]; exact h.post (Keeps.refl _))
    clear h
    go_enter Tryd.func19, Tryd.ntmps19
    go_wp2_with fail
    refine EW.out.mono ?_
    rintro e w1 ⟨rfl, rfl⟩
    go_wp2_with fail
    go_end0
    exact ⟨rfl, FIN.out⟩
  | true =>
    rw [he] at EW
    have hp := ends_pos he
    obtain ⟨g, cap, rfl, h1, h2⟩ := h.own.at_ hp
    have b0 := h.own.box.cell 0 (v := .slice (some ⟨g, 0, none⟩) its.length cap) rfl
    have f0 := h.own.box.free 0
    have FIN := Lib.hid (show PostMd w0 W B (.slice (some ⟨g, 0, none⟩) its.length cap) (dropG its) nx (W.setCell ⟨B, 0, none⟩ (.slice (some ⟨g, 0, none⟩) (its.length - 1) cap)) by
      obtain ⟨o, m⟩ := h.own.pop hp
      rw [drop_yes he]
      exact h.moved o m)
    clear h
    obtain ⟨n, hn⟩ : ∃ n, its.length = n + 1 := ⟨its.length - 1, by omega⟩
    rw [hn] at hl h1 b0 FIN ⊢
    have hw : IntKind.i64.wrap (((n + 1 : Nat) : Int) - 1) = (n : Int) := by rw [IntWalk.i64_in _ (by omega)]; omega
    rw [show n + 1 - 1 = n from rfl] at FIN
    have hs1 : (0 : Int) ≤ (n : Int) := by omega
    have hs2 : (n : Int) ≤ (cap : Int) := by omega
    go_enter Tryd.func19, Tryd.ntmps19
    go_wp2_with fail
    refine EW.out.mono ?_
    rintro e w1 ⟨rfl, rfl⟩
    go_wp2_with fail
    go_region
    go_end0
    exact ⟨rfl, FIN.out.keep (Keeps.refl _).drew⟩
end
end Go.Proofs.YtfnkokfkhjdkfaaDoor

