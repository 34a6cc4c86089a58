/-
  Contracts of isBlank and of style's methods, of the package item.
-/
import Derived.Test.YthmfkjgcbcjbaaaDoorItb
import Derived.Test.YthmfkjgcbcjbaaaDoorFntc
import Derived.Test.YthmfkjgcbcjbaaaDoorBeq
namespace Go.Proofs.YthmfkjgcbcjbaaaDoor
open Go.RowKit Go.Lib Go.Maps

def styV (sz : Int) (s : Sty) : Value := .agg #[.int .i64 s.font, .int .i64 sz, .int .i64 s.link, .bool s.image]
theorem blk_two (w : World) (o : Obj) (t : TypeId) (cs : Array Value) : Blk ((w.alloc o).alloc (.cells cs t)) (w.heap.size + 1) t cs := by
  have := Blk.new (w.alloc o) t cs
  rwa [show (w.alloc o).heap.size = w.heap.size + 1 by simp] at this
theorem keeps_two (w : World) (o o2 : Obj) : Keeps w ((w.alloc o).alloc o2) := ((Keeps.refl w).alloc o).alloc o2
set_option maxRecDepth 100000 in
theorem isBlank_any (b : UInt8) (w : World) :
    Calls Tryd.prog 54 #[.int .u8 b.toNat] w fun e w' => e = .returned (.bool (decide (blankB b))) ∧ w = w' := by
  have hb : decide (blankB b) = decide (b.toNat = 32 ∨ b.toNat = 9 ∨ b.toNat = 10) := by unfold blankB; rfl
  rw [hb]
  generalize b.toNat = x
  by_cases h0 : x = 32
  · have t0 := beqT (show (x : Int) = 32 by omega)
    have e : decide (x = 32 ∨ x = 9 ∨ x = 10) = true := decide_eq_true (.inl h0)
    rw [e]
    clear e h0
    go_enter Tryd.func54, Tryd.ntmps54
    go_wp2_with fail
    go_ret
    exact ⟨rfl, rfl⟩
  · have t0 := beqF (show ¬ (x : Int) = 32 by omega)
    by_cases h1 : x = 9
    · have t1 := beqT (show (x : Int) = 9 by omega)
      have e : decide (x = 32 ∨ x = 9 ∨ x = 10) = true := decide_eq_true (.inr (.inl h1))
      rw [e]
      clear e h0 h1
      go_enter Tryd.func54, Tryd.ntmps54
      go_wp2_with fail
      go_ret
      exact ⟨rfl, rfl⟩
    · have t1 := beqF (show ¬ (x : Int) = 9 by omega)
      by_cases h2 : x = 10
      · have t2 := beqT (show (x : Int) = 10 by omega)
        have e : decide (x = 32 ∨ x = 9 ∨ x = 10) = true := decide_eq_true (.inr (.inr h2))
        rw [e]
        clear e h0 h1 h2
        go_enter Tryd.func54, Tryd.ntmps54
        go_wp2_with fail
        go_ret
        exact ⟨rfl, rfl⟩
      · have t2 := beqF (show ¬ (x : Int) = 10 by omega)
        have e : decide (x = 32 ∨ x = 9 ∨ x = 10) = false := decide_eq_false (by omega)
        rw [e]
        clear e h0 h1 h2
        go_enter Tryd.func54, Tryd.ntmps54
        go_wp2_with fail
        go_ret
        exact ⟨rfl, rfl⟩
set_option maxRecDepth 100000 in
theorem inImage_any (sz : Int) (s : Sty) (w : World) :
    Calls Tryd.prog 48 #[styV sz s] w fun e w' => e = .returned (styV sz { s with image := true }) ∧ Keeps w w' := by
  obtain ⟨f, l, b⟩ := s
  unfold styV
  go_enter Tryd.func48, Tryd.ntmps48
  go_wp2_with fail
  exact ret_blk rfl rfl rfl (blk_two _ _ _ _) Tryd.underlying50 (by kernel_rfl) ⟨rfl, keeps_two _ _ _⟩
set_option maxRecDepth 100000 in
theorem mono_any (sz : Int) (s : Sty) (w : World) :
    Calls Tryd.prog 42 #[styV sz s] w fun e w' => e = .returned (styV sz { s with font := 4 }) ∧ Keeps w w' := by
  obtain ⟨f, l, b⟩ := s
  unfold styV
  go_enter Tryd.func42, Tryd.ntmps42
  go_wp2_with fail
  exact ret_blk rfl rfl rfl (blk_two _ _ _ _) Tryd.underlying50 (by kernel_rfl) ⟨rfl, keeps_two _ _ _⟩
set_option maxRecDepth 100000 in
theorem slanted_any (sz : Int) (s : Sty) (w : World) :
    Calls Tryd.prog 45 #[styV sz s] w fun e w' => e = .returned (styV sz { s with font := slF s.font }) ∧ Keeps w w' := by
  obtain ⟨f, l, b⟩ := s
  unfold styV slF
  by_cases h0 : f = 0
  · subst h0
    go_enter Tryd.func45, Tryd.ntmps45
    go_wp2_with fail
    exact ret_blk rfl rfl rfl (blk_two _ _ _ _) Tryd.underlying50 (by kernel_rfl) ⟨rfl, keeps_two _ _ _⟩
  · have t0 := beqF h0
    by_cases h1 : f = 1
    · subst h1
      clear h0
      go_enter Tryd.func45, Tryd.ntmps45
      go_wp2_with fail
      exact ret_blk rfl rfl rfl (blk_two _ _ _ _) Tryd.underlying50 (by kernel_rfl) ⟨rfl, keeps_two _ _ _⟩
    · have t1 := beqF h1
      simp only [if_neg h0, if_neg h1]
      clear h0 h1
      go_enter Tryd.func45, Tryd.ntmps45
      go_wp2_with fail
      exact ret_blk rfl rfl rfl (blk_two _ _ _ _) Tryd.underlying50 (by kernel_rfl) ⟨rfl, keeps_two _ _ _⟩
set_option maxRecDepth 100000 in
theorem bold_any (sz : Int) (s : Sty) (w : World) :
    Calls Tryd.prog 46 #[styV sz s] w fun e w' => e = .returned (styV sz { s with font := bdF s.font }) ∧ Keeps w w' := by
  obtain ⟨f, l, b⟩ := s
  unfold styV bdF
  by_cases h0 : f = 0
  · subst h0
    go_enter Tryd.func46, Tryd.ntmps46
    go_wp2_with fail
    exact ret_blk rfl rfl rfl (blk_two _ _ _ _) Tryd.underlying50 (by kernel_rfl) ⟨rfl, keeps_two _ _ _⟩
  · have t0 := beqF h0
    by_cases h1 : f = 2
    · subst h1
      clear h0
      go_enter Tryd.func46, Tryd.ntmps46
      go_wp2_with fail
      exact ret_blk rfl rfl rfl (blk_two _ _ _ _) Tryd.underlying50 (by kernel_rfl) ⟨rfl, keeps_two _ _ _⟩
    · have t1 := beqF h1
      simp only [if_neg h0, if_neg h1]
      clear h0 h1
      go_enter Tryd.func46, Tryd.ntmps46
      go_wp2_with fail
      exact ret_blk rfl rfl rfl (blk_two _ _ _ _) Tryd.underlying50 (by kernel_rfl) ⟨rfl, keeps_two _ _ _⟩
set_option maxRecDepth 100000 in
theorem boxOf_any (sz : Int) (s : Sty) (c : ByteArray) (wd : Int) (w : World) :
    Calls Tryd.prog 39 #[styV sz s, .string c, .int .i64 wd] w fun e w' => e = .returned (.agg #[.int .i64 1, .int .i64 wd, .int .i64 0, .int .i64 0, .int .i64 0, .string c, .int .i64 s.font, .int .i64 sz, .int .i64 s.link]) ∧ Keeps w w' := by
  obtain ⟨f, l, b⟩ := s
  unfold styV
  go_enter Tryd.func39, Tryd.ntmps39
  go_wp2_with fail
  exact ret_blk rfl rfl rfl (blk_two _ _ _ _) Tryd.underlying35 (by kernel_rfl) ⟨rfl, keeps_two _ _ _⟩
set_option maxRecDepth 100000 in
theorem sglue_any (sz : Int) (s : Sty) (w : World) (h1 : 0 ≤ sz) (h2 : sz ≤ 2147483648) (hF : Fnt w) :
    Calls Tryd.prog 56 #[styV sz s] w fun e w' => e = .returned (.agg (itC (itGlue sz s)).toArray) ∧ Keeps w w' := by
  obtain ⟨f, l, b⟩ := s
  have AD := Lib.hid (fun W h => adv_any f sz 32 (by decide) W (by omega) h2 h)
  have HF := Lib.hid (fun o o2 => hF.keep (keeps_two w o o2))
  have d0 := adv_nonneg (f := f) (c := 32) (by decide) h1
  have d1 := adv_le (f := f) (c := 32) (by decide) h1 h2
  clear hF
  unfold styV itGlue itC
  simp only [Int.tdiv_eq_ediv_of_nonneg d0]
  generalize advL f sz 32 = d at *
  go_enter Tryd.func56, Tryd.ntmps56
  go_wp2_with fail
  refine (AD.out _ (HF.out _ _)).mono ?_
  rintro e w' ⟨rfl, rfl⟩
  go_wp2_with fail
  exact ret_blk rfl rfl rfl (blk_two _ _ _ _) Tryd.underlying35 (by kernel_rfl) ⟨rfl, keeps_two _ _ _⟩
end Go.Proofs.YthmfkjgcbcjbaaaDoor
