/-
  Contracts of Width, Advance, Ascent, Descent, Name, of the package.
-/
import Derived.Test.YthmfkjgcbcjbaaaDoorFnta
namespace Go.Proofs.YthmfkjgcbcjbaaaDoor
open Go.RowKit Go.Lib

set_option maxRecDepth 100000 in
theorem width_mono_go (x : Int) (w : World) :
    Calls Tryd.prog 58 #[.int .i64 4, .int .u8 x] w fun e w' => e = .returned (.int .i64 600) ∧ w = w' := by
  go_enter Tryd.func58, Tryd.ntmps58
  go_wp2
  go_ret
  exact ⟨rfl, rfl⟩
set_option maxRecDepth 100000 in
theorem width_latin_go (f x : Int) (k : Nat) (z : Int) (w : World) (t4 : (f == 4) = false) (h0 : 160 ≤ x) (h1 : x < 256) (hx : x - 160 = (k : Int)) (z0 : 191 ≤ z) (z1 : z ≤ 1015)
    (hz : w.cell? ⟨3, k, none⟩ = some (.int .u16 z)) :
    Calls Tryd.prog 58 #[.int .i64 f, .int .u8 x] w fun e w' => e = .returned (.int .i64 z) ∧ w = w' := by
  go_enter Tryd.func58, Tryd.ntmps58
  go_wp2
  go_ret
  exact ⟨rfl, rfl⟩
set_option maxRecDepth 100000 in
theorem width_low_go (f x : Int) (k : Nat) (z : Int) (w : World) (t4 : (f == 4) = false) (h0 : 32 ≤ x) (h1 : x < 127) (hx : x - 32 = (k : Int))
    (C : Hid (Calls Tryd.prog 62 #[.int .i64 f, .int .i64 k] w fun e w' => e = .returned (.int .i64 z) ∧ w = w')) :
    Calls Tryd.prog 58 #[.int .i64 f, .int .u8 x] w fun e w' => e = .returned (.int .i64 z) ∧ w = w' := by
  go_enter Tryd.func58, Tryd.ntmps58
  go_wp2_with fail
  refine C.out.mono ?_
  rintro e w' ⟨rfl, rfl⟩
  go_wp2_with fail
  go_ret
  exact ⟨rfl, rfl⟩
set_option maxRecDepth 100000 in
theorem width_other_go (f x : Int) (w : World) (t4 : (f == 4) = false) (h0 : 0 ≤ x) (h2 : x < 32 ∨ (126 < x ∧ x < 160)) :
    Calls Tryd.prog 58 #[.int .i64 f, .int .u8 x] w fun e w' => e = .returned (.int .i64 556) ∧ w = w' := by
  rcases h2 with h2 | ⟨h2, h3⟩
  all_goals
    go_enter Tryd.func58, Tryd.ntmps58
    go_wp2
    go_ret
    exact ⟨rfl, rfl⟩
theorem width_any (f : Int) (c : Nat) (hc : c < 256) (w : World) (hF : Fnt w) :
    Calls Tryd.prog 58 #[.int .i64 f, .int .u8 c] w fun e w' => e = .returned (.int .i64 (widthL f c)) ∧ w = w' := by
  rcases width_ways f c hc with rfl | ⟨h4, ⟨k, hk, rfl⟩ | ⟨k, hk, rfl⟩ | h2⟩
  · rw [width_mono]; exact width_mono_go _ w
  · rw [width_latin h4]
    exact width_latin_go f _ k _ w (beq_eq_false_iff_ne.2 h4) (by omega) (by omega) (by omega) (latin_range k hk).1 (latin_range k hk).2 (hF.high_cell k hk)
  · by_cases hb : f = 1 ∨ f = 3
    · rw [width_bold hb hk]
      exact width_low_go f _ k _ w (beq_eq_false_iff_ne.2 h4) (by omega) (by omega) (by omega) (Lib.hid (lowWidth_bold f k w hF hb hk))
    · rw [width_plain h4 hb hk]
      exact width_low_go f _ k _ w (beq_eq_false_iff_ne.2 h4) (by omega) (by omega) (by omega) (Lib.hid (lowWidth_plain f k w hF hb hk))
  · rw [width_other h4 h2]
    exact width_other_go f _ w (beq_eq_false_iff_ne.2 h4) (by omega) (by omega)
set_option maxRecDepth 100000 in
theorem adv_any (f size : Int) (c : Nat) (hc : c < 256) (w : World) (h1 : -2147483648 ≤ size) (h2 : size ≤ 2147483648) (hF : Fnt w) :
    Calls Tryd.prog 50 #[.int .i64 f, .int .i64 size, .int .u8 c] w fun e w' => e = .returned (.int .i64 (advL f size c)) ∧ w = w' := by
  have C := Lib.hid (width_any f c hc w hF)
  have hm := mul_any (f := f) (size := size) hc h1 h2
  have E := Lib.hid (show advL f size c = (widthL f c * size).tdiv 1000 from rfl)
  obtain ⟨m1, m2⟩ := hm
  generalize widthL f c = wd at *
  generalize hp : wd * size = p at *
  clear hF
  rw [E.out]
  clear E
  go_enter Tryd.func50, Tryd.ntmps50
  go_wp2_with fail
  refine C.out.mono ?_
  rintro e w' ⟨rfl, rfl⟩
  go_wp2_with fail
  go_ret
  exact ⟨rfl, rfl⟩
end Go.Proofs.YthmfkjgcbcjbaaaDoor
