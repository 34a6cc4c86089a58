/-
  FontTells returns true of any font, size and code.
-/
import Derived.Test.YtapffngcbbngiaaDoorFaw
import Derived.Test.YtapffngcbbngiaaDoorFntr
namespace Go.Proofs.YtapffngcbbngiaaDoor
open Go.RowKit Go.Lib

set_option maxHeartbeats 800000 in
theorem ftells_any (f size : Int) (c : Nat) (hc : c < 256) (w : World) (hF : Fnt w) (hR : FntR w) :
    Calls Tryd.prog 3 #[.int .i64 f, .int .i64 size, .int .u8 c] w fun e w' => e = .returned (.bool true) ∧ Keeps w w' := by
  have AW := Lib.hid (awake5_any w hF)
  by_cases h : size ≤ 2147483648 ∧ -2147483648 ≤ size
  · obtain ⟨h2, h1⟩ := h
    have S := Lib.hid (small_yes size w h2 h1)
    have A1 := Lib.hid (width_any f c hc w hF)
    have B1 := Lib.hid (rwidth_any f c hc w hR)
    have A2 := Lib.hid (adv_any f size c hc w h1 h2 hF)
    have B2 := Lib.hid (radv_any f size c hc w h1 h2 hR)
    have A3 := Lib.hid (ascent_any size w h1 h2)
    have B3 := Lib.hid (rascent_any size w h1 h2)
    have A4 := Lib.hid (descent_any size w h1 h2)
    have B4 := Lib.hid (rdescent_any size w h1 h2)
    have A5 := Lib.hid (name_any f w hF)
    have B5 := Lib.hid (rname_any f w)
    generalize widthL f c = z1 at *
    generalize advL f size c = z2 at *
    generalize (3 * size).tdiv 4 = z3 at *
    generalize size.tdiv 4 = z4 at *
    generalize nameL f = z5 at *
    clear hF hR h1 h2
    go_enter Tryd.func3, Tryd.ntmps3
    go_wp2_with fail
    refine S.out.mono ?_
    rintro e w1 ⟨rfl, rfl⟩
    go_wp2_with fail
    refine AW.out.mono ?_
    rintro e w1 ⟨rfl, rfl⟩
    go_wp2_with fail
    refine A1.out.mono ?_
    rintro e w1 ⟨rfl, rfl⟩
    go_wp2_with fail
    refine B1.out.mono ?_
    rintro e w1 ⟨rfl, rfl⟩
    go_wp2_with fail
    refine A2.out.mono ?_
    rintro e w1 ⟨rfl, rfl⟩
    go_wp2_with fail
    refine B2.out.mono ?_
    rintro e w1 ⟨rfl, rfl⟩
    go_wp2_with fail
    refine A3.out.mono ?_
    rintro e w1 ⟨rfl, rfl⟩
    go_wp2_with fail
    refine B3.out.mono ?_
    rintro e w1 ⟨rfl, rfl⟩
    go_wp2_with fail
    refine A4.out.mono ?_
    rintro e w1 ⟨rfl, rfl⟩
    go_wp2_with fail
    refine B4.out.mono ?_
    rintro e w1 ⟨rfl, rfl⟩
    go_wp2_with fail
    refine A5.out.mono ?_
    rintro e w1 ⟨rfl, rfl⟩
    go_wp2_with fail
    refine B5.out.mono ?_
    rintro e w1 ⟨rfl, rfl⟩
    go_wp2_with fail
    go_ret
    exact ⟨rfl, Keeps.refl _⟩
  · have S := Lib.hid (small_no size w h)
    clear h hF hR
    go_enter Tryd.func3, Tryd.ntmps3
    go_wp2_with fail
    refine S.out.mono ?_
    rintro e w1 ⟨rfl, rfl⟩
    go_wp2_with fail
    refine AW.out.mono ?_
    rintro e w1 ⟨rfl, rfl⟩
    go_wp2_with fail
    go_ret
    exact ⟨rfl, Keeps.refl _⟩
end Go.Proofs.YtapffngcbbngiaaDoor
