/-
  awake, of the statements of layer 5, returns true in every world that holds the package's tables.
-/
import Derived.Test.YtapffngcbbngiaaDoorFntc
namespace Go.Proofs.YtapffngcbbngiaaDoor
open Go.RowKit Go.Lib

theorem aw5_a : widthL 0 65 = 667 := by decide +kernel
theorem aw5_b : widthL 1 65 = 722 := by decide +kernel
theorem aw5_c : widthL 4 65 = 600 := by decide +kernel
theorem aw5_i : advL 0 12000 105 = 2664 := by decide +kernel
theorem aw5_r : runL 4 10000 [97, 98, 99] = 18000 := by decide +kernel
theorem aw5_t : cutL 4 10000 13000 [97, 98, 99] = 2 := by decide +kernel
theorem aw5_n : nameL 4 = [67, 111, 117, 114, 105, 101, 114] := by decide +kernel

set_option maxHeartbeats 800000 in
theorem awake5_any (w : World) (hF : Fnt w) : Calls Tryd.prog 8 #[] w fun e w' => e = .returned (.bool true) ∧ w = w' := by
  have A1 := Lib.hid (width_any 0 65 (by omega) w hF)
  have A2 := Lib.hid (width_any 1 65 (by omega) w hF)
  have A3 := Lib.hid (width_any 4 65 (by omega) w hF)
  have A4 := Lib.hid (adv_any 0 12000 105 (by omega) w (by omega) (by omega) hF)
  have A5 := Lib.hid (run_any 4 10000 ⟨#[97, 98, 99]⟩ w (by decide +kernel) (by omega) (by omega) hF)
  have A6 := Lib.hid (cut_any 4 10000 13000 ⟨#[97, 98, 99]⟩ w (by decide +kernel) (by omega) (by omega) hF)
  have A7 := Lib.hid (name_any 4 w hF)
  rw [aw5_a] at A1
  rw [aw5_b] at A2
  rw [aw5_c] at A3
  rw [aw5_i] at A4
  rw [show (⟨#[97, 98, 99]⟩ : ByteArray).data.toList = [97, 98, 99] from rfl, aw5_r] at A5
  rw [show (⟨#[97, 98, 99]⟩ : ByteArray).data.toList = [97, 98, 99] from rfl, aw5_t] at A6
  rw [aw5_n] at A7
  clear hF
  go_enter Tryd.func8, Tryd.ntmps8
  go_wp2_with fail
  refine A1.out.mono ?_
  rintro e w1 ⟨rfl, rfl⟩
  go_wp2_with fail
  refine A2.out.mono ?_
  rintro e w1 ⟨rfl, rfl⟩
  go_wp2_with fail
  refine A3.out.mono ?_
  rintro e w1 ⟨rfl, rfl⟩
  go_wp2_with fail
  refine A4.out.mono ?_
  rintro e w1 ⟨rfl, rfl⟩
  go_wp2_with fail
  refine A5.out.mono ?_
  rintro e w1 ⟨rfl, rfl⟩
  go_wp2_with fail
  refine A6.out.mono ?_
  rintro e w1 ⟨rfl, rfl⟩
  go_wp2_with fail
  refine A7.out.mono ?_
  rintro e w1 ⟨rfl, rfl⟩
  go_wp2_with fail
  go_ret
  exact ⟨rfl, rfl⟩
end Go.Proofs.YtapffngcbbngiaaDoor
