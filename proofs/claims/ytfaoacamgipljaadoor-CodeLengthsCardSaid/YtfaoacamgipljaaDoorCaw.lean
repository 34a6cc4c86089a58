/-
  awake, of the statements of layer 4, returns true in every world that holds the table.
-/
import Derived.Test.YtfaoacamgipljaaDoorCodr
namespace Go.Proofs.YtfaoacamgipljaaDoor
open Go.RowKit Go.Lib

theorem aw4_euro : toN 8364 = (128, true) := by decide +kernel
theorem aw4_128 : fromR 128 = (8364, true) := by decide +kernel
theorem aw4_han : toN 19968 = (63, false) := by decide +kernel
theorem aw4_codes : codesL [97, 226, 130, 172, 228, 184, 128] = [97, 128, 63] := by decide +kernel
theorem aw4_text : textL [97, 128] = [97, 226, 130, 172] := by decide +kernel

set_option maxHeartbeats 800000 in
theorem awake4_any (w : World) (hO : Odd w) : Calls Tryd.prog 11 #[] w fun e w' => e = .returned (.bool true) ∧ Keeps w w' := by
  have T1 := Lib.hid (fun W h => to_any 8364 W h)
  have T2 := Lib.hid (fun W h => to_any 19968 W h)
  have F1 := Lib.hid (fun W h => from_any 128 (by decide) W h)
  have C := Lib.hid (fun W h => codes_any ⟨#[97, 226, 130, 172, 228, 184, 128]⟩ W (by decide +kernel) h)
  have X := Lib.hid (fun W h => text_any ⟨#[97, 128]⟩ W (by decide +kernel) h)
  rw [aw4_euro] at T1
  rw [aw4_han] at T2
  rw [aw4_128] at F1
  rw [show (⟨#[97, 226, 130, 172, 228, 184, 128]⟩ : ByteArray).data.toList = [97, 226, 130, 172, 228, 184, 128] from rfl, aw4_codes] at C
  rw [show (⟨#[97, 128]⟩ : ByteArray).data.toList = [97, 128] from rfl, aw4_text] at X
  go_enter Tryd.func11, Tryd.ntmps11
  go_wp2_with fail
  refine (T1.out _ hO).mono ?_
  rintro e w1 ⟨rfl, rfl⟩
  go_wp2_with fail
  refine (F1.out _ hO).mono ?_
  rintro e w1 ⟨rfl, rfl⟩
  go_wp2_with fail
  refine (T2.out _ hO).mono ?_
  rintro e w1 ⟨rfl, rfl⟩
  go_wp2_with fail
  refine (C.out _ hO).mono ?_
  rintro e w1 ⟨rfl, k1⟩
  have K1 := Lib.hid k1
  clear k1
  go_wp2_with fail
  refine (X.out _ (Odd.keep hO K1.out)).mono ?_
  rintro e w2 ⟨rfl, k2⟩
  have K2 := Lib.hid (K1.out.trans k2)
  clear k2
  go_wp2_with fail
  go_ret
  exact ⟨rfl, K2.out⟩
end Go.Proofs.YtfaoacamgipljaaDoor
