/-
  The example of layer 13.
-/
import Derived.Test.YtjfbemoageeobaaRnb
import Derived.Test.YtjfbemoageeobaaRnc
namespace Go.Proofs.Ytjfbemoageeobaa
open Go.RowKit Go.Lib

def exA : ByteArray := ⟨#[97, 195, 164, 98]⟩
def exB : ByteArray := ⟨#[97, 98]⟩
theorem cls32 : clsR 32 = 1 := by decide
theorem cls46 : clsR 46 = 2 := by decide
theorem cls120 : clsR 120 = 0 := by decide
theorem cls121 : clsR 121 = 0 := by decide
theorem exA_bef : befL exA.data.toList 3 = 228 := by decide +kernel
theorem exB_aft : aftL exB.data.toList 2 = 0 := by decide +kernel
set_option maxHeartbeats 2000000 in
set_option maxRecDepth 100000 in
theorem awake13_any (w : World) : Calls Try.prog 8 #[] w fun e w' => e = .returned (.bool true) ∧ Keeps w w' := by
  have F1 := Lib.hid (flank_star 32 120 w)
  have F2 := Lib.hid (flank_under 120 121 w)
  have C1 := Lib.hid (class_any 32 w)
  have C2 := Lib.hid (class_any 46 w)
  have C3 := Lib.hid (class_any 120 w)
  have G1 := Lib.hid (fits_any 1 2 1 2 true false rfl rfl (by omega) (by omega) w)
  have G2 := Lib.hid (fits_any 3 3 0 0 true true rfl rfl (by omega) (by omega) w)
  have B1 := Lib.hid (before_any exA 3 w (by decide))
  have A1 := Lib.hid (fun W => after_any exB 2 W (by decide))
  rw [cls32, cls120] at F1
  rw [cls120, cls121] at F2
  rw [cls32] at C1
  rw [cls46] at C2
  rw [cls120] at C3
  rw [exA_bef] at B1
  rw [exB_aft] at A1
  have e1 : leanB 0 1 = true := rfl
  have e2 : leanB 1 0 = false := rfl
  have e3 : underO (leanB 0 0) (leanB 0 0) 0 = false := rfl
  have e4 : fitsB 1 2 true false = false := rfl
  have e5 : fitsB 0 0 true true = true := rfl
  rw [e1, e2] at F1
  rw [e3] at F2
  rw [e4] at G1
  rw [e5] at G2
  clear e1 e2 e3 e4 e5
  go_enter Try.func8, Try.ntmps8
  go_wp2_with fail
  refine F1.out.mono ?_
  rintro e w1 ⟨rfl, rfl⟩
  go_wp2_with fail
  refine F2.out.mono ?_
  rintro e w1 ⟨rfl, rfl⟩
  go_wp2_with fail
  refine C1.out.mono ?_
  rintro e w1 ⟨rfl, rfl⟩
  go_wp2_with fail
  refine C2.out.mono ?_
  rintro e w1 ⟨rfl, rfl⟩
  go_wp2_with fail
  refine C3.out.mono ?_
  rintro e w1 ⟨rfl, rfl⟩
  go_wp2_with fail
  refine G1.out.mono ?_
  rintro e w1 ⟨rfl, rfl⟩
  go_wp2_with fail
  refine G2.out.mono ?_
  rintro e w1 ⟨rfl, rfl⟩
  go_wp2_with fail
  refine B1.out.mono ?_
  rintro e w1 ⟨rfl, k1⟩
  go_wp2_with fail
  refine (A1.out _).mono ?_
  rintro e w2 ⟨rfl, k2⟩
  go_wp2_with fail
  go_ret
  exact ⟨rfl, k1.trans k2⟩
end Go.Proofs.Ytjfbemoageeobaa
