/-
  CodeTexts returns true of any text.
-/
import Derived.Test.YtfaoacamgipljaaDoorCaw
namespace Go.Proofs.YtfaoacamgipljaaDoor
open Go.RowKit Go.Lib

set_option maxHeartbeats 400000 in
theorem ctexts_long (s : ByteArray) (w : World) (hs : s.size ≤ maxLen) (h : 3000 < s.size) (hO : Odd w) :
    Calls Tryd.prog 4 #[.string s] w fun e w' => e = .returned (.bool true) ∧ Keeps w w' := by
  have AW := Lib.hid (awake4_any w hO)
  unfold maxLen at hs
  go_enter Tryd.func4, Tryd.ntmps4
  go_wp2_with fail
  refine AW.out.mono ?_
  rintro e w2 ⟨rfl, k2⟩
  go_wp2_with fail
  go_ret
  exact ⟨rfl, k2⟩
set_option maxHeartbeats 800000 in
theorem ctexts_short (s : ByteArray) (w : World) (h : s.size ≤ 3000) (hO : Odd w) :
    Calls Tryd.prog 4 #[.string s] w fun e w' => e = .returned (.bool true) ∧ Keeps w w' := by
  have AW := Lib.hid (fun W h => awake4_any W h)
  have C1 := Lib.hid (fun W h => codes_any s W (by omega) h)
  have C2 := Lib.hid (fun W => rcodes_any s W (by omega))
  have X1 := Lib.hid (fun W h => text_any s W (by omega) h)
  have X2 := Lib.hid (fun W => rtext_any s W (by omega))
  generalize codesL s.data.toList = cl at *
  generalize textL s.data.toList = tl at *
  go_enter Tryd.func4, Tryd.ntmps4
  go_wp2_with fail
  refine (AW.out _ hO).mono ?_
  rintro e w1 ⟨rfl, k1⟩
  have K1 := Lib.hid k1
  clear k1
  go_wp2_with fail
  refine (C1.out _ (Odd.keep hO K1.out)).mono ?_
  rintro e w2 ⟨rfl, k2⟩
  have K2 := Lib.hid (K1.out.trans k2)
  clear k2
  go_wp2_with fail
  refine (C2.out _).mono ?_
  rintro e w3 ⟨rfl, k3⟩
  have K3 := Lib.hid (K2.out.trans k3)
  clear k3
  go_wp2_with fail
  refine (X1.out _ (Odd.keep hO K3.out)).mono ?_
  rintro e w4 ⟨rfl, k4⟩
  have K4 := Lib.hid (K3.out.trans k4)
  clear k4
  go_wp2_with fail
  refine (X2.out _).mono ?_
  rintro e w5 ⟨rfl, k5⟩
  have K5 := Lib.hid (K4.out.trans k5)
  clear k5
  go_wp2_with fail
  go_ret
  exact ⟨rfl, K5.out⟩
theorem ctexts_any (s : ByteArray) (w : World) (hs : s.size ≤ maxLen) (hO : Odd w) :
    Calls Tryd.prog 4 #[.string s] w fun e w' => e = .returned (.bool true) ∧ Keeps w w' := by
  by_cases h : s.size ≤ 3000
  · exact ctexts_short s w h hO
  · exact ctexts_long s w hs (by omega) hO
end Go.Proofs.YtfaoacamgipljaaDoor
