/-
  SourceTells returns true of any text.
-/
import Derived.Test.YtbnoiakhpmgeaaaSaw
namespace Go.Proofs.Ytbnoiakhpmgeaaa
open Go.RowKit Go.Lib

set_option maxHeartbeats 400000 in
theorem tells_long (s : ByteArray) (w : World) (hs : s.size ≤ maxLen) (h : 3000 < s.size) :
    Calls Try.prog 3 #[.string s] w fun e w' => e = .returned (.bool true) ∧ Keeps w w' := by
  have AW := Lib.hid (awake_any w)
  unfold maxLen at hs
  go_enter Try.func3, Try.ntmps3
  go_wp2_with fail
  refine AW.out.mono ?_
  rintro e w2 ⟨rfl, k2⟩
  go_wp2_with fail
  go_ret
  exact ⟨rfl, k2⟩

set_option maxHeartbeats 1000000 in
theorem tells_short (s : ByteArray) (w : World) (h : s.size ≤ 3000) :
    Calls Try.prog 3 #[.string s] w fun e w' => e = .returned (.bool true) ∧ Keeps w w' := by
  have AW := Lib.hid (fun W => awake_any W)
  have C1 := Lib.hid (fun W => clean_any s W (by omega))
  have C2 := Lib.hid (fun W => rclean_any s W (by omega))
  have L1 := Lib.hid (fun W => lines_any s W (by omega))
  have L2 := Lib.hid (fun W => rlines_any s W (by omega))
  have hln := linesB_len s
  have SM := Lib.hid (fun n₀ m₀ v u W a b => same_any n₀ m₀ v u (linesB s) W a b (by omega))
  have B1 := Lib.hid (fun W => blank_any s W)
  have B2 := Lib.hid (fun W => rblank_any s W (by omega))
  have T1 := Lib.hid (fun W => trim_any s W (by omega))
  have T2 := Lib.hid (fun W => rtrim_any s W (by omega))
  clear hln
  generalize cleanL s.data.toList = cl at *
  generalize blankL s.data.toList = bk at *
  generalize trimL s.data.toList = tr at *
  generalize linesB s = ls at *
  go_enter Try.func3, Try.ntmps3
  go_wp2_with fail
  refine (AW.out _).mono ?_
  rintro e w1 ⟨rfl, k1⟩
  go_wp2_with fail
  refine (C1.out _).mono ?_
  rintro e w2 ⟨rfl, k2⟩
  have K2 := Lib.hid (k1.trans k2)
  clear k1 k2
  go_wp2_with fail
  refine (C2.out _).mono ?_
  rintro e w3 ⟨rfl, k3⟩
  have K3 := Lib.hid (K2.out.trans k3)
  clear k3
  go_wp2_with fail
  refine (L1.out _).mono ?_
  rintro e w4 ⟨v, rfl, h4, k4⟩
  have K4 := Lib.hid (K3.out.trans k4)
  have H4 := Lib.hid h4
  clear h4 k4
  go_wp2_with fail
  refine (L2.out _).mono ?_
  rintro e w5 ⟨u, rfl, h5, k5⟩
  have K5 := Lib.hid (K4.out.trans k5)
  have H5 := Lib.hid h5
  have H45 := Lib.hid (own_keep H4.out k5)
  clear h5 k5
  go_wp2_with fail
  refine (SM.out _ _ _ _ _ H45.out H5.out).mono ?_
  rintro e w6 ⟨rfl, k6⟩
  have K6 := Lib.hid (K5.out.trans k6)
  clear k6
  go_wp2_with fail
  refine (B1.out _).mono ?_
  rintro e w7 ⟨rfl, k7⟩
  have K7 := Lib.hid (K6.out.trans k7)
  clear k7
  go_wp2_with fail
  refine (B2.out _).mono ?_
  rintro e w8 ⟨rfl, rfl⟩
  go_wp2_with fail
  refine (T1.out _).mono ?_
  rintro e w8 ⟨rfl, k8⟩
  have K8 := Lib.hid (K7.out.trans k8)
  clear k8
  go_wp2_with fail
  refine (T2.out _).mono ?_
  rintro e w9 ⟨rfl, rfl⟩
  go_wp2_with fail
  go_ret
  exact ⟨rfl, K8.out⟩
theorem tells_any (s : ByteArray) (w : World) (hs : s.size ≤ maxLen) :
    Calls Try.prog 3 #[.string s] w fun e w' => e = .returned (.bool true) ∧ Keeps w w' := by
  by_cases h : s.size ≤ 3000
  · exact tells_short s w h
  · exact tells_long s w hs (by omega)
end Go.Proofs.Ytbnoiakhpmgeaaa
