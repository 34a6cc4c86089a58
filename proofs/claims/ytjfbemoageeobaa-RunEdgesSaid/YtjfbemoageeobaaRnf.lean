/-
  RunEdges is true of any text and place.
-/
import Derived.Test.YtjfbemoageeobaaRnd
namespace Go.Proofs.Ytjfbemoageeobaa
open Go.RowKit Go.Lib

set_option maxHeartbeats 2000000 in
set_option maxRecDepth 100000 in
theorem redges_any (s : ByteArray) (k : Int) (w : World) (hs : s.size ≤ maxLen) :
    Calls Try.prog 4 #[.string s, .int .i64 k] w fun e w' => e = .returned (.bool true) ∧ Keeps w w' := by
  have AW := Lib.hid (awake13_any w)
  unfold maxLen at hs
  by_cases c : 1000 < s.size
  · go_enter Try.func4, Try.ntmps4
    go_wp2_with fail
    refine AW.out.mono ?_
    rintro e w1 ⟨rfl, k1⟩
    go_wp2_with fail
    go_ret
    exact ⟨rfl, k1⟩
  · have B := Lib.hid (fun W => before_any s k W (by omega))
    have B' := Lib.hid (fun W => rbefore_any s k W (by omega))
    have A := Lib.hid (fun W => after_any s k W (by omega))
    have A' := Lib.hid (fun W => rafter_any s k W (by omega))
    have B0 := Lib.hid (fun W => before_any s 0 W (by omega))
    have A0 := Lib.hid (fun W => after_any s (s.size : Nat) W (by omega))
    rw [bef_zero] at B0
    have e0 : aftL s.data.toList (s.size : Nat) = 0 := by rw [← bytes_len]; exact aft_end _
    rw [e0] at A0
    clear e0
    generalize befL s.data.toList k = x at *
    generalize aftL s.data.toList k = y at *
    go_enter Try.func4, Try.ntmps4
    go_wp2_with fail
    refine AW.out.mono ?_
    rintro e w1 ⟨rfl, k1⟩
    go_wp2_with fail
    refine (B.out _).mono ?_
    rintro e w2 ⟨rfl, k2⟩
    go_wp2_with fail
    refine (B'.out _).mono ?_
    rintro e w3 ⟨rfl, k3⟩
    go_wp2_with fail
    refine (A.out _).mono ?_
    rintro e w4 ⟨rfl, k4⟩
    go_wp2_with fail
    refine (A'.out _).mono ?_
    rintro e w5 ⟨rfl, k5⟩
    go_wp2_with fail
    refine (B0.out _).mono ?_
    rintro e w6 ⟨rfl, k6⟩
    go_wp2_with fail
    refine (A0.out _).mono ?_
    rintro e w7 ⟨rfl, k7⟩
    go_wp2_with fail
    go_ret
    exact ⟨rfl, (((((k1.trans k2).trans k3).trans k4).trans k5).trans k6).trans k7⟩
end Go.Proofs.Ytjfbemoageeobaa
