/-
  RawTells, walked.
-/
import Derived.Test.YtggeknhggpdpkaaGreatDoorRwj
import Derived.Test.YtggeknhggpdpkaaGreatDoorRxc
import Derived.Test.YtggeknhggpdpkaaGreatDoorRxg
import Derived.Test.YtggeknhggpdpkaaGreatDoorRxh
namespace Go.Proofs.YtggeknhggpdpkaaGreatDoor
open Go.RowKit Go.Lib

theorem autV_open (l : List UInt8) : ∃ (x y : ByteArray) (n : Nat), AutV l = .tuple #[.string x, .string y, .int .i64 (n : Nat)] := ⟨_, _, _, rfl⟩
theorem codV_open (l : List UInt8) : ∃ (x : ByteArray) (n : Nat), CodV l = .tuple #[.string x, .int .i64 (n : Nat)] := ⟨_, _, rfl⟩
theorem escV_open (l : List UInt8) : ∃ (x : ByteArray) (b : Bool), EscV l = .tuple #[.string x, .bool b] := ⟨_, _, rfl⟩
set_option maxRecDepth 100000 in
set_option maxHeartbeats 4000000 in
theorem rtells_any (s : ByteArray) (w : World) (hs : s.size ≤ maxLen) (hm : Mxl w) :
    Calls Tryz.prog 3 #[.string s] w fun e w' => e = .returned (.bool true) ∧ Keeps w w' := by
  have HM := Lib.hid hm
  have AW := Lib.hid (fun W hW => awake11_any W hW)
  unfold maxLen at hs
  clear hm
  by_cases c : 1000 < s.size
  · have q : decide ((1000 : Int) < (s.size : Int)) = true := decide_eq_true (by omega)
    clear c
    go_enter Tryz.func3, Tryz.ntmps3
    go_wp2_with fail
    refine (AW.out _ HM.out).mono ?_
    rintro e w1 ⟨rfl, k1⟩
    go_wp2_with fail
    go_ret
    exact ⟨rfl, k1⟩
  · have q : decide ((1000 : Int) < (s.size : Int)) = false := decide_eq_false (by omega)
    have hz : s.size ≤ 1000 := by omega
    have A1 := Lib.hid (fun W hW => auto_any s W (by omega) hW)
    have A2 := Lib.hid (fun W => dauto_any s W (by omega))
    have C1 := Lib.hid (fun W hW => rcode_any s W (by omega) hW)
    have C2 := Lib.hid (fun W => dcode_any s W (by omega))
    have E1 := Lib.hid (fun W => escaped_any s W (by omega))
    have E2 := Lib.hid (fun W => descaped_any s W (by omega))
    have T1 := Lib.hid (fun W hW => tag_any s W (by omega) hW)
    have T2 := Lib.hid (fun W => dtag_any s W (by omega))
    have H1 := Lib.hid (fun W hW => rhtml_any s W (by omega) hW)
    have H2 := Lib.hid (fun W => dhtml_any s W (by omega))
    obtain ⟨x, y, n, e1⟩ := autV_open s.data.toList
    obtain ⟨u, m, e2⟩ := codV_open s.data.toList
    obtain ⟨v, b, e3⟩ := escV_open s.data.toList
    rw [e1] at A1 A2
    rw [e2] at C1 C2
    rw [e3] at E1 E2
    generalize tagN s.data.toList = tn at *
    generalize htmN s.data.toList = hn at *
    clear e1 e2 e3 c hs
    cases b with
    | true =>
      go_enter Tryz.func3, Tryz.ntmps3
      go_wp2_with fail
      refine (A1.out _ HM.out).mono ?_
      rintro e w1 ⟨rfl, k1⟩
      have M1 := Lib.hid (Mxl.keep HM.out k1)
      have K1 := Lib.hid k1
      clear k1
      go_wp2_with fail
      refine (A2.out _).mono ?_
      rintro e w2 ⟨rfl, k2⟩
      have M2 := Lib.hid (Mxl.keep M1.out k2)
      have K2 := Lib.hid (K1.out.trans k2)
      clear k2
      go_wp2_with fail
      refine (C1.out _ M2.out).mono ?_
      rintro e w3 ⟨rfl, k3⟩
      have M3 := Lib.hid (Mxl.keep M2.out k3)
      have K3 := Lib.hid (K2.out.trans k3)
      clear k3
      go_wp2_with fail
      refine (C2.out _).mono ?_
      rintro e w4 ⟨rfl, k4⟩
      have M4 := Lib.hid (Mxl.keep M3.out k4)
      have K4 := Lib.hid (K3.out.trans k4)
      clear k4
      go_wp2_with fail
      refine (E1.out _).mono ?_
      rintro e w5 ⟨rfl, k5⟩
      have M5 := Lib.hid (Mxl.keep M4.out k5)
      have K5 := Lib.hid (K4.out.trans k5)
      clear k5
      go_wp2_with fail
      refine (E2.out _).mono ?_
      rintro e w6 ⟨rfl, rfl⟩
      go_wp2_with fail
      refine (AW.out _ M5.out).mono ?_
      rintro e w6 ⟨rfl, k6⟩
      have M6 := Lib.hid (Mxl.keep M5.out k6)
      have K6 := Lib.hid (K5.out.trans k6)
      clear k6
      go_wp2_with fail
      refine (T1.out _ M6.out).mono ?_
      rintro e w7 ⟨rfl, rfl⟩
      go_wp2_with fail
      refine (T2.out _).mono ?_
      rintro e w7 ⟨rfl, rfl⟩
      go_wp2_with fail
      refine (H1.out _ M6.out).mono ?_
      rintro e w7 ⟨rfl, rfl⟩
      go_wp2_with fail
      refine (H2.out _).mono ?_
      rintro e w7 ⟨rfl, rfl⟩
      go_wp2_with fail
      go_ret
      exact ⟨ret_bool (by simp), K6.out⟩
    | false =>
      go_enter Tryz.func3, Tryz.ntmps3
      go_wp2_with fail
      refine (A1.out _ HM.out).mono ?_
      rintro e w1 ⟨rfl, k1⟩
      have M1 := Lib.hid (Mxl.keep HM.out k1)
      have K1 := Lib.hid k1
      clear k1
      go_wp2_with fail
      refine (A2.out _).mono ?_
      rintro e w2 ⟨rfl, k2⟩
      have M2 := Lib.hid (Mxl.keep M1.out k2)
      have K2 := Lib.hid (K1.out.trans k2)
      clear k2
      go_wp2_with fail
      refine (C1.out _ M2.out).mono ?_
      rintro e w3 ⟨rfl, k3⟩
      have M3 := Lib.hid (Mxl.keep M2.out k3)
      have K3 := Lib.hid (K2.out.trans k3)
      clear k3
      go_wp2_with fail
      refine (C2.out _).mono ?_
      rintro e w4 ⟨rfl, k4⟩
      have M4 := Lib.hid (Mxl.keep M3.out k4)
      have K4 := Lib.hid (K3.out.trans k4)
      clear k4
      go_wp2_with fail
      refine (E1.out _).mono ?_
      rintro e w5 ⟨rfl, k5⟩
      have M5 := Lib.hid (Mxl.keep M4.out k5)
      have K5 := Lib.hid (K4.out.trans k5)
      clear k5
      go_wp2_with fail
      refine (E2.out _).mono ?_
      rintro e w6 ⟨rfl, rfl⟩
      go_wp2_with fail
      refine (AW.out _ M5.out).mono ?_
      rintro e w6 ⟨rfl, k6⟩
      have M6 := Lib.hid (Mxl.keep M5.out k6)
      have K6 := Lib.hid (K5.out.trans k6)
      clear k6
      go_wp2_with fail
      refine (T1.out _ M6.out).mono ?_
      rintro e w7 ⟨rfl, rfl⟩
      go_wp2_with fail
      refine (T2.out _).mono ?_
      rintro e w7 ⟨rfl, rfl⟩
      go_wp2_with fail
      refine (H1.out _ M6.out).mono ?_
      rintro e w7 ⟨rfl, rfl⟩
      go_wp2_with fail
      refine (H2.out _).mono ?_
      rintro e w7 ⟨rfl, rfl⟩
      go_wp2_with fail
      go_ret
      exact ⟨ret_bool (by simp), K6.out⟩
end Go.Proofs.YtggeknhggpdpkaaGreatDoor
