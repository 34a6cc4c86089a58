/-
  RawOwn, walked. (Written by wip/tools/rowngen.py.)
-/
import Derived.Test.YtggeknhggpdpkaaDoorRwj
import Derived.Test.YtggeknhggpdpkaaDoorRwp
namespace Go.Proofs.YtggeknhggpdpkaaDoor
open Go.RowKit Go.Lib

set_option maxRecDepth 100000 in
set_option maxHeartbeats 1000000 in
theorem rown_idle (s b : ByteArray) (w : World) (hs : s.size ≤ maxLen) (hb : b.size ≤ maxLen) (hm : Mxl w) (h : 500 < s.size ∨ 500 < b.size) :
    Calls Tryd.prog 3 #[.string s, .string b] w fun e w' => e = .returned (.bool true) ∧ Keeps w w' := by
  have AW := Lib.hid (awake11_any w hm)
  unfold maxLen at hs hb
  clear hm
  by_cases c : 500 < s.size
  · have q : decide ((500 : Int) < (s.size : Int)) = true := decide_eq_true (by omega)
    clear h c
    go_enter Tryd.func3, Tryd.ntmps3
    go_wp2_with fail
    refine AW.out.mono ?_
    rintro e w1 ⟨rfl, k1⟩
    go_wp2_with fail
    go_ret
    exact ⟨rfl, k1⟩
  · have q : decide ((500 : Int) < (s.size : Int)) = false := decide_eq_false (by omega)
    have q2 : decide ((500 : Int) < (b.size : Int)) = true := decide_eq_true (by omega)
    clear h c
    go_enter Tryd.func3, Tryd.ntmps3
    go_wp2_with fail
    refine AW.out.mono ?_
    rintro e w1 ⟨rfl, k1⟩
    go_wp2_with fail
    go_ret
    exact ⟨rfl, k1⟩
theorem autV_gen (l : List UInt8) : ∃ x y : ByteArray, AutV l = .tuple #[.string x, .string y, .int .i64 (autN l : Nat)] := ⟨_, _, rfl⟩
theorem rbyte_of {s : ByteArray} {k : Nat} {c : UInt8} (h : s.data.toList[k]? = some c) : ∃ hk : k < s.size, s[k] = c := by
  obtain ⟨h1, h2⟩ := List.getElem?_eq_some_iff.1 h
  exact ⟨by rwa [bytes_len] at h1, h2⟩
set_option maxRecDepth 100000 in
set_option maxHeartbeats 2000000 in
theorem rown_000 (s b : ByteArray) (w : World) (hs : s.size ≤ 500) (hb : b.size ≤ 500) (hm : Mxl w) (c1 : htmN s.data.toList = 0) (c2 : tagN s.data.toList = 0) (c3 : autN s.data.toList = 0) :
    Calls Tryd.prog 3 #[.string s, .string b] w fun e w' => e = .returned (.bool true) ∧ Keeps w w' := by
  have HM := Lib.hid hm
  have H0 := Lib.hid (fun W hW => rhtml_any s W (by omega) hW)
  have T0 := Lib.hid (fun W hW => tag_any s W (by omega) hW)
  have A0 := Lib.hid (fun W hW => auto_any s W (by omega) hW)
  have A1 := Lib.hid (fun W hW => auto_any (s ++ b) W (by rw [ByteArray.size_append]; omega) hW)
  have AW := Lib.hid (fun W hW => awake11_any W hW)
  have q1 : decide ((500 : Int) < (s.size : Int)) = false := decide_eq_false (by omega)
  have q2 : decide ((500 : Int) < (b.size : Int)) = false := decide_eq_false (by omega)
  obtain ⟨x0, y0, e0⟩ := autV_gen s.data.toList
  obtain ⟨x1, y1, e1⟩ := autV_gen (s ++ b).data.toList
  rw [e0] at A0
  rw [e1] at A1
  rw [bytes_app] at A1
  have hl := bytes_len s
  clear e0 e1 hm
  generalize autN (s.data.toList ++ b.data.toList) = bb at *
  rw [c1] at H0
  rw [c2] at T0
  rw [c3] at A0
  have hXz : (s ++ b).size ≤ 1000 := by rw [ByteArray.size_append]; omega
  obtain ⟨X, hX⟩ : ∃ X, s ++ b = X := ⟨_, rfl⟩
  rw [hX] at A1 hXz
  clear c1 c3 hl c2
  go_enter Tryd.func3, Tryd.ntmps3
  go_wp2_with fail
  refine (H0.out _ HM.out).mono ?_
  rintro e w9 ⟨rfl, rfl⟩
  go_wp2_with fail
  refine (T0.out _ HM.out).mono ?_
  rintro e w9 ⟨rfl, rfl⟩
  go_wp2_with fail
  refine (A0.out _ HM.out).mono ?_
  rintro e w1 ⟨rfl, k1⟩
  have K1 := Lib.hid k1
  have M1 := Lib.hid (Mxl.keep HM.out k1)
  clear k1
  go_wp2_with fail
  simp only [List.append] at *
  refine (A1.out _ M1.out).mono ?_
  rintro e w2 ⟨rfl, k2⟩
  have K2 := Lib.hid (K1.out.trans k2)
  have M2 := Lib.hid (Mxl.keep M1.out k2)
  clear k2
  go_wp2_with fail
  refine (AW.out _ M2.out).mono ?_
  rintro e w3 ⟨rfl, k3⟩
  have K3 := Lib.hid (K2.out.trans k3)
  have M3 := Lib.hid (Mxl.keep M2.out k3)
  clear k3
  go_wp2_with fail
  go_ret
  exact ⟨ret_bool (by simp), K3.out⟩
set_option maxRecDepth 100000 in
set_option maxHeartbeats 2000000 in
theorem rown_001 (s b : ByteArray) (w : World) (hs : s.size ≤ 500) (hb : b.size ≤ 500) (hm : Mxl w) (c1 : htmN s.data.toList = 0) (c2 : tagN s.data.toList = 0) (c3 : autN s.data.toList ≠ 0) :
    Calls Tryd.prog 3 #[.string s, .string b] w fun e w' => e = .returned (.bool true) ∧ Keeps w w' := by
  have HM := Lib.hid hm
  have H0 := Lib.hid (fun W hW => rhtml_any s W (by omega) hW)
  have T0 := Lib.hid (fun W hW => tag_any s W (by omega) hW)
  have A0 := Lib.hid (fun W hW => auto_any s W (by omega) hW)
  have A1 := Lib.hid (fun W hW => auto_any (s ++ b) W (by rw [ByteArray.size_append]; omega) hW)
  have AW := Lib.hid (fun W hW => awake11_any W hW)
  have q1 : decide ((500 : Int) < (s.size : Int)) = false := decide_eq_false (by omega)
  have q2 : decide ((500 : Int) < (b.size : Int)) = false := decide_eq_false (by omega)
  obtain ⟨x0, y0, e0⟩ := autV_gen s.data.toList
  obtain ⟨x1, y1, e1⟩ := autV_gen (s ++ b).data.toList
  rw [e0] at A0
  rw [e1] at A1
  rw [bytes_app] at A1
  have hl := bytes_len s
  clear e0 e1 hm
  obtain ⟨aend, ale⟩ := aut_ends c3
  rw [hl] at ale
  rw [aut_own b.data.toList c3] at A1
  rw [c1] at H0
  rw [c2] at T0
  generalize autN s.data.toList = a at *
  have ap := beqF (show ¬ (a : Int) = 0 by omega)
  have aee := beqT (show (a : Int) = (a : Int) from rfl)
  obtain ⟨v, hv⟩ : ∃ v : Nat, a = v + 1 := ⟨a - 1, by omega⟩
  have hv1 : (a : Int) - 1 = (v : Int) := by omega
  rw [hv, Nat.add_sub_cancel] at aend
  obtain ⟨zv, fv⟩ := rbyte_of aend
  have pv : ((s[v].toNat : Int) == 62) = true := by rw [fv]; rfl
  clear aend fv hv
  have hXz : (s ++ b).size ≤ 1000 := by rw [ByteArray.size_append]; omega
  obtain ⟨X, hX⟩ : ∃ X, s ++ b = X := ⟨_, rfl⟩
  rw [hX] at A1 hXz
  clear c1 c3 hl c2
  go_enter Tryd.func3, Tryd.ntmps3
  go_wp2_with fail
  refine (H0.out _ HM.out).mono ?_
  rintro e w9 ⟨rfl, rfl⟩
  go_wp2_with fail
  refine (T0.out _ HM.out).mono ?_
  rintro e w9 ⟨rfl, rfl⟩
  go_wp2_with fail
  refine (A0.out _ HM.out).mono ?_
  rintro e w1 ⟨rfl, k1⟩
  have K1 := Lib.hid k1
  have M1 := Lib.hid (Mxl.keep HM.out k1)
  clear k1
  go_wp2_with fail
  simp only [List.append] at *
  refine (A1.out _ M1.out).mono ?_
  rintro e w2 ⟨rfl, k2⟩
  have K2 := Lib.hid (K1.out.trans k2)
  have M2 := Lib.hid (Mxl.keep M1.out k2)
  clear k2
  go_wp2_with fail
  refine (AW.out _ M2.out).mono ?_
  rintro e w3 ⟨rfl, k3⟩
  have K3 := Lib.hid (K2.out.trans k3)
  have M3 := Lib.hid (Mxl.keep M2.out k3)
  clear k3
  go_wp2_with fail
  go_ret
  exact ⟨ret_bool (by simp), K3.out⟩
set_option maxRecDepth 100000 in
set_option maxHeartbeats 2000000 in
theorem rown_100 (s b : ByteArray) (w : World) (hs : s.size ≤ 500) (hb : b.size ≤ 500) (hm : Mxl w) (c1 : htmN s.data.toList ≠ 0) (c2 : tagN s.data.toList = 0) (c3 : autN s.data.toList = 0) :
    Calls Tryd.prog 3 #[.string s, .string b] w fun e w' => e = .returned (.bool true) ∧ Keeps w w' := by
  have HM := Lib.hid hm
  have H0 := Lib.hid (fun W hW => rhtml_any s W (by omega) hW)
  have T0 := Lib.hid (fun W hW => tag_any s W (by omega) hW)
  have A0 := Lib.hid (fun W hW => auto_any s W (by omega) hW)
  have A1 := Lib.hid (fun W hW => auto_any (s ++ b) W (by rw [ByteArray.size_append]; omega) hW)
  have AW := Lib.hid (fun W hW => awake11_any W hW)
  have q1 : decide ((500 : Int) < (s.size : Int)) = false := decide_eq_false (by omega)
  have q2 : decide ((500 : Int) < (b.size : Int)) = false := decide_eq_false (by omega)
  obtain ⟨x0, y0, e0⟩ := autV_gen s.data.toList
  obtain ⟨x1, y1, e1⟩ := autV_gen (s ++ b).data.toList
  rw [e0] at A0
  rw [e1] at A1
  rw [bytes_app] at A1
  have hl := bytes_len s
  clear e0 e1 hm
  have hle := htmN_le s.data.toList
  rw [hl] at hle
  have hown := htm_own s.data.toList b.data.toList c1
  generalize autN (s.data.toList ++ b.data.toList) = bb at *
  have Y1 := Lib.hid (fun W hW => rhtml_any (s.extract 0 (htmN s.data.toList) ++ b) W (by rw [ByteArray.size_append, ByteArray.size_extract]; omega) hW)
  rw [bytes_app, ext_take, hown] at Y1
  rw [← ext_take] at Y1
  clear hown
  generalize htmN s.data.toList = h at *
  have hp := beqF (show ¬ (h : Int) = 0 by omega)
  have h0 : decide ((0 : Int) ≤ (h : Int)) = true := decide_eq_true (by omega)
  have h1 : decide ((h : Int) ≤ (s.size : Int)) = true := decide_eq_true (by omega)
  obtain ⟨Y, hY⟩ : ∃ Y, s.extract 0 h ++ b = Y := ⟨_, rfl⟩
  have hYz : Y.size ≤ 1000 := by rw [← hY, ByteArray.size_append, ByteArray.size_extract]; omega
  rw [hY] at Y1
  have hee := beqT (show (h : Int) = (h : Int) from rfl)
  rw [c2] at T0
  rw [c3] at A0
  have hXz : (s ++ b).size ≤ 1000 := by rw [ByteArray.size_append]; omega
  obtain ⟨X, hX⟩ : ∃ X, s ++ b = X := ⟨_, rfl⟩
  rw [hX] at A1 hXz
  clear c1 c3 hl c2
  go_enter Tryd.func3, Tryd.ntmps3
  go_wp2_with fail
  refine (H0.out _ HM.out).mono ?_
  rintro e w9 ⟨rfl, rfl⟩
  go_wp2_with fail
  refine (T0.out _ HM.out).mono ?_
  rintro e w9 ⟨rfl, rfl⟩
  go_wp2_with fail
  refine (A0.out _ HM.out).mono ?_
  rintro e w1 ⟨rfl, k1⟩
  have K1 := Lib.hid k1
  have M1 := Lib.hid (Mxl.keep HM.out k1)
  clear k1
  go_wp2_with fail
  simp only [List.append] at *
  refine (A1.out _ M1.out).mono ?_
  rintro e w2 ⟨rfl, k2⟩
  have K2 := Lib.hid (K1.out.trans k2)
  have M2 := Lib.hid (Mxl.keep M1.out k2)
  clear k2
  go_wp2_with fail
  refine (AW.out _ M2.out).mono ?_
  rintro e w3 ⟨rfl, k3⟩
  have K3 := Lib.hid (K2.out.trans k3)
  have M3 := Lib.hid (Mxl.keep M2.out k3)
  clear k3
  go_wp2_with fail
  refine (Y1.out _ M3.out).mono ?_
  rintro e w9 ⟨rfl, rfl⟩
  go_wp2_with fail
  go_ret
  exact ⟨ret_bool (by simp), K3.out⟩
set_option maxRecDepth 100000 in
set_option maxHeartbeats 2000000 in
theorem rown_101 (s b : ByteArray) (w : World) (hs : s.size ≤ 500) (hb : b.size ≤ 500) (hm : Mxl w) (c1 : htmN s.data.toList ≠ 0) (c2 : tagN s.data.toList = 0) (c3 : autN s.data.toList ≠ 0) :
    Calls Tryd.prog 3 #[.string s, .string b] w fun e w' => e = .returned (.bool true) ∧ Keeps w w' := by
  have HM := Lib.hid hm
  have H0 := Lib.hid (fun W hW => rhtml_any s W (by omega) hW)
  have T0 := Lib.hid (fun W hW => tag_any s W (by omega) hW)
  have A0 := Lib.hid (fun W hW => auto_any s W (by omega) hW)
  have A1 := Lib.hid (fun W hW => auto_any (s ++ b) W (by rw [ByteArray.size_append]; omega) hW)
  have AW := Lib.hid (fun W hW => awake11_any W hW)
  have q1 : decide ((500 : Int) < (s.size : Int)) = false := decide_eq_false (by omega)
  have q2 : decide ((500 : Int) < (b.size : Int)) = false := decide_eq_false (by omega)
  obtain ⟨x0, y0, e0⟩ := autV_gen s.data.toList
  obtain ⟨x1, y1, e1⟩ := autV_gen (s ++ b).data.toList
  rw [e0] at A0
  rw [e1] at A1
  rw [bytes_app] at A1
  have hl := bytes_len s
  clear e0 e1 hm
  have hle := htmN_le s.data.toList
  rw [hl] at hle
  have hown := htm_own s.data.toList b.data.toList c1
  obtain ⟨aend, ale⟩ := aut_ends c3
  rw [hl] at ale
  rw [aut_own b.data.toList c3] at A1
  have Y1 := Lib.hid (fun W hW => rhtml_any (s.extract 0 (htmN s.data.toList) ++ b) W (by rw [ByteArray.size_append, ByteArray.size_extract]; omega) hW)
  rw [bytes_app, ext_take, hown] at Y1
  rw [← ext_take] at Y1
  clear hown
  generalize htmN s.data.toList = h at *
  have hp := beqF (show ¬ (h : Int) = 0 by omega)
  have h0 : decide ((0 : Int) ≤ (h : Int)) = true := decide_eq_true (by omega)
  have h1 : decide ((h : Int) ≤ (s.size : Int)) = true := decide_eq_true (by omega)
  obtain ⟨Y, hY⟩ : ∃ Y, s.extract 0 h ++ b = Y := ⟨_, rfl⟩
  have hYz : Y.size ≤ 1000 := by rw [← hY, ByteArray.size_append, ByteArray.size_extract]; omega
  rw [hY] at Y1
  have hee := beqT (show (h : Int) = (h : Int) from rfl)
  rw [c2] at T0
  generalize autN s.data.toList = a at *
  have ap := beqF (show ¬ (a : Int) = 0 by omega)
  have aee := beqT (show (a : Int) = (a : Int) from rfl)
  obtain ⟨v, hv⟩ : ∃ v : Nat, a = v + 1 := ⟨a - 1, by omega⟩
  have hv1 : (a : Int) - 1 = (v : Int) := by omega
  rw [hv, Nat.add_sub_cancel] at aend
  obtain ⟨zv, fv⟩ := rbyte_of aend
  have pv : ((s[v].toNat : Int) == 62) = true := by rw [fv]; rfl
  clear aend fv hv
  have hXz : (s ++ b).size ≤ 1000 := by rw [ByteArray.size_append]; omega
  obtain ⟨X, hX⟩ : ∃ X, s ++ b = X := ⟨_, rfl⟩
  rw [hX] at A1 hXz
  clear c1 c3 hl c2
  go_enter Tryd.func3, Tryd.ntmps3
  go_wp2_with fail
  refine (H0.out _ HM.out).mono ?_
  rintro e w9 ⟨rfl, rfl⟩
  go_wp2_with fail
  refine (T0.out _ HM.out).mono ?_
  rintro e w9 ⟨rfl, rfl⟩
  go_wp2_with fail
  refine (A0.out _ HM.out).mono ?_
  rintro e w1 ⟨rfl, k1⟩
  have K1 := Lib.hid k1
  have M1 := Lib.hid (Mxl.keep HM.out k1)
  clear k1
  go_wp2_with fail
  simp only [List.append] at *
  refine (A1.out _ M1.out).mono ?_
  rintro e w2 ⟨rfl, k2⟩
  have K2 := Lib.hid (K1.out.trans k2)
  have M2 := Lib.hid (Mxl.keep M1.out k2)
  clear k2
  go_wp2_with fail
  refine (AW.out _ M2.out).mono ?_
  rintro e w3 ⟨rfl, k3⟩
  have K3 := Lib.hid (K2.out.trans k3)
  have M3 := Lib.hid (Mxl.keep M2.out k3)
  clear k3
  go_wp2_with fail
  refine (Y1.out _ M3.out).mono ?_
  rintro e w9 ⟨rfl, rfl⟩
  go_wp2_with fail
  go_ret
  exact ⟨ret_bool (by simp), K3.out⟩
set_option maxRecDepth 100000 in
set_option maxHeartbeats 2000000 in
theorem rown_110 (s b : ByteArray) (w : World) (hs : s.size ≤ 500) (hb : b.size ≤ 500) (hm : Mxl w) (c1 : htmN s.data.toList ≠ 0) (c2 : tagN s.data.toList ≠ 0) (c3 : autN s.data.toList = 0) :
    Calls Tryd.prog 3 #[.string s, .string b] w fun e w' => e = .returned (.bool true) ∧ Keeps w w' := by
  have HM := Lib.hid hm
  have H0 := Lib.hid (fun W hW => rhtml_any s W (by omega) hW)
  have T0 := Lib.hid (fun W hW => tag_any s W (by omega) hW)
  have A0 := Lib.hid (fun W hW => auto_any s W (by omega) hW)
  have A1 := Lib.hid (fun W hW => auto_any (s ++ b) W (by rw [ByteArray.size_append]; omega) hW)
  have AW := Lib.hid (fun W hW => awake11_any W hW)
  have q1 : decide ((500 : Int) < (s.size : Int)) = false := decide_eq_false (by omega)
  have q2 : decide ((500 : Int) < (b.size : Int)) = false := decide_eq_false (by omega)
  obtain ⟨x0, y0, e0⟩ := autV_gen s.data.toList
  obtain ⟨x1, y1, e1⟩ := autV_gen (s ++ b).data.toList
  rw [e0] at A0
  rw [e1] at A1
  rw [bytes_app] at A1
  have hl := bytes_len s
  clear e0 e1 hm
  have hle := htmN_le s.data.toList
  rw [hl] at hle
  have hown := htm_own s.data.toList b.data.toList c1
  have ht := htm_tag c2
  have town := tag_own s.data.toList b.data.toList c2
  have tend := tag_ends c2
  obtain ⟨r, hr⟩ := tag_first c2
  obtain ⟨z0, f0⟩ := rbyte_of (s := s) (k := 0) (c := 60) (by rw [hr]; rfl)
  clear hr
  rw [← ht] at T0 town tend
  generalize autN (s.data.toList ++ b.data.toList) = bb at *
  have Y1 := Lib.hid (fun W hW => rhtml_any (s.extract 0 (htmN s.data.toList) ++ b) W (by rw [ByteArray.size_append, ByteArray.size_extract]; omega) hW)
  rw [bytes_app, ext_take, hown] at Y1
  have Y2 := Lib.hid (fun W hW => tag_any (s.extract 0 (htmN s.data.toList) ++ b) W (by rw [ByteArray.size_append, ByteArray.size_extract]; omega) hW)
  rw [bytes_app, ext_take, town] at Y2
  rw [← ext_take] at Y1 Y2
  clear hown town ht c2
  generalize htmN s.data.toList = h at *
  have hp := beqF (show ¬ (h : Int) = 0 by omega)
  have h0 : decide ((0 : Int) ≤ (h : Int)) = true := decide_eq_true (by omega)
  have h1 : decide ((h : Int) ≤ (s.size : Int)) = true := decide_eq_true (by omega)
  obtain ⟨Y, hY⟩ : ∃ Y, s.extract 0 h ++ b = Y := ⟨_, rfl⟩
  have hYz : Y.size ≤ 1000 := by rw [← hY, ByteArray.size_append, ByteArray.size_extract]; omega
  rw [hY] at Y1 Y2
  have hee := beqT (show (h : Int) = (h : Int) from rfl)
  obtain ⟨u, hu⟩ : ∃ u : Nat, h = u + 1 := ⟨h - 1, by omega⟩
  have hu1 : (h : Int) - 1 = (u : Int) := by omega
  rw [hu, Nat.add_sub_cancel] at tend
  obtain ⟨zu, fu⟩ := rbyte_of tend
  have p0 : ((s[0].toNat : Int) == 60) = true := by rw [f0]; rfl
  have pu : ((s[u].toNat : Int) == 62) = true := by rw [fu]; rfl
  clear tend f0 fu hu
  rw [c3] at A0
  have hXz : (s ++ b).size ≤ 1000 := by rw [ByteArray.size_append]; omega
  obtain ⟨X, hX⟩ : ∃ X, s ++ b = X := ⟨_, rfl⟩
  rw [hX] at A1 hXz
  clear c1 c3 hl
  go_enter Tryd.func3, Tryd.ntmps3
  go_wp2_with fail
  refine (H0.out _ HM.out).mono ?_
  rintro e w9 ⟨rfl, rfl⟩
  go_wp2_with fail
  refine (T0.out _ HM.out).mono ?_
  rintro e w9 ⟨rfl, rfl⟩
  go_wp2_with fail
  refine (A0.out _ HM.out).mono ?_
  rintro e w1 ⟨rfl, k1⟩
  have K1 := Lib.hid k1
  have M1 := Lib.hid (Mxl.keep HM.out k1)
  clear k1
  go_wp2_with fail
  simp only [List.append] at *
  refine (A1.out _ M1.out).mono ?_
  rintro e w2 ⟨rfl, k2⟩
  have K2 := Lib.hid (K1.out.trans k2)
  have M2 := Lib.hid (Mxl.keep M1.out k2)
  clear k2
  go_wp2_with fail
  refine (AW.out _ M2.out).mono ?_
  rintro e w3 ⟨rfl, k3⟩
  have K3 := Lib.hid (K2.out.trans k3)
  have M3 := Lib.hid (Mxl.keep M2.out k3)
  clear k3
  go_wp2_with fail
  refine (Y1.out _ M3.out).mono ?_
  rintro e w9 ⟨rfl, rfl⟩
  go_wp2_with fail
  refine (H0.out _ M3.out).mono ?_
  rintro e w9 ⟨rfl, rfl⟩
  go_wp2_with fail
  refine (Y2.out _ M3.out).mono ?_
  rintro e w9 ⟨rfl, rfl⟩
  go_wp2_with fail
  go_ret
  exact ⟨ret_bool (by simp), K3.out⟩
set_option maxRecDepth 100000 in
set_option maxHeartbeats 2000000 in
theorem rown_111 (s b : ByteArray) (w : World) (hs : s.size ≤ 500) (hb : b.size ≤ 500) (hm : Mxl w) (c1 : htmN s.data.toList ≠ 0) (c2 : tagN s.data.toList ≠ 0) (c3 : autN s.data.toList ≠ 0) :
    Calls Tryd.prog 3 #[.string s, .string b] w fun e w' => e = .returned (.bool true) ∧ Keeps w w' := by
  have HM := Lib.hid hm
  have H0 := Lib.hid (fun W hW => rhtml_any s W (by omega) hW)
  have T0 := Lib.hid (fun W hW => tag_any s W (by omega) hW)
  have A0 := Lib.hid (fun W hW => auto_any s W (by omega) hW)
  have A1 := Lib.hid (fun W hW => auto_any (s ++ b) W (by rw [ByteArray.size_append]; omega) hW)
  have AW := Lib.hid (fun W hW => awake11_any W hW)
  have q1 : decide ((500 : Int) < (s.size : Int)) = false := decide_eq_false (by omega)
  have q2 : decide ((500 : Int) < (b.size : Int)) = false := decide_eq_false (by omega)
  obtain ⟨x0, y0, e0⟩ := autV_gen s.data.toList
  obtain ⟨x1, y1, e1⟩ := autV_gen (s ++ b).data.toList
  rw [e0] at A0
  rw [e1] at A1
  rw [bytes_app] at A1
  have hl := bytes_len s
  clear e0 e1 hm
  have hle := htmN_le s.data.toList
  rw [hl] at hle
  have hown := htm_own s.data.toList b.data.toList c1
  have ht := htm_tag c2
  have town := tag_own s.data.toList b.data.toList c2
  have tend := tag_ends c2
  obtain ⟨r, hr⟩ := tag_first c2
  obtain ⟨z0, f0⟩ := rbyte_of (s := s) (k := 0) (c := 60) (by rw [hr]; rfl)
  clear hr
  rw [← ht] at T0 town tend
  obtain ⟨aend, ale⟩ := aut_ends c3
  rw [hl] at ale
  rw [aut_own b.data.toList c3] at A1
  have Y1 := Lib.hid (fun W hW => rhtml_any (s.extract 0 (htmN s.data.toList) ++ b) W (by rw [ByteArray.size_append, ByteArray.size_extract]; omega) hW)
  rw [bytes_app, ext_take, hown] at Y1
  have Y2 := Lib.hid (fun W hW => tag_any (s.extract 0 (htmN s.data.toList) ++ b) W (by rw [ByteArray.size_append, ByteArray.size_extract]; omega) hW)
  rw [bytes_app, ext_take, town] at Y2
  rw [← ext_take] at Y1 Y2
  clear hown town ht c2
  generalize htmN s.data.toList = h at *
  have hp := beqF (show ¬ (h : Int) = 0 by omega)
  have h0 : decide ((0 : Int) ≤ (h : Int)) = true := decide_eq_true (by omega)
  have h1 : decide ((h : Int) ≤ (s.size : Int)) = true := decide_eq_true (by omega)
  obtain ⟨Y, hY⟩ : ∃ Y, s.extract 0 h ++ b = Y := ⟨_, rfl⟩
  have hYz : Y.size ≤ 1000 := by rw [← hY, ByteArray.size_append, ByteArray.size_extract]; omega
  rw [hY] at Y1 Y2
  have hee := beqT (show (h : Int) = (h : Int) from rfl)
  obtain ⟨u, hu⟩ : ∃ u : Nat, h = u + 1 := ⟨h - 1, by omega⟩
  have hu1 : (h : Int) - 1 = (u : Int) := by omega
  rw [hu, Nat.add_sub_cancel] at tend
  obtain ⟨zu, fu⟩ := rbyte_of tend
  have p0 : ((s[0].toNat : Int) == 60) = true := by rw [f0]; rfl
  have pu : ((s[u].toNat : Int) == 62) = true := by rw [fu]; rfl
  clear tend f0 fu hu
  generalize autN s.data.toList = a at *
  have ap := beqF (show ¬ (a : Int) = 0 by omega)
  have aee := beqT (show (a : Int) = (a : Int) from rfl)
  obtain ⟨v, hv⟩ : ∃ v : Nat, a = v + 1 := ⟨a - 1, by omega⟩
  have hv1 : (a : Int) - 1 = (v : Int) := by omega
  rw [hv, Nat.add_sub_cancel] at aend
  obtain ⟨zv, fv⟩ := rbyte_of aend
  have pv : ((s[v].toNat : Int) == 62) = true := by rw [fv]; rfl
  clear aend fv hv
  have hXz : (s ++ b).size ≤ 1000 := by rw [ByteArray.size_append]; omega
  obtain ⟨X, hX⟩ : ∃ X, s ++ b = X := ⟨_, rfl⟩
  rw [hX] at A1 hXz
  clear c1 c3 hl
  go_enter Tryd.func3, Tryd.ntmps3
  go_wp2_with fail
  refine (H0.out _ HM.out).mono ?_
  rintro e w9 ⟨rfl, rfl⟩
  go_wp2_with fail
  refine (T0.out _ HM.out).mono ?_
  rintro e w9 ⟨rfl, rfl⟩
  go_wp2_with fail
  refine (A0.out _ HM.out).mono ?_
  rintro e w1 ⟨rfl, k1⟩
  have K1 := Lib.hid k1
  have M1 := Lib.hid (Mxl.keep HM.out k1)
  clear k1
  go_wp2_with fail
  simp only [List.append] at *
  refine (A1.out _ M1.out).mono ?_
  rintro e w2 ⟨rfl, k2⟩
  have K2 := Lib.hid (K1.out.trans k2)
  have M2 := Lib.hid (Mxl.keep M1.out k2)
  clear k2
  go_wp2_with fail
  refine (AW.out _ M2.out).mono ?_
  rintro e w3 ⟨rfl, k3⟩
  have K3 := Lib.hid (K2.out.trans k3)
  have M3 := Lib.hid (Mxl.keep M2.out k3)
  clear k3
  go_wp2_with fail
  refine (Y1.out _ M3.out).mono ?_
  rintro e w9 ⟨rfl, rfl⟩
  go_wp2_with fail
  refine (H0.out _ M3.out).mono ?_
  rintro e w9 ⟨rfl, rfl⟩
  go_wp2_with fail
  refine (Y2.out _ M3.out).mono ?_
  rintro e w9 ⟨rfl, rfl⟩
  go_wp2_with fail
  go_ret
  exact ⟨ret_bool (by simp), K3.out⟩

theorem rown_any (s b : ByteArray) (w : World) (hs : s.size ≤ maxLen) (hb : b.size ≤ maxLen) (hm : Mxl w) :
    Calls Tryd.prog 3 #[.string s, .string b] w fun e w' => e = .returned (.bool true) ∧ Keeps w w' := by
  by_cases c : 500 < s.size ∨ 500 < b.size
  · exact rown_idle s b w hs hb hm c
  · have h1 : s.size ≤ 500 := by omega
    have h2 : b.size ≤ 500 := by omega
    by_cases c2 : tagN s.data.toList = 0
    · by_cases c1 : htmN s.data.toList = 0
      · by_cases c3 : autN s.data.toList = 0
        · exact rown_000 s b w h1 h2 hm c1 c2 c3
        · exact rown_001 s b w h1 h2 hm c1 c2 c3
      · by_cases c3 : autN s.data.toList = 0
        · exact rown_100 s b w h1 h2 hm c1 c2 c3
        · exact rown_101 s b w h1 h2 hm c1 c2 c3
    · have c1 : htmN s.data.toList ≠ 0 := by rw [htm_tag c2]; exact c2
      by_cases c3 : autN s.data.toList = 0
      · exact rown_110 s b w h1 h2 hm c1 c2 c3
      · exact rown_111 s b w h1 h2 hm c1 c2 c3
end Go.Proofs.YtggeknhggpdpkaaDoor
