/-
  awake, of the statements of layer 1, returns true in every world that holds strconv's table.
-/
import Derived.Test.YtfpfjaedoafnpaaDoorFixd
import Derived.Test.YtfpfjaedoafnpaaDoorFixf
namespace Go.Proofs.YtfpfjaedoafnpaaDoor
open Go.RowKit Go.Shelf Go.Lib

theorem aw_scale : scl 7 (-3) 2 = -11 ∧ sclE 7 (-3) 2 = 0 := by decide +kernel
theorem aw_parse : parseN [45, 49, 50, 46, 51, 52, 120] = -12340 ∧ parseK [45, 49, 50, 46, 51, 52, 120] = 6 := by decide +kernel
theorem aw_bad : bad 1 1 = 100 ∧ dem 0 0 = 100 := by decide +kernel
theorem dd12 : Lib.decDigits 12 = [49, 50] := by rw [dd_big (by omega), dd_small (by omega)]; rfl
theorem dd1500 : Lib.decDigits 1500 = [49, 53, 48, 48] := by rw [dd_big (by omega), dd_big (by omega), dd_big (by omega), dd_small (by omega)]; rfl
theorem dd0 : Lib.decDigits 0 = [48] := by rw [dd_small (by omega)]; rfl
theorem dd1005 : Lib.decDigits 1005 = [49, 48, 48, 53] := by rw [dd_big (by omega), dd_big (by omega), dd_big (by omega), dd_small (by omega)]; rfl
theorem aw_print1 : printT 12500 = [49, 50, 46, 53] := by
  show [] ++ printD 12500 = _
  unfold printD
  rw [show 12500 / 1000 = 12 from rfl, show 1000 + 12500 % 1000 = 1500 from rfl, dd12, dd1500]
  decide +kernel
theorem aw_print2 : printT (-5) = [45, 48, 46, 48, 48, 53] := by
  show [45] ++ printD 5 = _
  unfold printD
  rw [show 5 / 1000 = 0 from rfl, show 1000 + 5 % 1000 = 1005 from rfl, dd0, dd1005]
  decide +kernel

set_option maxHeartbeats 400000 in
theorem awake_any (w : World) (ht : Tab w) : Calls Tryd.prog 7 #[] w fun e w' => e = .returned (.bool true) ∧ Keeps w w' := by
  have S := Lib.hid (fun W => scale_any 7 (-3) 2 W)
  rw [aw_scale.1, aw_scale.2] at S
  have A := Lib.hid (fun W => add_no 4611686018427387904 1 W (by decide +kernel) (by omega) (by omega) (by omega) (by omega))
  have P := Lib.hid (fun W => parse_any ⟨#[45, 49, 50, 46, 51, 52, 120]⟩ W (by decide +kernel))
  rw [aw_parse.1, aw_parse.2] at P
  have P1 := Lib.hid (fun W t => print_any 12500 W (by omega) (by omega) t)
  have P2 := Lib.hid (fun W t => print_any (-5) W (by omega) (by omega) t)
  rw [aw_print1] at P1
  rw [aw_print2] at P2
  have B := Lib.hid (fun W => badness_any 1 1 W (by omega) (by omega) (by omega))
  have D := Lib.hid (fun W => demerits_any 0 0 W)
  rw [aw_bad.1] at B
  rw [aw_bad.2] at D
  go_enter Tryd.func7, Tryd.ntmps7
  go_wp2_with fail
  refine (S.out _).mono ?_
  rintro e w1 ⟨rfl, k1⟩
  go_wp2_with fail
  refine (A.out _).mono ?_
  rintro e w2 ⟨rfl, rfl⟩
  go_wp2_with fail
  refine (P.out _).mono ?_
  rintro e w3 ⟨rfl, rfl⟩
  have t1 := ht.keep k1
  go_wp2_with fail
  refine (P1.out _ t1).mono ?_
  rintro e w4 ⟨rfl, k2⟩
  have t2 := t1.keep k2
  go_wp2_with fail
  refine (P2.out _ t2).mono ?_
  rintro e w5 ⟨rfl, k3⟩
  go_wp2_with fail
  refine (B.out _).mono ?_
  rintro e w6 ⟨rfl, k4⟩
  go_wp2_with fail
  refine (D.out _).mono ?_
  rintro e w7 ⟨rfl, rfl⟩
  go_wp2_with fail
  go_ret
  exact ⟨rfl, ((k1.trans k2).trans k3).trans k4⟩
end Go.Proofs.YtfpfjaedoafnpaaDoor
