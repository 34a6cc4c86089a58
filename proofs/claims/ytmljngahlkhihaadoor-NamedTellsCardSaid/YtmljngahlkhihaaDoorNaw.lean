/-
  awake, of the statements of layer 6, returns true in every world that holds the package's table.
-/
import Derived.Test.YtmljngahlkhihaaDoorNmf
namespace Go.Proofs.YtmljngahlkhihaaDoor
open Go.RowKit Go.Lib

theorem aw6_a : refB [38, 99, 111, 112, 121, 59, 120] = [194, 169] ∧ (refL [38, 99, 111, 112, 121, 59, 120]).2 = 6 := by decide +kernel
theorem aw6_b : refB [38, 35, 48, 59] = [239, 191, 189] ∧ (refL [38, 35, 48, 59]).2 = 4 := by decide +kernel
theorem aw6_c : refB [38, 110, 111, 112, 101, 59] = [] ∧ (refL [38, 110, 111, 112, 101, 59]).2 = 0 := by decide +kernel
theorem aw6_d : plainL [97, 92, 42, 98, 38, 97, 109, 112, 59, 92, 99] = [97, 42, 98, 38, 92, 99] := by decide +kernel
theorem aw6_e : signB 42 = true ∧ signB 97 = false := by decide +kernel

set_option maxHeartbeats 800000 in
theorem awake6_any (w : World) (hO : Lis w) : Calls Tryd.prog 7 #[] w fun e w' => e = .returned (.bool true) ∧ Keeps w w' := by
  have A1 := Lib.hid (ref_any ⟨#[38, 99, 111, 112, 121, 59, 120]⟩ w (by decide +kernel) hO)
  have A2 := Lib.hid (ref_any ⟨#[38, 35, 48, 59]⟩ w (by decide +kernel) hO)
  have A3 := Lib.hid (ref_any ⟨#[38, 110, 111, 112, 101, 59]⟩ w (by decide +kernel) hO)
  have A4 := Lib.hid (plain_any ⟨#[97, 92, 42, 98, 38, 97, 109, 112, 59, 92, 99]⟩ w (by decide +kernel) hO)
  have A5 := Lib.hid (fun W => sign_any 42 W)
  have A6 := Lib.hid (fun W => sign_any 97 W)
  rw [show (⟨#[38, 99, 111, 112, 121, 59, 120]⟩ : ByteArray).data.toList = [38, 99, 111, 112, 121, 59, 120] from rfl, aw6_a.1, aw6_a.2] at A1
  rw [show (⟨#[38, 35, 48, 59]⟩ : ByteArray).data.toList = [38, 35, 48, 59] from rfl, aw6_b.1, aw6_b.2] at A2
  rw [show (⟨#[38, 110, 111, 112, 101, 59]⟩ : ByteArray).data.toList = [38, 110, 111, 112, 101, 59] from rfl, aw6_c.1, aw6_c.2] at A3
  rw [show (⟨#[97, 92, 42, 98, 38, 97, 109, 112, 59, 92, 99]⟩ : ByteArray).data.toList = [97, 92, 42, 98, 38, 97, 109, 112, 59, 92, 99] from rfl, aw6_d] at A4
  rw [aw6_e.1] at A5
  rw [aw6_e.2] at A6
  clear hO
  go_enter Tryd.func7, Tryd.ntmps7
  go_wp2_with fail
  refine A1.out.mono ?_
  rintro e w1 ⟨rfl, rfl⟩
  go_wp2_with fail
  refine A2.out.mono ?_
  rintro e w1 ⟨rfl, rfl⟩
  go_wp2_with fail
  refine A3.out.mono ?_
  rintro e w1 ⟨rfl, rfl⟩
  go_wp2_with fail
  refine A4.out.mono ?_
  rintro e w1 ⟨rfl, k1⟩
  go_wp2_with fail
  refine (A5.out _).mono ?_
  rintro e w1 ⟨rfl, rfl⟩
  go_wp2_with fail
  refine (A6.out _).mono ?_
  rintro e w1 ⟨rfl, rfl⟩
  go_wp2_with fail
  go_ret
  exact ⟨rfl, k1⟩
end Go.Proofs.YtmljngahlkhihaaDoor
