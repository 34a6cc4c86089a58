/-
  awake, of the statements of layer 10.
-/
import Derived.Test.YtonajkcdkihchaaDoorLbf
namespace Go.Proofs.YtonajkcdkihchaaDoor
open Go.RowKit Go.Lib

theorem aw10_a : lblT [91, 97, 92, 93, 98, 93, 32, 99] = [97, 92, 93, 98] ∧ lblN [91, 97, 92, 93, 98, 93, 32, 99] = 6 := by decide +kernel
theorem aw10_b : dfL [91, 70, 111, 111, 32, 32, 66, 97, 114, 93, 58, 32, 47, 117, 32, 39, 116, 39, 10, 114, 101, 115, 116] = [102, 111, 111, 32, 98, 97, 114] ∧ dfD [91, 70, 111, 111, 32, 32, 66, 97, 114, 93, 58, 32, 47, 117, 32, 39, 116, 39, 10, 114, 101, 115, 116] = [47, 117] ∧ dfT [91, 70, 111, 111, 32, 32, 66, 97, 114, 93, 58, 32, 47, 117, 32, 39, 116, 39, 10, 114, 101, 115, 116] = [116] ∧ dfN [91, 70, 111, 111, 32, 32, 66, 97, 114, 93, 58, 32, 47, 117, 32, 39, 116, 39, 10, 114, 101, 115, 116] = 19 := by decide +kernel
theorem aw10_c : dfsL [91, 97, 93, 58, 32, 98, 10, 91, 99, 93, 58, 32, 60, 100, 62, 10, 120] = [([97], [98], []), ([99], [100], [])] ∧ dfrL [91, 97, 93, 58, 32, 98, 10, 91, 99, 93, 58, 32, 60, 100, 62, 10, 120] = [120] := by decide +kernel
theorem aw10_d : nrmL [32, 65, 32] = [97] := by decide +kernel
theorem aw10_e : nrmL [195, 132, 32, 120] = [195, 164, 32, 120] := by decide +kernel
theorem aw10_f : FndV [97] [([97], [98], []), ([99], [100], [])] = .tuple #[.agg #[.string ⟨#[97]⟩, .string ⟨#[98]⟩, .string ⟨#[]⟩], .bool true] := fnd_yes rfl
set_option maxRecDepth 100000 in
set_option maxHeartbeats 2000000 in
theorem awake10_any (w : World) (hO : Lis w) : Calls Tryd.prog 5 #[] w fun e w' => e = .returned (.bool true) ∧ Keeps w w' := by
  have HO := Lib.hid hO
  have A1 := Lib.hid (fun W => label_any ⟨#[91, 97, 92, 93, 98, 93, 32, 99]⟩ W (by decide))
  unfold LblV at A1
  rw [show (⟨#[91, 97, 92, 93, 98, 93, 32, 99]⟩ : ByteArray).data.toList = [91, 97, 92, 93, 98, 93, 32, 99] from rfl, aw10_a.1, aw10_a.2] at A1
  have A2 := Lib.hid (fun W h => define_any ⟨#[91, 70, 111, 111, 32, 32, 66, 97, 114, 93, 58, 32, 47, 117, 32, 39, 116, 39, 10, 114, 101, 115, 116]⟩ W (by decide) h)
  unfold DfnV refV at A2
  rw [show (⟨#[91, 70, 111, 111, 32, 32, 66, 97, 114, 93, 58, 32, 47, 117, 32, 39, 116, 39, 10, 114, 101, 115, 116]⟩ : ByteArray).data.toList = [91, 70, 111, 111, 32, 32, 66, 97, 114, 93, 58, 32, 47, 117, 32, 39, 116, 39, 10, 114, 101, 115, 116] from rfl, aw10_b.1, aw10_b.2.1, aw10_b.2.2.1, aw10_b.2.2.2] at A2
  have A3 := Lib.hid (fun W h => defined_any ⟨#[91, 97, 93, 58, 32, 98, 10, 91, 99, 93, 58, 32, 60, 100, 62, 10, 120]⟩ W (by decide) h)
  rw [show (⟨#[91, 97, 93, 58, 32, 98, 10, 91, 99, 93, 58, 32, 60, 100, 62, 10, 120]⟩ : ByteArray).data.toList = [91, 97, 93, 58, 32, 98, 10, 91, 99, 93, 58, 32, 60, 100, 62, 10, 120] from rfl, aw10_c.1, aw10_c.2] at A3
  have A4 := Lib.hid (fun n₀ v W h => find_any n₀ v [([97], [98], []), ([99], [100], [])] ⟨#[32, 65, 32]⟩ W h (by decide) (by decide))
  rw [show (⟨#[32, 65, 32]⟩ : ByteArray).data.toList = [32, 65, 32] from rfl, aw10_d, aw10_f] at A4
  have A5 := Lib.hid (fun W => normal_any ⟨#[195, 132, 32, 120]⟩ W (by decide))
  rw [show (⟨#[195, 132, 32, 120]⟩ : ByteArray).data.toList = [195, 132, 32, 120] from rfl, aw10_e] at A5
  simp only [Int.cast_ofNat_Int] at A1 A2
  clear hO
  go_enter Tryd.func5, Tryd.ntmps5
  go_wp2_with fail
  refine (A1.out _).mono ?_
  rintro e w1 ⟨rfl, k1⟩
  have K1 := Lib.hid k1
  clear k1
  go_wp2_with fail
  refine (A2.out _ (HO.out.keep K1.out)).mono ?_
  rintro e w2 ⟨rfl, k2⟩
  have X2 := Lib.hid (Blk.new w2 28 #[.string ⟨#[102, 111, 111, 32, 98, 97, 114]⟩, .string ⟨#[47, 117]⟩, .string ⟨#[116]⟩])
  have K2 := Lib.hid ((K1.out.trans k2).alloc (.cells #[.string ⟨#[102, 111, 111, 32, 98, 97, 114]⟩, .string ⟨#[47, 117]⟩, .string ⟨#[116]⟩] 28))
  clear k2 K1
  go_wp2_with fail
  refine (A3.out _ (HO.out.keep K2.out)).mono ?_
  rintro e w3 ⟨v, rfl, hr, k3⟩
  obtain ⟨ao, ca, rfl, _, _⟩ := refs_form hr
  have R3 := Lib.hid hr
  have X3 := Lib.hid (X2.out.keep k3)
  have K3 := Lib.hid (K2.out.trans k3)
  clear k3 hr K2 X2
  go_wp2_with fail
  refine (A4.out _ _ _ R3.out).mono ?_
  rintro e w4 ⟨rfl, k4⟩
  have X4 := Lib.hid ((X3.out.keep k4).alloc (.cells #[.string ⟨#[97]⟩, .string ⟨#[98]⟩, .string ⟨#[]⟩] 28))
  have Z4 := Lib.hid (Blk.new w4 28 #[.string ⟨#[97]⟩, .string ⟨#[98]⟩, .string ⟨#[]⟩])
  have K4 := Lib.hid ((K3.out.trans k4).alloc (.cells #[.string ⟨#[97]⟩, .string ⟨#[98]⟩, .string ⟨#[]⟩] 28))
  clear k4 K3 X3
  have y0 := X4.out.cell 0 (v := .string ⟨#[102, 111, 111, 32, 98, 97, 114]⟩) rfl
  have y1 := X4.out.cell 1 (v := .string ⟨#[47, 117]⟩) rfl
  have y2 := X4.out.cell 2 (v := .string ⟨#[116]⟩) rfl
  have z1 := Z4.out.cell 1 (v := .string ⟨#[98]⟩) rfl
  go_wp2_with fail
  refine (A5.out _).mono ?_
  rintro e w5 ⟨rfl, k5⟩
  go_wp2_with fail
  go_ret
  exact ⟨rfl, K4.out.trans k5⟩
end Go.Proofs.YtonajkcdkihchaaDoor
