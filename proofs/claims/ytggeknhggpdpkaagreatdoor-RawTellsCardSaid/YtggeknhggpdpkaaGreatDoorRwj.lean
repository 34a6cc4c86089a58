/-
  The document's examples, of the statements of layer 11.
-/
import Derived.Test.YtggeknhggpdpkaaGreatDoorRwi
namespace Go.Proofs.YtggeknhggpdpkaaGreatDoor
open Go.RowKit Go.Lib

set_option maxRecDepth 100000 in
theorem aut_one : AutV [60, 104, 116, 116, 112, 58, 47, 47, 120, 62, 121] = .tuple #[.string ⟨#[104, 116, 116, 112, 58, 47, 47, 120]⟩, .string ⟨#[104, 116, 116, 112, 58, 47, 47, 120]⟩, .int .i64 10] := by
  have h : encT [60, 104, 116, 116, 112, 58, 47, 47, 120, 62, 121] = [104, 116, 116, 112, 58, 47, 47, 120] := by decide
  have h1 : schB [104, 116, 116, 112, 58, 47, 47, 120] = true := by decide
  rw [autV_sch (by rw [h]; exact h1), h]
  rfl
set_option maxRecDepth 100000 in
theorem aut_two : AutV [60, 97, 64, 98, 46, 99, 62] = .tuple #[.string ⟨#[109, 97, 105, 108, 116, 111, 58, 97, 64, 98, 46, 99]⟩, .string ⟨#[97, 64, 98, 46, 99]⟩, .int .i64 7] := by
  have h : encT [60, 97, 64, 98, 46, 99, 62] = [97, 64, 98, 46, 99] := by decide
  have h1 : schB [97, 64, 98, 46, 99] = false := by decide
  have h2 : adrB [97, 64, 98, 46, 99] = true := by decide
  rw [autV_adr (by rw [h]; exact h1) (by rw [h]; exact h2), h]
  rfl
set_option maxRecDepth 100000 in
theorem cod_one : CodV [96, 96, 32, 97, 96, 98, 32, 96, 96] = .tuple #[.string ⟨#[97, 96, 98]⟩, .int .i64 9] := by
  have h : codT [96, 96, 32, 97, 96, 98, 32, 96, 96] = [97, 96, 98] := by decide
  have h1 : codN [96, 96, 32, 97, 96, 98, 32, 96, 96] = 9 := by decide
  unfold CodV
  rw [h, h1]
  rfl
theorem esc_one : EscV [92, 42, 120] = .tuple #[.string ⟨#[42]⟩, .bool true] := by
  rw [escV_yes (by decide)]
  rfl
set_option maxRecDepth 100000 in
theorem tag_one : tagN [60, 97, 32, 98, 61, 39, 99, 39, 32, 100, 62, 120] = 11 := by decide
set_option maxRecDepth 100000 in
theorem tag_two : tagN [60, 47, 97, 32, 62] = 5 := by decide
set_option maxRecDepth 100000 in
theorem tag_three : tagN [60, 97, 32, 98, 61, 62] = 0 := by decide
set_option maxRecDepth 100000 in
theorem htm_one : htmN [60, 33, 45, 45, 32, 120, 32, 45, 45, 62, 121] = 10 := by decide

set_option maxRecDepth 100000 in
set_option maxHeartbeats 1000000 in
theorem awake11_any (w : World) (hm : Mxl w) :
    Calls Tryz.prog 4 #[] w fun e w' => e = .returned (.bool true) ∧ Keeps w w' := by
  have HM := Lib.hid hm
  have A1 := Lib.hid (auto_any ⟨#[60, 104, 116, 116, 112, 58, 47, 47, 120, 62, 121]⟩ w (by decide) hm)
  have A2 := Lib.hid (fun W h => auto_any ⟨#[60, 97, 64, 98, 46, 99, 62]⟩ W (by decide) h)
  have C1 := Lib.hid (fun W h => rcode_any ⟨#[96, 96, 32, 97, 96, 98, 32, 96, 96]⟩ W (by decide) h)
  have E1 := Lib.hid (fun W => escaped_any ⟨#[92, 42, 120]⟩ W (by decide))
  have T1 := Lib.hid (fun W h => tag_any ⟨#[60, 97, 32, 98, 61, 39, 99, 39, 32, 100, 62, 120]⟩ W (by decide) h)
  have T2 := Lib.hid (fun W h => tag_any ⟨#[60, 47, 97, 32, 62]⟩ W (by decide) h)
  have T3 := Lib.hid (fun W h => tag_any ⟨#[60, 97, 32, 98, 61, 62]⟩ W (by decide) h)
  have H1 := Lib.hid (fun W h => rhtml_any ⟨#[60, 33, 45, 45, 32, 120, 32, 45, 45, 62, 121]⟩ W (by decide) h)
  rw [show (⟨#[60, 104, 116, 116, 112, 58, 47, 47, 120, 62, 121]⟩ : ByteArray).data.toList = [60, 104, 116, 116, 112, 58, 47, 47, 120, 62, 121] from rfl, aut_one] at A1
  rw [show (⟨#[60, 97, 64, 98, 46, 99, 62]⟩ : ByteArray).data.toList = [60, 97, 64, 98, 46, 99, 62] from rfl, aut_two] at A2
  rw [show (⟨#[96, 96, 32, 97, 96, 98, 32, 96, 96]⟩ : ByteArray).data.toList = [96, 96, 32, 97, 96, 98, 32, 96, 96] from rfl, cod_one] at C1
  rw [show (⟨#[92, 42, 120]⟩ : ByteArray).data.toList = [92, 42, 120] from rfl, esc_one] at E1
  rw [show (⟨#[60, 97, 32, 98, 61, 39, 99, 39, 32, 100, 62, 120]⟩ : ByteArray).data.toList = [60, 97, 32, 98, 61, 39, 99, 39, 32, 100, 62, 120] from rfl, tag_one] at T1
  rw [show (⟨#[60, 47, 97, 32, 62]⟩ : ByteArray).data.toList = [60, 47, 97, 32, 62] from rfl, tag_two] at T2
  rw [show (⟨#[60, 97, 32, 98, 61, 62]⟩ : ByteArray).data.toList = [60, 97, 32, 98, 61, 62] from rfl, tag_three] at T3
  rw [show (⟨#[60, 33, 45, 45, 32, 120, 32, 45, 45, 62, 121]⟩ : ByteArray).data.toList = [60, 33, 45, 45, 32, 120, 32, 45, 45, 62, 121] from rfl, htm_one] at H1
  clear hm
  go_enter Tryz.func4, Tryz.ntmps4
  go_wp2_with fail
  refine A1.out.mono ?_
  rintro e w1 ⟨rfl, k1⟩
  have K1 := Lib.hid k1
  have M1 := Lib.hid (Mxl.keep HM.out k1)
  clear k1
  go_wp2_with fail
  refine (A2.out _ M1.out).mono ?_
  rintro e w2 ⟨rfl, k2⟩
  have K2 := Lib.hid (K1.out.trans k2)
  have M2 := Lib.hid (Mxl.keep M1.out k2)
  clear k2
  go_wp2_with fail
  refine (C1.out _ M2.out).mono ?_
  rintro e w3 ⟨rfl, k3⟩
  have K3 := Lib.hid (K2.out.trans k3)
  have M3 := Lib.hid (Mxl.keep M2.out k3)
  clear k3
  go_wp2_with fail
  refine (E1.out _).mono ?_
  rintro e w4 ⟨rfl, k4⟩
  have K4 := Lib.hid (K3.out.trans k4)
  have M4 := Lib.hid (Mxl.keep M3.out k4)
  clear k4
  go_wp2_with fail
  refine (T1.out _ M4.out).mono ?_
  rintro e w5 ⟨rfl, rfl⟩
  go_wp2_with fail
  refine (T2.out _ M4.out).mono ?_
  rintro e w5 ⟨rfl, rfl⟩
  go_wp2_with fail
  refine (T3.out _ M4.out).mono ?_
  rintro e w5 ⟨rfl, rfl⟩
  go_wp2_with fail
  refine (H1.out _ M4.out).mono ?_
  rintro e w5 ⟨rfl, rfl⟩
  go_wp2_with fail
  go_ret
  exact ⟨rfl, K4.out⟩
end Go.Proofs.YtggeknhggpdpkaaGreatDoor
