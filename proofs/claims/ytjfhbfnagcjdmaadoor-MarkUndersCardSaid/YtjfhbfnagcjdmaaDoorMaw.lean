/-
  awake, of the statements of layer 8, returns true.
-/
import Derived.Test.YtjfhbfnagcjdmaaDoorMkd
import Derived.Test.YtjfhbfnagcjdmaaDoorMkf
namespace Go.Proofs.YtjfhbfnagcjdmaaDoor
open Go.RowKit Go.Lib

/-- What the walks of layer 8 ask of the world. -/
def Env8 (w : World) : Prop := Lis w ∧ Mxl w
theorem Env8.lis {w : World} (h : Env8 w) : Lis w := h.1
theorem Env8.mxl {w : World} (h : Env8 w) : Mxl w := h.2
theorem Env8.keep {w w' : World} (h : Env8 w) (k : Keeps w w') : Env8 w' := ⟨Lis.keep h.1 k, Mxl.keep h.2 k⟩
theorem aw8_a : headN [35, 35, 32, 97, 32, 98, 32, 35, 35] = 2 ∧ headL [35, 35, 32, 97, 32, 98, 32, 35, 35] = [97, 32, 98] := by decide +kernel
theorem aw8_b : fenC [126, 126, 126, 32, 103, 111] = 126 ∧ fenN [126, 126, 126, 32, 103, 111] = 3 ∧ fenT [126, 126, 126, 32, 103, 111] = [103, 111] := by decide +kernel
theorem aw8_c : lstL [49, 50, 41, 32, 97] = (true, 12, 41, 3) ∧ lstB [49, 50, 41, 32, 97] = true := by decide +kernel
theorem aw8_d : ruleL [42, 32, 42, 32, 42] = true ∧ ruleL [42, 42] = false ∧ stretchL 126 (max 3 3) [126, 126, 126, 126, 32] = true ∧ underL [61, 61] = 1 := by decide +kernel
theorem aw8_e : htmlL [60, 100, 105, 118, 62] = 6 ∧ htmlEndL 2 [97, 32, 45, 45, 62] = true := by decide +kernel
set_option maxHeartbeats 4000000 in
set_option maxRecDepth 100000 in
theorem awake8_any (w : World) (hE : Env8 w) : Calls Tryd.prog 9 #[] w fun e w' => e = .returned (.bool true) ∧ Keeps w w' := by
  have HL := Lib.hid hE.1
  have HM := Lib.hid hE.2
  clear hE
  have HD := Lib.hid (fun W => heading_any ⟨#[35, 35, 32, 97, 32, 98, 32, 35, 35]⟩ W (by decide))
  rw [show (⟨#[35, 35, 32, 97, 32, 98, 32, 35, 35]⟩ : ByteArray).data.toList = [35, 35, 32, 97, 32, 98, 32, 35, 35] from rfl, aw8_a.1, aw8_a.2] at HD
  have FN := Lib.hid (fun W h => fence_any ⟨#[126, 126, 126, 32, 103, 111]⟩ W (by decide) h)
  rw [show (⟨#[126, 126, 126, 32, 103, 111]⟩ : ByteArray).data.toList = [126, 126, 126, 32, 103, 111] from rfl, aw8_b.1, aw8_b.2.1, aw8_b.2.2] at FN
  have LS := Lib.hid (fun W => mlist_any ⟨#[49, 50, 41, 32, 97]⟩ W (by decide))
  rw [show (⟨#[49, 50, 41, 32, 97]⟩ : ByteArray).data.toList = [49, 50, 41, 32, 97] from rfl, aw8_c.1, aw8_c.2, show sgnV (true, 12, 41, 3) = #[.bool true, .int .i64 12, .int .u8 41, .int .i64 3] from rfl] at LS
  have R1 := Lib.hid (fun W => rule_any ⟨#[42, 32, 42, 32, 42]⟩ W (by decide))
  rw [show (⟨#[42, 32, 42, 32, 42]⟩ : ByteArray).data.toList = [42, 32, 42, 32, 42] from rfl, aw8_d.1] at R1
  have R2 := Lib.hid (fun W => rule_any ⟨#[42, 42]⟩ W (by decide))
  rw [show (⟨#[42, 42]⟩ : ByteArray).data.toList = [42, 42] from rfl, aw8_d.2.1] at R2
  have FE := Lib.hid (fun W => fenceEnd_any ⟨#[126, 126, 126, 126, 32]⟩ 126 3 W (by decide))
  rw [show (⟨#[126, 126, 126, 126, 32]⟩ : ByteArray).data.toList = [126, 126, 126, 126, 32] from rfl, aw8_d.2.2.1, show ((126 : UInt8).toNat : Int) = 126 from rfl] at FE
  have UN := Lib.hid (fun W => under_any ⟨#[61, 61]⟩ W (by decide))
  rw [show (⟨#[61, 61]⟩ : ByteArray).data.toList = [61, 61] from rfl, aw8_d.2.2.2] at UN
  have HT := Lib.hid (fun W => html_any ⟨#[60, 100, 105, 118, 62]⟩ W (by decide))
  rw [show (⟨#[60, 100, 105, 118, 62]⟩ : ByteArray).data.toList = [60, 100, 105, 118, 62] from rfl, aw8_e.1] at HT
  have HX := Lib.hid (fun W h => htmlEnd_any ⟨#[97, 32, 45, 45, 62]⟩ 2 W (by decide) h)
  rw [show (⟨#[97, 32, 45, 45, 62]⟩ : ByteArray).data.toList = [97, 32, 45, 45, 62] from rfl, aw8_e.2] at HX
  simp only [Int.cast_ofNat_Int] at HD FN UN HT
  go_enter Tryd.func9, Tryd.ntmps9
  go_wp2_with fail
  (with_reducible refine (HD.out _).mono ?_)
  rintro e w1 ⟨rfl, k1⟩
  have K1 := Lib.hid k1
  clear k1
  go_wp2_with fail
  (with_reducible refine (FN.out _ (Lis.keep HL.out K1.out)).mono ?_)
  rintro e w2 ⟨rfl, k2⟩
  have K2 := Lib.hid (K1.out.trans k2)
  clear k2
  go_wp2_with fail
  (with_reducible refine (LS.out _).mono ?_)
  rintro e w3 ⟨rfl, k3⟩
  have K3 := Lib.hid ((K2.out.trans k3).alloc (.cells #[.bool true, .int .i64 12, .int .u8 41, .int .i64 3] 34))
  have B3 := Lib.hid (Blk.new w3 34 #[.bool true, .int .i64 12, .int .u8 41, .int .i64 3])
  clear k3
  go_wp2_with fail
  (with_reducible refine (R1.out _).mono ?_)
  rintro e w4 ⟨rfl, rfl⟩
  go_wp2_with fail
  (with_reducible refine (R2.out _).mono ?_)
  rintro e w5 ⟨rfl, rfl⟩
  go_wp2_with fail
  (with_reducible refine (FE.out _).mono ?_)
  rintro e w6 ⟨rfl, k6⟩
  have K6 := Lib.hid (K3.out.trans k6)
  have B6 := Lib.hid (B3.out.keep k6)
  clear k6
  generalize w3.heap.size = B at *
  have b1 : w6.cell? ⟨B, 1, none⟩ = some (.int .i64 12) := B6.out.cell 1 rfl
  have b2 : w6.cell? ⟨B, 2, none⟩ = some (.int .u8 41) := B6.out.cell 2 rfl
  have b3 : w6.cell? ⟨B, 3, none⟩ = some (.int .i64 3) := B6.out.cell 3 rfl
  go_wp2_with fail
  (with_reducible refine (UN.out _).mono ?_)
  rintro e w7 ⟨rfl, k7⟩
  have K7 := Lib.hid (K6.out.trans k7)
  clear k7 b1 b2 b3
  go_wp2_with fail
  (with_reducible refine (HT.out _).mono ?_)
  rintro e w8 ⟨rfl, k8⟩
  have K8 := Lib.hid (K7.out.trans k8)
  clear k8
  go_wp2_with fail
  (with_reducible refine (HX.out _ (Mxl.keep HM.out K8.out)).mono ?_)
  rintro e w9 ⟨rfl, k9⟩
  go_wp2_with fail
  go_ret
  exact ⟨rfl, K8.out.trans k9⟩
end Go.Proofs.YtjfhbfnagcjdmaaDoor
