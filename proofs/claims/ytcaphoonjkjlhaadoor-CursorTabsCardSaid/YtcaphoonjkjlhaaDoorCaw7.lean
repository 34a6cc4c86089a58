/-
  awake, of the statements of layer 7, returns true.
-/
import Derived.Test.YtcaphoonjkjlhaaDoorCud
namespace Go.Proofs.YtcaphoonjkjlhaaDoor
open Go.RowKit Go.Lib

theorem aw7_a : skipL 2 0 0 [32, 9, 97, 98] = (1, 2, 2) ∧ skipL 9 0 0 [32, 9, 97, 98] = (2, 4, 0) ∧ indL 0 0 [32, 9, 97, 98] = 4 ∧ nextL [32, 9, 97, 98] = [97, 98] ∧ restL 2 [9, 97, 98] = [32, 32, 97, 98] ∧ movL 1 [97, 98] = [97] := by decide +kernel
theorem plc_new (s : ByteArray) : Plc s 0 0 0 := ⟨Nat.zero_le _, by omega, okP_nil _⟩
set_option maxHeartbeats 1600000 in
theorem awake7_any (w : World) : Calls Tryd.prog 6 #[] w fun e w' => e = .returned (.bool true) ∧ Keeps w w' := by
  have hS : (⟨#[32, 9, 97, 98]⟩ : ByteArray).data.toList = [32, 9, 97, 98] := rfl
  have P0 := plc_new ⟨#[32, 9, 97, 98]⟩
  have P1 : Plc ⟨#[32, 9, 97, 98]⟩ 1 2 2 := ⟨by decide, by omega, by omega, fun _ => ⟨[97, 98], rfl⟩⟩
  have P2 : Plc ⟨#[32, 9, 97, 98]⟩ 2 4 0 := ⟨by decide, by omega, okP_nil _⟩
  have NW := Lib.hid (fun W => new_any ⟨#[32, 9, 97, 98]⟩ W)
  have SA := Lib.hid (fun W => skip_any ⟨#[32, 9, 97, 98]⟩ 0 0 0 2 (by omega) P0 (by decide) W)
  have SB := Lib.hid (fun W => skip_any ⟨#[32, 9, 97, 98]⟩ 0 0 0 9 (by omega) P0 (by decide) W)
  have IN := Lib.hid (fun W => indent_any ⟨#[32, 9, 97, 98]⟩ 0 0 0 P0 (by decide) W)
  have RE := Lib.hid (fun W => rest_any ⟨#[32, 9, 97, 98]⟩ 1 2 2 P1 (by decide) W)
  have NX := Lib.hid (fun W => next_any ⟨#[32, 9, 97, 98]⟩ 0 0 0 P0 W)
  have MV := Lib.hid (fun W => move_any ⟨#[32, 9, 97, 98]⟩ 2 4 0 1 (by omega) P2 (by decide) W)
  have BL := Lib.hid (fun W => blank_any ⟨#[32, 9, 97, 98]⟩ 0 0 0 P0 W)
  rw [hS, List.drop_zero, show (2 : Int).toNat = 2 from rfl, aw7_a.1] at SA
  rw [hS, List.drop_zero, show (9 : Int).toNat = 9 from rfl, aw7_a.2.1] at SB
  rw [hS, List.drop_zero, aw7_a.2.2.1] at IN
  rw [hS, List.drop_zero, aw7_a.2.2.2.1] at NX BL
  rw [hS, show List.drop 1 ([32, 9, 97, 98] : List UInt8) = [9, 97, 98] from rfl, aw7_a.2.2.2.2.1] at RE
  rw [hS, show List.drop 2 ([32, 9, 97, 98] : List UInt8) = [97, 98] from rfl, show (1 : Int).toNat = 1 from rfl, aw7_a.2.2.2.2.2] at MV
  simp only [Int.cast_ofNat_Int, Nat.zero_add, Nat.reduceAdd, List.length_cons, List.length_nil] at SA SB IN NX BL RE MV
  have FL := fun (a b d : Value) W => cur_line (.string ⟨#[32, 9, 97, 98]⟩) a b d W
  clear P0 P1 P2 hS
  go_enter Tryd.func6, Tryd.ntmps6
  go_wp2_with fail
  (with_reducible refine (NW.out _).mono ?_)
  rintro e w1 ⟨rfl, k1⟩
  go_wp2_with fail
  (with_reducible refine (SA.out _).mono ?_)
  rintro e w2 ⟨rfl, k2⟩
  have B2 := Lib.hid ((Blk.new w1 _ _).keep k2)
  have K2 := Lib.hid ((k1.alloc _).trans k2)
  clear k1 k2
  generalize w1.heap.size = B at *
  have b0 : w2.cell? ⟨B, 0, none⟩ = some (.string ⟨#[32, 9, 97, 98]⟩) := B2.out.cell 0 rfl
  have b1 : w2.cell? ⟨B, 1, none⟩ = some (.int .i64 0) := B2.out.cell 1 rfl
  have b2 : w2.cell? ⟨B, 2, none⟩ = some (.int .i64 0) := B2.out.cell 2 rfl
  have b3 : w2.cell? ⟨B, 3, none⟩ = some (.int .i64 0) := B2.out.cell 3 rfl
  have hb := B2.out.lt
  go_wp2_with fail
  (with_reducible refine (IN.out _).mono ?_)
  rintro e w3 ⟨rfl, k3⟩
  have B3 := Lib.hid ((B2.out.alloc _).keep k3)
  have D3 := Lib.hid ((Blk.new w2 _ _).keep k3)
  have K3 := Lib.hid ((K2.out.alloc _).trans k3)
  clear k3 b0 b1 b2 b3 hb
  generalize w2.heap.size = D at *
  have d0 : w3.cell? ⟨D, 0, none⟩ = some (.string ⟨#[32, 9, 97, 98]⟩) := D3.out.cell 0 rfl
  have d1 : w3.cell? ⟨D, 1, none⟩ = some (.int .i64 1) := D3.out.cell 1 rfl
  have d2 : w3.cell? ⟨D, 2, none⟩ = some (.int .i64 2) := D3.out.cell 2 rfl
  have d3 : w3.cell? ⟨D, 3, none⟩ = some (.int .i64 2) := D3.out.cell 3 rfl
  go_wp2_with fail
  (with_reducible refine (RE.out _).mono ?_)
  rintro e w4 ⟨rfl, k4⟩
  have B4 := Lib.hid (B3.out.keep k4)
  have K4 := Lib.hid (K3.out.trans k4)
  clear k4 d0 d1 d2 d3
  have b0 : w4.cell? ⟨B, 0, none⟩ = some (.string ⟨#[32, 9, 97, 98]⟩) := B4.out.cell 0 rfl
  have b1 : w4.cell? ⟨B, 1, none⟩ = some (.int .i64 0) := B4.out.cell 1 rfl
  have b2 : w4.cell? ⟨B, 2, none⟩ = some (.int .i64 0) := B4.out.cell 2 rfl
  have b3 : w4.cell? ⟨B, 3, none⟩ = some (.int .i64 0) := B4.out.cell 3 rfl
  go_wp2_with fail
  (with_reducible refine (NX.out _).mono ?_)
  rintro e w5 ⟨rfl, k5⟩
  have B5 := Lib.hid (B4.out.keep k5)
  have K5 := Lib.hid (K4.out.trans k5)
  clear k5 b0 b1 b2 b3
  have b0 : w5.cell? ⟨B, 0, none⟩ = some (.string ⟨#[32, 9, 97, 98]⟩) := B5.out.cell 0 rfl
  have b1 : w5.cell? ⟨B, 1, none⟩ = some (.int .i64 0) := B5.out.cell 1 rfl
  have b2 : w5.cell? ⟨B, 2, none⟩ = some (.int .i64 0) := B5.out.cell 2 rfl
  have b3 : w5.cell? ⟨B, 3, none⟩ = some (.int .i64 0) := B5.out.cell 3 rfl
  go_wp2_with fail
  (with_reducible refine (SB.out _).mono ?_)
  rintro e w6 ⟨rfl, k6⟩
  have B6 := Lib.hid (B5.out.keep k6)
  have K6 := Lib.hid (K5.out.trans k6)
  clear k6 b0 b1 b2 b3
  go_wp2_with fail
  (with_reducible refine (MV.out _).mono ?_)
  rintro e w7 ⟨rfl, k7⟩
  have B7 := Lib.hid (B6.out.keep k7)
  have K7 := Lib.hid (K6.out.trans k7)
  clear k7
  have b0 : w7.cell? ⟨B, 0, none⟩ = some (.string ⟨#[32, 9, 97, 98]⟩) := B7.out.cell 0 rfl
  have b1 : w7.cell? ⟨B, 1, none⟩ = some (.int .i64 0) := B7.out.cell 1 rfl
  have b2 : w7.cell? ⟨B, 2, none⟩ = some (.int .i64 0) := B7.out.cell 2 rfl
  have b3 : w7.cell? ⟨B, 3, none⟩ = some (.int .i64 0) := B7.out.cell 3 rfl
  go_wp2_with fail
  (with_reducible refine (BL.out _).mono ?_)
  rintro e w8 ⟨rfl, k8⟩
  go_wp2_with fail
  go_ret
  exact ⟨rfl, K7.out.trans k8⟩
end Go.Proofs.YtcaphoonjkjlhaaDoor
