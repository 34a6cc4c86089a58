/-
  awake and hidden, of the statements of layer 9.
-/
import Derived.Test.YtdpjfdandeikmaaDoorTrd
import Derived.Test.YtdpjfdandeikmaaDoorTrh
import Derived.Test.YtdpjfdandeikmaaDoorRsg
namespace Go.Proofs.YtdpjfdandeikmaaDoor
open Go.RowKit Go.Lib

theorem aw9_a : dstT [47, 117, 40, 118, 41, 119, 32, 122] = [47, 117, 40, 118, 41, 119] ∧ dstN [47, 117, 40, 118, 41, 119, 32, 122] = 6 ∧ dstB [47, 117, 40, 118, 41, 119, 32, 122] = true := by decide +kernel
theorem aw9_b : dstT [60, 97, 32, 98, 62, 99] = [97, 32, 98] ∧ dstN [60, 97, 32, 98, 62, 99] = 5 ∧ dstB [60, 97, 32, 98, 62, 99] = true := by decide +kernel
theorem aw9_c : titT [34, 120, 92, 34, 121, 34, 32, 122] = [120, 34, 121] ∧ titN [34, 120, 92, 34, 121, 34, 32, 122] = 6 := by decide +kernel
theorem aw9_d : inlD [40, 32, 47, 117, 32, 39, 118, 39, 32, 41, 119] = [47, 117] ∧ inlT [40, 32, 47, 117, 32, 39, 118, 39, 32, 41, 119] = [118] ∧ inlN [40, 32, 47, 117, 32, 39, 118, 39, 32, 41, 119] = 10 := by decide +kernel
theorem aw9_e : spcN true false [32, 10, 10] = 2 := by decide +kernel
set_option maxRecDepth 100000 in
set_option maxHeartbeats 1000000 in
theorem awake9_any (w : World) (hO : Lis w) : Calls Tryd.prog 5 #[] w fun e w' => e = .returned (.bool true) ∧ Keeps w w' := by
  have HO := Lib.hid hO
  have A1 := Lib.hid (fun W h => dest_any ⟨#[47, 117, 40, 118, 41, 119, 32, 122]⟩ W (by decide) h)
  rw [show (⟨#[47, 117, 40, 118, 41, 119, 32, 122]⟩ : ByteArray).data.toList = [47, 117, 40, 118, 41, 119, 32, 122] from rfl, aw9_a.1, aw9_a.2.1, aw9_a.2.2] at A1
  have A2 := Lib.hid (fun W h => dest_any ⟨#[60, 97, 32, 98, 62, 99]⟩ W (by decide) h)
  rw [show (⟨#[60, 97, 32, 98, 62, 99]⟩ : ByteArray).data.toList = [60, 97, 32, 98, 62, 99] from rfl, aw9_b.1, aw9_b.2.1, aw9_b.2.2] at A2
  have A3 := Lib.hid (fun W h => title_any ⟨#[34, 120, 92, 34, 121, 34, 32, 122]⟩ W (by decide) h)
  rw [show (⟨#[34, 120, 92, 34, 121, 34, 32, 122]⟩ : ByteArray).data.toList = [34, 120, 92, 34, 121, 34, 32, 122] from rfl, aw9_c.1, aw9_c.2] at A3
  have A4 := Lib.hid (fun W h => inline_any ⟨#[40, 32, 47, 117, 32, 39, 118, 39, 32, 41, 119]⟩ W (by decide) h)
  rw [show (⟨#[40, 32, 47, 117, 32, 39, 118, 39, 32, 41, 119]⟩ : ByteArray).data.toList = [40, 32, 47, 117, 32, 39, 118, 39, 32, 41, 119] from rfl] at A4
  unfold InlV at A4
  rw [aw9_d.1, aw9_d.2.1, aw9_d.2.2] at A4
  have A5 := Lib.hid (fun W => spaces_any ⟨#[32, 10, 10]⟩ true W (by decide))
  rw [show (⟨#[32, 10, 10]⟩ : ByteArray).data.toList = [32, 10, 10] from rfl, aw9_e] at A5
  simp only [Int.cast_ofNat_Int] at A1 A2 A3 A4 A5
  clear hO
  go_enter Tryd.func5, Tryd.ntmps5
  go_wp2_with fail
  refine (A1.out _ HO.out).mono ?_
  rintro e w1 ⟨rfl, k1⟩
  have K1 := Lib.hid k1
  clear k1
  go_wp2_with fail
  refine (A2.out _ (HO.out.keep K1.out)).mono ?_
  rintro e w2 ⟨rfl, k2⟩
  have K2 := Lib.hid (K1.out.trans k2)
  clear k2
  go_wp2_with fail
  refine (A3.out _ (HO.out.keep K2.out)).mono ?_
  rintro e w3 ⟨rfl, k3⟩
  have K3 := Lib.hid (K2.out.trans k3)
  clear k3
  go_wp2_with fail
  refine (A4.out _ (HO.out.keep K3.out)).mono ?_
  rintro e w4 ⟨rfl, k4⟩
  have K4 := Lib.hid (K3.out.trans k4)
  clear k4
  go_wp2_with fail
  refine (A5.out _).mono ?_
  rintro e w5 ⟨rfl, rfl⟩
  go_wp2_with fail
  go_ret
  exact ⟨rfl, K4.out⟩

set_option maxRecDepth 100000 in
set_option maxHeartbeats 1000000 in
theorem hidden_any (s : ByteArray) (w : World) (hs : s.size ≤ 100000) :
    Calls Tryd.prog 6 #[.string s] w fun e w' => e = .returned (.string ⟨(hideL s.data.toList).toArray⟩) ∧ w = w' := by
  have SG := Lib.hid (fun b W => rsign_any b W)
  have hl := Lib.hid (bytes_len s)
  go_enter Tryd.func6, Tryd.ntmps6
  go_wp2_with fail
  go_loop [3, 4] (fun a i => ∃ (k : Nat) (x : ByteArray), k ≤ s.size ∧ a = .string x ∧ i = .int .i64 k ∧ x.size ≤ 2 * k ∧ Hid (x.data.toList = hideL (s.data.toList.take k))) (fun _ i => s.size - (RowKit.intOf i).toNat)
  case atStart => exact ⟨0, ⟨#[]⟩, Nat.zero_le _, rfl, rfl, by simp [ByteArray.size], Lib.hid rfl⟩
  case round =>
    obtain ⟨k, x, hk, rfl, rfl, hx, HX⟩ := hrel
    by_cases c : k < s.size
    · have hb := s[k].toNat_lt
      have S1 := Lib.hid (fun W => SG.out s[k] W)
      have P1 := Lib.hid (piece_one s k c)
      have HX2 : Hid (x.data.toList ++ hideB s[k] = hideL (s.data.toList.take (k + 1))) := Lib.hid (by rw [take_next s k c, hide_snoc, HX.out])
      have SZ : (s.extract k (k + 1)).size = 1 := by rw [P1.out]; rfl
      have SD : Hid ((s.extract k (k + 1)).data.toList = [s[k]]) := Lib.hid (by rw [P1.out])
      clear HX
      cases c1 : signB s[k] with
      | true =>
        rw [c1] at S1
        rw [hide_yes c1] at HX2
        clear c1
        go_wp2_with fail
        refine (S1.out _).mono ?_
        rintro e w1 ⟨rfl, rfl⟩
        go_wp2_with fail
        go_round
        case rel => exact ⟨k + 1, _, by omega, rfl, by go_num, by rw [ByteArray.size_append, ByteArray.size_append, SZ]; show _ + 1 + 1 ≤ _; omega, by rw [bytes_app, bytes_app, SD.out, List.append_assoc]; exact HX2⟩
        case measure => simp [RowKit.intOf]; omega
      | false =>
        rw [c1] at S1
        rw [hide_not c1] at HX2
        clear c1
        go_wp2_with fail
        refine (S1.out _).mono ?_
        rintro e w1 ⟨rfl, rfl⟩
        go_wp2_with fail
        go_round
        case rel => exact ⟨k + 1, _, by omega, rfl, by go_num, by rw [ByteArray.size_append, SZ]; omega, by rw [bytes_app, SD.out]; exact HX2⟩
        case measure => simp [RowKit.intOf]; omega
    · have ek : s.data.toList.take k = s.data.toList := List.take_of_length_le (by have := hl.out; omega)
      have HN : Hid (x = ⟨(hideL s.data.toList).toArray⟩) := Lib.hid (bytes_eq (by rw [HX.out, ek]))
      clear HX ek
      go_wp2_with fail
      go_ret
      exact ⟨ret_bytes HN.out, rfl⟩
end Go.Proofs.YtdpjfdandeikmaaDoor
