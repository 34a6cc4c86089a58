/-
  NamedHides returns true of any text.
-/
import Derived.Test.YtmljngahlkhihaaDoorNaw
namespace Go.Proofs.YtmljngahlkhihaaDoor
open Go.RowKit Go.Lib

set_option maxHeartbeats 400000 in
theorem nhides_long (s : ByteArray) (w : World) (hs : s.size ≤ maxLen) (h : 500 < s.size) (hO : Lis w) :
    Calls Tryd.prog 4 #[.string s] w fun e w' => e = .returned (.bool true) ∧ Keeps w w' := by
  have AW := Lib.hid (awake6_any w hO)
  unfold maxLen at hs
  clear hO
  go_enter Tryd.func4, Tryd.ntmps4
  go_wp2_with fail
  refine AW.out.mono ?_
  rintro e w2 ⟨rfl, k2⟩
  go_wp2_with fail
  go_ret
  exact ⟨rfl, k2⟩
theorem take_next (s : ByteArray) (k : Nat) (h : k < s.size) : s.data.toList.take (k + 1) = s.data.toList.take k ++ [s[k]] := by
  rw [List.take_succ_eq_append_getElem (by rw [bytes_len]; exact h)]; rfl
/-- Is there a \ among bytes. -/
def slashB (l : List UInt8) : Bool := l.any (fun b => decide (b.toNat = 92))
theorem slash_next (l : List UInt8) (b : UInt8) : slashB (l ++ [b]) = (slashB l || decide (b.toNat = 92)) := by unfold slashB; simp
theorem slash_no {l : List UInt8} (h : slashB l = false) : ∀ b ∈ l, b ≠ 92 := fun b hb e => by
  unfold slashB at h
  have := List.any_eq_false.1 h b hb
  simp only [decide_eq_true_eq] at this
  exact this (by rw [e]; rfl)
theorem hide_len : ∀ l : List UInt8, (hideL l).length ≤ 2 * l.length
  | [] => by simp [hideL]
  | b :: l => by
    have h := hide_len l
    have e : hideL (b :: l) = hideB b ++ hideL l := rfl
    have h2 : (hideB b).length ≤ 2 := by unfold hideB; split <;> simp
    rw [e, List.length_append, List.length_cons]; omega
theorem amp_len : ∀ l : List UInt8, (ampL l).length ≤ 5 * l.length
  | [] => by simp [ampL]
  | b :: l => by
    have h := amp_len l
    have e : ampL (b :: l) = ampB b ++ ampL l := rfl
    have h2 : (ampB b).length ≤ 5 := by unfold ampB; split <;> simp
    rw [e, List.length_append, List.length_cons]; omega
theorem hide_yes {b : UInt8} (h : signB b = true) : hideB b = [92, b] := by unfold hideB; rw [if_pos h]
theorem hide_not {b : UInt8} (h : signB b = false) : hideB b = [b] := by unfold hideB; rw [if_neg (by rw [h]; exact Bool.false_ne_true)]
theorem amp_yes {b : UInt8} (h : b.toNat = 38) : ampB b = [38, 97, 109, 112, 59] := by unfold ampB; rw [if_pos (UInt8.toNat_inj.1 h)]
theorem amp_not {b : UInt8} (h : ¬ b.toNat = 38) : ampB b = [b] := by unfold ampB; rw [if_neg (fun e => h (by rw [e]; rfl))]
theorem dec92 (n : Nat) : ((n : Int) == 92) = (false || decide (n = 92)) := by
  rw [Bool.false_or, Bool.eq_iff_iff, beq_iff_eq, decide_eq_true_eq]; omega
set_option maxHeartbeats 2000000 in
theorem nhides_short (s : ByteArray) (w : World) (h : s.size ≤ 500) (hO : Lis w) :
    Calls Tryd.prog 4 #[.string s] w fun e w' => e = .returned (.bool true) ∧ Keeps w w' := by
  have AW := Lib.hid (awake6_any w hO)
  have SG := Lib.hid (fun b W => sign_any b W)
  have PL := Lib.hid (fun t W a b => plain_any t W a b)
  have HO := Lib.hid hO
  have hl := Lib.hid (bytes_len s)
  clear hO
  go_enter Tryd.func4, Tryd.ntmps4
  go_wp2_with fail
  go_loop [3, 4, 5, 6] (fun a b sl i => ∃ (k : Nat) (x y : ByteArray) (f : Bool), k ≤ s.size ∧ a = .string x ∧ b = .string y ∧ sl = .bool f ∧ i = .int .i64 k ∧ x.size ≤ 2 * k ∧ y.size ≤ 5 * k ∧ Hid (x.data.toList = hideL (s.data.toList.take k)) ∧ Hid (y.data.toList = ampL (s.data.toList.take k)) ∧ Hid (f = slashB (s.data.toList.take k))) (fun _ _ _ i => s.size - (RowKit.intOf i).toNat)
  case atStart => exact ⟨0, ⟨#[]⟩, ⟨#[]⟩, false, Nat.zero_le _, rfl, rfl, rfl, rfl, by simp [ByteArray.size], by simp [ByteArray.size], Lib.hid rfl, Lib.hid rfl, Lib.hid rfl⟩
  case round =>
    obtain ⟨k, x, y, f, hk, rfl, rfl, rfl, rfl, hx, hy, HX, HY, HF⟩ := hrel
    by_cases c : k < s.size
    · have hb := s[k].toNat_lt
      have S1 := Lib.hid (fun W => SG.out s[k] W)
      have P1 := Lib.hid (piece_one s k c)
      have HX2 : Hid (x.data.toList ++ hideB s[k] = hideL (s.data.toList.take (k + 1))) := Lib.hid (by rw [take_next s k c, hide_snoc, HX.out])
      have HY2 : Hid (y.data.toList ++ ampB s[k] = ampL (s.data.toList.take (k + 1))) := Lib.hid (by rw [take_next s k c, amp_snoc, HY.out])
      have SL : Hid (slashB (s.data.toList.take (k + 1)) = (f || decide (s[k].toNat = 92))) := Lib.hid (by rw [take_next s k c, slash_next, HF.out])
      have SZ : (s.extract k (k + 1)).size = 1 := by rw [P1.out]; rfl
      have SD : Hid ((s.extract k (k + 1)).data.toList = [s[k]]) := Lib.hid (by rw [P1.out])
      clear HX HY HF
      cases c1 : signB s[k] with
      | true =>
        rw [c1] at S1
        rw [hide_yes c1] at HX2
        clear c1
        by_cases c2 : s[k].toNat = 38
        · have q2 : ((s[k].toNat : Int) == 38) = true := beq_iff_eq.2 (by omega)
          rw [amp_yes c2] at HY2
          clear c2
          cases f with
          | true =>
            go_wp2_with fail
            refine (S1.out _).mono ?_
            rintro e w1 ⟨rfl, rfl⟩
            go_wp2_with fail
            go_round
            case rel => exact ⟨k + 1, _, _, _, by omega, rfl, rfl, rfl, by go_num, by rw [ByteArray.size_append, ByteArray.size_append, SZ]; show _ + 1 + 1 ≤ _; omega, by rw [ByteArray.size_append]; show _ + 5 ≤ _; omega, by rw [bytes_app, bytes_app, SD.out, List.append_assoc]; exact HX2, by rw [bytes_app]; exact HY2, by rw [SL.out]; exact Lib.hid rfl⟩
            case measure => simp [RowKit.intOf]; omega
          | false =>
            go_wp2_with fail
            refine (S1.out _).mono ?_
            rintro e w1 ⟨rfl, rfl⟩
            go_wp2_with fail
            go_round
            case rel => exact ⟨k + 1, _, _, _, by omega, rfl, rfl, rfl, by go_num, by rw [ByteArray.size_append, ByteArray.size_append, SZ]; show _ + 1 + 1 ≤ _; omega, by rw [ByteArray.size_append]; show _ + 5 ≤ _; omega, by rw [bytes_app, bytes_app, SD.out, List.append_assoc]; exact HX2, by rw [bytes_app]; exact HY2, by rw [SL.out]; exact Lib.hid (dec92 _)⟩
            case measure => simp [RowKit.intOf]; omega
        · have q2 : ((s[k].toNat : Int) == 38) = false := beq_eq_false_iff_ne.2 (by omega)
          rw [amp_not c2] at HY2
          clear c2
          cases f with
          | true =>
            go_wp2_with fail
            refine (S1.out _).mono ?_
            rintro e w1 ⟨rfl, rfl⟩
            go_wp2_with fail
            go_round
            case rel => exact ⟨k + 1, _, _, _, by omega, rfl, rfl, rfl, by go_num, by rw [ByteArray.size_append, ByteArray.size_append, SZ]; show _ + 1 + 1 ≤ _; omega, by rw [ByteArray.size_append, SZ]; omega, by rw [bytes_app, bytes_app, SD.out, List.append_assoc]; exact HX2, by rw [bytes_app, SD.out]; exact HY2, by rw [SL.out]; exact Lib.hid rfl⟩
            case measure => simp [RowKit.intOf]; omega
          | false =>
            go_wp2_with fail
            refine (S1.out _).mono ?_
            rintro e w1 ⟨rfl, rfl⟩
            go_wp2_with fail
            go_round
            case rel => exact ⟨k + 1, _, _, _, by omega, rfl, rfl, rfl, by go_num, by rw [ByteArray.size_append, ByteArray.size_append, SZ]; show _ + 1 + 1 ≤ _; omega, by rw [ByteArray.size_append, SZ]; omega, by rw [bytes_app, bytes_app, SD.out, List.append_assoc]; exact HX2, by rw [bytes_app, SD.out]; exact HY2, by rw [SL.out]; exact Lib.hid (dec92 _)⟩
            case measure => simp [RowKit.intOf]; omega
      | false =>
        have c2 : ¬ s[k].toNat = 38 := fun e => by rw [show s[k] = 38 from UInt8.toNat_inj.1 e] at c1; exact absurd c1 (by decide)
        rw [c1] at S1
        rw [hide_not c1] at HX2
        clear c1
        have q2 : ((s[k].toNat : Int) == 38) = false := beq_eq_false_iff_ne.2 (by omega)
        rw [amp_not c2] at HY2
        clear c2
        cases f with
        | true =>
          go_wp2_with fail
          refine (S1.out _).mono ?_
          rintro e w1 ⟨rfl, rfl⟩
          go_wp2_with fail
          go_round
          case rel => exact ⟨k + 1, _, _, _, by omega, rfl, rfl, rfl, by go_num, by rw [ByteArray.size_append, SZ]; omega, by rw [ByteArray.size_append, SZ]; omega, by rw [bytes_app, SD.out]; exact HX2, by rw [bytes_app, SD.out]; exact HY2, by rw [SL.out]; exact Lib.hid rfl⟩
          case measure => simp [RowKit.intOf]; omega
        | false =>
          go_wp2_with fail
          refine (S1.out _).mono ?_
          rintro e w1 ⟨rfl, rfl⟩
          go_wp2_with fail
          go_round
          case rel => exact ⟨k + 1, _, _, _, by omega, rfl, rfl, rfl, by go_num, by rw [ByteArray.size_append, SZ]; omega, by rw [ByteArray.size_append, SZ]; omega, by rw [bytes_app, SD.out]; exact HX2, by rw [bytes_app, SD.out]; exact HY2, by rw [SL.out]; exact Lib.hid (dec92 _)⟩
          case measure => simp [RowKit.intOf]; omega
    · have ek : s.data.toList.take k = s.data.toList := List.take_of_length_le (by have := hl.out; omega)
      rw [ek] at HX HY HF
      have P1 : Hid (∀ W, Lis W → Calls Tryd.prog 12 #[.string x] W fun e w' => e = .returned (.string s) ∧ Keeps W w') := Lib.hid fun W h => by
        have := PL.out x W (by omega) h
        rw [HX.out, plain_hide, bytes_mk] at this
        exact this
      cases f with
      | true =>
        go_wp2_with fail
        refine AW.out.mono ?_
        rintro e w1 ⟨rfl, k1⟩
        have K1 := Lib.hid k1
        clear k1
        go_wp2_with fail
        refine (P1.out _ (HO.out.keep K1.out)).mono ?_
        rintro e w2 ⟨rfl, k2⟩
        have K2 := Lib.hid (K1.out.trans k2)
        clear k2
        go_wp2_with fail
        go_ret
        exact ⟨rfl, K2.out⟩
      | false =>
        have P2 : Hid (∀ W, Lis W → Calls Tryd.prog 12 #[.string y] W fun e w' => e = .returned (.string s) ∧ Keeps W w') := Lib.hid fun W h => by
          have := PL.out y W (by omega) h
          rw [HY.out, plain_amps _ (slash_no HF.out.symm), bytes_mk] at this
          exact this
        go_wp2_with fail
        refine AW.out.mono ?_
        rintro e w1 ⟨rfl, k1⟩
        have K1 := Lib.hid k1
        clear k1
        go_wp2_with fail
        refine (P1.out _ (HO.out.keep K1.out)).mono ?_
        rintro e w2 ⟨rfl, k2⟩
        have K2 := Lib.hid (K1.out.trans k2)
        clear k2
        go_wp2_with fail
        refine (P2.out _ (HO.out.keep K2.out)).mono ?_
        rintro e w3 ⟨rfl, k3⟩
        have K3 := Lib.hid (K2.out.trans k3)
        clear k3
        go_wp2_with fail
        go_ret
        exact ⟨rfl, K3.out⟩
theorem nhides_any (s : ByteArray) (w : World) (hs : s.size ≤ maxLen) (hO : Lis w) :
    Calls Tryd.prog 4 #[.string s] w fun e w' => e = .returned (.bool true) ∧ Keeps w w' := by
  by_cases h : s.size ≤ 500
  · exact nhides_short s w h hO
  · exact nhides_long s w hs (by omega) hO
end Go.Proofs.YtmljngahlkhihaaDoor
