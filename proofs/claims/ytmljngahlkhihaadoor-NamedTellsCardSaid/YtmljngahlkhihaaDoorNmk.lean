/-
  Contracts of Sign, Plain, of the document's answer.
-/
import Derived.Test.YtmljngahlkhihaaDoorNmj
namespace Go.Proofs.YtmljngahlkhihaaDoor
open Go.RowKit Go.Lib

theorem rsign_go (x : Int) (w : World) (h0 : 0 ≤ x) (h1 : x < 256) :
    Calls Tryd.prog 15 #[.int .u8 x] w fun e w' => e = .returned (.bool (decide ((33 ≤ x ∧ x ≤ 47) ∨ (58 ≤ x ∧ x ≤ 64) ∨ (91 ≤ x ∧ x ≤ 96) ∨ (123 ≤ x ∧ x ≤ 126)))) ∧ w = w' := by
  have hw : ((33 ≤ x ∧ x ≤ 47) ∨ (58 ≤ x ∧ x ≤ 64) ∨ (91 ≤ x ∧ x ≤ 96) ∨ (123 ≤ x ∧ x ≤ 126)) ∨ (x < 33 ∨ (47 < x ∧ x < 58) ∨ (64 < x ∧ x < 91) ∨ (96 < x ∧ x < 123) ∨ 126 < x) := by omega
  rcases hw with hw | hw
  · rw [decide_eq_true hw]
    rcases hw with ⟨a, b⟩ | ⟨a, b⟩ | ⟨a, b⟩ | ⟨a, b⟩
    all_goals
      go_enter Tryd.func15, Tryd.ntmps15
      go_wp2
      go_ret
      exact ⟨ret_bool (by first | rfl | (simp; omega)), rfl⟩
  · rw [decide_eq_false (by omega)]
    rcases hw with a | ⟨a, b⟩ | ⟨a, b⟩ | ⟨a, b⟩ | a
    all_goals
      go_enter Tryd.func15, Tryd.ntmps15
      go_wp2
      go_ret
      exact ⟨ret_bool (by first | rfl | (simp; omega)), rfl⟩
theorem rsign_any (b : UInt8) (w : World) :
    Calls Tryd.prog 15 #[.int .u8 (b.toNat : Nat)] w fun e w' => e = .returned (.bool (signB b)) ∧ w = w' := by
  have hb := b.toNat_lt
  rw [signB_int]
  exact rsign_go _ w (by omega) (by omega)
theorem drop_first (s : ByteArray) (p : Nat) (h : p < s.size) : s.data.toList.drop p = s[p] :: s.data.toList.drop (p + 1) := drop_cons s.data.toList p (by rw [bytes_len]; exact h)
theorem escP_not (s : ByteArray) (p : Nat) (h : p < s.size) (hb : ¬ s[p].toNat = 92) : escB (s.data.toList.drop p) = false := by
  rw [drop_first s p h]
  unfold escB
  rw [pre1_cons, show ((92 : UInt8) == s[p]) = false from beq_eq_false_iff_ne.2 (fun e => hb (by rw [← e]; rfl))]
  rfl
theorem escP_end (s : ByteArray) (p : Nat) (h1 : ¬ p + 1 < s.size) : escB (s.data.toList.drop p) = false := by
  unfold escB
  rw [List.length_drop, bytes_len, decide_eq_false (by omega)]
  simp
theorem escP_at (s : ByteArray) (p : Nat) (h : p < s.size) (hb : s[p].toNat = 92) (h1 : p + 1 < s.size) : escB (s.data.toList.drop p) = signB s[p + 1] ∧ (s.data.toList.drop p).getD 1 0 = s[p + 1] := by
  have e0 : s[p] = 92 := UInt8.toNat_inj.1 hb
  rw [drop_first s p h, drop_first s (p + 1) h1]
  refine ⟨?_, rfl⟩
  unfold escB
  rw [pre1_cons, e0]
  simp
set_option maxHeartbeats 4000000 in
theorem rplain_any (s : ByteArray) (w : World) (hs : s.size ≤ 100000) :
    Calls Tryd.prog 13 #[.string s] w fun e w' => e = .returned (.string ⟨(plainL s.data.toList).toArray⟩) ∧ Keeps w w' := by
  have hl := Lib.hid (bytes_len s)
  have SG := Lib.hid (fun b W => rsign_any b W)
  have RR := Lib.hid (fun t W h => rref_any t W h)
  go_enter Tryd.func13, Tryd.ntmps13
  go_wp2_with fail
  go_loopw [3, 4] (fun o i wr => ∃ (p : Nat) (acc : ByteArray), p ≤ s.size ∧ Keeps w wr ∧ o = .string acc ∧ i = .int .i64 p ∧ acc.size ≤ 4 * p ∧ Hid (acc.data.toList ++ plainL (s.data.toList.drop p) = plainL s.data.toList)) (fun _ i _ => s.size - (RowKit.intOf i).toNat)
  case atStart => exact ⟨0, ⟨#[]⟩, Nat.zero_le _, Keeps.refl w, rfl, rfl, by simp [ByteArray.size], Lib.hid rfl⟩
  case round =>
    obtain ⟨p, acc, hp, hk, rfl, rfl, hal, HA⟩ := hrel
    have HK := Lib.hid hk
    clear hk
    by_cases c : p < s.size
    · have hne : s.data.toList.drop p ≠ [] := fun e => by
        have := congrArg List.length e
        rw [List.length_drop, hl.out] at this
        simp at this; omega
      have HN : Hid ((acc.data.toList ++ plT (s.data.toList.drop p)) ++ plainL (s.data.toList.drop (p + plN (s.data.toList.drop p))) = plainL s.data.toList) := Lib.hid (by
        rw [← HA.out, plainL_step _ hne, List.append_assoc, List.drop_drop])
      have RX := Lib.hid (fun W => RR.out (s.extract p s.size) W (by rw [ByteArray.size_extract]; omega))
      rw [Lib.extract_to_end] at RX
      have NB : Hid ((refL (s.data.toList.drop p)).2 ≠ 0 → p + (refL (s.data.toList.drop p)).2 ≤ s.size) := Lib.hid fun h => by
        rcases refL_facts (s.data.toList.drop p) with e | e
        · exact absurd (congrArg Prod.snd e) h
        · have := e.2.2.1
          rw [List.length_drop, hl.out] at this
          omega
      have P1 := piece_one s p c
      have SZ : (s.extract p (p + 1)).size = 1 := by rw [P1]; rfl
      have hb := s[p].toNat_lt
      have SD : Hid ((s.extract p (p + 1)).data.toList = (s.data.toList.drop p).take 1) := Lib.hid (by rw [P1, drop_first s p c]; rfl)
      have hnP1 : True := trivial
      clear P1 hne hnP1
      by_cases c0 : s[p].toNat = 92
      · have q0 : ((s[p].toNat : Int) == 92) = true := beq_iff_eq.2 (by omega)
        by_cases c1 : p + 1 < s.size
        · obtain ⟨e1, e2⟩ := escP_at s p c c0 c1
          have S1 := Lib.hid (SG.out s[p + 1])
          cases c2 : signB s[p + 1] with
          | true =>
            rw [c2] at S1 e1
            have PE := Lib.hid (pl_esc e1)
            have P2 := piece_one s (p + 1) c1
            have SZ2 : (s.extract (p + 1) (p + 2)).size = 1 := by rw [show p + 2 = p + 1 + 1 by omega, P2]; rfl
            have SD2 : Hid ((s.extract (p + 1) (p + 2)).data.toList = [s[p + 1]]) := Lib.hid (by rw [show p + 2 = p + 1 + 1 by omega, P2])
            have E2 := Lib.hid e2
            clear e1 e2 c2 c0 P2
            go_wp2_with fail
            refine (S1.out _).mono ?_
            rintro e w1 ⟨rfl, rfl⟩
            go_wp2_with fail
            go_roundw
            case rel => exact ⟨p + 2, _, by omega, HK.out, rfl, by go_num, by rw [ByteArray.size_append, SZ2]; omega, by rw [bytes_app, SD2.out]; have e := HN.out; rw [PE.out.1, PE.out.2, E2.out] at e; exact Lib.hid e⟩
            case measure => simp [RowKit.intOf]; omega
          | false =>
            rw [c2] at S1 e1
            have ES := e1
            clear e1 e2 c2 c0
            generalize s.data.toList.drop p = u at *
            by_cases cn : (refL u).2 = 0
            · have PO := Lib.hid (pl_own ES cn)
              rw [cn] at RX
              clear cn
              go_wp2_with fail
              refine (S1.out _).mono ?_
              rintro e w1 ⟨rfl, rfl⟩
              go_wp2_with fail
              refine (RX.out _).mono ?_
              rintro e w2 ⟨rfl, k2⟩
              have HK2 := Lib.hid (HK.out.trans k2)
              clear k2
              go_wp2_with fail
              go_roundw
              case rel => exact ⟨p + 1, _, by omega, HK2.out, rfl, by go_num, by rw [ByteArray.size_append, SZ]; omega, by rw [bytes_app, SD.out]; have e := HN.out; rw [PO.out.1, PO.out.2] at e; exact Lib.hid e⟩
              case measure => simp [RowKit.intOf]; omega
            · have PR := Lib.hid (pl_ref ES cn)
              have hn0 : 0 < (refL u).2 := by omega
              have hn1 := NB.out cn
              have RB : Hid (refB u = encodeRune ((refL u).1 : Nat)) := Lib.hid (by unfold refB; rw [if_neg cn])
              have EL := enc_len ((refL u).1 : Nat)
              rw [RB.out] at RX
              clear cn
              generalize encodeRune ((refL u).1 : Nat) = E at *
              generalize (refL u).2 = n at *
              have EZ : (⟨E.toArray⟩ : ByteArray).size = E.length := by show E.toArray.size = _; simp
              go_wp2_with fail
              refine (S1.out _).mono ?_
              rintro e w1 ⟨rfl, rfl⟩
              go_wp2_with fail
              refine (RX.out _).mono ?_
              rintro e w2 ⟨rfl, k2⟩
              have HK2 := Lib.hid (HK.out.trans k2)
              clear k2
              go_wp2_with fail
              go_roundw
              case rel => exact ⟨p + n, _, by omega, HK2.out, rfl, by go_num, by rw [ByteArray.size_append, EZ]; omega, by rw [bytes_app]; have e := HN.out; rw [PR.out.1, PR.out.2] at e; exact Lib.hid (by simpa using e)⟩
              case measure => simp [RowKit.intOf]; omega
        · have ES := escP_end s p c1
          clear c0
          generalize s.data.toList.drop p = u at *
          by_cases cn : (refL u).2 = 0
          · have PO := Lib.hid (pl_own ES cn)
            rw [cn] at RX
            clear cn
            go_wp2_with fail
            refine (RX.out _).mono ?_
            rintro e w2 ⟨rfl, k2⟩
            have HK2 := Lib.hid (HK.out.trans k2)
            clear k2
            go_wp2_with fail
            go_roundw
            case rel => exact ⟨p + 1, _, by omega, HK2.out, rfl, by go_num, by rw [ByteArray.size_append, SZ]; omega, by rw [bytes_app, SD.out]; have e := HN.out; rw [PO.out.1, PO.out.2] at e; exact Lib.hid e⟩
            case measure => simp [RowKit.intOf]; omega
          · have PR := Lib.hid (pl_ref ES cn)
            have hn0 : 0 < (refL u).2 := by omega
            have hn1 := NB.out cn
            have RB : Hid (refB u = encodeRune ((refL u).1 : Nat)) := Lib.hid (by unfold refB; rw [if_neg cn])
            have EL := enc_len ((refL u).1 : Nat)
            rw [RB.out] at RX
            clear cn
            generalize encodeRune ((refL u).1 : Nat) = E at *
            generalize (refL u).2 = n at *
            have EZ : (⟨E.toArray⟩ : ByteArray).size = E.length := by show E.toArray.size = _; simp
            go_wp2_with fail
            refine (RX.out _).mono ?_
            rintro e w2 ⟨rfl, k2⟩
            have HK2 := Lib.hid (HK.out.trans k2)
            clear k2
            go_wp2_with fail
            go_roundw
            case rel => exact ⟨p + n, _, by omega, HK2.out, rfl, by go_num, by rw [ByteArray.size_append, EZ]; omega, by rw [bytes_app]; have e := HN.out; rw [PR.out.1, PR.out.2] at e; exact Lib.hid (by simpa using e)⟩
            case measure => simp [RowKit.intOf]; omega
      · have ES := escP_not s p c c0
        have q0 : ((s[p].toNat : Int) == 92) = false := beq_eq_false_iff_ne.2 (by omega)
        clear c0
        generalize s.data.toList.drop p = u at *
        by_cases cn : (refL u).2 = 0
        · have PO := Lib.hid (pl_own ES cn)
          rw [cn] at RX
          clear cn
          go_wp2_with fail
          refine (RX.out _).mono ?_
          rintro e w2 ⟨rfl, k2⟩
          have HK2 := Lib.hid (HK.out.trans k2)
          clear k2
          go_wp2_with fail
          go_roundw
          case rel => exact ⟨p + 1, _, by omega, HK2.out, rfl, by go_num, by rw [ByteArray.size_append, SZ]; omega, by rw [bytes_app, SD.out]; have e := HN.out; rw [PO.out.1, PO.out.2] at e; exact Lib.hid e⟩
          case measure => simp [RowKit.intOf]; omega
        · have PR := Lib.hid (pl_ref ES cn)
          have hn0 : 0 < (refL u).2 := by omega
          have hn1 := NB.out cn
          have RB : Hid (refB u = encodeRune ((refL u).1 : Nat)) := Lib.hid (by unfold refB; rw [if_neg cn])
          have EL := enc_len ((refL u).1 : Nat)
          rw [RB.out] at RX
          clear cn
          generalize encodeRune ((refL u).1 : Nat) = E at *
          generalize (refL u).2 = n at *
          have EZ : (⟨E.toArray⟩ : ByteArray).size = E.length := by show E.toArray.size = _; simp
          go_wp2_with fail
          refine (RX.out _).mono ?_
          rintro e w2 ⟨rfl, k2⟩
          have HK2 := Lib.hid (HK.out.trans k2)
          clear k2
          go_wp2_with fail
          go_roundw
          case rel => exact ⟨p + n, _, by omega, HK2.out, rfl, by go_num, by rw [ByteArray.size_append, EZ]; omega, by rw [bytes_app]; have e := HN.out; rw [PR.out.1, PR.out.2] at e; exact Lib.hid (by simpa using e)⟩
          case measure => simp [RowKit.intOf]; omega
    · have HA2 : Hid (acc.data.toList = plainL s.data.toList) := by
        have e := HA.out
        rw [List.drop_eq_nil_of_le (by have := hl.out; omega), plainL_nil, List.append_nil] at e
        exact Lib.hid e
      go_wp2_with fail
      go_ret
      exact ⟨ret_bytes (bytes_eq (by rw [HA2.out])), HK.out⟩
end Go.Proofs.YtmljngahlkhihaaDoor
