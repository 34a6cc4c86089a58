/-
  Contracts of mail, Auto, of the document's answer of layer 11, for texts of at most 99,000 bytes.
-/
import Derived.Test.YtggeknhggpdpkaaGreatDoorRxd
import Derived.Test.YtggeknhggpdpkaaGreatDoorRxe
import Derived.Test.YtggeknhggpdpkaaGreatDoorRxf
namespace Go.Proofs.YtggeknhggpdpkaaGreatDoor
open Go.RowKit Go.Lib

theorem adr_none {t : List UInt8} (h : cntP rUsr t = 0) : adrB t = false := by rw [adr_doc, h]; rfl
theorem adr_other {t : List UInt8} {k : Nat} (h : cntP rUsr t = k) (f : frP (fun b => decide (b.toNat = 64)) (t.drop k) = false) : adrB t = false := by rw [adr_doc, h, f, Bool.and_false, Bool.false_and]
theorem adr_hosts {t : List UInt8} {k : Nat} (h : cntP rUsr t = k) (h0 : 0 < k) (f : frP (fun b => decide (b.toNat = 64)) (t.drop k) = true) : adrB t = (prtL (t.drop (k + 1))).all hstB := by rw [adr_doc, h, f, decide_eq_true h0]; rfl
set_option maxRecDepth 100000 in
set_option maxHeartbeats 2000000 in
theorem mail_any (s : ByteArray) (w : World) (hs : s.size ≤ 100000) :
    Calls Tryz.prog 21 #[.string s] w fun e w' => e = .returned (.bool (adrB s.data.toList)) ∧ Keeps w w' := by
  have hl := Lib.hid (bytes_len s)
  have LO := Lib.hid (fun b W => local_any b W)
  have HO := Lib.hid (fun k (_ : k ≤ s.size) W => dhost_any (s.extract k s.size) W (by rw [ByteArray.size_extract]; omega))
  go_enter Tryz.func21, Tryz.ntmps21
  go_wp2_with fail
  go_loopw [3] (fun v wr => ∃ k : Nat, k ≤ s.size ∧ v = .int .i64 k ∧ Hid (cntP rUsr s.data.toList = k + cntP rUsr (s.data.toList.drop k)) ∧ Hid (Keeps w wr)) (fun v _ => s.size - (RowKit.intOf v).toNat)
  case atStart => exact ⟨0, Nat.zero_le _, rfl, Lib.hid (by rw [List.drop_zero, Nat.zero_add]), Lib.hid (Keeps.refl _)⟩
  case round =>
    obtain ⟨k, hk, rfl, HC, HK⟩ := hrel
    by_cases h : k < s.size
    · have hb := s[k].toNat_lt
      have L1 := Lib.hid (fun W => LO.out s[k] W)
      cases c : rUsr s[k] with
      | true =>
        rw [c] at L1
        have HN := Lib.hid (cnt_at_yes h HC.out c)
        clear HC c
        go_wp2_with fail
        refine (L1.out _).mono ?_
        rintro e w1 ⟨rfl, k1⟩
        have HK2 := Lib.hid (HK.out.trans k1)
        clear k1
        go_wp2_with fail
        go_roundw
        case rel => exact ⟨k + 1, h, by go_num, HN, HK2⟩
        case measure => simp [RowKit.intOf]; omega
      | false =>
        rw [c] at L1
        have HE := Lib.hid (cnt_at_no h HC.out c)
        by_cases k0 : k = 0
        · subst k0
          have HN := Lib.hid (adr_none HE.out)
          clear HC c HE
          go_wp2_with fail
          refine (L1.out _).mono ?_
          rintro e w1 ⟨rfl, k1⟩
          have HK2 := Lib.hid (HK.out.trans k1)
          clear k1
          go_wp2_with fail
          go_ret
          exact ⟨ret_bool (by rw [HN.out]), HK2.out⟩
        · have hk0 : 0 < k := by omega
          by_cases c2 : s[k].toNat = 64
          · have q2 := beqT (show (s[k].toNat : Int) = 64 by omega)
            have HN := Lib.hid (adr_hosts HE.out hk0 (by rw [fr_at _ s k h]; exact decide_eq_true c2))
            have H1 := Lib.hid (fun W => HO.out (k + 1) (by omega) W)
            rw [Lib.extract_to_end] at H1
            generalize (prtL (s.data.toList.drop (k + 1))).all hstB = r at *
            clear HC c HE k0 c2
            go_wp2_with fail
            refine (L1.out _).mono ?_
            rintro e w1 ⟨rfl, k1⟩
            have HK2 := Lib.hid (HK.out.trans k1)
            clear k1
            go_wp2_with fail
            refine (H1.out _).mono ?_
            rintro e w2 ⟨rfl, rfl⟩
            go_wp2_with fail
            go_ret
            exact ⟨ret_bool (by rw [HN.out]), HK2.out⟩
          · have q2 := beqF (show ¬ (s[k].toNat : Int) = 64 by omega)
            have HN := Lib.hid (adr_other HE.out (by rw [fr_at _ s k h]; exact decide_eq_false c2))
            clear HC c HE k0 c2
            go_wp2_with fail
            refine (L1.out _).mono ?_
            rintro e w1 ⟨rfl, k1⟩
            have HK2 := Lib.hid (HK.out.trans k1)
            clear k1
            go_wp2_with fail
            go_ret
            exact ⟨ret_bool (by rw [HN.out]), HK2.out⟩
    · have HE : Hid (cntP rUsr s.data.toList = k) := Lib.hid (by rw [HC.out, List.drop_eq_nil_of_le (by rw [bytes_len]; omega)]; rfl)
      have HN := Lib.hid (adr_other HE.out (by rw [List.drop_eq_nil_of_le (by rw [bytes_len]; omega)]; rfl))
      clear HC HE
      by_cases k0 : k = 0
      · subst k0
        go_wp2_with fail
        go_ret
        exact ⟨ret_bool (by rw [HN.out]), HK.out⟩
      · have hk0 : 0 < k := by omega
        clear k0
        go_wp2_with fail
        go_ret
        exact ⟨ret_bool (by rw [HN.out]), HK.out⟩

theorem renc_none {l : List UInt8} (h : hasPrefix l [60] = true) (k : Nat) (hc : cntP rLnk (l.drop 1) = k) (f : frP (fun b => decide (b.toNat = 62)) ((l.drop 1).drop k) = false) : encT l = [] := by
  rw [encT_yes h]
  unfold encI
  rw [hc, f, if_neg (by decide)]
theorem renc_found {l : List UInt8} (h : hasPrefix l [60] = true) (k : Nat) (hc : cntP rLnk (l.drop 1) = k) (f : frP (fun b => decide (b.toNat = 62)) ((l.drop 1).drop k) = true) : encT l = (l.drop 1).take k := by
  rw [encT_yes h]
  unfold encI
  rw [hc, f, if_pos rfl]
theorem aut_empty {l : List UInt8} (h : encT l = []) : AutV l = .tuple #[.string ⟨#[]⟩, .string ⟨#[]⟩, .int .i64 0] := autV_no (by rw [h]; decide) (by rw [h]; decide)
set_option maxRecDepth 100000 in
set_option maxHeartbeats 2000000 in
theorem dauto_any (s : ByteArray) (w : World) (hs : s.size ≤ 99000) :
    Calls Tryz.prog 6 #[.string s] w fun e w' => e = .returned (AutV s.data.toList) ∧ Keeps w w' := by
  have hl := Lib.hid (bytes_len s)
  have P1 := Lib.hid (fun W => dhas_any s ⟨#[60]⟩ W (by omega) (by decide))
  rw [show (⟨#[60]⟩ : ByteArray).data.toList = [60] from rfl] at P1
  cases hp : hasPrefix s.data.toList [60] with
  | false =>
    rw [hp] at P1
    rw [aut_empty (encT_no hp)]
    clear hp
    go_enter Tryz.func6, Tryz.ntmps6
    go_wp2_with fail
    refine (P1.out _).mono ?_
    rintro e w1 ⟨rfl, rfl⟩
    go_wp2_with fail
    go_ret3
    exact ⟨rfl, Keeps.refl _⟩
  | true =>
    rw [hp] at P1
    have HP := Lib.hid hp
    have hz := pre_len hp
    rw [bytes_len] at hz
    have hz1 : 1 ≤ s.size := hz
    have SC := Lib.hid (fun k (_ : k ≤ s.size) W => scheme_any (s.extract 1 k) W (by rw [ByteArray.size_extract]; omega))
    have MA := Lib.hid (fun k (_ : k ≤ s.size) W => mail_any (s.extract 1 k) W (by rw [ByteArray.size_extract]; omega))
    have V1 := Lib.hid (@autV_sch s.data.toList)
    have V2 := Lib.hid (@autV_adr s.data.toList)
    have V3 := Lib.hid (@autV_no s.data.toList)
    clear hp hz
    go_enter Tryz.func6, Tryz.ntmps6
    go_wp2_with fail
    refine (P1.out _).mono ?_
    rintro e w1 ⟨rfl, rfl⟩
    go_wp2_with fail
    go_loop [5] (fun v => ∃ k : Nat, 1 ≤ k ∧ k ≤ s.size ∧ v = .int .i64 k ∧ Hid (cntP rLnk (s.data.toList.drop 1) = (k - 1) + cntP rLnk (s.data.toList.drop k))) (fun v => s.size - (RowKit.intOf v).toNat)
    case atStart => exact ⟨1, Nat.le_refl _, hz1, rfl, Lib.hid (by rw [Nat.sub_self, Nat.zero_add])⟩
    case round =>
      obtain ⟨k, hk1, hk, rfl, HC⟩ := hrel
      by_cases h : k < s.size
      · have hb := s[k].toNat_lt
        have dk : (s.data.toList.drop 1).drop (k - 1) = s.data.toList.drop k := by rw [List.drop_drop]; congr 1; omega
        cases c : rLnk s[k] with
        | true =>
          have hr : 32 < s[k].toNat ∧ s[k].toNat ≠ 60 ∧ s[k].toNat ≠ 62 ∧ s[k].toNat ≠ 127 := of_decide_eq_true c
          have q1 : decide ((32 : Int) < (s[k].toNat : Int)) = true := decide_eq_true (by omega)
          have q2 := bneT (show ¬ (s[k].toNat : Int) = 60 by omega)
          have q3 := bneT (show ¬ (s[k].toNat : Int) = 62 by omega)
          have q4 := bneT (show ¬ (s[k].toNat : Int) = 127 by omega)
          have HN : Hid (cntP rLnk (s.data.toList.drop 1) = (k + 1 - 1) + cntP rLnk (s.data.toList.drop (k + 1))) := Lib.hid (by
            rw [HC.out, drop_at s k h, cntP_yes _ c]
            omega)
          clear HC c hr dk
          go_wp2_with fail
          go_round
          case rel => exact ⟨k + 1, by omega, h, by go_num, HN⟩
          case measure => simp [RowKit.intOf]; omega
        | false =>
          have hr : ¬ (32 < s[k].toNat ∧ s[k].toNat ≠ 60 ∧ s[k].toNat ≠ 62 ∧ s[k].toNat ≠ 127) := of_decide_eq_false c
          have HE : Hid (cntP rLnk (s.data.toList.drop 1) = k - 1) := Lib.hid (by
            rw [HC.out, drop_at s k h, cntP_no _ c]
            omega)
          have g0 := beqF (show ¬ (k : Int) = (s.size : Int) by omega)
          by_cases c2 : s[k].toNat = 62
          · have q1 : decide ((32 : Int) < (s[k].toNat : Int)) = true := decide_eq_true (by omega)
            have q2 := bneT (show ¬ (s[k].toNat : Int) = 60 by omega)
            have q3 := bneF (show (s[k].toNat : Int) = 62 by omega)
            have eE := renc_found HP.out (k - 1) HE.out (by rw [dk, fr_at _ s k h]; exact decide_eq_true c2)
            obtain ⟨t, ht⟩ : ∃ t, s.extract 1 k = t := ⟨_, rfl⟩
            have tl : t.data.toList = encT s.data.toList := by rw [eE, ← ht, Lib.extract_data]
            have tz : t.size = k - 1 := by rw [← ht, ByteArray.size_extract]; omega
            have S1 := Lib.hid (fun W => SC.out k hk W)
            have M1 := Lib.hid (fun W => MA.out k hk W)
            have W1 := Lib.hid (@V1.out)
            have W2 := Lib.hid (@V2.out)
            have W3 := Lib.hid (@V3.out)
            rw [← tl] at W1 W2 W3
            rw [bytes_len] at W1 W2
            rw [mailto_app] at W2
            rw [bytes_mk] at W1 W2
            rw [ht] at S1 M1
            have sd := schD_pos t.data.toList
            have hk2 : (t.size : Int) + 2 = (k : Int) + 1 := by omega
            have tb : t.size ≤ 99000 := by omega
            cases c3 : schB t.data.toList with
            | true =>
              have X := Lib.hid (W1.out c3)
              rw [c3] at sd
              obtain ⟨d, hd⟩ : ∃ d, schD t.data.toList = d := ⟨_, rfl⟩
              rw [hd] at sd S1
              have sd2 : 0 < d := of_decide_eq_true sd
              have FIN : Hid (Ending.returned (.tuple #[.string t, .string t, .int .i64 ((k : Int) + 1)]) = .returned (AutV s.data.toList)) := Lib.hid (by
                rw [X.out]
                exact ret_ssn rfl rfl (by omega))
              clear HC c hr dk HE c2 eE tl W1 W2 W3 X c3 hd sd tz hk2 M1
              go_wp2_with fail
              refine (S1.out _).mono ?_
              rintro e w2 ⟨rfl, rfl⟩
              go_wp2_with fail
              go_ret3
              exact ⟨FIN.out, Keeps.refl _⟩
            | false =>
              rw [c3] at sd
              obtain ⟨d, hd⟩ : ∃ d, schD t.data.toList = d := ⟨_, rfl⟩
              rw [hd] at sd S1
              have sd2 : d = 0 := by have := of_decide_eq_false sd; omega
              subst sd2
              cases c4 : adrB t.data.toList with
              | true =>
                rw [c4] at M1
                have X := Lib.hid (W2.out c3 c4)
                have FIN : Hid (Ending.returned (.tuple #[.string ((⟨#[109, 97, 105, 108, 116, 111, 58]⟩ : ByteArray) ++ t), .string t, .int .i64 ((k : Int) + 1)]) = .returned (AutV s.data.toList)) := Lib.hid (by
                  rw [X.out]
                  exact ret_ssn rfl rfl (by omega))
                clear HC c hr dk HE c2 eE tl W1 W2 W3 X c3 c4 hd sd tz hk2
                go_wp2_with fail
                refine (S1.out _).mono ?_
                rintro e w2 ⟨rfl, rfl⟩
                go_wp2_with fail
                refine (M1.out _).mono ?_
                rintro e w3 ⟨rfl, k3⟩
                go_wp2_with fail
                go_ret3
                exact ⟨FIN.out, k3⟩
              | false =>
                rw [c4] at M1
                have X := Lib.hid (W3.out c3 c4)
                clear HC c hr dk HE c2 eE tl W1 W2 W3 c3 c4 hd sd tz hk2
                go_wp2_with fail
                refine (S1.out _).mono ?_
                rintro e w2 ⟨rfl, rfl⟩
                go_wp2_with fail
                refine (M1.out _).mono ?_
                rintro e w3 ⟨rfl, k3⟩
                go_wp2_with fail
                go_ret3
                exact ⟨congrArg Ending.returned X.out.symm, k3⟩
          · have q5 := bneT (show ¬ (s[k].toNat : Int) = 62 by omega)
            have X := Lib.hid (aut_empty (renc_none HP.out (k - 1) HE.out (by rw [dk, fr_at _ s k h]; exact decide_eq_false c2)))
            by_cases d1 : s[k].toNat ≤ 32
            · have q1 : decide ((32 : Int) < (s[k].toNat : Int)) = false := decide_eq_false (by omega)
              clear HC c hr dk HE c2
              go_wp2_with fail
              go_ret3
              exact ⟨congrArg Ending.returned X.out.symm, Keeps.refl _⟩
            · have q1 : decide ((32 : Int) < (s[k].toNat : Int)) = true := decide_eq_true (by omega)
              by_cases d2 : s[k].toNat = 60
              · have q2 := bneF (show (s[k].toNat : Int) = 60 by omega)
                clear HC c hr dk HE c2 d2
                go_wp2_with fail
                go_ret3
                exact ⟨congrArg Ending.returned X.out.symm, Keeps.refl _⟩
              · have q2 := bneT (show ¬ (s[k].toNat : Int) = 60 by omega)
                have q4 := bneF (show (s[k].toNat : Int) = 127 by omega)
                clear HC c hr dk HE c2 d2
                go_wp2_with fail
                go_ret3
                exact ⟨congrArg Ending.returned X.out.symm, Keeps.refl _⟩
      · have HE : Hid (cntP rLnk (s.data.toList.drop 1) = k - 1) := Lib.hid (by rw [HC.out, show s.data.toList.drop k = [] from List.drop_eq_nil_of_le (by rw [bytes_len]; omega)]; rfl)
        have X := Lib.hid (aut_empty (renc_none HP.out (k - 1) HE.out (by rw [List.drop_drop, List.drop_eq_nil_of_le (by rw [bytes_len]; omega)]; rfl)))
        have g0 := beqT (show (k : Int) = (s.size : Int) by omega)
        clear HC HE
        go_wp2_with fail
        go_ret3
        exact ⟨congrArg Ending.returned X.out.symm, Keeps.refl _⟩
end Go.Proofs.YtggeknhggpdpkaaGreatDoor
