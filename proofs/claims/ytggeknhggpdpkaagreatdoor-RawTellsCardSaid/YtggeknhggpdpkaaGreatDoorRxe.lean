/-
  Contracts of scheme, host, mail, Auto, of the document's answer of layer 11, for texts of at most 100,000 bytes. (Written by wip/tools/rawref3.py.)
-/
import Derived.Test.YtggeknhggpdpkaaGreatDoorRxd
import Derived.Test.YtggeknhggpdpkaaGreatDoorRxa
import Derived.Test.YtggeknhggpdpkaaGreatDoorRwy
import Derived.Test.YtggeknhggpdpkaaGreatDoorRwi
namespace Go.Proofs.YtggeknhggpdpkaaGreatDoor
open Go.RowKit Go.Lib

/-! ### scheme -/
set_option maxRecDepth 100000 in
set_option maxHeartbeats 2000000 in
theorem scheme_any (s : ByteArray) (w : World) (hs : s.size ≤ 100000) :
    Calls Tryz.prog 20 #[.string s] w fun e w' => e = .returned (.int .i64 (schD s.data.toList : Nat)) ∧ w = w' := by
  have LT := Lib.hid (fun b W => dletter_any b W)
  have DG := Lib.hid (fun b W => ddigit_any b W)
  go_enter Tryz.func20, Tryz.ntmps20
  go_wp2_with fail
  go_loop [3] (fun v => ∃ k : Nat, k ≤ s.size ∧ v = .int .i64 k ∧ Hid (cntP rSch s.data.toList = k + cntP rSch (s.data.toList.drop k)) ∧ Hid (k = 0 ∨ frP rLet s.data.toList = true)) (fun v => s.size - (RowKit.intOf v).toNat)
  case atStart => exact ⟨0, Nat.zero_le _, rfl, Lib.hid (by rw [List.drop_zero, Nat.zero_add]), Lib.hid (.inl rfl)⟩
  case round =>
    obtain ⟨k, hk, rfl, HC, HL⟩ := hrel
    by_cases h : k < s.size
    · have hb := s[k].toNat_lt
      have L1 := Lib.hid (fun W => LT.out s[k] W)
      have D1 := Lib.hid (fun W => DG.out s[k] W)
      by_cases k0 : k = 0
      · subst k0
        have f0 := fr_first rLet s h
        cases c0 : rLet s[0] with
        | true =>
          rw [c0] at L1
          have HN := Lib.hid (cnt_at_yes h HC.out (rLet_sch c0))
          have HM : Hid (0 + 1 = 0 ∨ frP rLet s.data.toList = true) := Lib.hid (.inr (f0.trans c0))
          clear HC HL f0 c0 D1
          go_wp2_with fail
          refine (L1.out _).mono ?_
          rintro e w9 ⟨rfl, rfl⟩
          go_wp2_with fail
          go_round
          case rel => exact ⟨0 + 1, h, by go_num, HN, HM⟩
          case measure => simp [RowKit.intOf]; omega
        | false =>
          rw [c0] at L1
          have HF := f0.trans c0
          have HN := Lib.hid (sch_no (t := s.data.toList) HF)
          clear HC HL f0 c0 D1 HF
          go_wp2_with fail
          refine (L1.out _).mono ?_
          rintro e w9 ⟨rfl, rfl⟩
          go_wp2_with fail
          go_ret
          exact ⟨ret_int (by rw [HN.out]; rfl), rfl⟩
      · have hk0 : 0 < k := by omega
        have q0 : decide (0 < k) = true := decide_eq_true hk0
        have HF : frP rLet s.data.toList = true := by
          rcases HL.out with e | e
          · exact absurd e k0
          · exact e
        have HM : Hid (k + 1 = 0 ∨ frP rLet s.data.toList = true) := Lib.hid (.inr HF)
        cases c0 : rLet s[k] with
        | true =>
          rw [c0] at L1
          have HN := Lib.hid (cnt_at_yes h HC.out (by simp [rSch, c0]))
          clear HC HL HF k0 c0
          go_wp2_with fail
          refine (L1.out _).mono ?_
          rintro e w9 ⟨rfl, rfl⟩
          go_wp2_with fail
          go_round
          case rel => exact ⟨k + 1, h, by go_num, HN, HM⟩
          case measure => simp [RowKit.intOf]; omega
        | false =>
          rw [c0] at L1
          cases c1 : rDig s[k] with
          | true =>
            rw [c1] at D1
            have HN := Lib.hid (cnt_at_yes h HC.out (by simp [rSch, c0, c1]))
            clear HC HL HF k0 c0 c1
            go_wp2_with fail
            refine (L1.out _).mono ?_
            rintro e w9 ⟨rfl, rfl⟩
            go_wp2_with fail
            refine (D1.out _).mono ?_
            rintro e w9 ⟨rfl, rfl⟩
            go_wp2_with fail
            go_round
            case rel => exact ⟨k + 1, h, by go_num, HN, HM⟩
            case measure => simp [RowKit.intOf]; omega
          | false =>
            rw [c1] at D1
            by_cases d2 : s[k].toNat = 43
            · have p2 := beqT (show (s[k].toNat : Int) = 43 by omega)
              have HN := Lib.hid (cnt_at_yes h HC.out (by simp [rSch, c0, c1, d2]))
              clear HC HL HF k0 c0 c1 d2
              go_wp2_with fail
              refine (L1.out _).mono ?_
              rintro e w9 ⟨rfl, rfl⟩
              go_wp2_with fail
              refine (D1.out _).mono ?_
              rintro e w9 ⟨rfl, rfl⟩
              go_wp2_with fail
              go_round
              case rel => exact ⟨k + 1, h, by go_num, HN, HM⟩
              case measure => simp [RowKit.intOf]; omega
            · have p2 := beqF (show ¬ (s[k].toNat : Int) = 43 by omega)
              by_cases d3 : s[k].toNat = 46
              · have p3 := beqT (show (s[k].toNat : Int) = 46 by omega)
                have HN := Lib.hid (cnt_at_yes h HC.out (by simp [rSch, c0, c1, d3]))
                clear HC HL HF k0 c0 c1 d2 d3
                go_wp2_with fail
                refine (L1.out _).mono ?_
                rintro e w9 ⟨rfl, rfl⟩
                go_wp2_with fail
                refine (D1.out _).mono ?_
                rintro e w9 ⟨rfl, rfl⟩
                go_wp2_with fail
                go_round
                case rel => exact ⟨k + 1, h, by go_num, HN, HM⟩
                case measure => simp [RowKit.intOf]; omega
              · have p3 := beqF (show ¬ (s[k].toNat : Int) = 46 by omega)
                by_cases d4 : s[k].toNat = 45
                · have p4 := beqT (show (s[k].toNat : Int) = 45 by omega)
                  have HN := Lib.hid (cnt_at_yes h HC.out (by simp [rSch, c0, c1, d4]))
                  clear HC HL HF k0 c0 c1 d2 d3 d4
                  go_wp2_with fail
                  refine (L1.out _).mono ?_
                  rintro e w9 ⟨rfl, rfl⟩
                  go_wp2_with fail
                  refine (D1.out _).mono ?_
                  rintro e w9 ⟨rfl, rfl⟩
                  go_wp2_with fail
                  go_round
                  case rel => exact ⟨k + 1, h, by go_num, HN, HM⟩
                  case measure => simp [RowKit.intOf]; omega
                · have p4 := beqF (show ¬ (s[k].toNat : Int) = 45 by omega)
                  have HE := Lib.hid (cnt_at_no h HC.out (by simp [rSch, c0, c1, d2, d3, d4]))
                  by_cases g1 : k < 2
                  · have HN := Lib.hid (sch_few HE.out g1)
                    have r1 : decide ((k : Int) < 2) = true := decide_eq_true (by omega)
                    clear HC HL HM k0 c0 c1 d2 d3 d4 HE
                    go_wp2_with fail
                    refine (L1.out _).mono ?_
                    rintro e w9 ⟨rfl, rfl⟩
                    go_wp2_with fail
                    refine (D1.out _).mono ?_
                    rintro e w9 ⟨rfl, rfl⟩
                    go_wp2_with fail
                    go_ret
                    exact ⟨ret_int (by rw [HN.out]; rfl), rfl⟩
                  · have r1 : decide ((k : Int) < 2) = false := decide_eq_false (by omega)
                    by_cases g2 : 32 < k
                    · have HN := Lib.hid (sch_many HE.out g2)
                      have r2 : decide ((32 : Int) < (k : Int)) = true := decide_eq_true (by omega)
                      clear HC HL HM k0 c0 c1 d2 d3 d4 HE
                      go_wp2_with fail
                      refine (L1.out _).mono ?_
                      rintro e w9 ⟨rfl, rfl⟩
                      go_wp2_with fail
                      refine (D1.out _).mono ?_
                      rintro e w9 ⟨rfl, rfl⟩
                      go_wp2_with fail
                      go_ret
                      exact ⟨ret_int (by rw [HN.out]; rfl), rfl⟩
                    · have r2 : decide ((32 : Int) < (k : Int)) = false := decide_eq_false (by omega)
                      have r3 := beqF (show ¬ (k : Int) = (s.size : Int) by omega)
                      by_cases g3 : s[k].toNat = 58
                      · have q3 := bneF (show (s[k].toNat : Int) = 58 by omega)
                        have HN := Lib.hid (sch_yes HE.out (by omega) (by omega) HF (by rw [fr_at _ s k h]; exact decide_eq_true g3))
                        clear HC HL HM k0 c0 c1 d2 d3 d4 HE HF g3
                        go_wp2_with fail
                        refine (L1.out _).mono ?_
                        rintro e w9 ⟨rfl, rfl⟩
                        go_wp2_with fail
                        refine (D1.out _).mono ?_
                        rintro e w9 ⟨rfl, rfl⟩
                        go_wp2_with fail
                        go_ret
                        exact ⟨ret_int (by rw [HN.out]; omega), rfl⟩
                      · have q3 := bneT (show ¬ (s[k].toNat : Int) = 58 by omega)
                        have HN := Lib.hid (sch_bare HE.out (by rw [fr_at _ s k h]; exact decide_eq_false g3))
                        clear HC HL HM k0 c0 c1 d2 d3 d4 HE HF g3
                        go_wp2_with fail
                        refine (L1.out _).mono ?_
                        rintro e w9 ⟨rfl, rfl⟩
                        go_wp2_with fail
                        refine (D1.out _).mono ?_
                        rintro e w9 ⟨rfl, rfl⟩
                        go_wp2_with fail
                        go_ret
                        exact ⟨ret_int (by rw [HN.out]; rfl), rfl⟩
    · have HE : Hid (cntP rSch s.data.toList = k) := Lib.hid (by rw [HC.out, List.drop_eq_nil_of_le (by rw [bytes_len]; omega)]; rfl)
      by_cases g1 : k < 2
      · have HN := Lib.hid (sch_few HE.out g1)
        have r1 : decide ((k : Int) < 2) = true := decide_eq_true (by omega)
        clear HC HL HE
        go_wp2_with fail
        go_ret
        exact ⟨ret_int (by rw [HN.out]; rfl), rfl⟩
      · have r1 : decide ((k : Int) < 2) = false := decide_eq_false (by omega)
        by_cases g2 : 32 < k
        · have HN := Lib.hid (sch_many HE.out g2)
          have r2 : decide ((32 : Int) < (k : Int)) = true := decide_eq_true (by omega)
          clear HC HL HE
          go_wp2_with fail
          go_ret
          exact ⟨ret_int (by rw [HN.out]; rfl), rfl⟩
        · have r2 : decide ((32 : Int) < (k : Int)) = false := decide_eq_false (by omega)
          have r3 := beqT (show (k : Int) = (s.size : Int) by omega)
          have HN := Lib.hid (sch_bare HE.out (by rw [List.drop_eq_nil_of_le (by rw [bytes_len]; omega)]; rfl))
          clear HC HL HE
          go_wp2_with fail
          go_ret
          exact ⟨ret_int (by rw [HN.out]; rfl), rfl⟩
end Go.Proofs.YtggeknhggpdpkaaGreatDoor
