/-
  Contract of Ref, of the document's answer: the walk.
-/
import Derived.Test.YtmljngahlkhihaaDoorNmi
import Derived.Test.YtmljngahlkhihaaDoorNme
namespace Go.Proofs.YtmljngahlkhihaaDoor
open Go.RowKit Go.Lib

theorem rref_not (s : ByteArray) (w : World) (hs : s.size ≤ 100000) (h : s.size < 3 ∨ ∃ h : 0 < s.size, s[0].toNat ≠ 38) :
    Calls Tryd.prog 11 #[.string s] w fun e w' => e = .returned (.tuple #[.string ⟨(refB s.data.toList).toArray⟩, .int .i64 (refL s.data.toList).2]) ∧ Keeps w w' := by
  have E : refL s.data.toList = (0, 0) := by
    rcases h with h | ⟨h0, h1⟩
    · rcases refL_facts s.data.toList with e | e
      · exact e
      · rw [bytes_len] at e; omega
    · refine refL_no ?_
      rw [pre_first s h0]
      exact beq_eq_false_iff_ne.2 (fun e => h1 (by rw [← e]; rfl))
  have EB : refB s.data.toList = [] := by unfold refB; rw [E]; rfl
  rw [E, EB]
  clear E EB
  by_cases h1 : s.size < 3
  · clear h
    go_enter Tryd.func11, Tryd.ntmps11
    go_wp2_with fail
    go_ret2
    exact ⟨rfl, Keeps.refl w⟩
  · obtain ⟨h2, h3⟩ := h.resolve_left h1
    have t0 : ((s[0].toNat : Int) == 38) = false := beq_eq_false_iff_ne.2 (by omega)
    have t1 : ((s[0].toNat : Int) != 38) = true := by rw [bne, t0]; rfl
    clear h h3
    go_enter Tryd.func11, Tryd.ntmps11
    go_wp2_with fail
    go_ret2
    exact ⟨rfl, Keeps.refl w⟩
/-- Where the loop over a reference's inside stands still. -/
structure StopAt (s : ByteArray) (k : Nat) : Prop where
  all : ∀ (j : Nat) (h : j < s.size), 1 ≤ j → j < k → okC s[j] = true
  stop : k = s.size ∨ k = 34 ∨ ∀ (h : k < s.size), okC s[k] = false
def LeftAt (s : ByteArray) (v : Value) : Prop := ∃ k : Nat, 1 ≤ k ∧ k ≤ s.size ∧ k ≤ 34 ∧ Hid (StopAt s k) ∧ v = .int .i64 k
theorem okC_int {b : UInt8} : okC b = (letB b || decide (48 ≤ (b.toNat : Int) ∧ (b.toNat : Int) ≤ 57) || decide ((b.toNat : Int) = 35)) := by
  unfold okC alnB letB
  rw [Bool.eq_iff_iff]
  simp only [Bool.or_eq_true, Bool.and_eq_true, decide_eq_true_eq]
  have : b = 35 ↔ b.toNat = 35 := ⟨fun h => by rw [h]; rfl, fun h => UInt8.toNat_inj.1 h⟩
  rw [this]
  omega
set_option maxRecDepth 100000 in
set_option maxHeartbeats 4000000 in
theorem rref_amp (s : ByteArray) (w : World) (hs : s.size ≤ 100000) (h3 : 3 ≤ s.size) (h0 : s[0].toNat = 38) :
    Calls Tryd.prog 11 #[.string s] w fun e w' => e = .returned (.tuple #[.string ⟨(refB s.data.toList).toArray⟩, .int .i64 (refL s.data.toList).2]) ∧ Keeps w w' := by
  have t0 : ((s[0].toNat : Int) == 38) = true := beq_iff_eq.2 (by omega)
  have t1 : ((s[0].toNat : Int) != 38) = false := by rw [bne, t0]; rfl
  have LT := Lib.hid (fun b W => letter_any b W)
  have H0 := Lib.hid h0
  clear h0
  go_enter Tryd.func11, Tryd.ntmps11
  go_upto_block 0 with fail
  go_cut [4] (fun v wx => LeftAt s v ∧ wx = w)
  case first =>
    go_wp2_with fail
    go_loop [4] (fun v => ∃ k : Nat, 1 ≤ k ∧ k ≤ s.size ∧ k ≤ 34 ∧ Hid (∀ (j : Nat) (h : j < s.size), 1 ≤ j → j < k → okC s[j] = true) ∧ v = .int .i64 k) (fun v => s.size - (RowKit.intOf v).toNat)
    case atStart => exact ⟨1, by omega, by omega, by omega, Lib.hid (fun j h h1 h2 => by omega), rfl⟩
    case round =>
      obtain ⟨k, hk1, hk, hk34, HA, rfl⟩ := hrel
      have LEAVE : Hid ((k = s.size ∨ k = 34 ∨ ∀ (h : k < s.size), okC s[k] = false) → LeftAt s (.int .i64 k)) := Lib.hid fun h => ⟨k, hk1, hk, hk34, Lib.hid ⟨HA.out, h⟩, rfl⟩
      by_cases c : k < s.size
      · by_cases c2 : k < 34
        · have hb := s[k].toNat_lt
          have L1 := Lib.hid (fun W => LT.out s[k] W)
          have OK := Lib.hid (okC_int (b := s[k]))
          have NEXT : Hid (okC s[k] = true → ∀ (j : Nat) (h : j < s.size), 1 ≤ j → j < k + 1 → okC s[j] = true) := Lib.hid fun h j hj h1 h2 => by
            rcases Nat.lt_or_ge j k with h' | h'
            · exact HA.out j hj h1 h'
            · obtain rfl : j = k := by omega
              exact h
          cases c3 : letB s[k] with
          | true =>
            rw [c3] at L1 OK
            have NX := Lib.hid (NEXT.out (by rw [OK.out]; rfl))
            clear c3
            go_wp2_with fail
            refine (L1.out _).mono ?_
            rintro e w1 ⟨rfl, rfl⟩
            go_wp2_with fail
            go_round
            case rel => exact ⟨k + 1, by omega, by omega, by omega, NX, by go_num⟩
            case measure => simp [RowKit.intOf]; omega
          | false =>
            rw [c3] at L1 OK
            clear c3
            by_cases c4 : 48 ≤ (s[k].toNat : Int) ∧ (s[k].toNat : Int) ≤ 57
            · have NX := Lib.hid (NEXT.out (by rw [OK.out, decide_eq_true c4]; rfl))
              obtain ⟨c4, c5⟩ := c4
              go_wp2_with fail
              refine (L1.out _).mono ?_
              rintro e w1 ⟨rfl, rfl⟩
              go_wp2_with fail
              go_round
              case rel => exact ⟨k + 1, by omega, by omega, by omega, NX, by go_num⟩
              case measure => simp [RowKit.intOf]; omega
            · by_cases c5 : (s[k].toNat : Int) = 35
              · have NX := Lib.hid (NEXT.out (by rw [OK.out, decide_eq_true c5, Bool.or_true]))
                have q5 : ((s[k].toNat : Int) == 35) = true := beq_iff_eq.2 c5
                have q6 : (s[k].toNat : Int) < 48 := by omega
                clear c4 c5
                go_wp2_with fail
                refine (L1.out _).mono ?_
                rintro e w1 ⟨rfl, rfl⟩
                go_wp2_with fail
                go_round
                case rel => exact ⟨k + 1, by omega, by omega, by omega, NX, by go_num⟩
                case measure => simp [RowKit.intOf]; omega
              · have LV := Lib.hid (LEAVE.out (.inr (.inr fun _ => by rw [OK.out, decide_eq_false c4, decide_eq_false c5]; rfl)))
                have q5 : ((s[k].toNat : Int) == 35) = false := beq_eq_false_iff_ne.2 c5
                have q6 : (s[k].toNat : Int) < 48 ∨ 57 < (s[k].toNat : Int) := by omega
                clear c4 c5
                rcases q6 with q6 | q6
                all_goals
                  go_wp2_with fail
                  refine (L1.out _).mono ?_
                  rintro e w1 ⟨rfl, rfl⟩
                  go_wp2_with fail
                  go_meet
                  case rel => exact ⟨LV.out, rfl⟩
        · have LV := Lib.hid (LEAVE.out (.inr (.inl (by omega))))
          go_wp2_with fail
          go_meet
          case rel => exact ⟨LV.out, rfl⟩
      · have LV := Lib.hid (LEAVE.out (.inl (by omega)))
        go_wp2_with fail
        go_meet
        case rel => exact ⟨LV.out, rfl⟩
  case rest =>
    obtain ⟨⟨k, hk1, hk, hk34, HS, rfl⟩, rfl⟩ := hcut
    obtain ⟨r, hr⟩ : ∃ r, s.data.toList.drop 1 = r := ⟨_, rfl⟩
    have hsr : s.data.toList = 38 :: r := by
      have a := drop_cons s.data.toList 0 (by rw [bytes_len]; omega)
      rw [List.drop_zero] at a
      rw [a, hr]
      exact congrArg (· :: r) (show s[0] = 38 from UInt8.toNat_inj.1 H0.out)
    have hrl : r.length = s.size - 1 := by rw [← hr, List.length_drop, bytes_len]
    have hat : ∀ (j : Nat) (h : j < r.length) (h' : 1 + j < s.size), r[j] = s[1 + j] := by
      subst hr
      exact fun j h h' => at_drop s 1 j h h'
    have hall : ∀ (j : Nat) (h : j < r.length), j < k - 1 → okC r[j] = true := fun j h hj => by
      rw [hat j h (by omega)]
      exact HS.out.all (1 + j) (by omega) (by omega) (by omega)
    have hstop : k - 1 = r.length ∨ k - 1 = 33 ∨ ∀ (h : k - 1 < r.length), okC r[k - 1] = false := by
      rcases HS.out.stop with h | h | h
      · exact .inl (by omega)
      · exact .inr (.inl (by omega))
      · refine .inr (.inr fun h' => ?_)
        have e := hat (k - 1) h' (by omega)
        rw [e]
        have := h (by omega)
        simp only [show 1 + (k - 1) = k by omega]
        exact this
    by_cases c1 : k = s.size
    · have E := stop_none (k := k - 1) (by omega) hall hstop (fun h => by omega)
      rw [← hsr] at E
      have EB : refB s.data.toList = [] := by unfold refB; rw [E]; rfl
      have E1 := Lib.hid E
      have E2 := Lib.hid EB
      clear E EB hall hstop hat hrl hsr hr HS
      subst c1
      go_wp2_with fail
      go_ret2
      exact ⟨by rw [E1.out, E2.out]; rfl, Keeps.refl _⟩
    · have c2 : k < s.size := by omega
      have tk : ((k : Int) == (s.size : Int)) = false := beq_eq_false_iff_ne.2 (by omega)
      have tk2 : (k == s.size) = false := beq_eq_false_iff_ne.2 c1
      clear c1
      have hrk : ∀ h : k - 1 < r.length, r[k - 1] = s[k] := fun h => by
        have e := hat (k - 1) h (by omega)
        rw [e]
        simp only [show 1 + (k - 1) = k by omega]
      by_cases c3 : s[k].toNat = 59
      · have E := stop_some (k := k - 1) (by omega) hall (by rw [hrk (by omega)]; exact UInt8.toNat_inj.1 c3)
        rw [← hsr, show k - 1 + 2 = k + 1 by omega] at E
        have tz : ((s[k].toNat : Int) == 59) = true := beq_iff_eq.2 (by omega)
        have tz2 : ((s[k].toNat : Int) != 59) = false := by rw [bne, tz]; rfl
        have HT : (s.extract 1 k).data.toList = r.take (k - 1) := by rw [Lib.extract_data, hr]
        have HZ : (s.extract 1 k).size = k - 1 := by rw [ByteArray.size_extract]; omega
        rw [← HT] at E
        have HE := Lib.hid E
        clear E hall hstop hat hrl hsr hr HS c3 hrk HT H0
        go_upto_block 2 with fail
        generalize s.extract 1 k = t at *
        have tsz : t.size ≤ 40 := by omega
        clear HZ
        go_cut [6, 7] (fun x ok wx => x = .int .i32 (refT t.data.toList) ∧ ok = .bool (!decide (refT t.data.toList = 0)) ∧ Keeps wc wx)
        case first =>
          have RN := Lib.hid (fun W => rname_any t W)
          have R16 := Lib.hid (fun W => rnumber_hex (t.extract 2 t.size) W (by unfold maxLen; rw [ByteArray.size_extract]; omega))
          have R10 := Lib.hid (fun W => rnumber_dec (t.extract 1 t.size) W (by unfold maxLen; rw [ByteArray.size_extract]; omega))
          rw [Lib.extract_to_end] at R16 R10
          by_cases d0 : 0 < t.size
          · have n1 := tl_empty d0
            have n2 := tl_ne d0
            by_cases d1 : t[0].toNat = 35
            · have q1 : ((t[0].toNat : Int) == 35) = true := beq_iff_eq.2 (by omega)
              by_cases d2 : 1 < t.size
              · by_cases d3 : t[1].toNat = 120
                · have q2 : ((t[1].toNat : Int) == 120) = true := beq_iff_eq.2 (by omega)
                  have E := Lib.hid (in_hex t d2 d1 (.inl d3))
                  clear d1 d3
                  go_wp2_with fail
                  refine (R16.out _).mono ?_
                  rintro e w1 ⟨rfl, rfl⟩
                  go_wp2_with fail
                  go_meet
                  case rel => exact ⟨by rw [E.out], by rw [E.out], Keeps.refl _⟩
                · have q2 : ((t[1].toNat : Int) == 120) = false := beq_eq_false_iff_ne.2 (by omega)
                  by_cases d4 : t[1].toNat = 88
                  · have q3 : ((t[1].toNat : Int) == 88) = true := beq_iff_eq.2 (by omega)
                    have E := Lib.hid (in_hex t d2 d1 (.inr d4))
                    clear d1 d3 d4
                    go_wp2_with fail
                    refine (R16.out _).mono ?_
                    rintro e w1 ⟨rfl, rfl⟩
                    go_wp2_with fail
                    go_meet
                    case rel => exact ⟨by rw [E.out], by rw [E.out], Keeps.refl _⟩
                  · have q3 : ((t[1].toNat : Int) == 88) = false := beq_eq_false_iff_ne.2 (by omega)
                    have E := Lib.hid (in_dec t (fun ⟨_, _, h⟩ => h.elim d3 d4) d0 d1)
                    clear d1 d3 d4
                    go_wp2_with fail
                    refine (R10.out _).mono ?_
                    rintro e w1 ⟨rfl, rfl⟩
                    go_wp2_with fail
                    go_meet
                    case rel => exact ⟨by rw [E.out, List.drop_one], by rw [E.out, List.drop_one], Keeps.refl _⟩
              · have E := Lib.hid (in_dec t (fun ⟨h, _⟩ => d2 h) d0 d1)
                clear d1
                go_wp2_with fail
                refine (R10.out _).mono ?_
                rintro e w1 ⟨rfl, rfl⟩
                go_wp2_with fail
                go_meet
                case rel => exact ⟨by rw [E.out, List.drop_one], by rw [E.out, List.drop_one], Keeps.refl _⟩
            · have q1 : ((t[0].toNat : Int) == 35) = false := beq_eq_false_iff_ne.2 (by omega)
              have E := Lib.hid (in_name t (fun ⟨_, h⟩ => d1 h))
              clear d1
              by_cases d2 : 1 < t.size
              · skip
                go_wp2_with fail
                refine (RN.out _).mono ?_
                rintro e w1 ⟨rfl, k1⟩
                have K1 := Lib.hid k1
                clear k1
                go_wp2_with fail
                go_meet
                case rel => exact ⟨by rw [E.out], by rw [E.out], K1.out⟩
              · skip
                go_wp2_with fail
                refine (RN.out _).mono ?_
                rintro e w1 ⟨rfl, k1⟩
                have K1 := Lib.hid k1
                clear k1
                go_wp2_with fail
                go_meet
                case rel => exact ⟨by rw [E.out], by rw [E.out], K1.out⟩
          · have E := Lib.hid (in_name t (fun ⟨h, _⟩ => d0 h))
            have n1 : t.toList.isEmpty = true := by
              rw [Lib.toList_data, List.eq_nil_of_length_eq_zero (by rw [bytes_len]; omega : t.data.toList.length = 0)]; rfl
            have n2 : t.toList = [] := List.isEmpty_iff.1 n1
            go_wp2_with fail
            refine (RN.out _).mono ?_
            rintro e w1 ⟨rfl, k1⟩
            have K1 := Lib.hid k1
            clear k1
            go_wp2_with fail
            go_meet
            case rel => exact ⟨by rw [E.out], by rw [E.out], K1.out⟩
        case rest =>
          obtain ⟨rfl, rfl, k0⟩ := hcut
          have K0 := Lib.hid k0
          clear k0
          by_cases hz : refT t.data.toList = 0
          · have E1 : Hid (refL s.data.toList = (0, 0)) := Lib.hid (HE.out.trans (if_neg (fun h => h hz)))
            have E2 : Hid (refB s.data.toList = []) := Lib.hid (by unfold refB; rw [E1.out]; rfl)
            rw [hz]
            clear hz HE
            go_wp2_with fail
            go_ret2
            exact ⟨by rw [E1.out, E2.out]; rfl, K0.out⟩
          · have E1 : Hid (refL s.data.toList = (refT t.data.toList, k + 1)) := Lib.hid (HE.out.trans (if_pos hz))
            have E2 : Hid (refB s.data.toList = encodeRune (refT t.data.toList : Nat)) := Lib.hid (refB_of E1.out (by omega))
            have kc := one_rune wc (refT t.data.toList : Nat) (refT_facts hz).2.2.2
            have hb := (refT_facts hz).2.2.2
            have hd : decide (refT t.data.toList = 0) = false := decide_eq_false hz
            rw [hd]
            clear hz HE hd hb
            generalize refT t.data.toList = z at *
            generalize encodeRune (z : Nat) = E at *
            go_wp2_with fail
            go_ret2
            exact ⟨by rw [E1.out, E2.out]; rfl, K0.out.alloc _⟩
      · have E := stop_none (k := k - 1) (by omega) hall hstop (fun h e => c3 (by rw [hrk h] at e; rw [e]; rfl))
        rw [← hsr] at E
        have EB : refB s.data.toList = [] := by unfold refB; rw [E]; rfl
        have E1 := Lib.hid E
        have E2 := Lib.hid EB
        have tz : ((s[k].toNat : Int) == 59) = false := beq_eq_false_iff_ne.2 (by omega)
        have tz2 : ((s[k].toNat : Int) != 59) = true := by rw [bne, tz]; rfl
        clear E EB hall hstop hat hrl hsr hr HS c3 hrk
        go_wp2_with fail
        go_ret2
        exact ⟨by rw [E1.out, E2.out]; rfl, Keeps.refl _⟩
theorem rref_any (s : ByteArray) (w : World) (hs : s.size ≤ 100000) :
    Calls Tryd.prog 11 #[.string s] w fun e w' => e = .returned (.tuple #[.string ⟨(refB s.data.toList).toArray⟩, .int .i64 (refL s.data.toList).2]) ∧ Keeps w w' := by
  by_cases h : s.size < 3
  · exact rref_not s w hs (.inl h)
  · by_cases h0 : s[0].toNat = 38
    · exact rref_amp s w hs (by omega) h0
    · exact rref_not s w hs (.inr ⟨by omega, h0⟩)
end Go.Proofs.YtmljngahlkhihaaDoor
