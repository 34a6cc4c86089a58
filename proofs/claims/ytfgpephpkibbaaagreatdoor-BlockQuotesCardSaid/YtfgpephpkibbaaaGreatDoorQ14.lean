/-
  Texts of the proof, one behind the other: Spc, Rwa.
-/
import Derived.Test.YtfgpephpkibbaaaGreatDoorQ6
import Derived.Test.YtfgpephpkibbaaaGreatDoorQ3
import Derived.Test.YtfgpephpkibbaaaGreatDoorQ8
import Derived.LoopTactic
import Derived.Test.YtfgpephpkibbaaaGreatDoorQ4
/-
  Contract of Spaces, of the package target, for texts of at most 100,000 bytes.
-/
namespace Go.Proofs.YtfgpephpkibbaaaGreatDoor
open Go.RowKit Go.Lib

theorem drop_at (s : ByteArray) (p : Nat) (h : p < s.size) : s.data.toList.drop p = s[p] :: s.data.toList.drop (p + 1) := drop_cons s.data.toList p (by rw [bytes_len]; exact h)
set_option maxRecDepth 100000 in
set_option maxHeartbeats 1000000 in
theorem spaces_any (s : ByteArray) (one : Bool) (w : World) (hs : s.size ≤ 100000) :
    Calls Tryz.prog 152 #[.string s, .bool one] w fun e w' => e = .returned (.int .i64 (spcN one false s.data.toList : Nat)) ∧ w = w' := by
  have hl := Lib.hid (bytes_len s)
  go_enter Tryz.func152, Tryz.ntmps152
  go_wp2_with fail
  go_loop [5, 9] (fun v i => ∃ (k : Nat) (e : Bool), k ≤ s.size ∧ v = .bool e ∧ i = .int .i64 k ∧ Hid (spcN one false s.data.toList = k + spcN one e (s.data.toList.drop k))) (fun _ i => s.size - (RowKit.intOf i).toNat)
  case atStart => exact ⟨0, false, Nat.zero_le _, rfl, rfl, Lib.hid (by rw [List.drop_zero, Nat.zero_add])⟩
  case round =>
    obtain ⟨k, e, hk, rfl, rfl, HC⟩ := hrel
    by_cases h : k < s.size
    · have hb := s[k].toNat_lt
      have HE : Hid (spcN one false s.data.toList = k + if s[k].toNat = 32 ∨ s[k].toNat = 9 then spcN one e (s.data.toList.drop (k + 1)) + 1 else if s[k].toNat = 10 then (if (one && e) = true then 0 else spcN one true (s.data.toList.drop (k + 1)) + 1) else 0) := Lib.hid (by rw [HC.out, drop_at s k h]; rfl)
      clear HC
      by_cases c1 : s[k].toNat = 32
      · have q1 := beqT (show (s[k].toNat : Int) = 32 by omega)
        have HN : Hid (spcN one false s.data.toList = (k + 1) + spcN one e (s.data.toList.drop (k + 1))) := Lib.hid (by rw [HE.out, if_pos (.inl c1)]; omega)
        clear HE c1
        go_wp2_with fail
        go_round
        case rel => exact ⟨k + 1, e, h, rfl, by go_num, HN⟩
        case measure => simp [RowKit.intOf]; omega
      · have q1 := beqF (show ¬ (s[k].toNat : Int) = 32 by omega)
        by_cases c2 : s[k].toNat = 9
        · have q2 := beqT (show (s[k].toNat : Int) = 9 by omega)
          have HN : Hid (spcN one false s.data.toList = (k + 1) + spcN one e (s.data.toList.drop (k + 1))) := Lib.hid (by rw [HE.out, if_pos (.inr c2)]; omega)
          clear HE c1 c2
          go_wp2_with fail
          go_round
          case rel => exact ⟨k + 1, e, h, rfl, by go_num, HN⟩
          case measure => simp [RowKit.intOf]; omega
        · have q2 := beqF (show ¬ (s[k].toNat : Int) = 9 by omega)
          by_cases c3 : s[k].toNat = 10
          · have q3 := beqT (show (s[k].toNat : Int) = 10 by omega)
            have HF := Lib.hid (HE.out.trans (by rw [if_neg (by omega), if_pos c3]))
            clear HE c1 c2 c3
            cases one with
            | true =>
              cases e with
              | true =>
                have HN : Hid (spcN true false s.data.toList = k) := Lib.hid HF.out
                clear HF
                go_wp2_with fail
                go_ret
                exact ⟨ret_int (by rw [HN.out]), rfl⟩
              | false =>
                have HN : Hid (spcN true false s.data.toList = (k + 1) + spcN true true (s.data.toList.drop (k + 1))) := Lib.hid (by rw [HF.out, if_neg (by decide)]; omega)
                clear HF
                go_wp2_with fail
                go_round
                case rel => exact ⟨k + 1, true, h, rfl, by go_num, HN⟩
                case measure => simp [RowKit.intOf]; omega
            | false =>
              have HN : Hid (spcN false false s.data.toList = (k + 1) + spcN false true (s.data.toList.drop (k + 1))) := Lib.hid (by rw [HF.out, if_neg (by simp)]; omega)
              clear HF
              go_wp2_with fail
              go_round
              case rel => exact ⟨k + 1, true, h, rfl, by go_num, HN⟩
              case measure => simp [RowKit.intOf]; omega
          · have q3 := beqF (show ¬ (s[k].toNat : Int) = 10 by omega)
            have HN : Hid (spcN one false s.data.toList = k) := Lib.hid (by rw [HE.out, if_neg (by omega), if_neg c3]; rfl)
            clear HE c1 c2 c3
            go_wp2_with fail
            go_ret
            exact ⟨ret_int (by rw [HN.out]), rfl⟩
    · have hk2 : k = s.size := by omega
      have HN : Hid (spcN one false s.data.toList = s.size) := Lib.hid (by
        rw [HC.out, List.drop_eq_nil_of_le (by rw [bytes_len]; omega)]
        show k + 0 = s.size
        omega)
      clear HC
      go_wp2_with fail
      go_ret
      exact ⟨ret_int (by rw [HN.out]), rfl⟩
end Go.Proofs.YtfgpephpkibbaaaGreatDoor

/-
  Contracts of letter, digit, inName, inAttribute, inValue, of the package raw, and of stretch at each of these. (Written by wip/tools/rawgen.py.)
-/
namespace Go.Proofs.YtfgpephpkibbaaaGreatDoor
open Go.RowKit Go.Lib

def iLet (x : Int) : Bool := decide ((97 ≤ x ∧ x ≤ 122) ∨ (65 ≤ x ∧ x ≤ 90))
def iDig (x : Int) : Bool := decide (48 ≤ x ∧ x ≤ 57)
theorem iLet_nat (b : UInt8) : rLet b = iLet (b.toNat : Nat) := by
  unfold rLet iLet
  rw [Bool.eq_iff_iff]
  simp only [Bool.or_eq_true, decide_eq_true_eq]
  omega
theorem iDig_nat (b : UInt8) : rDig b = iDig (b.toNat : Nat) := by
  unfold rDig iDig
  rw [Bool.eq_iff_iff]
  simp only [decide_eq_true_eq]
  omega
set_option maxRecDepth 100000 in
theorem rletter_go (x : Int) (w : World) (h0 : 0 ≤ x) (h1 : x < 256) :
    Calls Tryz.prog 185 #[.int .u8 x] w fun e w' => e = .returned (.bool (iLet x)) ∧ w = w' := by
  have hw : x < 65 ∨ (65 ≤ x ∧ x ≤ 90) ∨ (90 < x ∧ x < 97) ∨ (97 ≤ x ∧ x ≤ 122) ∨ 122 < x := by omega
  rcases hw with a | ⟨a, b⟩ | ⟨a, b⟩ | ⟨a, b⟩ | a
  · rw [show iLet x = false from decide_eq_false (by omega)]
    go_enter Tryz.func185, Tryz.ntmps185
    go_wp2
    go_ret
    exact ⟨rfl, rfl⟩
  · rw [show iLet x = true from decide_eq_true (by omega)]
    go_enter Tryz.func185, Tryz.ntmps185
    go_wp2
    go_ret
    exact ⟨ret_bool (by first | rfl | (simp; omega)), rfl⟩
  · rw [show iLet x = false from decide_eq_false (by omega)]
    go_enter Tryz.func185, Tryz.ntmps185
    go_wp2
    go_ret
    exact ⟨ret_bool (by first | rfl | (simp; omega)), rfl⟩
  · rw [show iLet x = true from decide_eq_true (by omega)]
    go_enter Tryz.func185, Tryz.ntmps185
    go_wp2
    go_ret
    exact ⟨ret_bool (by first | rfl | (simp; omega)), rfl⟩
  · rw [show iLet x = false from decide_eq_false (by omega)]
    go_enter Tryz.func185, Tryz.ntmps185
    go_wp2
    go_ret
    exact ⟨ret_bool (by first | rfl | (simp; omega)), rfl⟩
theorem rletter_any (b : UInt8) (w : World) :
    Calls Tryz.prog 185 #[.int .u8 (b.toNat : Nat)] w fun e w' => e = .returned (.bool (rLet b)) ∧ w = w' := by
  have hb := b.toNat_lt
  rw [iLet_nat]
  exact rletter_go _ w (by omega) (by omega)
set_option maxRecDepth 100000 in
theorem wdigit_go (x : Int) (w : World) (h0 : 0 ≤ x) (h1 : x < 256) :
    Calls Tryz.prog 199 #[.int .u8 x] w fun e w' => e = .returned (.bool (iDig x)) ∧ w = w' := by
  have hw : x < 48 ∨ (48 ≤ x ∧ x ≤ 57) ∨ 57 < x := by omega
  rcases hw with a | ⟨a, b⟩ | a
  · rw [show iDig x = false from decide_eq_false (by omega)]
    go_enter Tryz.func199, Tryz.ntmps199
    go_wp2
    go_ret
    exact ⟨rfl, rfl⟩
  · rw [show iDig x = true from decide_eq_true (by omega)]
    go_enter Tryz.func199, Tryz.ntmps199
    go_wp2
    go_ret
    exact ⟨ret_bool (by first | rfl | (simp; omega)), rfl⟩
  · rw [show iDig x = false from decide_eq_false (by omega)]
    go_enter Tryz.func199, Tryz.ntmps199
    go_wp2
    go_ret
    exact ⟨ret_bool (by first | rfl | (simp; omega)), rfl⟩
set_option maxRecDepth 100000 in
theorem inName_any (b : UInt8) (w : World) :
    Calls Tryz.prog 187 #[.int .u8 (b.toNat : Nat)] w fun e w' => e = .returned (.bool (rNam b)) ∧ w = w' := by
  have hb := b.toNat_lt
  obtain ⟨x, hx⟩ : ∃ x : Int, (b.toNat : Int) = x := ⟨_, rfl⟩
  have E : rNam b = (iLet x || iDig x || decide (x = 45)) := by
    unfold rNam
    rw [iLet_nat, iDig_nat, hx]
    congr 1
    rw [Bool.eq_iff_iff]
    simp only [decide_eq_true_eq]
    omega
  have LT := Lib.hid (fun W => rletter_go x W (by omega) (by omega))
  have DG := Lib.hid (fun W => wdigit_go x W (by omega) (by omega))
  rw [E, hx]
  clear E hx hb
  cases c1 : iLet x with
  | true =>
    rw [c1] at LT
    go_enter Tryz.func187, Tryz.ntmps187
    go_wp2_with fail
    refine (LT.out _).mono ?_
    rintro e w1 ⟨rfl, rfl⟩
    go_wp2_with fail
    go_ret
    exact ⟨rfl, rfl⟩
  | false =>
    rw [c1] at LT
    cases c2 : iDig x with
    | true =>
      rw [c2] at DG
      go_enter Tryz.func187, Tryz.ntmps187
      go_wp2_with fail
      refine (LT.out _).mono ?_
      rintro e w1 ⟨rfl, rfl⟩
      go_wp2_with fail
      refine (DG.out _).mono ?_
      rintro e w1 ⟨rfl, rfl⟩
      go_wp2_with fail
      go_ret
      exact ⟨rfl, rfl⟩
    | false =>
      rw [c2] at DG
      go_enter Tryz.func187, Tryz.ntmps187
      go_wp2_with fail
      refine (LT.out _).mono ?_
      rintro e w1 ⟨rfl, rfl⟩
      go_wp2_with fail
      refine (DG.out _).mono ?_
      rintro e w1 ⟨rfl, rfl⟩
      go_wp2_with fail
      go_ret
      exact ⟨ret_bool (by first | rfl | simp), rfl⟩
set_option maxRecDepth 100000 in
set_option maxHeartbeats 1000000 in
theorem inAttribute_any (b : UInt8) (w : World) :
    Calls Tryz.prog 208 #[.int .u8 (b.toNat : Nat)] w fun e w' => e = .returned (.bool (rAtt b)) ∧ w = w' := by
  have hb := b.toNat_lt
  obtain ⟨x, hx⟩ : ∃ x : Int, (b.toNat : Int) = x := ⟨_, rfl⟩
  have E : rAtt b = (iLet x || iDig x || decide (x = 95 ∨ x = 58 ∨ x = 46 ∨ x = 45)) := by
    unfold rAtt
    rw [iLet_nat, iDig_nat, hx]
    congr 1
    rw [Bool.eq_iff_iff]
    simp only [decide_eq_true_eq]
    omega
  have LT := Lib.hid (fun W => rletter_go x W (by omega) (by omega))
  have DG := Lib.hid (fun W => wdigit_go x W (by omega) (by omega))
  rw [E, hx]
  clear E hx hb
  by_cases c : x = 95 ∨ x = 58 ∨ x = 46 ∨ x = 45
  · have c0 := Lib.hid (decide_eq_true c)
    rcases c with rfl | rfl | rfl | rfl
    all_goals
      rw [c0.out, Bool.or_true]
      clear c0 LT DG
      go_enter Tryz.func208, Tryz.ntmps208
      go_wp2
      go_ret
      exact ⟨rfl, rfl⟩
  · have c0 := Lib.hid (decide_eq_false c)
    rw [c0.out, Bool.or_false]
    have t0 := beqF (show ¬ x = 95 by omega)
    have t1 := beqF (show ¬ x = 58 by omega)
    have t2 := beqF (show ¬ x = 46 by omega)
    have t3 := beqF (show ¬ x = 45 by omega)
    clear c c0
    cases c1 : iLet x with
    | true =>
      rw [c1] at LT
      go_enter Tryz.func208, Tryz.ntmps208
      go_wp2_with fail
      refine (LT.out _).mono ?_
      rintro e w1 ⟨rfl, rfl⟩
      go_wp2_with fail
      go_ret
      exact ⟨rfl, rfl⟩
    | false =>
      rw [c1] at LT
      go_enter Tryz.func208, Tryz.ntmps208
      go_wp2_with fail
      refine (LT.out _).mono ?_
      rintro e w1 ⟨rfl, rfl⟩
      go_wp2_with fail
      refine (DG.out _).mono ?_
      rintro e w1 ⟨rfl, rfl⟩
      go_wp2_with fail
      go_ret
      exact ⟨rfl, rfl⟩
set_option maxRecDepth 100000 in
set_option maxHeartbeats 1000000 in
theorem inValue_any (b : UInt8) (w : World) :
    Calls Tryz.prog 215 #[.int .u8 (b.toNat : Nat)] w fun e w' => e = .returned (.bool (rVal b)) ∧ w = w' := by
  have hb := b.toNat_lt
  obtain ⟨x, hx⟩ : ∃ x : Int, (b.toNat : Int) = x := ⟨_, rfl⟩
  have E : rVal b = !decide (x = 32 ∨ x = 9 ∨ x = 10 ∨ x = 34 ∨ x = 39 ∨ x = 61 ∨ x = 60 ∨ x = 62 ∨ x = 96) := by
    unfold rVal
    congr 1
    rw [Bool.eq_iff_iff]
    simp only [decide_eq_true_eq]
    omega
  rw [E, hx]
  clear E hx hb
  by_cases c : x = 32 ∨ x = 9 ∨ x = 10 ∨ x = 34 ∨ x = 39 ∨ x = 61 ∨ x = 60 ∨ x = 62 ∨ x = 96
  · have c0 := Lib.hid (decide_eq_true c)
    rcases c with rfl | rfl | rfl | rfl | rfl | rfl | rfl | rfl | rfl
    all_goals
      rw [c0.out]
      clear c0
      go_enter Tryz.func215, Tryz.ntmps215
      go_wp2
      go_ret
      exact ⟨rfl, rfl⟩
  · have c0 := Lib.hid (decide_eq_false c)
    rw [c0.out]
    have t0 := beqF (show ¬ x = 32 by omega)
    have t1 := beqF (show ¬ x = 9 by omega)
    have t2 := beqF (show ¬ x = 10 by omega)
    have t3 := beqF (show ¬ x = 34 by omega)
    have t4 := beqF (show ¬ x = 39 by omega)
    have t5 := beqF (show ¬ x = 61 by omega)
    have t6 := beqF (show ¬ x = 60 by omega)
    have t7 := beqF (show ¬ x = 62 by omega)
    have t8 := beqF (show ¬ x = 96 by omega)
    clear c c0
    go_enter Tryz.func215, Tryz.ntmps215
    go_wp2
    go_ret
    exact ⟨rfl, rfl⟩

/-- A round of stretch. -/
theorem cnt_at_yes {p : UInt8 → Bool} {s : ByteArray} {k : Nat} (h : k < s.size) (hc : cntP p s.data.toList = k + cntP p (s.data.toList.drop k)) (hp : p s[k] = true) : cntP p s.data.toList = (k + 1) + cntP p (s.data.toList.drop (k + 1)) := by
  rw [hc, drop_at s k h, cntP_yes _ hp]
  omega
theorem cnt_at_no {p : UInt8 → Bool} {s : ByteArray} {k : Nat} (h : k < s.size) (hc : cntP p s.data.toList = k + cntP p (s.data.toList.drop k)) (hp : p s[k] = false) : cntP p s.data.toList = k := by
  rw [hc, drop_at s k h, cntP_no _ hp]
  omega
theorem cnt_at_end {p : UInt8 → Bool} {s : ByteArray} (hc : cntP p s.data.toList = s.size + cntP p (s.data.toList.drop s.size)) : cntP p s.data.toList = s.size := by
  rw [hc, List.drop_eq_nil_of_le (by rw [bytes_len]; omega)]
  rfl
set_option maxRecDepth 100000 in
set_option maxHeartbeats 1000000 in
theorem stretch_rNam (s : ByteArray) (w : World) (hs : s.size ≤ 100000) :
    Calls Tryz.prog 186 #[.string s, .func (.func 187) #[] #[]] w fun e w' => e = .returned (.int .i64 (cntP rNam s.data.toList : Nat)) ∧ w = w' := by
  have BY := Lib.hid (fun b W => inName_any b W)
  go_enter Tryz.func186, Tryz.ntmps186
  go_wp2_with fail
  go_loop [8] (fun i => ∃ k : Nat, k ≤ s.size ∧ i = .int .i64 k ∧ Hid (cntP rNam s.data.toList = k + cntP rNam (s.data.toList.drop k))) (fun i => s.size - (RowKit.intOf i).toNat)
  case atStart => exact ⟨0, Nat.zero_le _, rfl, Lib.hid (by rw [List.drop_zero, Nat.zero_add])⟩
  case round =>
    obtain ⟨k, hk, rfl, HC⟩ := hrel
    by_cases h : k < s.size
    · have hb := s[k].toNat_lt
      have B1 := Lib.hid (fun W => BY.out s[k] W)
      cases hp : rNam s[k] with
      | true =>
        rw [hp] at B1
        have HN := Lib.hid (cnt_at_yes h HC.out hp)
        clear hp HC
        go_wp2_with fail
        refine (B1.out _).mono ?_
        rintro e w1 ⟨rfl, rfl⟩
        go_wp2_with fail
        go_round
        case rel => exact ⟨k + 1, h, by go_num, HN⟩
        case measure => simp [RowKit.intOf]; omega
      | false =>
        rw [hp] at B1
        have HN := Lib.hid (cnt_at_no h HC.out hp)
        clear hp HC
        go_wp2_with fail
        refine (B1.out _).mono ?_
        rintro e w1 ⟨rfl, rfl⟩
        go_wp2_with fail
        go_ret
        exact ⟨ret_int (by rw [HN.out]), rfl⟩
    · obtain rfl : k = s.size := by omega
      have HN := Lib.hid (cnt_at_end HC.out)
      clear HC
      go_wp2_with fail
      go_ret
      exact ⟨ret_int (by rw [HN.out]), rfl⟩
set_option maxRecDepth 100000 in
set_option maxHeartbeats 1000000 in
theorem stretch_rAtt (s : ByteArray) (w : World) (hs : s.size ≤ 100000) :
    Calls Tryz.prog 186 #[.string s, .func (.func 208) #[] #[]] w fun e w' => e = .returned (.int .i64 (cntP rAtt s.data.toList : Nat)) ∧ w = w' := by
  have BY := Lib.hid (fun b W => inAttribute_any b W)
  go_enter Tryz.func186, Tryz.ntmps186
  go_wp2_with fail
  go_loop [8] (fun i => ∃ k : Nat, k ≤ s.size ∧ i = .int .i64 k ∧ Hid (cntP rAtt s.data.toList = k + cntP rAtt (s.data.toList.drop k))) (fun i => s.size - (RowKit.intOf i).toNat)
  case atStart => exact ⟨0, Nat.zero_le _, rfl, Lib.hid (by rw [List.drop_zero, Nat.zero_add])⟩
  case round =>
    obtain ⟨k, hk, rfl, HC⟩ := hrel
    by_cases h : k < s.size
    · have hb := s[k].toNat_lt
      have B1 := Lib.hid (fun W => BY.out s[k] W)
      cases hp : rAtt s[k] with
      | true =>
        rw [hp] at B1
        have HN := Lib.hid (cnt_at_yes h HC.out hp)
        clear hp HC
        go_wp2_with fail
        refine (B1.out _).mono ?_
        rintro e w1 ⟨rfl, rfl⟩
        go_wp2_with fail
        go_round
        case rel => exact ⟨k + 1, h, by go_num, HN⟩
        case measure => simp [RowKit.intOf]; omega
      | false =>
        rw [hp] at B1
        have HN := Lib.hid (cnt_at_no h HC.out hp)
        clear hp HC
        go_wp2_with fail
        refine (B1.out _).mono ?_
        rintro e w1 ⟨rfl, rfl⟩
        go_wp2_with fail
        go_ret
        exact ⟨ret_int (by rw [HN.out]), rfl⟩
    · obtain rfl : k = s.size := by omega
      have HN := Lib.hid (cnt_at_end HC.out)
      clear HC
      go_wp2_with fail
      go_ret
      exact ⟨ret_int (by rw [HN.out]), rfl⟩
set_option maxRecDepth 100000 in
set_option maxHeartbeats 1000000 in
theorem stretch_rVal (s : ByteArray) (w : World) (hs : s.size ≤ 100000) :
    Calls Tryz.prog 186 #[.string s, .func (.func 215) #[] #[]] w fun e w' => e = .returned (.int .i64 (cntP rVal s.data.toList : Nat)) ∧ w = w' := by
  have BY := Lib.hid (fun b W => inValue_any b W)
  go_enter Tryz.func186, Tryz.ntmps186
  go_wp2_with fail
  go_loop [8] (fun i => ∃ k : Nat, k ≤ s.size ∧ i = .int .i64 k ∧ Hid (cntP rVal s.data.toList = k + cntP rVal (s.data.toList.drop k))) (fun i => s.size - (RowKit.intOf i).toNat)
  case atStart => exact ⟨0, Nat.zero_le _, rfl, Lib.hid (by rw [List.drop_zero, Nat.zero_add])⟩
  case round =>
    obtain ⟨k, hk, rfl, HC⟩ := hrel
    by_cases h : k < s.size
    · have hb := s[k].toNat_lt
      have B1 := Lib.hid (fun W => BY.out s[k] W)
      cases hp : rVal s[k] with
      | true =>
        rw [hp] at B1
        have HN := Lib.hid (cnt_at_yes h HC.out hp)
        clear hp HC
        go_wp2_with fail
        refine (B1.out _).mono ?_
        rintro e w1 ⟨rfl, rfl⟩
        go_wp2_with fail
        go_round
        case rel => exact ⟨k + 1, h, by go_num, HN⟩
        case measure => simp [RowKit.intOf]; omega
      | false =>
        rw [hp] at B1
        have HN := Lib.hid (cnt_at_no h HC.out hp)
        clear hp HC
        go_wp2_with fail
        refine (B1.out _).mono ?_
        rintro e w1 ⟨rfl, rfl⟩
        go_wp2_with fail
        go_ret
        exact ⟨ret_int (by rw [HN.out]), rfl⟩
    · obtain rfl : k = s.size := by omega
      have HN := Lib.hid (cnt_at_end HC.out)
      clear HC
      go_wp2_with fail
      go_ret
      exact ⟨ret_int (by rw [HN.out]), rfl⟩
end Go.Proofs.YtfgpephpkibbaaaGreatDoor

