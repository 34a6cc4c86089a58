/-
  Texts of the proof, one behind the other: Mka, Cua.
-/
import Derived.Test.YtfgpephpkibbaaaGreatDoorQ2
import Derived.Test.YtfgpephpkibbaaaGreatDoorQ8
import Derived.LoopTactic
import Derived.Test.YtfgpephpkibbaaaGreatDoorQ5
/-
  Contracts of count, apart, isBlank, isDigit, isLetter, stretch, FenceEnd, Under, Rule, of the package.
-/
namespace Go.Proofs.YtfgpephpkibbaaaGreatDoor
open Go.RowKit Go.Lib

theorem byte_get (s : ByteArray) (k : Nat) (h : k < s.size) : s.data.toList[k]'(by rw [bytes_len]; exact h) = s[k] := rfl
theorem isB_int (b : UInt8) : isB b = (decide ((b.toNat : Int) = 32) || decide ((b.toNat : Int) = 9)) := by
  unfold isB
  rw [Bool.eq_iff_iff]
  simp only [Bool.or_eq_true, decide_eq_true_eq]
  omega
theorem dgB_int (b : UInt8) : dgB b = (decide (48 ≤ (b.toNat : Int)) && decide ((b.toNat : Int) ≤ 57)) := by
  unfold dgB
  rw [Bool.eq_iff_iff]
  simp only [Bool.and_eq_true, decide_eq_true_eq]
  omega
theorem ltrB_int (b : UInt8) : ltrB b = decide ((97 ≤ (b.toNat : Int) ∧ (b.toNat : Int) ≤ 122) ∨ (65 ≤ (b.toNat : Int) ∧ (b.toNat : Int) ≤ 90)) := by
  unfold ltrB
  rw [Bool.eq_iff_iff]
  simp only [Bool.or_eq_true, Bool.and_eq_true, decide_eq_true_eq]
  omega
set_option maxRecDepth 100000 in
theorem mblank_go (x : Int) (w : World) (h0 : 0 ≤ x) (h1 : x < 256) :
    Calls Tryz.prog 133 #[.int .u8 x] w fun e w' => e = .returned (.bool (decide (x = 32) || decide (x = 9))) ∧ w = w' := by
  by_cases c : x = 32
  · subst c
    go_enter Tryz.func133, Tryz.ntmps133
    go_wp2
    go_ret
    exact ⟨rfl, rfl⟩
  · rw [decide_eq_false c, Bool.false_or]
    by_cases c2 : x = 9
    · subst c2
      go_enter Tryz.func133, Tryz.ntmps133
      go_wp2
      go_ret
      exact ⟨rfl, rfl⟩
    · rw [decide_eq_false c2]
      have t1 : (x == 32) = false := beq_eq_false_iff_ne.2 c
      have t2 : (x == 9) = false := beq_eq_false_iff_ne.2 c2
      clear c c2
      go_enter Tryz.func133, Tryz.ntmps133
      go_wp2
      go_ret
      exact ⟨rfl, rfl⟩
theorem mblank_any (b : UInt8) (w : World) :
    Calls Tryz.prog 133 #[.int .u8 (b.toNat : Nat)] w fun e w' => e = .returned (.bool (isB b)) ∧ w = w' := by
  have hb := b.toNat_lt
  rw [isB_int]
  exact mblank_go _ w (by omega) (by omega)
set_option maxRecDepth 100000 in
theorem mdigit_go (x : Int) (w : World) :
    Calls Tryz.prog 148 #[.int .u8 x] w fun e w' => e = .returned (.bool (decide (48 ≤ x) && decide (x ≤ 57))) ∧ w = w' := by
  by_cases c : 48 ≤ x
  · rw [decide_eq_true c, Bool.true_and]
    by_cases c2 : x ≤ 57
    · rw [decide_eq_true c2]
      go_enter Tryz.func148, Tryz.ntmps148
      go_wp2
      go_ret
      exact ⟨rfl, rfl⟩
    · rw [decide_eq_false c2]
      go_enter Tryz.func148, Tryz.ntmps148
      go_wp2
      go_ret
      exact ⟨rfl, rfl⟩
  · rw [decide_eq_false c, Bool.false_and]
    go_enter Tryz.func148, Tryz.ntmps148
    go_wp2
    go_ret
    exact ⟨rfl, rfl⟩
theorem mdigit_any (b : UInt8) (w : World) :
    Calls Tryz.prog 148 #[.int .u8 (b.toNat : Nat)] w fun e w' => e = .returned (.bool (dgB b)) ∧ w = w' := by
  rw [dgB_int]
  exact mdigit_go _ w
set_option maxRecDepth 100000 in
theorem mletter_go (x : Int) (w : World) (h0 : 0 ≤ x) (h1 : x < 256) :
    Calls Tryz.prog 139 #[.int .u8 x] w fun e w' => e = .returned (.bool (decide ((97 ≤ x ∧ x ≤ 122) ∨ (65 ≤ x ∧ x ≤ 90)))) ∧ w = w' := by
  have hw : ((97 ≤ x ∧ x ≤ 122) ∨ (65 ≤ x ∧ x ≤ 90)) ∨ (x < 65 ∨ (90 < x ∧ x < 97) ∨ 122 < x) := by omega
  rcases hw with hw | hw
  · rw [decide_eq_true hw]
    rcases hw with ⟨a, b⟩ | ⟨a, b⟩
    all_goals
      go_enter Tryz.func139, Tryz.ntmps139
      go_wp2
      go_ret
      exact ⟨rfl, rfl⟩
  · rw [decide_eq_false (by omega)]
    rcases hw with a | ⟨a, b⟩ | a
    all_goals
      go_enter Tryz.func139, Tryz.ntmps139
      go_wp2
      go_ret
      exact ⟨ret_bool (by first | rfl | (simp; omega)), rfl⟩
theorem mletter_any (b : UInt8) (w : World) :
    Calls Tryz.prog 139 #[.int .u8 (b.toNat : Nat)] w fun e w' => e = .returned (.bool (ltrB b)) ∧ w = w' := by
  have hb := b.toNat_lt
  rw [ltrB_int]
  exact mletter_go _ w (by omega) (by omega)

set_option maxRecDepth 100000 in
set_option maxHeartbeats 400000 in
theorem count_any (s : ByteArray) (c : UInt8) (w : World) (hs : s.size ≤ maxLen) :
    Calls Tryz.prog 106 #[.string s, .int .u8 (c.toNat : Nat)] w fun e w' => e = .returned (.int .i64 (cntL c s.data.toList : Nat)) ∧ w = w' := by
  have hl := Lib.hid (bytes_len s)
  unfold maxLen at hs
  go_enter Tryz.func106, Tryz.ntmps106
  go_wp2
  go_loop [5] (fun i => ∃ k : Nat, k ≤ s.size ∧ Hid (cntL c s.data.toList = k + cntL c (s.data.toList.drop k)) ∧ i = .int .i64 k) (fun i => s.size - (RowKit.intOf i).toNat)
  case atStart => exact ⟨0, Nat.zero_le _, Lib.hid (by rw [List.drop_zero, Nat.zero_add]), rfl⟩
  case round =>
    obtain ⟨k, hk, HC, rfl⟩ := hrel
    by_cases h : k < s.size
    · have HK : Hid (k < s.data.toList.length) := Lib.hid (by rw [hl.out]; exact h)
      by_cases e : s[k] = c
      · have t1 : (s[k].toNat == c.toNat) = true := by rw [e]; simp
        have t2 : ((s[k].toNat : Int) == (c.toNat : Int)) = true := by rw [e]; simp
        have HN : Hid (cntL c s.data.toList = k + 1 + cntL c (s.data.toList.drop (k + 1))) := Lib.hid (cnt_more HC.out HK.out e)
        go_wp2_with fail
        go_round
        case rel => exact ⟨k + 1, h, HN, by go_num⟩
        case measure => simp [RowKit.intOf]; omega
      · have hne : s[k].toNat ≠ c.toNat := fun x => e (UInt8.toNat_inj.1 x)
        have t1 : (s[k].toNat == c.toNat) = false := beq_eq_false_iff_ne.2 hne
        have t2 : ((s[k].toNat : Int) == (c.toNat : Int)) = false := beq_eq_false_iff_ne.2 (by omega)
        have HN : Hid (cntL c s.data.toList = k) := Lib.hid (cnt_stop HC.out HK.out e)
        clear hne
        go_wp2_with fail
        go_ret
        exact ⟨ret_int (by rw [HN.out]), rfl⟩
    · have HN : Hid (cntL c s.data.toList = k) := Lib.hid (cnt_end HC.out (by rw [hl.out]; omega))
      go_wp2_with fail
      go_ret
      exact ⟨ret_int (by rw [HN.out]), rfl⟩
theorem apart_mk (s : ByteArray) : apartL s.data.toList = if h : 0 < s.size then isB s[0] else true := by
  split
  · next h =>
    have := drop_cons s.data.toList 0 (by rw [bytes_len]; exact h)
    rw [List.drop_zero] at this
    rw [this]; rfl
  · next h =>
    rw [List.eq_nil_of_length_eq_zero (show s.data.toList.length = 0 by rw [bytes_len]; omega)]
    rfl
set_option maxRecDepth 100000 in
theorem apart_any (s : ByteArray) (w : World) :
    Calls Tryz.prog 110 #[.string s] w fun e w' => e = .returned (.bool (apartL s.data.toList)) ∧ w = w' := by
  rw [apart_mk]
  by_cases h : 0 < s.size
  · rw [dif_pos h]
    have IB := Lib.hid (fun W => mblank_any s[0] W)
    have hi := tl_empty h
    have hn := tl_ne h
    generalize isB s[0] = z at *
    go_enter Tryz.func110, Tryz.ntmps110
    go_wp2_with fail
    refine (IB.out _).mono ?_
    rintro e w1 ⟨rfl, rfl⟩
    go_wp2_with fail
    go_ret
    exact ⟨rfl, rfl⟩
  · rw [dif_neg h]
    have hz : s = ⟨#[]⟩ := bytes_eq (by rw [List.eq_nil_of_length_eq_zero (show s.data.toList.length = 0 by rw [bytes_len]; omega)])
    subst hz
    clear h
    go_enter Tryz.func110, Tryz.ntmps110
    go_wp2_with fail
    go_ret
    exact ⟨rfl, rfl⟩
set_option maxRecDepth 100000 in
set_option maxHeartbeats 400000 in
theorem stretch_any (s : ByteArray) (c : UInt8) (m : Int) (w : World) (hs : s.size ≤ maxLen) :
    Calls Tryz.prog 75 #[.string s, .int .u8 (c.toNat : Nat), .int .i64 m] w fun e w' => e = .returned (.bool (stretchL c m s.data.toList)) ∧ Keeps w w' := by
  have CT := Lib.hid (fun W => count_any s c W hs)
  have hn := cnt_le c s.data.toList
  rw [bytes_len] at hn
  unfold maxLen at hs
  unfold stretchL
  have BK := Lib.hid (fun W => blank_any (s.extract (cntL c s.data.toList) s.size) W)
  rw [Lib.extract_to_end] at BK
  generalize cntL c s.data.toList = n at *
  generalize blankL (s.data.toList.drop n) = z at *
  by_cases h : m ≤ (n : Int)
  · rw [decide_eq_true h, Bool.true_and]
    go_enter Tryz.func75, Tryz.ntmps75
    go_wp2_with fail
    refine (CT.out _).mono ?_
    rintro e w1 ⟨rfl, rfl⟩
    go_wp2_with fail
    refine (BK.out _).mono ?_
    rintro e w2 ⟨rfl, k2⟩
    go_wp2_with fail
    go_ret
    exact ⟨rfl, k2⟩
  · rw [decide_eq_false h, Bool.false_and]
    go_enter Tryz.func75, Tryz.ntmps75
    go_wp2_with fail
    refine (CT.out _).mono ?_
    rintro e w1 ⟨rfl, rfl⟩
    go_wp2_with fail
    go_ret
    exact ⟨rfl, Keeps.refl _⟩
set_option maxRecDepth 100000 in
theorem fenceEnd_any (s : ByteArray) (c : UInt8) (m : Int) (w : World) (hs : s.size ≤ maxLen) :
    Calls Tryz.prog 52 #[.string s, .int .u8 (c.toNat : Nat), .int .i64 m] w fun e w' => e = .returned (.bool (stretchL c (max m 3) s.data.toList)) ∧ Keeps w w' := by
  have ST := Lib.hid (fun k W => stretch_any s c k W hs)
  by_cases h : m ≤ 3
  · rw [show max m 3 = 3 by omega]
    have h1 : (if m < 3 then (3 : Int) else m) = 3 := by split <;> omega
    have ST3 := Lib.hid (ST.out 3)
    clear ST
    go_enter Tryz.func52, Tryz.ntmps52
    go_wp2_with fail
    refine (ST3.out _).mono ?_
    rintro e w1 ⟨rfl, k1⟩
    go_wp2_with fail
    go_ret
    exact ⟨rfl, k1⟩
  · rw [show max m 3 = m by omega]
    have h1 : (if m < 3 then (3 : Int) else m) = m := by split <;> omega
    have ST3 := Lib.hid (ST.out m)
    clear ST
    go_enter Tryz.func52, Tryz.ntmps52
    go_wp2_with fail
    refine (ST3.out _).mono ?_
    rintro e w1 ⟨rfl, k1⟩
    go_wp2_with fail
    go_ret
    exact ⟨rfl, k1⟩
set_option maxRecDepth 100000 in
theorem under_any (s : ByteArray) (w : World) (hs : s.size ≤ maxLen) :
    Calls Tryz.prog 84 #[.string s] w fun e w' => e = .returned (.int .i64 (underL s.data.toList : Nat)) ∧ Keeps w w' := by
  have S1 := Lib.hid (fun W => stretch_any s 61 1 W hs)
  have S2 := Lib.hid (fun W => stretch_any s 45 1 W hs)
  unfold underL
  rw [show ((61 : UInt8).toNat : Int) = 61 from rfl] at S1
  rw [show ((45 : UInt8).toNat : Int) = 45 from rfl] at S2
  cases h1 : stretchL 61 1 s.data.toList with
  | true =>
    rw [h1] at S1
    clear h1
    go_enter Tryz.func84, Tryz.ntmps84
    go_wp2_with fail
    (with_reducible refine (S1.out _).mono ?_)
    rintro e w1 ⟨rfl, k1⟩
    go_wp2_with fail
    go_ret
    exact ⟨rfl, k1⟩
  | false =>
    rw [h1] at S1
    clear h1
    cases h2 : stretchL 45 1 s.data.toList with
    | true =>
      rw [h2] at S2
      clear h2
      go_enter Tryz.func84, Tryz.ntmps84
      go_wp2_with fail
      (with_reducible refine (S1.out _).mono ?_)
      rintro e w1 ⟨rfl, k1⟩
      go_wp2_with fail
      (with_reducible refine (S2.out _).mono ?_)
      rintro e w2 ⟨rfl, k2⟩
      go_wp2_with fail
      go_ret
      exact ⟨rfl, k1.trans k2⟩
    | false =>
      rw [h2] at S2
      clear h2
      go_enter Tryz.func84, Tryz.ntmps84
      go_wp2_with fail
      (with_reducible refine (S1.out _).mono ?_)
      rintro e w1 ⟨rfl, k1⟩
      go_wp2_with fail
      (with_reducible refine (S2.out _).mono ?_)
      rintro e w2 ⟨rfl, k2⟩
      go_wp2_with fail
      go_ret
      exact ⟨rfl, k1.trans k2⟩
end Go.Proofs.YtfgpephpkibbaaaGreatDoor

/-
  Contracts of New, columns, atTab, Right, of places that may be.
-/
namespace Go.Proofs.YtfgpephpkibbaaaGreatDoor
open Go.RowKit Go.Lib

theorem columns_any (b : UInt8) (c : Nat) (hc : c ≤ 2000000000000) (w : World) :
    Calls Tryz.prog 90 #[.int .u8 b.toNat, .int .i64 c] w fun e w' => e = .returned (.int .i64 (wideB c 0 b : Nat)) ∧ w = w' := by
  have hb := b.toNat_lt
  have HW : Hid ((wideB c 0 b : Nat) = if b.toNat = 32 then 1 else if b.toNat = 9 then 4 - c % 4 else 0) := Lib.hid (by
    unfold wideB
    rw [if_neg (by simp)]
    have e1 : (b = 32) = (b.toNat = 32) := by rw [← UInt8.toNat_inj]; rfl
    have e2 : (b = 9) = (b.toNat = 9) := by rw [← UInt8.toNat_inj]; rfl
    simp only [e1, e2])
  generalize wideB c 0 b = z at *
  generalize b.toNat = x at *
  go_enter Tryz.func90, Tryz.ntmps90
  by_cases h1 : x = 32
  · go_wp2_with fail
    go_ret
    exact ⟨ret_int (by rw [HW.out, if_pos (by omega)]; rfl), rfl⟩
  · by_cases h2 : x = 9
    · go_wp2_with fail
      go_ret
      exact ⟨ret_int (by rw [HW.out, if_neg (by omega), if_pos (by omega)]; omega), rfl⟩
    · go_wp2_with fail
      go_ret
      exact ⟨ret_int (by rw [HW.out, if_neg (by omega), if_neg (by omega)]; rfl), rfl⟩
theorem new_any (s : ByteArray) (w : World) :
    Calls Tryz.prog 35 #[.string s] w fun e w' => e = .returned (.agg #[.string s, .int .i64 0, .int .i64 0, .int .i64 0]) ∧ Keeps w w' := by
  go_enter Tryz.func35, Tryz.ntmps35
  go_wp2_with fail
  exact bodyPost_ret (v := .agg #[.string s, .int .i64 0, .int .i64 0, .int .i64 0]) (by simp [results, Tryz.results35, go_sem]) rfl ⟨rfl, (Keeps.refl w).alloc _⟩
theorem atTab_any (s : ByteArray) (k : Nat) (c f : Int) (h : k < s.size) (ht : (((s[k].toNat : Nat) : Int) == 9) = true) (w : World) :
    Calls Tryz.prog 102 #[.agg #[.string s, .int .i64 k, .int .i64 c, .int .i64 f]] w fun e w' => e = .returned (.bool true) ∧ Keeps w w' := by
  have HT := Lib.hid ht
  clear ht
  have hb := s[k].toNat_lt
  go_enter Tryz.func102, Tryz.ntmps102
  go_wp2_with fail
  go_ret
  exact ⟨ret_bool HT.out, (Keeps.refl w).alloc _⟩
/-- Of a place within the line, in a column that may be, all is as asked if a tab that was begun is there. -/
theorem right_go (s : ByteArray) (k f : Nat) (c : Int) (hk : k ≤ s.size) (h0 : 0 ≤ c) (h1 : c ≤ 1099511627776) (hf : f < 4) (ht : f ≠ 0 → ∃ h : k < s.size, (((s[k].toNat : Nat) : Int) == 9) = true) (w : World) :
    Calls Tryz.prog 73 #[.agg #[.string s, .int .i64 k, .int .i64 c, .int .i64 f]] w fun e w' => e = .returned (.bool true) ∧ Keeps w w' := by
  by_cases hz : f = 0
  · subst hz
    clear ht hf
    go_enter Tryz.func73, Tryz.ntmps73
    go_wp2_with fail
    go_ret
    exact ⟨rfl, (Keeps.refl w).alloc _⟩
  · obtain ⟨h, t⟩ := ht hz
    have AT := Lib.hid (fun W => atTab_any s k c f h t W)
    clear t ht
    have hz1 : 0 < f := by omega
    clear hz
    go_enter Tryz.func73, Tryz.ntmps73
    go_wp2_with fail
    refine (AT.out _).mono ?_
    rintro e w1 ⟨rfl, k1⟩
    go_wp2_with fail
    go_ret
    exact ⟨rfl, ((Keeps.refl w).alloc _).trans k1⟩
end Go.Proofs.YtfgpephpkibbaaaGreatDoor

