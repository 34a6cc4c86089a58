/-
  Texts of the proof, one behind the other: Mka, Cua, Spc, Rwa.
-/
import Derived.Test.YtdelaanaohjnkaaGreatDoorM2
import Derived.Test.YtdelaanaohjnkaaGreatDoorM6
import Derived.LoopTactic
import Derived.Test.YtdelaanaohjnkaaGreatDoorM5
import Derived.Test.YtdelaanaohjnkaaGreatDoorM3
import Derived.Test.YtdelaanaohjnkaaGreatDoorM4
/-
  Contracts of count, apart, isBlank, isDigit, isLetter, stretch, FenceEnd, Under, Rule, of the package.
-/
namespace Go.Proofs.YtdelaanaohjnkaaGreatDoor
open Go.RowKit Go.Lib

theorem byte_get (s : ByteArray) (k : Nat) (h : k < s.size) : s.data.toList[k]'(by rw [bytes_len]; exact h) = s[k] := rfl
theorem isB_int (b : UInt8) : isB b = (decide ((b.toNat : Int) = 32) || decide ((b.toNat : Int) = 9)) := by
  unfold isB
  rw [Bool.eq_iff_iff]
  simp only [Bool.or_eq_true, decide_eq_true_eq]
  omega
theorem dgB_int (b : UInt8) : dgB b = (decide (48 ≤ (b.toNat : Int)) && decide ((b.toNat : Int) ≤ 57)) := by
  unfold dgB
  rw [Bool.eq_iff_iff]
  simp only [Bool.and_eq_true, decide_eq_true_eq]
  omega
theorem ltrB_int (b : UInt8) : ltrB b = decide ((97 ≤ (b.toNat : Int) ∧ (b.toNat : Int) ≤ 122) ∨ (65 ≤ (b.toNat : Int) ∧ (b.toNat : Int) ≤ 90)) := by
  unfold ltrB
  rw [Bool.eq_iff_iff]
  simp only [Bool.or_eq_true, Bool.and_eq_true, decide_eq_true_eq]
  omega
set_option maxRecDepth 100000 in
theorem mblank_go (x : Int) (w : World) (h0 : 0 ≤ x) (h1 : x < 256) :
    Calls Tryz.prog 139 #[.int .u8 x] w fun e w' => e = .returned (.bool (decide (x = 32) || decide (x = 9))) ∧ w = w' := by
  by_cases c : x = 32
  · subst c
    go_enter Tryz.func139, Tryz.ntmps139
    go_wp2
    go_ret
    exact ⟨rfl, rfl⟩
  · rw [decide_eq_false c, Bool.false_or]
    by_cases c2 : x = 9
    · subst c2
      go_enter Tryz.func139, Tryz.ntmps139
      go_wp2
      go_ret
      exact ⟨rfl, rfl⟩
    · rw [decide_eq_false c2]
      have t1 : (x == 32) = false := beq_eq_false_iff_ne.2 c
      have t2 : (x == 9) = false := beq_eq_false_iff_ne.2 c2
      clear c c2
      go_enter Tryz.func139, Tryz.ntmps139
      go_wp2
      go_ret
      exact ⟨rfl, rfl⟩
theorem mblank_any (b : UInt8) (w : World) :
    Calls Tryz.prog 139 #[.int .u8 (b.toNat : Nat)] w fun e w' => e = .returned (.bool (isB b)) ∧ w = w' := by
  have hb := b.toNat_lt
  rw [isB_int]
  exact mblank_go _ w (by omega) (by omega)
set_option maxRecDepth 100000 in
theorem mdigit_go (x : Int) (w : World) :
    Calls Tryz.prog 154 #[.int .u8 x] w fun e w' => e = .returned (.bool (decide (48 ≤ x) && decide (x ≤ 57))) ∧ w = w' := by
  by_cases c : 48 ≤ x
  · rw [decide_eq_true c, Bool.true_and]
    by_cases c2 : x ≤ 57
    · rw [decide_eq_true c2]
      go_enter Tryz.func154, Tryz.ntmps154
      go_wp2
      go_ret
      exact ⟨rfl, rfl⟩
    · rw [decide_eq_false c2]
      go_enter Tryz.func154, Tryz.ntmps154
      go_wp2
      go_ret
      exact ⟨rfl, rfl⟩
  · rw [decide_eq_false c, Bool.false_and]
    go_enter Tryz.func154, Tryz.ntmps154
    go_wp2
    go_ret
    exact ⟨rfl, rfl⟩
theorem mdigit_any (b : UInt8) (w : World) :
    Calls Tryz.prog 154 #[.int .u8 (b.toNat : Nat)] w fun e w' => e = .returned (.bool (dgB b)) ∧ w = w' := by
  rw [dgB_int]
  exact mdigit_go _ w
set_option maxRecDepth 100000 in
theorem mletter_go (x : Int) (w : World) (h0 : 0 ≤ x) (h1 : x < 256) :
    Calls Tryz.prog 145 #[.int .u8 x] w fun e w' => e = .returned (.bool (decide ((97 ≤ x ∧ x ≤ 122) ∨ (65 ≤ x ∧ x ≤ 90)))) ∧ w = w' := by
  have hw : ((97 ≤ x ∧ x ≤ 122) ∨ (65 ≤ x ∧ x ≤ 90)) ∨ (x < 65 ∨ (90 < x ∧ x < 97) ∨ 122 < x) := by omega
  rcases hw with hw | hw
  · rw [decide_eq_true hw]
    rcases hw with ⟨a, b⟩ | ⟨a, b⟩
    all_goals
      go_enter Tryz.func145, Tryz.ntmps145
      go_wp2
      go_ret
      exact ⟨rfl, rfl⟩
  · rw [decide_eq_false (by omega)]
    rcases hw with a | ⟨a, b⟩ | a
    all_goals
      go_enter Tryz.func145, Tryz.ntmps145
      go_wp2
      go_ret
      exact ⟨ret_bool (by first | rfl | (simp; omega)), rfl⟩
theorem mletter_any (b : UInt8) (w : World) :
    Calls Tryz.prog 145 #[.int .u8 (b.toNat : Nat)] w fun e w' => e = .returned (.bool (ltrB b)) ∧ w = w' := by
  have hb := b.toNat_lt
  rw [ltrB_int]
  exact mletter_go _ w (by omega) (by omega)

set_option maxRecDepth 100000 in
set_option maxHeartbeats 400000 in
theorem count_any (s : ByteArray) (c : UInt8) (w : World) (hs : s.size ≤ maxLen) :
    Calls Tryz.prog 112 #[.string s, .int .u8 (c.toNat : Nat)] w fun e w' => e = .returned (.int .i64 (cntL c s.data.toList : Nat)) ∧ w = w' := by
  have hl := Lib.hid (bytes_len s)
  unfold maxLen at hs
  go_enter Tryz.func112, Tryz.ntmps112
  go_wp2
  go_loop [5] (fun i => ∃ k : Nat, k ≤ s.size ∧ Hid (cntL c s.data.toList = k + cntL c (s.data.toList.drop k)) ∧ i = .int .i64 k) (fun i => s.size - (RowKit.intOf i).toNat)
  case atStart => exact ⟨0, Nat.zero_le _, Lib.hid (by rw [List.drop_zero, Nat.zero_add]), rfl⟩
  case round =>
    obtain ⟨k, hk, HC, rfl⟩ := hrel
    by_cases h : k < s.size
    · have HK : Hid (k < s.data.toList.length) := Lib.hid (by rw [hl.out]; exact h)
      by_cases e : s[k] = c
      · have t1 : (s[k].toNat == c.toNat) = true := by rw [e]; simp
        have t2 : ((s[k].toNat : Int) == (c.toNat : Int)) = true := by rw [e]; simp
        have HN : Hid (cntL c s.data.toList = k + 1 + cntL c (s.data.toList.drop (k + 1))) := Lib.hid (cnt_more HC.out HK.out e)
        go_wp2_with fail
        go_round
        case rel => exact ⟨k + 1, h, HN, by go_num⟩
        case measure => simp [RowKit.intOf]; omega
      · have hne : s[k].toNat ≠ c.toNat := fun x => e (UInt8.toNat_inj.1 x)
        have t1 : (s[k].toNat == c.toNat) = false := beq_eq_false_iff_ne.2 hne
        have t2 : ((s[k].toNat : Int) == (c.toNat : Int)) = false := beq_eq_false_iff_ne.2 (by omega)
        have HN : Hid (cntL c s.data.toList = k) := Lib.hid (cnt_stop HC.out HK.out e)
        clear hne
        go_wp2_with fail
        go_ret
        exact ⟨ret_int (by rw [HN.out]), rfl⟩
    · have HN : Hid (cntL c s.data.toList = k) := Lib.hid (cnt_end HC.out (by rw [hl.out]; omega))
      go_wp2_with fail
      go_ret
      exact ⟨ret_int (by rw [HN.out]), rfl⟩
theorem apart_mk (s : ByteArray) : apartL s.data.toList = if h : 0 < s.size then isB s[0] else true := by
  split
  · next h =>
    have := drop_cons s.data.toList 0 (by rw [bytes_len]; exact h)
    rw [List.drop_zero] at this
    rw [this]; rfl
  · next h =>
    rw [List.eq_nil_of_length_eq_zero (show s.data.toList.length = 0 by rw [bytes_len]; omega)]
    rfl
set_option maxRecDepth 100000 in
theorem apart_any (s : ByteArray) (w : World) :
    Calls Tryz.prog 116 #[.string s] w fun e w' => e = .returned (.bool (apartL s.data.toList)) ∧ w = w' := by
  rw [apart_mk]
  by_cases h : 0 < s.size
  · rw [dif_pos h]
    have IB := Lib.hid (fun W => mblank_any s[0] W)
    have hi := tl_empty h
    have hn := tl_ne h
    generalize isB s[0] = z at *
    go_enter Tryz.func116, Tryz.ntmps116
    go_wp2_with fail
    refine (IB.out _).mono ?_
    rintro e w1 ⟨rfl, rfl⟩
    go_wp2_with fail
    go_ret
    exact ⟨rfl, rfl⟩
  · rw [dif_neg h]
    have hz : s = ⟨#[]⟩ := bytes_eq (by rw [List.eq_nil_of_length_eq_zero (show s.data.toList.length = 0 by rw [bytes_len]; omega)])
    subst hz
    clear h
    go_enter Tryz.func116, Tryz.ntmps116
    go_wp2_with fail
    go_ret
    exact ⟨rfl, rfl⟩
set_option maxRecDepth 100000 in
set_option maxHeartbeats 400000 in
theorem stretch_any (s : ByteArray) (c : UInt8) (m : Int) (w : World) (hs : s.size ≤ maxLen) :
    Calls Tryz.prog 81 #[.string s, .int .u8 (c.toNat : Nat), .int .i64 m] w fun e w' => e = .returned (.bool (stretchL c m s.data.toList)) ∧ Keeps w w' := by
  have CT := Lib.hid (fun W => count_any s c W hs)
  have hn := cnt_le c s.data.toList
  rw [bytes_len] at hn
  unfold maxLen at hs
  unfold stretchL
  have BK := Lib.hid (fun W => blank_any (s.extract (cntL c s.data.toList) s.size) W)
  rw [Lib.extract_to_end] at BK
  generalize cntL c s.data.toList = n at *
  generalize blankL (s.data.toList.drop n) = z at *
  by_cases h : m ≤ (n : Int)
  · rw [decide_eq_true h, Bool.true_and]
    go_enter Tryz.func81, Tryz.ntmps81
    go_wp2_with fail
    refine (CT.out _).mono ?_
    rintro e w1 ⟨rfl, rfl⟩
    go_wp2_with fail
    refine (BK.out _).mono ?_
    rintro e w2 ⟨rfl, k2⟩
    go_wp2_with fail
    go_ret
    exact ⟨rfl, k2⟩
  · rw [decide_eq_false h, Bool.false_and]
    go_enter Tryz.func81, Tryz.ntmps81
    go_wp2_with fail
    refine (CT.out _).mono ?_
    rintro e w1 ⟨rfl, rfl⟩
    go_wp2_with fail
    go_ret
    exact ⟨rfl, Keeps.refl _⟩
set_option maxRecDepth 100000 in
theorem fenceEnd_any (s : ByteArray) (c : UInt8) (m : Int) (w : World) (hs : s.size ≤ maxLen) :
    Calls Tryz.prog 58 #[.string s, .int .u8 (c.toNat : Nat), .int .i64 m] w fun e w' => e = .returned (.bool (stretchL c (max m 3) s.data.toList)) ∧ Keeps w w' := by
  have ST := Lib.hid (fun k W => stretch_any s c k W hs)
  by_cases h : m ≤ 3
  · rw [show max m 3 = 3 by omega]
    have h1 : (if m < 3 then (3 : Int) else m) = 3 := by split <;> omega
    have ST3 := Lib.hid (ST.out 3)
    clear ST
    go_enter Tryz.func58, Tryz.ntmps58
    go_wp2_with fail
    refine (ST3.out _).mono ?_
    rintro e w1 ⟨rfl, k1⟩
    go_wp2_with fail
    go_ret
    exact ⟨rfl, k1⟩
  · rw [show max m 3 = m by omega]
    have h1 : (if m < 3 then (3 : Int) else m) = m := by split <;> omega
    have ST3 := Lib.hid (ST.out m)
    clear ST
    go_enter Tryz.func58, Tryz.ntmps58
    go_wp2_with fail
    refine (ST3.out _).mono ?_
    rintro e w1 ⟨rfl, k1⟩
    go_wp2_with fail
    go_ret
    exact ⟨rfl, k1⟩
set_option maxRecDepth 100000 in
theorem under_any (s : ByteArray) (w : World) (hs : s.size ≤ maxLen) :
    Calls Tryz.prog 90 #[.string s] w fun e w' => e = .returned (.int .i64 (underL s.data.toList : Nat)) ∧ Keeps w w' := by
  have S1 := Lib.hid (fun W => stretch_any s 61 1 W hs)
  have S2 := Lib.hid (fun W => stretch_any s 45 1 W hs)
  unfold underL
  rw [show ((61 : UInt8).toNat : Int) = 61 from rfl] at S1
  rw [show ((45 : UInt8).toNat : Int) = 45 from rfl] at S2
  cases h1 : stretchL 61 1 s.data.toList with
  | true =>
    rw [h1] at S1
    clear h1
    go_enter Tryz.func90, Tryz.ntmps90
    go_wp2_with fail
    (with_reducible refine (S1.out _).mono ?_)
    rintro e w1 ⟨rfl, k1⟩
    go_wp2_with fail
    go_ret
    exact ⟨rfl, k1⟩
  | false =>
    rw [h1] at S1
    clear h1
    cases h2 : stretchL 45 1 s.data.toList with
    | true =>
      rw [h2] at S2
      clear h2
      go_enter Tryz.func90, Tryz.ntmps90
      go_wp2_with fail
      (with_reducible refine (S1.out _).mono ?_)
      rintro e w1 ⟨rfl, k1⟩
      go_wp2_with fail
      (with_reducible refine (S2.out _).mono ?_)
      rintro e w2 ⟨rfl, k2⟩
      go_wp2_with fail
      go_ret
      exact ⟨rfl, k1.trans k2⟩
    | false =>
      rw [h2] at S2
      clear h2
      go_enter Tryz.func90, Tryz.ntmps90
      go_wp2_with fail
      (with_reducible refine (S1.out _).mono ?_)
      rintro e w1 ⟨rfl, k1⟩
      go_wp2_with fail
      (with_reducible refine (S2.out _).mono ?_)
      rintro e w2 ⟨rfl, k2⟩
      go_wp2_with fail
      go_ret
      exact ⟨rfl, k1.trans k2⟩
end Go.Proofs.YtdelaanaohjnkaaGreatDoor

/-
  Contracts of New, columns, atTab, Right, of places that may be.
-/
namespace Go.Proofs.YtdelaanaohjnkaaGreatDoor
open Go.RowKit Go.Lib

theorem columns_any (b : UInt8) (c : Nat) (hc : c ≤ 2000000000000) (w : World) :
    Calls Tryz.prog 96 #[.int .u8 b.toNat, .int .i64 c] w fun e w' => e = .returned (.int .i64 (wideB c 0 b : Nat)) ∧ w = w' := by
  have hb := b.toNat_lt
  have HW : Hid ((wideB c 0 b : Nat) = if b.toNat = 32 then 1 else if b.toNat = 9 then 4 - c % 4 else 0) := Lib.hid (by
    unfold wideB
    rw [if_neg (by simp)]
    have e1 : (b = 32) = (b.toNat = 32) := by rw [← UInt8.toNat_inj]; rfl
    have e2 : (b = 9) = (b.toNat = 9) := by rw [← UInt8.toNat_inj]; rfl
    simp only [e1, e2])
  generalize wideB c 0 b = z at *
  generalize b.toNat = x at *
  go_enter Tryz.func96, Tryz.ntmps96
  by_cases h1 : x = 32
  · go_wp2_with fail
    go_ret
    exact ⟨ret_int (by rw [HW.out, if_pos (by omega)]; rfl), rfl⟩
  · by_cases h2 : x = 9
    · go_wp2_with fail
      go_ret
      exact ⟨ret_int (by rw [HW.out, if_neg (by omega), if_pos (by omega)]; omega), rfl⟩
    · go_wp2_with fail
      go_ret
      exact ⟨ret_int (by rw [HW.out, if_neg (by omega), if_neg (by omega)]; rfl), rfl⟩
theorem new_any (s : ByteArray) (w : World) :
    Calls Tryz.prog 41 #[.string s] w fun e w' => e = .returned (.agg #[.string s, .int .i64 0, .int .i64 0, .int .i64 0]) ∧ Keeps w w' := by
  go_enter Tryz.func41, Tryz.ntmps41
  go_wp2_with fail
  exact bodyPost_ret (v := .agg #[.string s, .int .i64 0, .int .i64 0, .int .i64 0]) (by simp [results, Tryz.results41, go_sem]) rfl ⟨rfl, (Keeps.refl w).alloc _⟩
theorem atTab_any (s : ByteArray) (k : Nat) (c f : Int) (h : k < s.size) (ht : (((s[k].toNat : Nat) : Int) == 9) = true) (w : World) :
    Calls Tryz.prog 108 #[.agg #[.string s, .int .i64 k, .int .i64 c, .int .i64 f]] w fun e w' => e = .returned (.bool true) ∧ Keeps w w' := by
  have HT := Lib.hid ht
  clear ht
  have hb := s[k].toNat_lt
  go_enter Tryz.func108, Tryz.ntmps108
  go_wp2_with fail
  go_ret
  exact ⟨ret_bool HT.out, (Keeps.refl w).alloc _⟩
/-- Of a place within the line, in a column that may be, all is as asked if a tab that was begun is there. -/
theorem right_go (s : ByteArray) (k f : Nat) (c : Int) (hk : k ≤ s.size) (h0 : 0 ≤ c) (h1 : c ≤ 1099511627776) (hf : f < 4) (ht : f ≠ 0 → ∃ h : k < s.size, (((s[k].toNat : Nat) : Int) == 9) = true) (w : World) :
    Calls Tryz.prog 79 #[.agg #[.string s, .int .i64 k, .int .i64 c, .int .i64 f]] w fun e w' => e = .returned (.bool true) ∧ Keeps w w' := by
  by_cases hz : f = 0
  · subst hz
    clear ht hf
    go_enter Tryz.func79, Tryz.ntmps79
    go_wp2_with fail
    go_ret
    exact ⟨rfl, (Keeps.refl w).alloc _⟩
  · obtain ⟨h, t⟩ := ht hz
    have AT := Lib.hid (fun W => atTab_any s k c f h t W)
    clear t ht
    have hz1 : 0 < f := by omega
    clear hz
    go_enter Tryz.func79, Tryz.ntmps79
    go_wp2_with fail
    refine (AT.out _).mono ?_
    rintro e w1 ⟨rfl, k1⟩
    go_wp2_with fail
    go_ret
    exact ⟨rfl, ((Keeps.refl w).alloc _).trans k1⟩
end Go.Proofs.YtdelaanaohjnkaaGreatDoor

/-
  Contract of Spaces, of the package target, for texts of at most 100,000 bytes.
-/
namespace Go.Proofs.YtdelaanaohjnkaaGreatDoor
open Go.RowKit Go.Lib

theorem drop_at (s : ByteArray) (p : Nat) (h : p < s.size) : s.data.toList.drop p = s[p] :: s.data.toList.drop (p + 1) := drop_cons s.data.toList p (by rw [bytes_len]; exact h)
theorem beqT {x y : Int} (h : x = y) : (x == y) = true := beq_iff_eq.2 h
theorem beqF {x y : Int} (h : ¬ x = y) : (x == y) = false := beq_eq_false_iff_ne.2 h
set_option maxRecDepth 100000 in
set_option maxHeartbeats 1000000 in
theorem spaces_any (s : ByteArray) (one : Bool) (w : World) (hs : s.size ≤ 100000) :
    Calls Tryz.prog 158 #[.string s, .bool one] w fun e w' => e = .returned (.int .i64 (spcN one false s.data.toList : Nat)) ∧ w = w' := by
  have hl := Lib.hid (bytes_len s)
  go_enter Tryz.func158, Tryz.ntmps158
  go_wp2_with fail
  go_loop [5, 9] (fun v i => ∃ (k : Nat) (e : Bool), k ≤ s.size ∧ v = .bool e ∧ i = .int .i64 k ∧ Hid (spcN one false s.data.toList = k + spcN one e (s.data.toList.drop k))) (fun _ i => s.size - (RowKit.intOf i).toNat)
  case atStart => exact ⟨0, false, Nat.zero_le _, rfl, rfl, Lib.hid (by rw [List.drop_zero, Nat.zero_add])⟩
  case round =>
    obtain ⟨k, e, hk, rfl, rfl, HC⟩ := hrel
    by_cases h : k < s.size
    · have hb := s[k].toNat_lt
      have HE : Hid (spcN one false s.data.toList = k + if s[k].toNat = 32 ∨ s[k].toNat = 9 then spcN one e (s.data.toList.drop (k + 1)) + 1 else if s[k].toNat = 10 then (if (one && e) = true then 0 else spcN one true (s.data.toList.drop (k + 1)) + 1) else 0) := Lib.hid (by rw [HC.out, drop_at s k h]; rfl)
      clear HC
      by_cases c1 : s[k].toNat = 32
      · have q1 := beqT (show (s[k].toNat : Int) = 32 by omega)
        have HN : Hid (spcN one false s.data.toList = (k + 1) + spcN one e (s.data.toList.drop (k + 1))) := Lib.hid (by rw [HE.out, if_pos (.inl c1)]; omega)
        clear HE c1
        go_wp2_with fail
        go_round
        case rel => exact ⟨k + 1, e, h, rfl, by go_num, HN⟩
        case measure => simp [RowKit.intOf]; omega
      · have q1 := beqF (show ¬ (s[k].toNat : Int) = 32 by omega)
        by_cases c2 : s[k].toNat = 9
        · have q2 := beqT (show (s[k].toNat : Int) = 9 by omega)
          have HN : Hid (spcN one false s.data.toList = (k + 1) + spcN one e (s.data.toList.drop (k + 1))) := Lib.hid (by rw [HE.out, if_pos (.inr c2)]; omega)
          clear HE c1 c2
          go_wp2_with fail
          go_round
          case rel => exact ⟨k + 1, e, h, rfl, by go_num, HN⟩
          case measure => simp [RowKit.intOf]; omega
        · have q2 := beqF (show ¬ (s[k].toNat : Int) = 9 by omega)
          by_cases c3 : s[k].toNat = 10
          · have q3 := beqT (show (s[k].toNat : Int) = 10 by omega)
            have HF := Lib.hid (HE.out.trans (by rw [if_neg (by omega), if_pos c3]))
            clear HE c1 c2 c3
            cases one with
            | true =>
              cases e with
              | true =>
                have HN : Hid (spcN true false s.data.toList = k) := Lib.hid HF.out
                clear HF
                go_wp2_with fail
                go_ret
                exact ⟨ret_int (by rw [HN.out]), rfl⟩
              | false =>
                have HN : Hid (spcN true false s.data.toList = (k + 1) + spcN true true (s.data.toList.drop (k + 1))) := Lib.hid (by rw [HF.out, if_neg (by decide)]; omega)
                clear HF
                go_wp2_with fail
                go_round
                case rel => exact ⟨k + 1, true, h, rfl, by go_num, HN⟩
                case measure => simp [RowKit.intOf]; omega
            | false =>
              have HN : Hid (spcN false false s.data.toList = (k + 1) + spcN false true (s.data.toList.drop (k + 1))) := Lib.hid (by rw [HF.out, if_neg (by simp)]; omega)
              clear HF
              go_wp2_with fail
              go_round
              case rel => exact ⟨k + 1, true, h, rfl, by go_num, HN⟩
              case measure => simp [RowKit.intOf]; omega
          · have q3 := beqF (show ¬ (s[k].toNat : Int) = 10 by omega)
            have HN : Hid (spcN one false s.data.toList = k) := Lib.hid (by rw [HE.out, if_neg (by omega), if_neg c3]; rfl)
            clear HE c1 c2 c3
            go_wp2_with fail
            go_ret
            exact ⟨ret_int (by rw [HN.out]), rfl⟩
    · have hk2 : k = s.size := by omega
      have HN : Hid (spcN one false s.data.toList = s.size) := Lib.hid (by
        rw [HC.out, List.drop_eq_nil_of_le (by rw [bytes_len]; omega)]
        show k + 0 = s.size
        omega)
      clear HC
      go_wp2_with fail
      go_ret
      exact ⟨ret_int (by rw [HN.out]), rfl⟩
end Go.Proofs.YtdelaanaohjnkaaGreatDoor

/-
  Contracts of letter, digit, inName, inAttribute, inValue, of the package raw, and of stretch at each of these. (Written by wip/tools/rawgen.py.)
-/
namespace Go.Proofs.YtdelaanaohjnkaaGreatDoor
open Go.RowKit Go.Lib

def iLet (x : Int) : Bool := decide ((97 ≤ x ∧ x ≤ 122) ∨ (65 ≤ x ∧ x ≤ 90))
def iDig (x : Int) : Bool := decide (48 ≤ x ∧ x ≤ 57)
theorem iLet_nat (b : UInt8) : rLet b = iLet (b.toNat : Nat) := by
  unfold rLet iLet
  rw [Bool.eq_iff_iff]
  simp only [Bool.or_eq_true, decide_eq_true_eq]
  omega
theorem iDig_nat (b : UInt8) : rDig b = iDig (b.toNat : Nat) := by
  unfold rDig iDig
  rw [Bool.eq_iff_iff]
  simp only [decide_eq_true_eq]
  omega
set_option maxRecDepth 100000 in
theorem rletter_go (x : Int) (w : World) (h0 : 0 ≤ x) (h1 : x < 256) :
    Calls Tryz.prog 191 #[.int .u8 x] w fun e w' => e = .returned (.bool (iLet x)) ∧ w = w' := by
  have hw : x < 65 ∨ (65 ≤ x ∧ x ≤ 90) ∨ (90 < x ∧ x < 97) ∨ (97 ≤ x ∧ x ≤ 122) ∨ 122 < x := by omega
  rcases hw with a | ⟨a, b⟩ | ⟨a, b⟩ | ⟨a, b⟩ | a
  · rw [show iLet x = false from decide_eq_false (by omega)]
    go_enter Tryz.func191, Tryz.ntmps191
    go_wp2
    go_ret
    exact ⟨rfl, rfl⟩
  · rw [show iLet x = true from decide_eq_true (by omega)]
    go_enter Tryz.func191, Tryz.ntmps191
    go_wp2
    go_ret
    exact ⟨ret_bool (by first | rfl | (simp; omega)), rfl⟩
  · rw [show iLet x = false from decide_eq_false (by omega)]
    go_enter Tryz.func191, Tryz.ntmps191
    go_wp2
    go_ret
    exact ⟨ret_bool (by first | rfl | (simp; omega)), rfl⟩
  · rw [show iLet x = true from decide_eq_true (by omega)]
    go_enter Tryz.func191, Tryz.ntmps191
    go_wp2
    go_ret
    exact ⟨ret_bool (by first | rfl | (simp; omega)), rfl⟩
  · rw [show iLet x = false from decide_eq_false (by omega)]
    go_enter Tryz.func191, Tryz.ntmps191
    go_wp2
    go_ret
    exact ⟨ret_bool (by first | rfl | (simp; omega)), rfl⟩
theorem rletter_any (b : UInt8) (w : World) :
    Calls Tryz.prog 191 #[.int .u8 (b.toNat : Nat)] w fun e w' => e = .returned (.bool (rLet b)) ∧ w = w' := by
  have hb := b.toNat_lt
  rw [iLet_nat]
  exact rletter_go _ w (by omega) (by omega)
set_option maxRecDepth 100000 in
theorem wdigit_go (x : Int) (w : World) (h0 : 0 ≤ x) (h1 : x < 256) :
    Calls Tryz.prog 205 #[.int .u8 x] w fun e w' => e = .returned (.bool (iDig x)) ∧ w = w' := by
  have hw : x < 48 ∨ (48 ≤ x ∧ x ≤ 57) ∨ 57 < x := by omega
  rcases hw with a | ⟨a, b⟩ | a
  · rw [show iDig x = false from decide_eq_false (by omega)]
    go_enter Tryz.func205, Tryz.ntmps205
    go_wp2
    go_ret
    exact ⟨rfl, rfl⟩
  · rw [show iDig x = true from decide_eq_true (by omega)]
    go_enter Tryz.func205, Tryz.ntmps205
    go_wp2
    go_ret
    exact ⟨ret_bool (by first | rfl | (simp; omega)), rfl⟩
  · rw [show iDig x = false from decide_eq_false (by omega)]
    go_enter Tryz.func205, Tryz.ntmps205
    go_wp2
    go_ret
    exact ⟨ret_bool (by first | rfl | (simp; omega)), rfl⟩
set_option maxRecDepth 100000 in
theorem inName_any (b : UInt8) (w : World) :
    Calls Tryz.prog 193 #[.int .u8 (b.toNat : Nat)] w fun e w' => e = .returned (.bool (rNam b)) ∧ w = w' := by
  have hb := b.toNat_lt
  obtain ⟨x, hx⟩ : ∃ x : Int, (b.toNat : Int) = x := ⟨_, rfl⟩
  have E : rNam b = (iLet x || iDig x || decide (x = 45)) := by
    unfold rNam
    rw [iLet_nat, iDig_nat, hx]
    congr 1
    rw [Bool.eq_iff_iff]
    simp only [decide_eq_true_eq]
    omega
  have LT := Lib.hid (fun W => rletter_go x W (by omega) (by omega))
  have DG := Lib.hid (fun W => wdigit_go x W (by omega) (by omega))
  rw [E, hx]
  clear E hx hb
  cases c1 : iLet x with
  | true =>
    rw [c1] at LT
    go_enter Tryz.func193, Tryz.ntmps193
    go_wp2_with fail
    refine (LT.out _).mono ?_
    rintro e w1 ⟨rfl, rfl⟩
    go_wp2_with fail
    go_ret
    exact ⟨rfl, rfl⟩
  | false =>
    rw [c1] at LT
    cases c2 : iDig x with
    | true =>
      rw [c2] at DG
      go_enter Tryz.func193, Tryz.ntmps193
      go_wp2_with fail
      refine (LT.out _).mono ?_
      rintro e w1 ⟨rfl, rfl⟩
      go_wp2_with fail
      refine (DG.out _).mono ?_
      rintro e w1 ⟨rfl, rfl⟩
      go_wp2_with fail
      go_ret
      exact ⟨rfl, rfl⟩
    | false =>
      rw [c2] at DG
      go_enter Tryz.func193, Tryz.ntmps193
      go_wp2_with fail
      refine (LT.out _).mono ?_
      rintro e w1 ⟨rfl, rfl⟩
      go_wp2_with fail
      refine (DG.out _).mono ?_
      rintro e w1 ⟨rfl, rfl⟩
      go_wp2_with fail
      go_ret
      exact ⟨ret_bool (by first | rfl | simp), rfl⟩
set_option maxRecDepth 100000 in
set_option maxHeartbeats 1000000 in
theorem inAttribute_any (b : UInt8) (w : World) :
    Calls Tryz.prog 214 #[.int .u8 (b.toNat : Nat)] w fun e w' => e = .returned (.bool (rAtt b)) ∧ w = w' := by
  have hb := b.toNat_lt
  obtain ⟨x, hx⟩ : ∃ x : Int, (b.toNat : Int) = x := ⟨_, rfl⟩
  have E : rAtt b = (iLet x || iDig x || decide (x = 95 ∨ x = 58 ∨ x = 46 ∨ x = 45)) := by
    unfold rAtt
    rw [iLet_nat, iDig_nat, hx]
    congr 1
    rw [Bool.eq_iff_iff]
    simp only [decide_eq_true_eq]
    omega
  have LT := Lib.hid (fun W => rletter_go x W (by omega) (by omega))
  have DG := Lib.hid (fun W => wdigit_go x W (by omega) (by omega))
  rw [E, hx]
  clear E hx hb
  by_cases c : x = 95 ∨ x = 58 ∨ x = 46 ∨ x = 45
  · have c0 := Lib.hid (decide_eq_true c)
    rcases c with rfl | rfl | rfl | rfl
    all_goals
      rw [c0.out, Bool.or_true]
      clear c0 LT DG
      go_enter Tryz.func214, Tryz.ntmps214
      go_wp2
      go_ret
      exact ⟨rfl, rfl⟩
  · have c0 := Lib.hid (decide_eq_false c)
    rw [c0.out, Bool.or_false]
    have t0 := beqF (show ¬ x = 95 by omega)
    have t1 := beqF (show ¬ x = 58 by omega)
    have t2 := beqF (show ¬ x = 46 by omega)
    have t3 := beqF (show ¬ x = 45 by omega)
    clear c c0
    cases c1 : iLet x with
    | true =>
      rw [c1] at LT
      go_enter Tryz.func214, Tryz.ntmps214
      go_wp2_with fail
      refine (LT.out _).mono ?_
      rintro e w1 ⟨rfl, rfl⟩
      go_wp2_with fail
      go_ret
      exact ⟨rfl, rfl⟩
    | false =>
      rw [c1] at LT
      go_enter Tryz.func214, Tryz.ntmps214
      go_wp2_with fail
      refine (LT.out _).mono ?_
      rintro e w1 ⟨rfl, rfl⟩
      go_wp2_with fail
      refine (DG.out _).mono ?_
      rintro e w1 ⟨rfl, rfl⟩
      go_wp2_with fail
      go_ret
      exact ⟨rfl, rfl⟩
set_option maxRecDepth 100000 in
set_option maxHeartbeats 1000000 in
theorem inValue_any (b : UInt8) (w : World) :
    Calls Tryz.prog 221 #[.int .u8 (b.toNat : Nat)] w fun e w' => e = .returned (.bool (rVal b)) ∧ w = w' := by
  have hb := b.toNat_lt
  obtain ⟨x, hx⟩ : ∃ x : Int, (b.toNat : Int) = x := ⟨_, rfl⟩
  have E : rVal b = !decide (x = 32 ∨ x = 9 ∨ x = 10 ∨ x = 34 ∨ x = 39 ∨ x = 61 ∨ x = 60 ∨ x = 62 ∨ x = 96) := by
    unfold rVal
    congr 1
    rw [Bool.eq_iff_iff]
    simp only [decide_eq_true_eq]
    omega
  rw [E, hx]
  clear E hx hb
  by_cases c : x = 32 ∨ x = 9 ∨ x = 10 ∨ x = 34 ∨ x = 39 ∨ x = 61 ∨ x = 60 ∨ x = 62 ∨ x = 96
  · have c0 := Lib.hid (decide_eq_true c)
    rcases c with rfl | rfl | rfl | rfl | rfl | rfl | rfl | rfl | rfl
    all_goals
      rw [c0.out]
      clear c0
      go_enter Tryz.func221, Tryz.ntmps221
      go_wp2
      go_ret
      exact ⟨rfl, rfl⟩
  · have c0 := Lib.hid (decide_eq_false c)
    rw [c0.out]
    have t0 := beqF (show ¬ x = 32 by omega)
    have t1 := beqF (show ¬ x = 9 by omega)
    have t2 := beqF (show ¬ x = 10 by omega)
    have t3 := beqF (show ¬ x = 34 by omega)
    have t4 := beqF (show ¬ x = 39 by omega)
    have t5 := beqF (show ¬ x = 61 by omega)
    have t6 := beqF (show ¬ x = 60 by omega)
    have t7 := beqF (show ¬ x = 62 by omega)
    have t8 := beqF (show ¬ x = 96 by omega)
    clear c c0
    go_enter Tryz.func221, Tryz.ntmps221
    go_wp2
    go_ret
    exact ⟨rfl, rfl⟩

/-- A round of stretch. -/
theorem cnt_at_yes {p : UInt8 → Bool} {s : ByteArray} {k : Nat} (h : k < s.size) (hc : cntP p s.data.toList = k + cntP p (s.data.toList.drop k)) (hp : p s[k] = true) : cntP p s.data.toList = (k + 1) + cntP p (s.data.toList.drop (k + 1)) := by
  rw [hc, drop_at s k h, cntP_yes _ hp]
  omega
theorem cnt_at_no {p : UInt8 → Bool} {s : ByteArray} {k : Nat} (h : k < s.size) (hc : cntP p s.data.toList = k + cntP p (s.data.toList.drop k)) (hp : p s[k] = false) : cntP p s.data.toList = k := by
  rw [hc, drop_at s k h, cntP_no _ hp]
  omega
theorem cnt_at_end {p : UInt8 → Bool} {s : ByteArray} (hc : cntP p s.data.toList = s.size + cntP p (s.data.toList.drop s.size)) : cntP p s.data.toList = s.size := by
  rw [hc, List.drop_eq_nil_of_le (by rw [bytes_len]; omega)]
  rfl
set_option maxRecDepth 100000 in
set_option maxHeartbeats 1000000 in
theorem stretch_rNam (s : ByteArray) (w : World) (hs : s.size ≤ 100000) :
    Calls Tryz.prog 192 #[.string s, .func (.func 193) #[] #[]] w fun e w' => e = .returned (.int .i64 (cntP rNam s.data.toList : Nat)) ∧ w = w' := by
  have BY := Lib.hid (fun b W => inName_any b W)
  go_enter Tryz.func192, Tryz.ntmps192
  go_wp2_with fail
  go_loop [8] (fun i => ∃ k : Nat, k ≤ s.size ∧ i = .int .i64 k ∧ Hid (cntP rNam s.data.toList = k + cntP rNam (s.data.toList.drop k))) (fun i => s.size - (RowKit.intOf i).toNat)
  case atStart => exact ⟨0, Nat.zero_le _, rfl, Lib.hid (by rw [List.drop_zero, Nat.zero_add])⟩
  case round =>
    obtain ⟨k, hk, rfl, HC⟩ := hrel
    by_cases h : k < s.size
    · have hb := s[k].toNat_lt
      have B1 := Lib.hid (fun W => BY.out s[k] W)
      cases hp : rNam s[k] with
      | true =>
        rw [hp] at B1
        have HN := Lib.hid (cnt_at_yes h HC.out hp)
        clear hp HC
        go_wp2_with fail
        refine (B1.out _).mono ?_
        rintro e w1 ⟨rfl, rfl⟩
        go_wp2_with fail
        go_round
        case rel => exact ⟨k + 1, h, by go_num, HN⟩
        case measure => simp [RowKit.intOf]; omega
      | false =>
        rw [hp] at B1
        have HN := Lib.hid (cnt_at_no h HC.out hp)
        clear hp HC
        go_wp2_with fail
        refine (B1.out _).mono ?_
        rintro e w1 ⟨rfl, rfl⟩
        go_wp2_with fail
        go_ret
        exact ⟨ret_int (by rw [HN.out]), rfl⟩
    · obtain rfl : k = s.size := by omega
      have HN := Lib.hid (cnt_at_end HC.out)
      clear HC
      go_wp2_with fail
      go_ret
      exact ⟨ret_int (by rw [HN.out]), rfl⟩
set_option maxRecDepth 100000 in
set_option maxHeartbeats 1000000 in
theorem stretch_rAtt (s : ByteArray) (w : World) (hs : s.size ≤ 100000) :
    Calls Tryz.prog 192 #[.string s, .func (.func 214) #[] #[]] w fun e w' => e = .returned (.int .i64 (cntP rAtt s.data.toList : Nat)) ∧ w = w' := by
  have BY := Lib.hid (fun b W => inAttribute_any b W)
  go_enter Tryz.func192, Tryz.ntmps192
  go_wp2_with fail
  go_loop [8] (fun i => ∃ k : Nat, k ≤ s.size ∧ i = .int .i64 k ∧ Hid (cntP rAtt s.data.toList = k + cntP rAtt (s.data.toList.drop k))) (fun i => s.size - (RowKit.intOf i).toNat)
  case atStart => exact ⟨0, Nat.zero_le _, rfl, Lib.hid (by rw [List.drop_zero, Nat.zero_add])⟩
  case round =>
    obtain ⟨k, hk, rfl, HC⟩ := hrel
    by_cases h : k < s.size
    · have hb := s[k].toNat_lt
      have B1 := Lib.hid (fun W => BY.out s[k] W)
      cases hp : rAtt s[k] with
      | true =>
        rw [hp] at B1
        have HN := Lib.hid (cnt_at_yes h HC.out hp)
        clear hp HC
        go_wp2_with fail
        refine (B1.out _).mono ?_
        rintro e w1 ⟨rfl, rfl⟩
        go_wp2_with fail
        go_round
        case rel => exact ⟨k + 1, h, by go_num, HN⟩
        case measure => simp [RowKit.intOf]; omega
      | false =>
        rw [hp] at B1
        have HN := Lib.hid (cnt_at_no h HC.out hp)
        clear hp HC
        go_wp2_with fail
        refine (B1.out _).mono ?_
        rintro e w1 ⟨rfl, rfl⟩
        go_wp2_with fail
        go_ret
        exact ⟨ret_int (by rw [HN.out]), rfl⟩
    · obtain rfl : k = s.size := by omega
      have HN := Lib.hid (cnt_at_end HC.out)
      clear HC
      go_wp2_with fail
      go_ret
      exact ⟨ret_int (by rw [HN.out]), rfl⟩
set_option maxRecDepth 100000 in
set_option maxHeartbeats 1000000 in
theorem stretch_rVal (s : ByteArray) (w : World) (hs : s.size ≤ 100000) :
    Calls Tryz.prog 192 #[.string s, .func (.func 221) #[] #[]] w fun e w' => e = .returned (.int .i64 (cntP rVal s.data.toList : Nat)) ∧ w = w' := by
  have BY := Lib.hid (fun b W => inValue_any b W)
  go_enter Tryz.func192, Tryz.ntmps192
  go_wp2_with fail
  go_loop [8] (fun i => ∃ k : Nat, k ≤ s.size ∧ i = .int .i64 k ∧ Hid (cntP rVal s.data.toList = k + cntP rVal (s.data.toList.drop k))) (fun i => s.size - (RowKit.intOf i).toNat)
  case atStart => exact ⟨0, Nat.zero_le _, rfl, Lib.hid (by rw [List.drop_zero, Nat.zero_add])⟩
  case round =>
    obtain ⟨k, hk, rfl, HC⟩ := hrel
    by_cases h : k < s.size
    · have hb := s[k].toNat_lt
      have B1 := Lib.hid (fun W => BY.out s[k] W)
      cases hp : rVal s[k] with
      | true =>
        rw [hp] at B1
        have HN := Lib.hid (cnt_at_yes h HC.out hp)
        clear hp HC
        go_wp2_with fail
        refine (B1.out _).mono ?_
        rintro e w1 ⟨rfl, rfl⟩
        go_wp2_with fail
        go_round
        case rel => exact ⟨k + 1, h, by go_num, HN⟩
        case measure => simp [RowKit.intOf]; omega
      | false =>
        rw [hp] at B1
        have HN := Lib.hid (cnt_at_no h HC.out hp)
        clear hp HC
        go_wp2_with fail
        refine (B1.out _).mono ?_
        rintro e w1 ⟨rfl, rfl⟩
        go_wp2_with fail
        go_ret
        exact ⟨ret_int (by rw [HN.out]), rfl⟩
    · obtain rfl : k = s.size := by omega
      have HN := Lib.hid (cnt_at_end HC.out)
      clear HC
      go_wp2_with fail
      go_ret
      exact ⟨ret_int (by rw [HN.out]), rfl⟩
end Go.Proofs.YtdelaanaohjnkaaGreatDoor

