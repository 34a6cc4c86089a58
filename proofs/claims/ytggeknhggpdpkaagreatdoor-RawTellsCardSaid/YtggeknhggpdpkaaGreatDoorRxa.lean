/-
  Contracts of letter, digit, space, has, upto, spaces, ticks, tagName, attrName, value, of the document's answer of layer 11, for texts of at most 100,000 bytes. (Written by wip/tools/rawref.py.)
-/
import Derived.Test.YtggeknhggpdpkaaGreatDoorRwe
import Derived.Test.YtggeknhggpdpkaaGreatDoorRwo
namespace Go.Proofs.YtggeknhggpdpkaaGreatDoor
open Go.RowKit Go.Lib

set_option maxRecDepth 100000 in
theorem dletter_go (x : Int) (w : World) (h0 : 0 ≤ x) (h1 : x < 256) :
    Calls Tryz.prog 38 #[.int .u8 x] w fun e w' => e = .returned (.bool (iLet x)) ∧ w = w' := by
  have hw : x < 65 ∨ (65 ≤ x ∧ x ≤ 90) ∨ (90 < x ∧ x < 97) ∨ (97 ≤ x ∧ x ≤ 122) ∨ 122 < x := by omega
  rcases hw with a | ⟨a, b⟩ | ⟨a, b⟩ | ⟨a, b⟩ | a
  · rw [show iLet x = false from decide_eq_false (by omega)]
    go_enter Tryz.func38, Tryz.ntmps38
    go_wp2_with fail
    go_ret
    exact ⟨ret_bool (by first | rfl | (simp; omega)), rfl⟩
  · rw [show iLet x = true from decide_eq_true (by omega)]
    go_enter Tryz.func38, Tryz.ntmps38
    go_wp2_with fail
    go_ret
    exact ⟨ret_bool (by first | rfl | (simp; omega)), rfl⟩
  · rw [show iLet x = false from decide_eq_false (by omega)]
    go_enter Tryz.func38, Tryz.ntmps38
    go_wp2_with fail
    go_ret
    exact ⟨ret_bool (by first | rfl | (simp; omega)), rfl⟩
  · rw [show iLet x = true from decide_eq_true (by omega)]
    go_enter Tryz.func38, Tryz.ntmps38
    go_wp2_with fail
    go_ret
    exact ⟨ret_bool (by first | rfl | (simp; omega)), rfl⟩
  · rw [show iLet x = false from decide_eq_false (by omega)]
    go_enter Tryz.func38, Tryz.ntmps38
    go_wp2_with fail
    go_ret
    exact ⟨ret_bool (by first | rfl | (simp; omega)), rfl⟩
theorem dletter_any (b : UInt8) (w : World) :
    Calls Tryz.prog 38 #[.int .u8 (b.toNat : Nat)] w fun e w' => e = .returned (.bool (rLet b)) ∧ w = w' := by
  have hb := b.toNat_lt
  rw [iLet_nat]
  exact dletter_go _ w (by omega) (by omega)
set_option maxRecDepth 100000 in
theorem ddigit_go (x : Int) (w : World) (h0 : 0 ≤ x) (h1 : x < 256) :
    Calls Tryz.prog 47 #[.int .u8 x] w fun e w' => e = .returned (.bool (iDig x)) ∧ w = w' := by
  have hw : x < 48 ∨ (48 ≤ x ∧ x ≤ 57) ∨ 57 < x := by omega
  rcases hw with a | ⟨a, b⟩ | a
  · rw [show iDig x = false from decide_eq_false (by omega)]
    go_enter Tryz.func47, Tryz.ntmps47
    go_wp2_with fail
    go_ret
    exact ⟨ret_bool (by first | rfl | (simp; omega)), rfl⟩
  · rw [show iDig x = true from decide_eq_true (by omega)]
    go_enter Tryz.func47, Tryz.ntmps47
    go_wp2_with fail
    go_ret
    exact ⟨ret_bool (by first | rfl | (simp; omega)), rfl⟩
  · rw [show iDig x = false from decide_eq_false (by omega)]
    go_enter Tryz.func47, Tryz.ntmps47
    go_wp2_with fail
    go_ret
    exact ⟨ret_bool (by first | rfl | (simp; omega)), rfl⟩
theorem ddigit_any (b : UInt8) (w : World) :
    Calls Tryz.prog 47 #[.int .u8 (b.toNat : Nat)] w fun e w' => e = .returned (.bool (rDig b)) ∧ w = w' := by
  have hb := b.toNat_lt
  rw [iDig_nat]
  exact ddigit_go _ w (by omega) (by omega)
set_option maxRecDepth 100000 in
theorem dspace_any (b : UInt8) (w : World) :
    Calls Tryz.prog 58 #[.int .u8 (b.toNat : Nat)] w fun e w' => e = .returned (.bool (rSpc b)) ∧ w = w' := by
  have hb := b.toNat_lt
  by_cases c1 : b.toNat = 32
  · have q1 := beqT (show (b.toNat : Int) = 32 by omega)
    rw [show rSpc b = true from decide_eq_true (.inl c1)]
    clear c1
    go_enter Tryz.func58, Tryz.ntmps58
    go_wp2_with fail
    go_ret
    exact ⟨rfl, rfl⟩
  · have q1 := beqF (show ¬ (b.toNat : Int) = 32 by omega)
    by_cases c2 : b.toNat = 9
    · have q2 := beqT (show (b.toNat : Int) = 9 by omega)
      rw [show rSpc b = true from decide_eq_true (.inr (.inl c2))]
      clear c1 c2
      go_enter Tryz.func58, Tryz.ntmps58
      go_wp2_with fail
      go_ret
      exact ⟨rfl, rfl⟩
    · have q2 := beqF (show ¬ (b.toNat : Int) = 9 by omega)
      by_cases c3 : b.toNat = 10
      · have q3 := beqT (show (b.toNat : Int) = 10 by omega)
        rw [show rSpc b = true from decide_eq_true (.inr (.inr c3))]
        clear c1 c2 c3
        go_enter Tryz.func58, Tryz.ntmps58
        go_wp2_with fail
        go_ret
        exact ⟨rfl, rfl⟩
      · have q3 := beqF (show ¬ (b.toNat : Int) = 10 by omega)
        rw [show rSpc b = false from decide_eq_false (by omega)]
        clear c1 c2 c3
        go_enter Tryz.func58, Tryz.ntmps58
        go_wp2_with fail
        go_ret
        exact ⟨rfl, rfl⟩

/-! ### has, upto -/
theorem occ_ext {s t : ByteArray} {j : Nat} (h : occAt s.data.toList t.data.toList j = true) : s.extract j (j + t.size) = t := by
  obtain ⟨z, hz⟩ := List.isPrefixOf_iff_prefix.1 h
  refine bytes_eq ?_
  rw [Lib.extract_data, Nat.add_sub_cancel_left, ← hz, ← bytes_len t, List.take_left]
theorem occ_not {s t : ByteArray} {j : Nat} (h : occAt s.data.toList t.data.toList j = false) : ¬ s.extract j (j + t.size) = t := fun e => by
  have e2 := congrArg (fun b : ByteArray => b.data.toList) e
  rw [Lib.extract_data, Nat.add_sub_cancel_left] at e2
  have : occAt s.data.toList t.data.toList j = true := List.isPrefixOf_iff_prefix.2 ⟨(s.data.toList.drop j).drop t.size, by
    conv => lhs; rw [← e2]
    exact List.take_append_drop _ _⟩
  rw [this] at h
  cases h
theorem toList_ne {a b : ByteArray} (h : ¬ a = b) : (a.toList == b.toList) = false ∧ ¬ a.toList = b.toList := by
  have : ¬ a.toList = b.toList := fun e => h (by
    rw [Lib.toList_data, Lib.toList_data] at e
    exact bytes_eq e)
  exact ⟨beq_eq_false_iff_ne.2 this, this⟩
set_option maxRecDepth 100000 in
set_option maxHeartbeats 400000 in
theorem dhas_any (s t : ByteArray) (w : World) (_hs : s.size ≤ 100000) (_ht : t.size ≤ 100000) :
    Calls Tryz.prog 19 #[.string s, .string t] w fun e w' => e = .returned (.bool (hasPrefix s.data.toList t.data.toList)) ∧ w = w' := by
  have o : occAt s.data.toList t.data.toList 0 = hasPrefix s.data.toList t.data.toList := by unfold occAt hasPrefix; rw [List.drop_zero]
  by_cases c : t.size ≤ s.size
  · have q := decide_eq_true (show (t.size : Int) ≤ (s.size : Int) by omega)
    cases h : hasPrefix s.data.toList t.data.toList with
    | true =>
      have e := occ_ext (o.trans h)
      rw [Nat.zero_add] at e
      clear o h
      go_enter Tryz.func19, Tryz.ntmps19
      go_wp2_with fail
      go_ret
      exact ⟨ret_bool (by simp), rfl⟩
    | false =>
      have e := occ_not (o.trans h)
      rw [Nat.zero_add] at e
      obtain ⟨P, hP⟩ : ∃ P, s.extract 0 t.size = P := ⟨_, rfl⟩
      rw [hP] at e
      obtain ⟨e1, e2⟩ := toList_ne e
      clear o h e
      go_enter Tryz.func19, Tryz.ntmps19
      go_wp2_with fail
      go_ret
      exact ⟨ret_bool (by first | rfl | simp [e1] | simpa using e2), rfl⟩
  · have q := decide_eq_false (show ¬ (t.size : Int) ≤ (s.size : Int) by omega)
    rw [show hasPrefix s.data.toList t.data.toList = false from by
      cases h : hasPrefix s.data.toList t.data.toList with
      | false => rfl
      | true =>
        have := pre_len h
        rw [bytes_len, bytes_len] at this
        omega]
    clear o
    go_enter Tryz.func19, Tryz.ntmps19
    go_wp2_with fail
    go_ret
    exact ⟨rfl, rfl⟩

/-- Where upto's loop stands. -/
theorem up_hit {k j : Nat} {q l : List UInt8} (hj : k ≤ j) (hl : j + q.length ≤ l.length) (h : ∀ m, k ≤ m → m < j → occAt l q m = false) (o : occAt l q j = true) : upA k q l = j + q.length := by
  have e : ∀ m, occAt (l.drop k) q m = occAt l q (k + m) := fun m => by unfold occAt; rw [List.drop_drop]
  have i : index (l.drop k) q = ((j - k : Nat) : Int) := index_first (by rw [List.length_drop]; omega) (by rw [e, show k + (j - k) = j by omega]; exact o) (fun m hm => by rw [e]; exact h _ (by omega) (by omega))
  unfold upA
  rw [i, if_neg (by omega), Int.toNat_natCast]
  omega
theorem up_miss {k j : Nat} {q l : List UInt8} (hq : q ≠ []) (hl : l.length < j + q.length) (h : ∀ m, k ≤ m → m < j → occAt l q m = false) : upA k q l = 0 := by
  have e : ∀ m, occAt (l.drop k) q m = occAt l q (k + m) := fun m => by unfold occAt; rw [List.drop_drop]
  have i : index (l.drop k) q = -1 := index_none (fun m _ => by
    rw [e]
    by_cases g : k + m < j
    · exact h _ (by omega) g
    · cases o : occAt l q (k + m) with
      | false => rfl
      | true =>
        have h1 := (List.isPrefixOf_iff_prefix.1 o).length_le
        have h2 := List.length_pos_iff.2 hq
        rw [List.length_drop] at h1
        omega)
  unfold upA
  rw [i, if_pos rfl]
set_option maxRecDepth 100000 in
set_option maxHeartbeats 1000000 in
theorem dupto_any (s t : ByteArray) (k : Nat) (w : World) (hs : s.size ≤ 100000) (ht : t.size ≤ 100000) (h1 : 1 ≤ t.size) (hk : k ≤ s.size) :
    Calls Tryz.prog 37 #[.string s, .string t, .int .i64 (k : Nat)] w fun e w' => e = .returned (.int .i64 (upA k t.data.toList s.data.toList : Nat)) ∧ w = w' := by
  have hl := Lib.hid (bytes_len s)
  have tl := Lib.hid (bytes_len t)
  have hne : Hid (t.data.toList ≠ []) := Lib.hid (fun e => by
    have := bytes_len t
    rw [e] at this
    simp at this
    omega)
  go_enter Tryz.func37, Tryz.ntmps37
  go_wp2_with fail
  go_loop [7] (fun v => ∃ j : Nat, k ≤ j ∧ j ≤ s.size ∧ v = .int .i64 j ∧ Hid (∀ m, k ≤ m → m < j → occAt s.data.toList t.data.toList m = false)) (fun v => s.size + 1 - (RowKit.intOf v).toNat)
  case atStart => exact ⟨k, Nat.le_refl _, hk, rfl, Lib.hid (fun m h1 h2 => by omega)⟩
  case round =>
    obtain ⟨j, hkj, hj, rfl, HC⟩ := hrel
    by_cases c : j + t.size ≤ s.size
    · have q := decide_eq_true (show (j : Int) + (t.size : Int) ≤ (s.size : Int) by omega)
      cases o : occAt s.data.toList t.data.toList j with
      | true =>
        have e := occ_ext o
        have HN := Lib.hid (up_hit hkj (by rw [hl.out, tl.out]; exact c) HC.out o)
        clear HC o
        go_wp2_with fail
        go_ret
        exact ⟨ret_int (by rw [HN.out, tl.out]; omega), rfl⟩
      | false =>
        have HN : Hid (∀ m, k ≤ m → m < j + 1 → occAt s.data.toList t.data.toList m = false) := Lib.hid (fun m h1 h2 => by
          by_cases e : m = j
          · rw [e]; exact o
          · exact HC.out m h1 (by omega))
        have e := occ_not o
        obtain ⟨P, hP⟩ : ∃ P, s.extract j (j + t.size) = P := ⟨_, rfl⟩
        rw [hP] at e
        obtain ⟨e1, e2⟩ := toList_ne e
        clear HC o e
        go_wp2_with fail
        go_round
        case rel => exact ⟨j + 1, by omega, by omega, by go_num, HN⟩
        case measure => simp [RowKit.intOf]; omega
    · have q := decide_eq_false (show ¬ (j : Int) + (t.size : Int) ≤ (s.size : Int) by omega)
      have HN := Lib.hid (up_miss hne.out (by rw [hl.out, tl.out]; omega) HC.out)
      clear HC
      go_wp2_with fail
      go_ret
      exact ⟨ret_int (by rw [HN.out]; rfl), rfl⟩

/-! ### Stretches from a place on -/
theorem cnt_from_yes {p : UInt8 → Bool} {s : ByteArray} {i k j : Nat} (e : i + k = j) (h : j < s.size) (hc : cntP p (s.data.toList.drop i) = k + cntP p (s.data.toList.drop j)) (hp : p s[j] = true) : cntP p (s.data.toList.drop i) = (k + 1) + cntP p (s.data.toList.drop (i + (k + 1))) := by
  rw [hc, drop_at s j h, cntP_yes _ hp, show i + (k + 1) = j + 1 by omega]
  omega
theorem cnt_from_no {p : UInt8 → Bool} {s : ByteArray} {i k j : Nat} (h : j < s.size) (hc : cntP p (s.data.toList.drop i) = k + cntP p (s.data.toList.drop j)) (hp : p s[j] = false) : cntP p (s.data.toList.drop i) = k := by
  rw [hc, drop_at s j h, cntP_no _ hp]
  omega
theorem cnt_from_end {p : UInt8 → Bool} {s : ByteArray} {i k j : Nat} (h : s.size ≤ j) (hc : cntP p (s.data.toList.drop i) = k + cntP p (s.data.toList.drop j)) : cntP p (s.data.toList.drop i) = k := by
  rw [hc, List.drop_eq_nil_of_le (by rw [bytes_len]; omega)]
  rfl
set_option maxRecDepth 100000 in
set_option maxHeartbeats 2000000 in
theorem dspaces_any (s : ByteArray) (i : Nat) (w : World) (hs : s.size ≤ 100000) (hi : i ≤ s.size) :
    Calls Tryz.prog 33 #[.string s, .int .i64 (i : Nat)] w fun e w' => e = .returned (.int .i64 (cntP rSpc (s.data.toList.drop i) : Nat)) ∧ w = w' := by
  have SP := Lib.hid (fun b W => dspace_any b W)
  go_enter Tryz.func33, Tryz.ntmps33
  go_wp2_with fail
  go_loop [5] (fun v => ∃ k : Nat, i + k ≤ s.size ∧ v = .int .i64 k ∧ Hid (cntP rSpc (s.data.toList.drop i) = k + cntP rSpc (s.data.toList.drop (i + k)))) (fun v => s.size - (RowKit.intOf v).toNat)
  case atStart => exact ⟨0, by omega, rfl, Lib.hid (by rw [Nat.add_zero, Nat.zero_add])⟩
  case round =>
    obtain ⟨k, hk, rfl, HC⟩ := hrel
    obtain ⟨j, hj2⟩ : ∃ j, i + k = j := ⟨_, rfl⟩
    have hj : (i : Int) + (k : Int) = (j : Int) := by omega
    rw [hj2] at HC hk
    by_cases h : j < s.size
    · have hb := s[j].toNat_lt
      have S1 := Lib.hid (fun W => SP.out s[j] W)
      cases c0 : rSpc s[j] with
      | true =>
        rw [c0] at S1
        have HN := Lib.hid (cnt_from_yes hj2 h HC.out (c0))
        clear HC c0
        go_wp2_with fail
        refine (S1.out _).mono ?_
        rintro e w1 ⟨rfl, rfl⟩
        go_wp2_with fail
        go_round
        case rel => exact ⟨k + 1, by omega, by go_num, HN⟩
        case measure => simp [RowKit.intOf]; omega
      | false =>
        rw [c0] at S1
        have HN := Lib.hid (cnt_from_no h HC.out (c0))
        clear HC c0
        go_wp2_with fail
        refine (S1.out _).mono ?_
        rintro e w1 ⟨rfl, rfl⟩
        go_wp2_with fail
        go_ret
        exact ⟨ret_int (by rw [HN.out]), rfl⟩
    · have HN := Lib.hid (cnt_from_end (by omega) HC.out)
      clear HC
      go_wp2_with fail
      go_ret
      exact ⟨ret_int (by rw [HN.out]), rfl⟩
set_option maxRecDepth 100000 in
set_option maxHeartbeats 2000000 in
theorem dticks_any (s : ByteArray) (i : Nat) (w : World) (hs : s.size ≤ 100000) (hi : i ≤ s.size) :
    Calls Tryz.prog 25 #[.string s, .int .i64 (i : Nat)] w fun e w' => e = .returned (.int .i64 (cntP rTik (s.data.toList.drop i) : Nat)) ∧ w = w' := by
  go_enter Tryz.func25, Tryz.ntmps25
  go_wp2_with fail
  go_loop [5] (fun v => ∃ k : Nat, i + k ≤ s.size ∧ v = .int .i64 k ∧ Hid (cntP rTik (s.data.toList.drop i) = k + cntP rTik (s.data.toList.drop (i + k)))) (fun v => s.size - (RowKit.intOf v).toNat)
  case atStart => exact ⟨0, by omega, rfl, Lib.hid (by rw [Nat.add_zero, Nat.zero_add])⟩
  case round =>
    obtain ⟨k, hk, rfl, HC⟩ := hrel
    obtain ⟨j, hj2⟩ : ∃ j, i + k = j := ⟨_, rfl⟩
    have hj : (i : Int) + (k : Int) = (j : Int) := by omega
    rw [hj2] at HC hk
    by_cases h : j < s.size
    · have hb := s[j].toNat_lt
      by_cases d0 : s[j].toNat = 96
      · have q0 := beqT (show (s[j].toNat : Int) = 96 by omega)
        have HN := Lib.hid (cnt_from_yes hj2 h HC.out (decide_eq_true d0))
        clear HC d0
        go_wp2_with fail
        go_round
        case rel => exact ⟨k + 1, by omega, by go_num, HN⟩
        case measure => simp [RowKit.intOf]; omega
      · have q0 := beqF (show ¬ (s[j].toNat : Int) = 96 by omega)
        have HN := Lib.hid (cnt_from_no h HC.out (decide_eq_false d0))
        clear HC d0
        go_wp2_with fail
        go_ret
        exact ⟨ret_int (by rw [HN.out]), rfl⟩
    · have HN := Lib.hid (cnt_from_end (by omega) HC.out)
      clear HC
      go_wp2_with fail
      go_ret
      exact ⟨ret_int (by rw [HN.out]), rfl⟩
set_option maxRecDepth 100000 in
set_option maxHeartbeats 2000000 in
theorem dtagName_any (s : ByteArray) (i : Nat) (w : World) (hs : s.size ≤ 100000) (hi : i ≤ s.size) :
    Calls Tryz.prog 32 #[.string s, .int .i64 (i : Nat)] w fun e w' => e = .returned (.int .i64 (namN (s.data.toList.drop i) : Nat)) ∧ w = w' := by
  have LT := Lib.hid (fun b W => dletter_any b W)
  have DG := Lib.hid (fun b W => ddigit_any b W)
  by_cases h0 : i < s.size
  · have hb := s[i].toNat_lt
    have F0 := fr_at rLet s i h0
    have L0 := Lib.hid (fun W => LT.out s[i] W)
    have g0 : decide (s.size ≤ i) = false := decide_eq_false (by omega)
    cases a0 : rLet s[i] with
    | true =>
      rw [a0] at L0
      have P0 : rLet s[i] = true := by simp [a0]
      rw [show namN (s.data.toList.drop i) = cntP rNam (s.data.toList.drop i) from by unfold namN; rw [F0, P0, if_pos rfl]]
      have S0 : Hid (cntP rNam (s.data.toList.drop i) = 1 + cntP rNam (s.data.toList.drop (i + 1))) := Lib.hid (by rw [drop_at s i h0, cntP_yes _ (rLet_nam P0), Nat.add_comm])
      clear P0 F0 a0
      go_enter Tryz.func32, Tryz.ntmps32
      go_wp2_with fail
      refine (L0.out _).mono ?_
      rintro e w1 ⟨rfl, rfl⟩
      go_wp2_with fail
      go_loop [5] (fun v => ∃ k : Nat, i + k ≤ s.size ∧ v = .int .i64 k ∧ Hid (cntP rNam (s.data.toList.drop i) = k + cntP rNam (s.data.toList.drop (i + k)))) (fun v => s.size - (RowKit.intOf v).toNat)
      case atStart => exact ⟨1, by omega, rfl, S0⟩
      case round =>
        obtain ⟨k, hk, rfl, HC⟩ := hrel
        obtain ⟨j, hj2⟩ : ∃ j, i + k = j := ⟨_, rfl⟩
        have hj : (i : Int) + (k : Int) = (j : Int) := by omega
        rw [hj2] at HC hk
        by_cases h : j < s.size
        · have hb := s[j].toNat_lt
          have L1 := Lib.hid (fun W => LT.out s[j] W)
          have D1 := Lib.hid (fun W => DG.out s[j] W)
          cases c0 : rLet s[j] with
          | true =>
            rw [c0] at L1
            have HN := Lib.hid (cnt_from_yes hj2 h HC.out (by simp [rNam, c0]))
            clear HC c0
            go_wp2_with fail
            refine (L1.out _).mono ?_
            rintro e w1 ⟨rfl, rfl⟩
            go_wp2_with fail
            go_round
            case rel => exact ⟨k + 1, by omega, by go_num, HN⟩
            case measure => simp [RowKit.intOf]; omega
          | false =>
            rw [c0] at L1
            cases c1 : rDig s[j] with
            | true =>
              rw [c1] at D1
              have HN := Lib.hid (cnt_from_yes hj2 h HC.out (by simp [rNam, c0, c1]))
              clear HC c0 c1
              go_wp2_with fail
              refine (L1.out _).mono ?_
              rintro e w1 ⟨rfl, rfl⟩
              go_wp2_with fail
              refine (D1.out _).mono ?_
              rintro e w1 ⟨rfl, rfl⟩
              go_wp2_with fail
              go_round
              case rel => exact ⟨k + 1, by omega, by go_num, HN⟩
              case measure => simp [RowKit.intOf]; omega
            | false =>
              rw [c1] at D1
              by_cases d2 : s[j].toNat = 45
              · have q2 := beqT (show (s[j].toNat : Int) = 45 by omega)
                have HN := Lib.hid (cnt_from_yes hj2 h HC.out (by simp [rNam, c0, c1, d2]))
                clear HC c0 c1 d2
                go_wp2_with fail
                refine (L1.out _).mono ?_
                rintro e w1 ⟨rfl, rfl⟩
                go_wp2_with fail
                refine (D1.out _).mono ?_
                rintro e w1 ⟨rfl, rfl⟩
                go_wp2_with fail
                go_round
                case rel => exact ⟨k + 1, by omega, by go_num, HN⟩
                case measure => simp [RowKit.intOf]; omega
              · have q2 := beqF (show ¬ (s[j].toNat : Int) = 45 by omega)
                have HN := Lib.hid (cnt_from_no h HC.out (by simp [rNam, c0, c1, d2]))
                clear HC c0 c1 d2
                go_wp2_with fail
                refine (L1.out _).mono ?_
                rintro e w1 ⟨rfl, rfl⟩
                go_wp2_with fail
                refine (D1.out _).mono ?_
                rintro e w1 ⟨rfl, rfl⟩
                go_wp2_with fail
                go_ret
                exact ⟨ret_int (by rw [HN.out]), rfl⟩
        · have HN := Lib.hid (cnt_from_end (by omega) HC.out)
          clear HC
          go_wp2_with fail
          go_ret
          exact ⟨ret_int (by rw [HN.out]), rfl⟩
    | false =>
      rw [a0] at L0
      have P0 : rLet s[i] = false := by simp [a0]
      rw [show namN (s.data.toList.drop i) = 0 from by unfold namN; rw [F0, P0]; rfl]
      clear P0 F0 a0
      go_enter Tryz.func32, Tryz.ntmps32
      go_wp2_with fail
      refine (L0.out _).mono ?_
      rintro e w1 ⟨rfl, rfl⟩
      go_wp2_with fail
      go_ret
      exact ⟨rfl, rfl⟩
  · have e0 : i = s.size := by omega
    subst e0
    rw [show namN (s.data.toList.drop s.size) = 0 from by rw [List.drop_eq_nil_of_le (by rw [bytes_len]; omega)]; rfl]
    go_enter Tryz.func32, Tryz.ntmps32
    go_wp2_with fail
    go_ret
    exact ⟨rfl, rfl⟩
set_option maxRecDepth 100000 in
set_option maxHeartbeats 2000000 in
theorem dattrName_any (s : ByteArray) (i : Nat) (w : World) (hs : s.size ≤ 100000) (hi : i ≤ s.size) :
    Calls Tryz.prog 59 #[.string s, .int .i64 (i : Nat)] w fun e w' => e = .returned (.int .i64 (attN (s.data.toList.drop i) : Nat)) ∧ w = w' := by
  have LT := Lib.hid (fun b W => dletter_any b W)
  have DG := Lib.hid (fun b W => ddigit_any b W)
  by_cases h0 : i < s.size
  · have hb := s[i].toNat_lt
    have F0 := fr_at rAt1 s i h0
    have L0 := Lib.hid (fun W => LT.out s[i] W)
    have g0 : decide (s.size ≤ i) = false := decide_eq_false (by omega)
    cases a0 : rLet s[i] with
    | true =>
      rw [a0] at L0
      have P0 : rAt1 s[i] = true := by simp [rAt1, a0]
      rw [show attN (s.data.toList.drop i) = cntP rAtt (s.data.toList.drop i) from by unfold attN; rw [F0, P0, if_pos rfl]]
      have S0 : Hid (cntP rAtt (s.data.toList.drop i) = 1 + cntP rAtt (s.data.toList.drop (i + 1))) := Lib.hid (by rw [drop_at s i h0, cntP_yes _ (rAt1_att P0), Nat.add_comm])
      clear P0 F0 a0
      go_enter Tryz.func59, Tryz.ntmps59
      go_wp2_with fail
      refine (L0.out _).mono ?_
      rintro e w1 ⟨rfl, rfl⟩
      go_wp2_with fail
      go_loop [5] (fun v => ∃ k : Nat, i + k ≤ s.size ∧ v = .int .i64 k ∧ Hid (cntP rAtt (s.data.toList.drop i) = k + cntP rAtt (s.data.toList.drop (i + k)))) (fun v => s.size - (RowKit.intOf v).toNat)
      case atStart => exact ⟨1, by omega, rfl, S0⟩
      case round =>
        obtain ⟨k, hk, rfl, HC⟩ := hrel
        obtain ⟨j, hj2⟩ : ∃ j, i + k = j := ⟨_, rfl⟩
        have hj : (i : Int) + (k : Int) = (j : Int) := by omega
        rw [hj2] at HC hk
        by_cases h : j < s.size
        · have hb := s[j].toNat_lt
          have L1 := Lib.hid (fun W => LT.out s[j] W)
          have D1 := Lib.hid (fun W => DG.out s[j] W)
          cases c0 : rLet s[j] with
          | true =>
            rw [c0] at L1
            have HN := Lib.hid (cnt_from_yes hj2 h HC.out (by simp [rAtt, c0]))
            clear HC c0
            go_wp2_with fail
            refine (L1.out _).mono ?_
            rintro e w1 ⟨rfl, rfl⟩
            go_wp2_with fail
            go_round
            case rel => exact ⟨k + 1, by omega, by go_num, HN⟩
            case measure => simp [RowKit.intOf]; omega
          | false =>
            rw [c0] at L1
            cases c1 : rDig s[j] with
            | true =>
              rw [c1] at D1
              have HN := Lib.hid (cnt_from_yes hj2 h HC.out (by simp [rAtt, c0, c1]))
              clear HC c0 c1
              go_wp2_with fail
              refine (L1.out _).mono ?_
              rintro e w1 ⟨rfl, rfl⟩
              go_wp2_with fail
              refine (D1.out _).mono ?_
              rintro e w1 ⟨rfl, rfl⟩
              go_wp2_with fail
              go_round
              case rel => exact ⟨k + 1, by omega, by go_num, HN⟩
              case measure => simp [RowKit.intOf]; omega
            | false =>
              rw [c1] at D1
              by_cases d2 : s[j].toNat = 95
              · have q2 := beqT (show (s[j].toNat : Int) = 95 by omega)
                have HN := Lib.hid (cnt_from_yes hj2 h HC.out (by simp [rAtt, c0, c1, d2]))
                clear HC c0 c1 d2
                go_wp2_with fail
                refine (L1.out _).mono ?_
                rintro e w1 ⟨rfl, rfl⟩
                go_wp2_with fail
                refine (D1.out _).mono ?_
                rintro e w1 ⟨rfl, rfl⟩
                go_wp2_with fail
                go_round
                case rel => exact ⟨k + 1, by omega, by go_num, HN⟩
                case measure => simp [RowKit.intOf]; omega
              · have q2 := beqF (show ¬ (s[j].toNat : Int) = 95 by omega)
                by_cases d3 : s[j].toNat = 58
                · have q3 := beqT (show (s[j].toNat : Int) = 58 by omega)
                  have HN := Lib.hid (cnt_from_yes hj2 h HC.out (by simp [rAtt, c0, c1, d3]))
                  clear HC c0 c1 d2 d3
                  go_wp2_with fail
                  refine (L1.out _).mono ?_
                  rintro e w1 ⟨rfl, rfl⟩
                  go_wp2_with fail
                  refine (D1.out _).mono ?_
                  rintro e w1 ⟨rfl, rfl⟩
                  go_wp2_with fail
                  go_round
                  case rel => exact ⟨k + 1, by omega, by go_num, HN⟩
                  case measure => simp [RowKit.intOf]; omega
                · have q3 := beqF (show ¬ (s[j].toNat : Int) = 58 by omega)
                  by_cases d4 : s[j].toNat = 46
                  · have q4 := beqT (show (s[j].toNat : Int) = 46 by omega)
                    have HN := Lib.hid (cnt_from_yes hj2 h HC.out (by simp [rAtt, c0, c1, d4]))
                    clear HC c0 c1 d2 d3 d4
                    go_wp2_with fail
                    refine (L1.out _).mono ?_
                    rintro e w1 ⟨rfl, rfl⟩
                    go_wp2_with fail
                    refine (D1.out _).mono ?_
                    rintro e w1 ⟨rfl, rfl⟩
                    go_wp2_with fail
                    go_round
                    case rel => exact ⟨k + 1, by omega, by go_num, HN⟩
                    case measure => simp [RowKit.intOf]; omega
                  · have q4 := beqF (show ¬ (s[j].toNat : Int) = 46 by omega)
                    by_cases d5 : s[j].toNat = 45
                    · have q5 := beqT (show (s[j].toNat : Int) = 45 by omega)
                      have HN := Lib.hid (cnt_from_yes hj2 h HC.out (by simp [rAtt, c0, c1, d5]))
                      clear HC c0 c1 d2 d3 d4 d5
                      go_wp2_with fail
                      refine (L1.out _).mono ?_
                      rintro e w1 ⟨rfl, rfl⟩
                      go_wp2_with fail
                      refine (D1.out _).mono ?_
                      rintro e w1 ⟨rfl, rfl⟩
                      go_wp2_with fail
                      go_round
                      case rel => exact ⟨k + 1, by omega, by go_num, HN⟩
                      case measure => simp [RowKit.intOf]; omega
                    · have q5 := beqF (show ¬ (s[j].toNat : Int) = 45 by omega)
                      have HN := Lib.hid (cnt_from_no h HC.out (by simp [rAtt, c0, c1, d2, d3, d4, d5]))
                      clear HC c0 c1 d2 d3 d4 d5
                      go_wp2_with fail
                      refine (L1.out _).mono ?_
                      rintro e w1 ⟨rfl, rfl⟩
                      go_wp2_with fail
                      refine (D1.out _).mono ?_
                      rintro e w1 ⟨rfl, rfl⟩
                      go_wp2_with fail
                      go_ret
                      exact ⟨ret_int (by rw [HN.out]), rfl⟩
        · have HN := Lib.hid (cnt_from_end (by omega) HC.out)
          clear HC
          go_wp2_with fail
          go_ret
          exact ⟨ret_int (by rw [HN.out]), rfl⟩
    | false =>
      rw [a0] at L0
      by_cases e1 : s[i].toNat = 95
      · have p1 := bneF (show (s[i].toNat : Int) = 95 by omega)
        have P0 : rAt1 s[i] = true := by simp [rAt1, a0, e1]
        rw [show attN (s.data.toList.drop i) = cntP rAtt (s.data.toList.drop i) from by unfold attN; rw [F0, P0, if_pos rfl]]
        have S0 : Hid (cntP rAtt (s.data.toList.drop i) = 1 + cntP rAtt (s.data.toList.drop (i + 1))) := Lib.hid (by rw [drop_at s i h0, cntP_yes _ (rAt1_att P0), Nat.add_comm])
        clear P0 F0 a0 e1
        go_enter Tryz.func59, Tryz.ntmps59
        go_wp2_with fail
        refine (L0.out _).mono ?_
        rintro e w1 ⟨rfl, rfl⟩
        go_wp2_with fail
        go_loop [5] (fun v => ∃ k : Nat, i + k ≤ s.size ∧ v = .int .i64 k ∧ Hid (cntP rAtt (s.data.toList.drop i) = k + cntP rAtt (s.data.toList.drop (i + k)))) (fun v => s.size - (RowKit.intOf v).toNat)
        case atStart => exact ⟨1, by omega, rfl, S0⟩
        case round =>
          obtain ⟨k, hk, rfl, HC⟩ := hrel
          obtain ⟨j, hj2⟩ : ∃ j, i + k = j := ⟨_, rfl⟩
          have hj : (i : Int) + (k : Int) = (j : Int) := by omega
          rw [hj2] at HC hk
          by_cases h : j < s.size
          · have hb := s[j].toNat_lt
            have L1 := Lib.hid (fun W => LT.out s[j] W)
            have D1 := Lib.hid (fun W => DG.out s[j] W)
            cases c0 : rLet s[j] with
            | true =>
              rw [c0] at L1
              have HN := Lib.hid (cnt_from_yes hj2 h HC.out (by simp [rAtt, c0]))
              clear HC c0
              go_wp2_with fail
              refine (L1.out _).mono ?_
              rintro e w1 ⟨rfl, rfl⟩
              go_wp2_with fail
              go_round
              case rel => exact ⟨k + 1, by omega, by go_num, HN⟩
              case measure => simp [RowKit.intOf]; omega
            | false =>
              rw [c0] at L1
              cases c1 : rDig s[j] with
              | true =>
                rw [c1] at D1
                have HN := Lib.hid (cnt_from_yes hj2 h HC.out (by simp [rAtt, c0, c1]))
                clear HC c0 c1
                go_wp2_with fail
                refine (L1.out _).mono ?_
                rintro e w1 ⟨rfl, rfl⟩
                go_wp2_with fail
                refine (D1.out _).mono ?_
                rintro e w1 ⟨rfl, rfl⟩
                go_wp2_with fail
                go_round
                case rel => exact ⟨k + 1, by omega, by go_num, HN⟩
                case measure => simp [RowKit.intOf]; omega
              | false =>
                rw [c1] at D1
                by_cases d2 : s[j].toNat = 95
                · have q2 := beqT (show (s[j].toNat : Int) = 95 by omega)
                  have HN := Lib.hid (cnt_from_yes hj2 h HC.out (by simp [rAtt, c0, c1, d2]))
                  clear HC c0 c1 d2
                  go_wp2_with fail
                  refine (L1.out _).mono ?_
                  rintro e w1 ⟨rfl, rfl⟩
                  go_wp2_with fail
                  refine (D1.out _).mono ?_
                  rintro e w1 ⟨rfl, rfl⟩
                  go_wp2_with fail
                  go_round
                  case rel => exact ⟨k + 1, by omega, by go_num, HN⟩
                  case measure => simp [RowKit.intOf]; omega
                · have q2 := beqF (show ¬ (s[j].toNat : Int) = 95 by omega)
                  by_cases d3 : s[j].toNat = 58
                  · have q3 := beqT (show (s[j].toNat : Int) = 58 by omega)
                    have HN := Lib.hid (cnt_from_yes hj2 h HC.out (by simp [rAtt, c0, c1, d3]))
                    clear HC c0 c1 d2 d3
                    go_wp2_with fail
                    refine (L1.out _).mono ?_
                    rintro e w1 ⟨rfl, rfl⟩
                    go_wp2_with fail
                    refine (D1.out _).mono ?_
                    rintro e w1 ⟨rfl, rfl⟩
                    go_wp2_with fail
                    go_round
                    case rel => exact ⟨k + 1, by omega, by go_num, HN⟩
                    case measure => simp [RowKit.intOf]; omega
                  · have q3 := beqF (show ¬ (s[j].toNat : Int) = 58 by omega)
                    by_cases d4 : s[j].toNat = 46
                    · have q4 := beqT (show (s[j].toNat : Int) = 46 by omega)
                      have HN := Lib.hid (cnt_from_yes hj2 h HC.out (by simp [rAtt, c0, c1, d4]))
                      clear HC c0 c1 d2 d3 d4
                      go_wp2_with fail
                      refine (L1.out _).mono ?_
                      rintro e w1 ⟨rfl, rfl⟩
                      go_wp2_with fail
                      refine (D1.out _).mono ?_
                      rintro e w1 ⟨rfl, rfl⟩
                      go_wp2_with fail
                      go_round
                      case rel => exact ⟨k + 1, by omega, by go_num, HN⟩
                      case measure => simp [RowKit.intOf]; omega
                    · have q4 := beqF (show ¬ (s[j].toNat : Int) = 46 by omega)
                      by_cases d5 : s[j].toNat = 45
                      · have q5 := beqT (show (s[j].toNat : Int) = 45 by omega)
                        have HN := Lib.hid (cnt_from_yes hj2 h HC.out (by simp [rAtt, c0, c1, d5]))
                        clear HC c0 c1 d2 d3 d4 d5
                        go_wp2_with fail
                        refine (L1.out _).mono ?_
                        rintro e w1 ⟨rfl, rfl⟩
                        go_wp2_with fail
                        refine (D1.out _).mono ?_
                        rintro e w1 ⟨rfl, rfl⟩
                        go_wp2_with fail
                        go_round
                        case rel => exact ⟨k + 1, by omega, by go_num, HN⟩
                        case measure => simp [RowKit.intOf]; omega
                      · have q5 := beqF (show ¬ (s[j].toNat : Int) = 45 by omega)
                        have HN := Lib.hid (cnt_from_no h HC.out (by simp [rAtt, c0, c1, d2, d3, d4, d5]))
                        clear HC c0 c1 d2 d3 d4 d5
                        go_wp2_with fail
                        refine (L1.out _).mono ?_
                        rintro e w1 ⟨rfl, rfl⟩
                        go_wp2_with fail
                        refine (D1.out _).mono ?_
                        rintro e w1 ⟨rfl, rfl⟩
                        go_wp2_with fail
                        go_ret
                        exact ⟨ret_int (by rw [HN.out]), rfl⟩
          · have HN := Lib.hid (cnt_from_end (by omega) HC.out)
            clear HC
            go_wp2_with fail
            go_ret
            exact ⟨ret_int (by rw [HN.out]), rfl⟩
      · have p1 := bneT (show ¬ (s[i].toNat : Int) = 95 by omega)
        by_cases e2 : s[i].toNat = 58
        · have p2 := bneF (show (s[i].toNat : Int) = 58 by omega)
          have P0 : rAt1 s[i] = true := by simp [rAt1, a0, e2]
          rw [show attN (s.data.toList.drop i) = cntP rAtt (s.data.toList.drop i) from by unfold attN; rw [F0, P0, if_pos rfl]]
          have S0 : Hid (cntP rAtt (s.data.toList.drop i) = 1 + cntP rAtt (s.data.toList.drop (i + 1))) := Lib.hid (by rw [drop_at s i h0, cntP_yes _ (rAt1_att P0), Nat.add_comm])
          clear P0 F0 a0 e1 e2
          go_enter Tryz.func59, Tryz.ntmps59
          go_wp2_with fail
          refine (L0.out _).mono ?_
          rintro e w1 ⟨rfl, rfl⟩
          go_wp2_with fail
          go_loop [5] (fun v => ∃ k : Nat, i + k ≤ s.size ∧ v = .int .i64 k ∧ Hid (cntP rAtt (s.data.toList.drop i) = k + cntP rAtt (s.data.toList.drop (i + k)))) (fun v => s.size - (RowKit.intOf v).toNat)
          case atStart => exact ⟨1, by omega, rfl, S0⟩
          case round =>
            obtain ⟨k, hk, rfl, HC⟩ := hrel
            obtain ⟨j, hj2⟩ : ∃ j, i + k = j := ⟨_, rfl⟩
            have hj : (i : Int) + (k : Int) = (j : Int) := by omega
            rw [hj2] at HC hk
            by_cases h : j < s.size
            · have hb := s[j].toNat_lt
              have L1 := Lib.hid (fun W => LT.out s[j] W)
              have D1 := Lib.hid (fun W => DG.out s[j] W)
              cases c0 : rLet s[j] with
              | true =>
                rw [c0] at L1
                have HN := Lib.hid (cnt_from_yes hj2 h HC.out (by simp [rAtt, c0]))
                clear HC c0
                go_wp2_with fail
                refine (L1.out _).mono ?_
                rintro e w1 ⟨rfl, rfl⟩
                go_wp2_with fail
                go_round
                case rel => exact ⟨k + 1, by omega, by go_num, HN⟩
                case measure => simp [RowKit.intOf]; omega
              | false =>
                rw [c0] at L1
                cases c1 : rDig s[j] with
                | true =>
                  rw [c1] at D1
                  have HN := Lib.hid (cnt_from_yes hj2 h HC.out (by simp [rAtt, c0, c1]))
                  clear HC c0 c1
                  go_wp2_with fail
                  refine (L1.out _).mono ?_
                  rintro e w1 ⟨rfl, rfl⟩
                  go_wp2_with fail
                  refine (D1.out _).mono ?_
                  rintro e w1 ⟨rfl, rfl⟩
                  go_wp2_with fail
                  go_round
                  case rel => exact ⟨k + 1, by omega, by go_num, HN⟩
                  case measure => simp [RowKit.intOf]; omega
                | false =>
                  rw [c1] at D1
                  by_cases d2 : s[j].toNat = 95
                  · have q2 := beqT (show (s[j].toNat : Int) = 95 by omega)
                    have HN := Lib.hid (cnt_from_yes hj2 h HC.out (by simp [rAtt, c0, c1, d2]))
                    clear HC c0 c1 d2
                    go_wp2_with fail
                    refine (L1.out _).mono ?_
                    rintro e w1 ⟨rfl, rfl⟩
                    go_wp2_with fail
                    refine (D1.out _).mono ?_
                    rintro e w1 ⟨rfl, rfl⟩
                    go_wp2_with fail
                    go_round
                    case rel => exact ⟨k + 1, by omega, by go_num, HN⟩
                    case measure => simp [RowKit.intOf]; omega
                  · have q2 := beqF (show ¬ (s[j].toNat : Int) = 95 by omega)
                    by_cases d3 : s[j].toNat = 58
                    · have q3 := beqT (show (s[j].toNat : Int) = 58 by omega)
                      have HN := Lib.hid (cnt_from_yes hj2 h HC.out (by simp [rAtt, c0, c1, d3]))
                      clear HC c0 c1 d2 d3
                      go_wp2_with fail
                      refine (L1.out _).mono ?_
                      rintro e w1 ⟨rfl, rfl⟩
                      go_wp2_with fail
                      refine (D1.out _).mono ?_
                      rintro e w1 ⟨rfl, rfl⟩
                      go_wp2_with fail
                      go_round
                      case rel => exact ⟨k + 1, by omega, by go_num, HN⟩
                      case measure => simp [RowKit.intOf]; omega
                    · have q3 := beqF (show ¬ (s[j].toNat : Int) = 58 by omega)
                      by_cases d4 : s[j].toNat = 46
                      · have q4 := beqT (show (s[j].toNat : Int) = 46 by omega)
                        have HN := Lib.hid (cnt_from_yes hj2 h HC.out (by simp [rAtt, c0, c1, d4]))
                        clear HC c0 c1 d2 d3 d4
                        go_wp2_with fail
                        refine (L1.out _).mono ?_
                        rintro e w1 ⟨rfl, rfl⟩
                        go_wp2_with fail
                        refine (D1.out _).mono ?_
                        rintro e w1 ⟨rfl, rfl⟩
                        go_wp2_with fail
                        go_round
                        case rel => exact ⟨k + 1, by omega, by go_num, HN⟩
                        case measure => simp [RowKit.intOf]; omega
                      · have q4 := beqF (show ¬ (s[j].toNat : Int) = 46 by omega)
                        by_cases d5 : s[j].toNat = 45
                        · have q5 := beqT (show (s[j].toNat : Int) = 45 by omega)
                          have HN := Lib.hid (cnt_from_yes hj2 h HC.out (by simp [rAtt, c0, c1, d5]))
                          clear HC c0 c1 d2 d3 d4 d5
                          go_wp2_with fail
                          refine (L1.out _).mono ?_
                          rintro e w1 ⟨rfl, rfl⟩
                          go_wp2_with fail
                          refine (D1.out _).mono ?_
                          rintro e w1 ⟨rfl, rfl⟩
                          go_wp2_with fail
                          go_round
                          case rel => exact ⟨k + 1, by omega, by go_num, HN⟩
                          case measure => simp [RowKit.intOf]; omega
                        · have q5 := beqF (show ¬ (s[j].toNat : Int) = 45 by omega)
                          have HN := Lib.hid (cnt_from_no h HC.out (by simp [rAtt, c0, c1, d2, d3, d4, d5]))
                          clear HC c0 c1 d2 d3 d4 d5
                          go_wp2_with fail
                          refine (L1.out _).mono ?_
                          rintro e w1 ⟨rfl, rfl⟩
                          go_wp2_with fail
                          refine (D1.out _).mono ?_
                          rintro e w1 ⟨rfl, rfl⟩
                          go_wp2_with fail
                          go_ret
                          exact ⟨ret_int (by rw [HN.out]), rfl⟩
            · have HN := Lib.hid (cnt_from_end (by omega) HC.out)
              clear HC
              go_wp2_with fail
              go_ret
              exact ⟨ret_int (by rw [HN.out]), rfl⟩
        · have p2 := bneT (show ¬ (s[i].toNat : Int) = 58 by omega)
          have P0 : rAt1 s[i] = false := by simp [rAt1, a0, e1, e2]
          rw [show attN (s.data.toList.drop i) = 0 from by unfold attN; rw [F0, P0]; rfl]
          clear P0 F0 a0 e1 e2
          go_enter Tryz.func59, Tryz.ntmps59
          go_wp2_with fail
          refine (L0.out _).mono ?_
          rintro e w1 ⟨rfl, rfl⟩
          go_wp2_with fail
          go_ret
          exact ⟨rfl, rfl⟩
  · have e0 : i = s.size := by omega
    subst e0
    rw [show attN (s.data.toList.drop s.size) = 0 from by rw [List.drop_eq_nil_of_le (by rw [bytes_len]; omega)]; rfl]
    go_enter Tryz.func59, Tryz.ntmps59
    go_wp2_with fail
    go_ret
    exact ⟨rfl, rfl⟩
set_option maxRecDepth 100000 in
set_option maxHeartbeats 2000000 in
theorem dvalue_any (s : ByteArray) (i : Nat) (w : World) (hs : s.size ≤ 100000) (hi : i ≤ s.size) :
    Calls Tryz.prog 60 #[.string s, .int .i64 (i : Nat)] w fun e w' => e = .returned (.int .i64 (valN (s.data.toList.drop i) : Nat)) ∧ w = w' := by
  have SP := Lib.hid (fun b W => dspace_any b W)
  by_cases h0 : i < s.size
  · have hb := s[i].toNat_lt
    have g0 : decide (s.size ≤ i) = false := decide_eq_false (by omega)
    have UP := Lib.hid (fun W => dupto_any s (s.extract i (i + 1)) (i + 1) W hs (by rw [ByteArray.size_extract]; omega) (by rw [ByteArray.size_extract]; omega) (by omega))
    rw [show (s.extract i (i + 1)).data.toList = [s[i]] from by rw [Lib.extract_data, Nat.add_sub_cancel_left, drop_at s i h0]; rfl] at UP
    have V0 : valN (s.data.toList.drop i) = if s[i].toNat = 34 ∨ s[i].toNat = 39 then upA 1 [s[i]] (s.data.toList.drop i) else cntP rVal (s.data.toList.drop i) := by
      have := drop_at s i h0
      rw [this]
      rfl
    have U0 : upA 1 [s[i]] (s.data.toList.drop i) = upA (i + 1) [s[i]] s.data.toList - i := by
      unfold upA
      rw [List.drop_drop]
      split <;> omega
    have U1 : upA (i + 1) [s[i]] s.data.toList = 0 ∨ i ≤ upA (i + 1) [s[i]] s.data.toList := by
      unfold upA
      split <;> omega
    have U2 : upA (i + 1) [s[i]] s.data.toList ≤ s.size := by
      have := upA_le (k := i + 1) (t := [s[i]]) (l := s.data.toList) (by rw [bytes_len]; omega)
      rwa [bytes_len] at this
    by_cases a1 : s[i].toNat = 34 ∨ s[i].toNat = 39
    · rw [V0, if_pos a1, U0]
      generalize upA (i + 1) [s[i]] s.data.toList = m at *
      have m1 : max (0 : Int) ((m : Int) - (i : Int)) = ((m - i : Nat) : Int) := by omega
      have m2 : (if (0 : Int) < (m : Int) - (i : Int) then (m : Int) - (i : Int) else 0) = ((m - i : Nat) : Int) := by split <;> omega
      obtain ⟨d, hd⟩ : ∃ d, m - i = d := ⟨_, rfl⟩
      rw [hd] at m1 m2 ⊢
      clear U0 U1 V0 hd
      by_cases a2 : s[i].toNat = 34
      · have q1 := beqT (show (s[i].toNat : Int) = 34 by omega)
        clear a1 a2
        go_enter Tryz.func60, Tryz.ntmps60
        go_wp2_with fail
        refine (UP.out _).mono ?_
        rintro e w1 ⟨rfl, rfl⟩
        go_wp2_with fail
        go_ret
        exact ⟨rfl, rfl⟩
      · have q1 := beqF (show ¬ (s[i].toNat : Int) = 34 by omega)
        have q2 := beqT (show (s[i].toNat : Int) = 39 by omega)
        clear a1 a2
        go_enter Tryz.func60, Tryz.ntmps60
        go_wp2_with fail
        refine (UP.out _).mono ?_
        rintro e w1 ⟨rfl, rfl⟩
        go_wp2_with fail
        go_ret
        exact ⟨rfl, rfl⟩
    · rw [V0, if_neg a1]
      have q1 := beqF (show ¬ (s[i].toNat : Int) = 34 by omega)
      have q2 := beqF (show ¬ (s[i].toNat : Int) = 39 by omega)
      clear U0 U1 U2 V0 UP a1
      go_enter Tryz.func60, Tryz.ntmps60
      go_wp2_with fail
      go_loop [6] (fun v => ∃ k : Nat, i + k ≤ s.size ∧ v = .int .i64 k ∧ Hid (cntP rVal (s.data.toList.drop i) = k + cntP rVal (s.data.toList.drop (i + k)))) (fun v => s.size - (RowKit.intOf v).toNat)
      case atStart => exact ⟨0, by omega, rfl, Lib.hid (by rw [Nat.add_zero, Nat.zero_add])⟩
      case round =>
        obtain ⟨k, hk, rfl, HC⟩ := hrel
        obtain ⟨j, hj2⟩ : ∃ j, i + k = j := ⟨_, rfl⟩
        have hj : (i : Int) + (k : Int) = (j : Int) := by omega
        rw [hj2] at HC hk
        by_cases h : j < s.size
        · have hb := s[j].toNat_lt
          have S1 := Lib.hid (fun W => SP.out s[j] W)
          cases c0 : rSpc s[j] with
          | true =>
            rw [c0] at S1
            have HN := Lib.hid (cnt_from_no h HC.out (by have := of_decide_eq_true c0; unfold rVal; rw [decide_eq_true (by omega)]; rfl))
            clear HC c0
            go_wp2_with fail
            refine (S1.out _).mono ?_
            rintro e w1 ⟨rfl, rfl⟩
            go_wp2_with fail
            go_ret
            exact ⟨ret_int (by rw [HN.out]), rfl⟩
          | false =>
            rw [c0] at S1
            by_cases d1 : s[j].toNat = 34
            · have q1 := bneF (show (s[j].toNat : Int) = 34 by omega)
              have HN := Lib.hid (cnt_from_no h HC.out (by unfold rVal; rw [decide_eq_true (by omega)]; rfl))
              clear HC c0 d1
              go_wp2_with fail
              refine (S1.out _).mono ?_
              rintro e w1 ⟨rfl, rfl⟩
              go_wp2_with fail
              go_ret
              exact ⟨ret_int (by rw [HN.out]), rfl⟩
            · have q1 := bneT (show ¬ (s[j].toNat : Int) = 34 by omega)
              by_cases d2 : s[j].toNat = 39
              · have q2 := bneF (show (s[j].toNat : Int) = 39 by omega)
                have HN := Lib.hid (cnt_from_no h HC.out (by unfold rVal; rw [decide_eq_true (by omega)]; rfl))
                clear HC c0 d1 d2
                go_wp2_with fail
                refine (S1.out _).mono ?_
                rintro e w1 ⟨rfl, rfl⟩
                go_wp2_with fail
                go_ret
                exact ⟨ret_int (by rw [HN.out]), rfl⟩
              · have q2 := bneT (show ¬ (s[j].toNat : Int) = 39 by omega)
                by_cases d3 : s[j].toNat = 61
                · have q3 := bneF (show (s[j].toNat : Int) = 61 by omega)
                  have HN := Lib.hid (cnt_from_no h HC.out (by unfold rVal; rw [decide_eq_true (by omega)]; rfl))
                  clear HC c0 d1 d2 d3
                  go_wp2_with fail
                  refine (S1.out _).mono ?_
                  rintro e w1 ⟨rfl, rfl⟩
                  go_wp2_with fail
                  go_ret
                  exact ⟨ret_int (by rw [HN.out]), rfl⟩
                · have q3 := bneT (show ¬ (s[j].toNat : Int) = 61 by omega)
                  by_cases d4 : s[j].toNat = 60
                  · have q4 := bneF (show (s[j].toNat : Int) = 60 by omega)
                    have HN := Lib.hid (cnt_from_no h HC.out (by unfold rVal; rw [decide_eq_true (by omega)]; rfl))
                    clear HC c0 d1 d2 d3 d4
                    go_wp2_with fail
                    refine (S1.out _).mono ?_
                    rintro e w1 ⟨rfl, rfl⟩
                    go_wp2_with fail
                    go_ret
                    exact ⟨ret_int (by rw [HN.out]), rfl⟩
                  · have q4 := bneT (show ¬ (s[j].toNat : Int) = 60 by omega)
                    by_cases d5 : s[j].toNat = 62
                    · have q5 := bneF (show (s[j].toNat : Int) = 62 by omega)
                      have HN := Lib.hid (cnt_from_no h HC.out (by unfold rVal; rw [decide_eq_true (by omega)]; rfl))
                      clear HC c0 d1 d2 d3 d4 d5
                      go_wp2_with fail
                      refine (S1.out _).mono ?_
                      rintro e w1 ⟨rfl, rfl⟩
                      go_wp2_with fail
                      go_ret
                      exact ⟨ret_int (by rw [HN.out]), rfl⟩
                    · have q5 := bneT (show ¬ (s[j].toNat : Int) = 62 by omega)
                      by_cases d6 : s[j].toNat = 96
                      · have q6 := bneF (show (s[j].toNat : Int) = 96 by omega)
                        have HN := Lib.hid (cnt_from_no h HC.out (by unfold rVal; rw [decide_eq_true (by omega)]; rfl))
                        clear HC c0 d1 d2 d3 d4 d5 d6
                        go_wp2_with fail
                        refine (S1.out _).mono ?_
                        rintro e w1 ⟨rfl, rfl⟩
                        go_wp2_with fail
                        go_ret
                        exact ⟨ret_int (by rw [HN.out]), rfl⟩
                      · have q6 := bneT (show ¬ (s[j].toNat : Int) = 96 by omega)
                        have HN := Lib.hid (cnt_from_yes hj2 h HC.out (by have := of_decide_eq_false c0; unfold rVal; rw [decide_eq_false (by omega)]; rfl))
                        clear HC c0 d1 d2 d3 d4 d5 d6
                        go_wp2_with fail
                        refine (S1.out _).mono ?_
                        rintro e w1 ⟨rfl, rfl⟩
                        go_wp2_with fail
                        go_round
                        case rel => exact ⟨k + 1, by omega, by go_num, HN⟩
                        case measure => simp [RowKit.intOf]; omega
        · have HN := Lib.hid (cnt_from_end (by omega) HC.out)
          clear HC
          go_wp2_with fail
          go_ret
          exact ⟨ret_int (by rw [HN.out]), rfl⟩
  · have e0 : i = s.size := by omega
    subst e0
    rw [show valN (s.data.toList.drop s.size) = 0 from by rw [List.drop_eq_nil_of_le (by rw [bytes_len]; omega)]; rfl]
    go_enter Tryz.func60, Tryz.ntmps60
    go_wp2_with fail
    go_ret
    exact ⟨rfl, rfl⟩
end Go.Proofs.YtggeknhggpdpkaaGreatDoor
