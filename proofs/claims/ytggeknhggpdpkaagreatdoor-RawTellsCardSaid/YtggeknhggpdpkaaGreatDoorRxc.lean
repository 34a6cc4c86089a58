/-
  Contracts of Tag, Html, of the document's answer of layer 11, for texts of at most 100,000 bytes. (Written by wip/tools/rawref2.py.)
-/
import Derived.Test.YtggeknhggpdpkaaGreatDoorRxb
namespace Go.Proofs.YtggeknhggpdpkaaGreatDoor
open Go.RowKit Go.Lib

theorem clo_at {s : ByteArray} {n : Nat} (h : n < s.size) (c : s[n].toNat = 62) : cloN n s.data.toList = n + 1 := by unfold cloN; rw [fr_at _ s n h, if_pos (decide_eq_true c)]
theorem clo_not {s : ByteArray} {n : Nat} (h : n < s.size) (c : ¬ s[n].toNat = 62) : cloN n s.data.toList = 0 := by unfold cloN; rw [fr_at _ s n h, if_neg (by rw [decide_eq_true_eq]; exact c)]
theorem clo_end {s : ByteArray} {n : Nat} (h : ¬ n < s.size) : cloN n s.data.toList = 0 := by unfold cloN; rw [List.drop_eq_nil_of_le (by rw [bytes_len]; omega)]; rfl
theorem dbC_at {s : ByteArray} {n : Nat} (e : dbB s.data.toList = n) (h : n < s.size) (c : s[n].toNat = 47) : dbC s.data.toList = n + 1 := by unfold dbC; rw [e, fr_at _ s n h, if_pos (decide_eq_true c)]
theorem dbC_not {s : ByteArray} {n : Nat} (e : dbB s.data.toList = n) (h : n < s.size) (c : ¬ s[n].toNat = 47) : dbC s.data.toList = n := by unfold dbC; rw [e, fr_at _ s n h, if_neg (by rw [decide_eq_true_eq]; exact c)]
theorem dbC_end {s : ByteArray} {n : Nat} (e : dbB s.data.toList = n) (h : ¬ n < s.size) : dbC s.data.toList = n := by unfold dbC; rw [e, List.drop_eq_nil_of_le (by rw [bytes_len]; omega), if_neg (by show ¬ false = true; decide)]

set_option maxRecDepth 100000 in
set_option maxHeartbeats 1000000 in
theorem dtag_end (s : ByteArray) (w : World) (hs : s.size ≤ 100000) (h1 : hasPrefix s.data.toList [60, 47] = true) :
    Calls Tryz.prog 12 #[.string s] w fun e w' => e = .returned (.int .i64 (endN s.data.toList : Nat)) ∧ w = w' := by
  have hl := bytes_len s
  have hz := pre_len h1
  rw [hl] at hz
  have hz2 : 2 ≤ s.size := hz
  have P1 := Lib.hid (fun W => dhas_any s ⟨#[60, 47]⟩ W hs (by decide))
  rw [show (⟨#[60, 47]⟩ : ByteArray).data.toList = [60, 47] from rfl, h1] at P1
  have N1 := Lib.hid (fun W => dtagName_any s 2 W hs hz2)
  have hn := namN_le (s.data.toList.drop 2)
  rw [List.length_drop, hl] at hn
  unfold endN
  generalize namN (s.data.toList.drop 2) = n at *
  have S1 := Lib.hid (fun W => dspaces_any s (2 + n) W hs (by omega))
  have ha := cntP_le rSpc (s.data.toList.drop (2 + n))
  rw [List.length_drop, hl] at ha
  generalize cntP rSpc (s.data.toList.drop (2 + n)) = a at *
  clear h1 hz
  by_cases c0 : n = 0
  · subst c0
    rw [if_pos rfl]
    go_enter Tryz.func12, Tryz.ntmps12
    go_wp2_with fail
    refine (P1.out _).mono ?_
    rintro e w1 ⟨rfl, rfl⟩
    go_wp2_with fail
    refine (N1.out _).mono ?_
    rintro e w1 ⟨rfl, rfl⟩
    go_wp2_with fail
    refine (S1.out _).mono ?_
    rintro e w1 ⟨rfl, rfl⟩
    go_wp2_with fail
    go_ret
    exact ⟨rfl, rfl⟩
  · have q0 := beqF (show ¬ (n : Int) = 0 by omega)
    rw [if_neg c0]
    obtain ⟨k, hk⟩ : ∃ k, 2 + n + a = k := ⟨_, rfl⟩
    have hk1 : 2 + (n : Int) + (a : Int) = (k : Int) := by omega
    rw [hk]
    by_cases c1 : k < s.size
    · have hb := s[k].toNat_lt
      have g0 : decide (s.size ≤ k) = false := decide_eq_false (by omega)
      by_cases c2 : s[k].toNat = 62
      · have q2 := bneF (show (s[k].toNat : Int) = 62 by omega)
        rw [clo_at c1 c2]
        clear c0 c2 hk
        go_enter Tryz.func12, Tryz.ntmps12
        go_wp2_with fail
        refine (P1.out _).mono ?_
        rintro e w1 ⟨rfl, rfl⟩
        go_wp2_with fail
        refine (N1.out _).mono ?_
        rintro e w1 ⟨rfl, rfl⟩
        go_wp2_with fail
        refine (S1.out _).mono ?_
        rintro e w1 ⟨rfl, rfl⟩
        go_wp2_with fail
        go_ret
        exact ⟨rfl, rfl⟩
      · have q2 := bneT (show ¬ (s[k].toNat : Int) = 62 by omega)
        rw [clo_not c1 c2]
        clear c0 c2 hk
        go_enter Tryz.func12, Tryz.ntmps12
        go_wp2_with fail
        refine (P1.out _).mono ?_
        rintro e w1 ⟨rfl, rfl⟩
        go_wp2_with fail
        refine (N1.out _).mono ?_
        rintro e w1 ⟨rfl, rfl⟩
        go_wp2_with fail
        refine (S1.out _).mono ?_
        rintro e w1 ⟨rfl, rfl⟩
        go_wp2_with fail
        go_ret
        exact ⟨rfl, rfl⟩
    · have g0 : decide (s.size ≤ k) = true := decide_eq_true (by omega)
      rw [clo_end c1]
      clear c0 hk
      go_enter Tryz.func12, Tryz.ntmps12
      go_wp2_with fail
      refine (P1.out _).mono ?_
      rintro e w1 ⟨rfl, rfl⟩
      go_wp2_with fail
      refine (N1.out _).mono ?_
      rintro e w1 ⟨rfl, rfl⟩
      go_wp2_with fail
      refine (S1.out _).mono ?_
      rintro e w1 ⟨rfl, rfl⟩
      go_wp2_with fail
      go_ret
      exact ⟨rfl, rfl⟩

theorem dts_on {L : List UInt8} {n k a : Nat} (h : n ≤ k) (e : dtsN (L.drop n) = (k - n) + dtsN (L.drop k)) (ha : dtrN (L.drop k) = a) (h0 : a ≠ 0) : dtsN (L.drop n) = (k + a - n) + dtsN (L.drop (k + a)) := by
  rw [e, dts_step (by rw [ha]; exact h0), ha, List.drop_drop]
  omega
set_option maxRecDepth 100000 in
set_option maxHeartbeats 2000000 in
theorem dtag_beg (s : ByteArray) (w : World) (hs : s.size ≤ 100000) (h1 : hasPrefix s.data.toList [60, 47] = false) (h2 : hasPrefix s.data.toList [60] = true) :
    Calls Tryz.prog 12 #[.string s] w fun e w' => e = .returned (.int .i64 (dbN s.data.toList : Nat)) ∧ w = w' := by
  have hl := bytes_len s
  have hz := pre_len h2
  rw [hl] at hz
  have hz1 : 1 ≤ s.size := hz
  have P1 := Lib.hid (fun W => dhas_any s ⟨#[60, 47]⟩ W hs (by decide))
  rw [show (⟨#[60, 47]⟩ : ByteArray).data.toList = [60, 47] from rfl, h1] at P1
  have P2 := Lib.hid (fun W => dhas_any s ⟨#[60]⟩ W hs (by decide))
  rw [show (⟨#[60]⟩ : ByteArray).data.toList = [60] from rfl, h2] at P2
  have N1 := Lib.hid (fun W => dtagName_any s 1 W hs hz1)
  have hn := namN_le (s.data.toList.drop 1)
  rw [List.length_drop, hl] at hn
  have dA : dbA s.data.toList = 1 + namN (s.data.toList.drop 1) + dtsN (s.data.toList.drop (1 + namN (s.data.toList.drop 1))) := rfl
  have dB : dbB s.data.toList = dbA s.data.toList + cntP rSpc (s.data.toList.drop (dbA s.data.toList)) := rfl
  have dN : dbN s.data.toList = if namN (s.data.toList.drop 1) = 0 then 0 else cloN (dbC s.data.toList) s.data.toList := rfl
  generalize namN (s.data.toList.drop 1) = n at *
  clear h1 h2 hz
  by_cases c0 : n = 0
  · subst c0
    rw [dN, if_pos rfl]
    clear dA dB dN
    go_enter Tryz.func12, Tryz.ntmps12
    go_wp2_with fail
    refine (P1.out _).mono ?_
    rintro e w1 ⟨rfl, rfl⟩
    go_wp2_with fail
    refine (P2.out _).mono ?_
    rintro e w1 ⟨rfl, rfl⟩
    go_wp2_with fail
    refine (N1.out _).mono ?_
    rintro e w1 ⟨rfl, rfl⟩
    go_wp2_with fail
    go_ret
    exact ⟨rfl, rfl⟩
  · have q0 := beqF (show ¬ (n : Int) = 0 by omega)
    rw [dN, if_neg c0]
    have DA := Lib.hid dA
    have DB := Lib.hid dB
    have HL := Lib.hid hl
    have AT := Lib.hid (fun k (hk : k ≤ s.size) W => dattr_any s k W hs hk)
    have SP := Lib.hid (fun k (hk : k ≤ s.size) W => dspaces_any s k W hs hk)
    have LE := Lib.hid (fun k => cntP_le rSpc (s.data.toList.drop k))
    have LD := Lib.hid (fun k => dtrN_le (s.data.toList.drop k))
    clear dA dB dN c0 hl
    obtain ⟨m, hm⟩ : ∃ m, 1 + n = m := ⟨_, rfl⟩
    have hm1 : 1 + (n : Int) = (m : Int) := by omega
    rw [hm] at DA
    have hm2 : m ≤ s.size := by omega
    clear hm
    go_enter Tryz.func12, Tryz.ntmps12
    go_wp2_with fail
    refine (P1.out _).mono ?_
    rintro e w1 ⟨rfl, rfl⟩
    go_wp2_with fail
    refine (P2.out _).mono ?_
    rintro e w1 ⟨rfl, rfl⟩
    go_wp2_with fail
    refine (N1.out _).mono ?_
    rintro e w1 ⟨rfl, rfl⟩
    go_wp2_with fail
    go_loop [6] (fun v => ∃ k : Nat, m ≤ k ∧ k ≤ s.size ∧ v = .int .i64 k ∧ Hid (dtsN (s.data.toList.drop m) = (k - m) + dtsN (s.data.toList.drop k))) (fun v => s.size - (RowKit.intOf v).toNat)
    case atStart => exact ⟨m, Nat.le_refl _, hm2, rfl, Lib.hid (by rw [Nat.sub_self, Nat.zero_add])⟩
    case round =>
      obtain ⟨k, hmk, hk, rfl, HC⟩ := hrel
      have A1 := Lib.hid (fun W => AT.out k hk W)
      have ha := LD.out k
      rw [List.length_drop, HL.out] at ha
      obtain ⟨a, HA⟩ : ∃ a, Hid (dtrN (s.data.toList.drop k) = a) := ⟨_, rfl⟩
      rw [HA.out] at A1 ha
      by_cases c1 : a = 0
      · subst c1
        have eA : dbA s.data.toList = k := by rw [DA.out, HC.out, dts_stop HA.out]; omega
        have eB := DB.out
        rw [eA] at eB
        have S1 := Lib.hid (fun W => SP.out k hk W)
        have hb := LE.out k
        rw [List.length_drop, HL.out] at hb
        generalize cntP rSpc (s.data.toList.drop k) = b at *
        obtain ⟨j, hj⟩ : ∃ j, k + b = j := ⟨_, rfl⟩
        have hj1 : (k : Int) + (b : Int) = (j : Int) := by omega
        rw [hj] at eB
        clear HC HA DA DB AT SP LE LD eA
        by_cases c2 : j < s.size
        · have hbj := s[j].toNat_lt
          have g0 : decide (s.size ≤ j) = false := decide_eq_false (by omega)
          by_cases c3 : s[j].toNat = 47
          · have q3 := beqT (show (s[j].toNat : Int) = 47 by omega)
            obtain ⟨u, hu⟩ : ∃ u, j + 1 = u := ⟨_, rfl⟩
            have hu1 : (j : Int) + 1 = (u : Int) := by omega
            have HC1 := Lib.hid ((dbC_at eB c2 c3).trans hu)
            by_cases c4 : u < s.size
            · have hbu := s[u].toNat_lt
              have g1 : decide (s.size ≤ u) = false := decide_eq_false (by omega)
              by_cases c5 : s[u].toNat = 62
              · have q5 := bneF (show (s[u].toNat : Int) = 62 by omega)
                have HN : Hid (cloN (dbC s.data.toList) s.data.toList = u + 1) := Lib.hid (by rw [HC1.out]; exact clo_at c4 c5)
                clear c3 c5 hj hu eB
                go_wp2_with fail
                refine (A1.out _).mono ?_
                rintro e w1 ⟨rfl, rfl⟩
                go_wp2_with fail
                refine (S1.out _).mono ?_
                rintro e w1 ⟨rfl, rfl⟩
                go_wp2_with fail
                go_ret
                exact ⟨ret_int (by rw [HN.out]; omega), rfl⟩
              · have q5 := bneT (show ¬ (s[u].toNat : Int) = 62 by omega)
                have HN : Hid (cloN (dbC s.data.toList) s.data.toList = 0) := Lib.hid (by rw [HC1.out]; exact clo_not c4 c5)
                clear c3 c5 hj hu eB
                go_wp2_with fail
                refine (A1.out _).mono ?_
                rintro e w1 ⟨rfl, rfl⟩
                go_wp2_with fail
                refine (S1.out _).mono ?_
                rintro e w1 ⟨rfl, rfl⟩
                go_wp2_with fail
                go_ret
                exact ⟨ret_int (by rw [HN.out]; omega), rfl⟩
            · have g1 : decide (s.size ≤ u) = true := decide_eq_true (by omega)
              have HN : Hid (cloN (dbC s.data.toList) s.data.toList = 0) := Lib.hid (by rw [HC1.out]; exact clo_end c4)
              clear c3 hj hu eB
              go_wp2_with fail
              refine (A1.out _).mono ?_
              rintro e w1 ⟨rfl, rfl⟩
              go_wp2_with fail
              refine (S1.out _).mono ?_
              rintro e w1 ⟨rfl, rfl⟩
              go_wp2_with fail
              go_ret
              exact ⟨ret_int (by rw [HN.out]; omega), rfl⟩
          · have q3 := beqF (show ¬ (s[j].toNat : Int) = 47 by omega)
            have HC1 := Lib.hid (dbC_not eB c2 c3)
            by_cases c5 : s[j].toNat = 62
            · have q5 := bneF (show (s[j].toNat : Int) = 62 by omega)
              have HN : Hid (cloN (dbC s.data.toList) s.data.toList = j + 1) := Lib.hid (by rw [HC1.out]; exact clo_at c2 c5)
              clear c3 c5 hj eB
              go_wp2_with fail
              refine (A1.out _).mono ?_
              rintro e w1 ⟨rfl, rfl⟩
              go_wp2_with fail
              refine (S1.out _).mono ?_
              rintro e w1 ⟨rfl, rfl⟩
              go_wp2_with fail
              go_ret
              exact ⟨ret_int (by rw [HN.out]; omega), rfl⟩
            · have q5 := bneT (show ¬ (s[j].toNat : Int) = 62 by omega)
              have HN : Hid (cloN (dbC s.data.toList) s.data.toList = 0) := Lib.hid (by rw [HC1.out]; exact clo_not c2 c5)
              clear c3 c5 hj eB
              go_wp2_with fail
              refine (A1.out _).mono ?_
              rintro e w1 ⟨rfl, rfl⟩
              go_wp2_with fail
              refine (S1.out _).mono ?_
              rintro e w1 ⟨rfl, rfl⟩
              go_wp2_with fail
              go_ret
              exact ⟨ret_int (by rw [HN.out]; omega), rfl⟩
        · have g0 : decide (s.size ≤ j) = true := decide_eq_true (by omega)
          have HN : Hid (cloN (dbC s.data.toList) s.data.toList = 0) := Lib.hid (by rw [dbC_end eB c2, clo_end c2])
          clear hj eB
          go_wp2_with fail
          refine (A1.out _).mono ?_
          rintro e w1 ⟨rfl, rfl⟩
          go_wp2_with fail
          refine (S1.out _).mono ?_
          rintro e w1 ⟨rfl, rfl⟩
          go_wp2_with fail
          go_ret
          exact ⟨ret_int (by rw [HN.out]; omega), rfl⟩
      · have q1 := beqF (show ¬ (a : Int) = 0 by omega)
        have HN := Lib.hid (dts_on hmk HC.out HA.out c1)
        clear HC HA
        go_wp2_with fail
        refine (A1.out _).mono ?_
        rintro e w1 ⟨rfl, rfl⟩
        go_wp2_with fail
        go_round
        case rel => exact ⟨k + a, by omega, by omega, by go_num, HN⟩
        case measure => simp [RowKit.intOf]; omega

set_option maxRecDepth 100000 in
theorem dtag_any (s : ByteArray) (w : World) (hs : s.size ≤ 100000) :
    Calls Tryz.prog 12 #[.string s] w fun e w' => e = .returned (.int .i64 (tagN s.data.toList : Nat)) ∧ w = w' := by
  rw [tag_doc]
  cases h1 : hasPrefix s.data.toList [60, 47] with
  | true =>
    rw [if_pos rfl]
    exact dtag_end s w hs h1
  | false =>
    rw [if_neg (by decide)]
    cases h2 : hasPrefix s.data.toList [60] with
    | true =>
      rw [if_pos rfl]
      exact dtag_beg s w hs h1 h2
    | false =>
      rw [if_neg (by decide)]
      have P1 := Lib.hid (fun W => dhas_any s ⟨#[60, 47]⟩ W hs (by decide))
      rw [show (⟨#[60, 47]⟩ : ByteArray).data.toList = [60, 47] from rfl, h1] at P1
      have P2 := Lib.hid (fun W => dhas_any s ⟨#[60]⟩ W hs (by decide))
      rw [show (⟨#[60]⟩ : ByteArray).data.toList = [60] from rfl, h2] at P2
      clear h1 h2
      go_enter Tryz.func12, Tryz.ntmps12
      go_wp2_with fail
      refine (P1.out _).mono ?_
      rintro e w1 ⟨rfl, rfl⟩
      go_wp2_with fail
      refine (P2.out _).mono ?_
      rintro e w1 ⟨rfl, rfl⟩
      go_wp2_with fail
      go_ret
      exact ⟨rfl, rfl⟩

/-! ### Html -/
theorem dhtm6 {l : List UInt8} (h1 : hasPrefix l [60, 33, 45, 45, 62] = false) (h2 : hasPrefix l [60, 33, 45, 45, 45, 62] = false) (h3 : hasPrefix l [60, 33, 45, 45] = false) (h4 : hasPrefix l [60, 63] = false) (h5 : hasPrefix l [60, 33, 91, 67, 68, 65, 84, 65, 91] = false) (h6 : hasPrefix l [60, 33] = true) (h7 : frP rLet (l.drop 2) = true) : htmN l = upA 3 [62] l := by
  rw [htm6 h1 h2 h3 h4 h5 h6]
  unfold decN
  rw [if_pos h7]
  have hz := frP_drop h7
  have e : l.drop 2 = l[2] :: l.drop 3 := List.drop_eq_getElem_cons hz
  rw [e] at h7
  exact up_third e (let_not (.inr h7)).2.2.2.2
theorem dhtm6' {l : List UInt8} (h1 : hasPrefix l [60, 33, 45, 45, 62] = false) (h2 : hasPrefix l [60, 33, 45, 45, 45, 62] = false) (h3 : hasPrefix l [60, 33, 45, 45] = false) (h4 : hasPrefix l [60, 63] = false) (h5 : hasPrefix l [60, 33, 91, 67, 68, 65, 84, 65, 91] = false) (h6 : hasPrefix l [60, 33] = true) (h7 : frP rLet (l.drop 2) = false) : htmN l = tagN l := by
  rw [htm6 h1 h2 h3 h4 h5 h6, tag_bang h6]
  unfold decN
  rw [if_neg (by rw [h7]; decide)]
set_option maxRecDepth 100000 in
set_option maxHeartbeats 2000000 in
theorem dhtml_any (s : ByteArray) (w : World) (hs : s.size ≤ 100000) :
    Calls Tryz.prog 14 #[.string s] w fun e w' => e = .returned (.int .i64 (htmN s.data.toList : Nat)) ∧ w = w' := by
  have P1 := Lib.hid (fun W => dhas_any s ⟨#[60, 33, 45, 45, 62]⟩ W hs (by decide))
  rw [show (⟨#[60, 33, 45, 45, 62]⟩ : ByteArray).data.toList = [60, 33, 45, 45, 62] from rfl] at P1
  have P2 := Lib.hid (fun W => dhas_any s ⟨#[60, 33, 45, 45, 45, 62]⟩ W hs (by decide))
  rw [show (⟨#[60, 33, 45, 45, 45, 62]⟩ : ByteArray).data.toList = [60, 33, 45, 45, 45, 62] from rfl] at P2
  have P3 := Lib.hid (fun W => dhas_any s ⟨#[60, 33, 45, 45]⟩ W hs (by decide))
  rw [show (⟨#[60, 33, 45, 45]⟩ : ByteArray).data.toList = [60, 33, 45, 45] from rfl] at P3
  have P4 := Lib.hid (fun W => dhas_any s ⟨#[60, 63]⟩ W hs (by decide))
  rw [show (⟨#[60, 63]⟩ : ByteArray).data.toList = [60, 63] from rfl] at P4
  have P5 := Lib.hid (fun W => dhas_any s ⟨#[60, 33, 91, 67, 68, 65, 84, 65, 91]⟩ W hs (by decide))
  rw [show (⟨#[60, 33, 91, 67, 68, 65, 84, 65, 91]⟩ : ByteArray).data.toList = [60, 33, 91, 67, 68, 65, 84, 65, 91] from rfl] at P5
  have P6 := Lib.hid (fun W => dhas_any s ⟨#[60, 33]⟩ W hs (by decide))
  rw [show (⟨#[60, 33]⟩ : ByteArray).data.toList = [60, 33] from rfl] at P6
  cases h1 : hasPrefix s.data.toList [60, 33, 45, 45, 62] with
  | true =>
    rw [h1] at P1
    rw [htm1 h1]
    clear h1
    go_enter Tryz.func14, Tryz.ntmps14
    go_wp2_with fail
    refine (P1.out _).mono ?_
    rintro e w1 ⟨rfl, rfl⟩
    go_wp2_with fail
    go_ret
    exact ⟨rfl, rfl⟩
  | false =>
    rw [h1] at P1
    cases h2 : hasPrefix s.data.toList [60, 33, 45, 45, 45, 62] with
    | true =>
      rw [h2] at P2
      rw [htm2 h1 h2]
      clear h1 h2
      go_enter Tryz.func14, Tryz.ntmps14
      go_wp2_with fail
      refine (P1.out _).mono ?_
      rintro e w1 ⟨rfl, rfl⟩
      go_wp2_with fail
      refine (P2.out _).mono ?_
      rintro e w1 ⟨rfl, rfl⟩
      go_wp2_with fail
      go_ret
      exact ⟨rfl, rfl⟩
    | false =>
      rw [h2] at P2
      cases h3 : hasPrefix s.data.toList [60, 33, 45, 45] with
      | true =>
        rw [h3] at P3
        have hz := pre_len h3
        rw [bytes_len] at hz
        have UP := Lib.hid (fun W => dupto_any s ⟨#[45, 45, 62]⟩ 4 W hs (by decide) (by decide) hz)
        rw [show (⟨#[45, 45, 62]⟩ : ByteArray).data.toList = [45, 45, 62] from rfl] at UP
        rw [htm3 h1 h2 h3]
        generalize upA 4 [45, 45, 62] s.data.toList = n at *
        clear hz
        clear h1 h2 h3
        go_enter Tryz.func14, Tryz.ntmps14
        go_wp2_with fail
        refine (P1.out _).mono ?_
        rintro e w1 ⟨rfl, rfl⟩
        go_wp2_with fail
        refine (P2.out _).mono ?_
        rintro e w1 ⟨rfl, rfl⟩
        go_wp2_with fail
        refine (P3.out _).mono ?_
        rintro e w1 ⟨rfl, rfl⟩
        go_wp2_with fail
        refine (UP.out _).mono ?_
        rintro e w1 ⟨rfl, rfl⟩
        go_wp2_with fail
        go_ret
        exact ⟨rfl, rfl⟩
      | false =>
        rw [h3] at P3
        cases h4 : hasPrefix s.data.toList [60, 63] with
        | true =>
          rw [h4] at P4
          have hz := pre_len h4
          rw [bytes_len] at hz
          have UP := Lib.hid (fun W => dupto_any s ⟨#[63, 62]⟩ 2 W hs (by decide) (by decide) hz)
          rw [show (⟨#[63, 62]⟩ : ByteArray).data.toList = [63, 62] from rfl] at UP
          rw [htm4 h1 h2 h3 h4]
          generalize upA 2 [63, 62] s.data.toList = n at *
          clear hz
          clear h1 h2 h3 h4
          go_enter Tryz.func14, Tryz.ntmps14
          go_wp2_with fail
          refine (P1.out _).mono ?_
          rintro e w1 ⟨rfl, rfl⟩
          go_wp2_with fail
          refine (P2.out _).mono ?_
          rintro e w1 ⟨rfl, rfl⟩
          go_wp2_with fail
          refine (P3.out _).mono ?_
          rintro e w1 ⟨rfl, rfl⟩
          go_wp2_with fail
          refine (P4.out _).mono ?_
          rintro e w1 ⟨rfl, rfl⟩
          go_wp2_with fail
          refine (UP.out _).mono ?_
          rintro e w1 ⟨rfl, rfl⟩
          go_wp2_with fail
          go_ret
          exact ⟨rfl, rfl⟩
        | false =>
          rw [h4] at P4
          cases h5 : hasPrefix s.data.toList [60, 33, 91, 67, 68, 65, 84, 65, 91] with
          | true =>
            rw [h5] at P5
            have hz := pre_len h5
            rw [bytes_len] at hz
            have UP := Lib.hid (fun W => dupto_any s ⟨#[93, 93, 62]⟩ 9 W hs (by decide) (by decide) hz)
            rw [show (⟨#[93, 93, 62]⟩ : ByteArray).data.toList = [93, 93, 62] from rfl] at UP
            rw [htm5 h1 h2 h3 h4 h5]
            generalize upA 9 [93, 93, 62] s.data.toList = n at *
            clear hz
            clear h1 h2 h3 h4 h5
            go_enter Tryz.func14, Tryz.ntmps14
            go_wp2_with fail
            refine (P1.out _).mono ?_
            rintro e w1 ⟨rfl, rfl⟩
            go_wp2_with fail
            refine (P2.out _).mono ?_
            rintro e w1 ⟨rfl, rfl⟩
            go_wp2_with fail
            refine (P3.out _).mono ?_
            rintro e w1 ⟨rfl, rfl⟩
            go_wp2_with fail
            refine (P4.out _).mono ?_
            rintro e w1 ⟨rfl, rfl⟩
            go_wp2_with fail
            refine (P5.out _).mono ?_
            rintro e w1 ⟨rfl, rfl⟩
            go_wp2_with fail
            refine (UP.out _).mono ?_
            rintro e w1 ⟨rfl, rfl⟩
            go_wp2_with fail
            go_ret
            exact ⟨rfl, rfl⟩
          | false =>
            rw [h5] at P5
            cases h6 : hasPrefix s.data.toList [60, 33] with
            | true =>
              rw [h6] at P6
              have hz := pre_len h6
              rw [bytes_len] at hz
              have hz2 : 2 ≤ s.size := hz
              clear hz
              by_cases g : 2 < s.size
              · have hb := s[2].toNat_lt
                have LT := Lib.hid (fun W => dletter_any s[2] W)
                have f2 := fr_at rLet s 2 g
                cases h7 : rLet s[2] with
                | true =>
                  rw [h7] at LT
                  have UP := Lib.hid (fun W => dupto_any s ⟨#[62]⟩ 3 W hs (by decide) (by decide) (by omega))
                  rw [show (⟨#[62]⟩ : ByteArray).data.toList = [62] from rfl] at UP
                  rw [dhtm6 h1 h2 h3 h4 h5 h6 (f2.trans h7)]
                  generalize upA 3 [62] s.data.toList = n at *
                  clear h1 h2 h3 h4 h5 h6 h7 f2
                  go_enter Tryz.func14, Tryz.ntmps14
                  go_wp2_with fail
                  refine (P1.out _).mono ?_
                  rintro e w1 ⟨rfl, rfl⟩
                  go_wp2_with fail
                  refine (P2.out _).mono ?_
                  rintro e w1 ⟨rfl, rfl⟩
                  go_wp2_with fail
                  refine (P3.out _).mono ?_
                  rintro e w1 ⟨rfl, rfl⟩
                  go_wp2_with fail
                  refine (P4.out _).mono ?_
                  rintro e w1 ⟨rfl, rfl⟩
                  go_wp2_with fail
                  refine (P5.out _).mono ?_
                  rintro e w1 ⟨rfl, rfl⟩
                  go_wp2_with fail
                  refine (P6.out _).mono ?_
                  rintro e w1 ⟨rfl, rfl⟩
                  go_wp2_with fail
                  refine (LT.out _).mono ?_
                  rintro e w1 ⟨rfl, rfl⟩
                  go_wp2_with fail
                  refine (UP.out _).mono ?_
                  rintro e w1 ⟨rfl, rfl⟩
                  go_wp2_with fail
                  go_ret
                  exact ⟨rfl, rfl⟩
                | false =>
                  rw [h7] at LT
                  have TG := Lib.hid (fun W => dtag_any s W hs)
                  rw [dhtm6' h1 h2 h3 h4 h5 h6 (f2.trans h7)]
                  generalize tagN s.data.toList = n at *
                  clear h1 h2 h3 h4 h5 h6 h7 f2
                  go_enter Tryz.func14, Tryz.ntmps14
                  go_wp2_with fail
                  refine (P1.out _).mono ?_
                  rintro e w1 ⟨rfl, rfl⟩
                  go_wp2_with fail
                  refine (P2.out _).mono ?_
                  rintro e w1 ⟨rfl, rfl⟩
                  go_wp2_with fail
                  refine (P3.out _).mono ?_
                  rintro e w1 ⟨rfl, rfl⟩
                  go_wp2_with fail
                  refine (P4.out _).mono ?_
                  rintro e w1 ⟨rfl, rfl⟩
                  go_wp2_with fail
                  refine (P5.out _).mono ?_
                  rintro e w1 ⟨rfl, rfl⟩
                  go_wp2_with fail
                  refine (P6.out _).mono ?_
                  rintro e w1 ⟨rfl, rfl⟩
                  go_wp2_with fail
                  refine (LT.out _).mono ?_
                  rintro e w1 ⟨rfl, rfl⟩
                  go_wp2_with fail
                  refine (TG.out _).mono ?_
                  rintro e w1 ⟨rfl, rfl⟩
                  go_wp2_with fail
                  go_ret
                  exact ⟨rfl, rfl⟩
              · have TG := Lib.hid (fun W => dtag_any s W hs)
                rw [dhtm6' h1 h2 h3 h4 h5 h6 (by rw [List.drop_eq_nil_of_le (by rw [bytes_len]; omega)]; rfl)]
                generalize tagN s.data.toList = n at *
                clear h1 h2 h3 h4 h5 h6
                go_enter Tryz.func14, Tryz.ntmps14
                go_wp2_with fail
                refine (P1.out _).mono ?_
                rintro e w1 ⟨rfl, rfl⟩
                go_wp2_with fail
                refine (P2.out _).mono ?_
                rintro e w1 ⟨rfl, rfl⟩
                go_wp2_with fail
                refine (P3.out _).mono ?_
                rintro e w1 ⟨rfl, rfl⟩
                go_wp2_with fail
                refine (P4.out _).mono ?_
                rintro e w1 ⟨rfl, rfl⟩
                go_wp2_with fail
                refine (P5.out _).mono ?_
                rintro e w1 ⟨rfl, rfl⟩
                go_wp2_with fail
                refine (P6.out _).mono ?_
                rintro e w1 ⟨rfl, rfl⟩
                go_wp2_with fail
                refine (TG.out _).mono ?_
                rintro e w1 ⟨rfl, rfl⟩
                go_wp2_with fail
                go_ret
                exact ⟨rfl, rfl⟩
            | false =>
              rw [h6] at P6
              have TG := Lib.hid (fun W => dtag_any s W hs)
              rw [htm7 h1 h2 h3 h4 h5 h6]
              generalize tagN s.data.toList = n at *
              clear h1 h2 h3 h4 h5 h6
              go_enter Tryz.func14, Tryz.ntmps14
              go_wp2_with fail
              refine (P1.out _).mono ?_
              rintro e w1 ⟨rfl, rfl⟩
              go_wp2_with fail
              refine (P2.out _).mono ?_
              rintro e w1 ⟨rfl, rfl⟩
              go_wp2_with fail
              refine (P3.out _).mono ?_
              rintro e w1 ⟨rfl, rfl⟩
              go_wp2_with fail
              refine (P4.out _).mono ?_
              rintro e w1 ⟨rfl, rfl⟩
              go_wp2_with fail
              refine (P5.out _).mono ?_
              rintro e w1 ⟨rfl, rfl⟩
              go_wp2_with fail
              refine (P6.out _).mono ?_
              rintro e w1 ⟨rfl, rfl⟩
              go_wp2_with fail
              refine (TG.out _).mono ?_
              rintro e w1 ⟨rfl, rfl⟩
              go_wp2_with fail
              go_ret
              exact ⟨rfl, rfl⟩
end Go.Proofs.YtggeknhggpdpkaaGreatDoor
