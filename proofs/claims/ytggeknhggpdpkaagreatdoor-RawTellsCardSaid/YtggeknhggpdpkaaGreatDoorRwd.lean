/-
  Contracts of Html, enclosed, schemed, Escaped, codeText, Code, of the package raw, for texts of at most 100,000 bytes.
-/
import Derived.Test.YtggeknhggpdpkaaGreatDoorRwc
import Derived.Test.YtggeknhggpdpkaaGreatDoorCln
import Derived.Test.YtggeknhggpdpkaaGreatDoorSgn
import Derived.Lib.TrimByte
import Derived.Lib.ReplaceLaws
namespace Go.Proofs.YtggeknhggpdpkaaGreatDoor
open Go.RowKit Go.Lib

/-! ### Html -/
theorem htm1 {l : List UInt8} (h1 : hasPrefix l [60, 33, 45, 45, 62] = true) : htmN l = 5 := by unfold htmN; rw [if_pos h1]
theorem htm2 {l : List UInt8} (h1 : hasPrefix l [60, 33, 45, 45, 62] = false) (h2 : hasPrefix l [60, 33, 45, 45, 45, 62] = true) : htmN l = 6 := by unfold htmN; rw [if_neg (by rw [h1]; decide), if_pos h2]
theorem htm3 {l : List UInt8} (h1 : hasPrefix l [60, 33, 45, 45, 62] = false) (h2 : hasPrefix l [60, 33, 45, 45, 45, 62] = false) (h3 : hasPrefix l [60, 33, 45, 45] = true) : htmN l = upA 4 [45, 45, 62] l := by
  unfold htmN; rw [if_neg (by rw [h1]; decide), if_neg (by rw [h2]; decide), if_pos h3]
theorem htm4 {l : List UInt8} (h1 : hasPrefix l [60, 33, 45, 45, 62] = false) (h2 : hasPrefix l [60, 33, 45, 45, 45, 62] = false) (h3 : hasPrefix l [60, 33, 45, 45] = false) (h4 : hasPrefix l [60, 63] = true) : htmN l = upA 2 [63, 62] l := by
  unfold htmN; rw [if_neg (by rw [h1]; decide), if_neg (by rw [h2]; decide), if_neg (by rw [h3]; decide), if_pos h4]
theorem htm5 {l : List UInt8} (h1 : hasPrefix l [60, 33, 45, 45, 62] = false) (h2 : hasPrefix l [60, 33, 45, 45, 45, 62] = false) (h3 : hasPrefix l [60, 33, 45, 45] = false) (h4 : hasPrefix l [60, 63] = false) (h5 : hasPrefix l [60, 33, 91, 67, 68, 65, 84, 65, 91] = true) : htmN l = upA 9 [93, 93, 62] l := by
  unfold htmN; rw [if_neg (by rw [h1]; decide), if_neg (by rw [h2]; decide), if_neg (by rw [h3]; decide), if_neg (by rw [h4]; decide), if_pos h5]
theorem htm6 {l : List UInt8} (h1 : hasPrefix l [60, 33, 45, 45, 62] = false) (h2 : hasPrefix l [60, 33, 45, 45, 45, 62] = false) (h3 : hasPrefix l [60, 33, 45, 45] = false) (h4 : hasPrefix l [60, 63] = false) (h5 : hasPrefix l [60, 33, 91, 67, 68, 65, 84, 65, 91] = false) (h6 : hasPrefix l [60, 33] = true) : htmN l = decN l := by
  unfold htmN; rw [if_neg (by rw [h1]; decide), if_neg (by rw [h2]; decide), if_neg (by rw [h3]; decide), if_neg (by rw [h4]; decide), if_neg (by rw [h5]; decide), if_pos h6]
theorem htm7 {l : List UInt8} (h1 : hasPrefix l [60, 33, 45, 45, 62] = false) (h2 : hasPrefix l [60, 33, 45, 45, 45, 62] = false) (h3 : hasPrefix l [60, 33, 45, 45] = false) (h4 : hasPrefix l [60, 63] = false) (h5 : hasPrefix l [60, 33, 91, 67, 68, 65, 84, 65, 91] = false) (h6 : hasPrefix l [60, 33] = false) : htmN l = tagN l := by
  unfold htmN; rw [if_neg (by rw [h1]; decide), if_neg (by rw [h2]; decide), if_neg (by rw [h3]; decide), if_neg (by rw [h4]; decide), if_neg (by rw [h5]; decide), if_neg (by rw [h6]; decide)]

set_option maxRecDepth 100000 in
set_option maxHeartbeats 1000000 in
theorem rhtml_any (s : ByteArray) (w : World) (hs : s.size ≤ 100000) (hm : Mxl w) :
    Calls Tryz.prog 13 #[.string s] w fun e w' => e = .returned (.int .i64 (htmN s.data.toList : Nat)) ∧ w = w' := by
  have HP := fun (t : ByteArray) W => (Tryz.strings_HasPrefix s t W).mono (fun _ _ h => And.intro h.1 h.2.symm)
  have P1 := Lib.hid (HP ⟨#[60, 33, 45, 45, 62]⟩)
  have P2 := Lib.hid (HP ⟨#[60, 33, 45, 45, 45, 62]⟩)
  have P3 := Lib.hid (HP ⟨#[60, 33, 45, 45]⟩)
  have P4 := Lib.hid (HP ⟨#[60, 63]⟩)
  have P5 := Lib.hid (HP ⟨#[60, 33, 91, 67, 68, 65, 84, 65, 91]⟩)
  have P6 := Lib.hid (HP ⟨#[60, 33]⟩)
  rw [show (⟨#[60, 33, 45, 45, 62]⟩ : ByteArray).data.toList = [60, 33, 45, 45, 62] from rfl] at P1
  rw [show (⟨#[60, 33, 45, 45, 45, 62]⟩ : ByteArray).data.toList = [60, 33, 45, 45, 45, 62] from rfl] at P2
  rw [show (⟨#[60, 33, 45, 45]⟩ : ByteArray).data.toList = [60, 33, 45, 45] from rfl] at P3
  rw [show (⟨#[60, 63]⟩ : ByteArray).data.toList = [60, 63] from rfl] at P4
  rw [show (⟨#[60, 33, 91, 67, 68, 65, 84, 65, 91]⟩ : ByteArray).data.toList = [60, 33, 91, 67, 68, 65, 84, 65, 91] from rfl] at P5
  rw [show (⟨#[60, 33]⟩ : ByteArray).data.toList = [60, 33] from rfl] at P6
  clear HP
  cases h1 : hasPrefix s.data.toList [60, 33, 45, 45, 62] with
  | true =>
    rw [h1] at P1
    rw [htm1 h1]
    clear h1 P2 P3 P4 P5 P6 hm
    go_enter Tryz.func13, Tryz.ntmps13
    go_wp2_with fail
    refine (P1.out _).mono ?_
    rintro e w1 ⟨rfl, rfl⟩
    go_wp2_with fail
    go_ret
    exact ⟨rfl, rfl⟩
  | false =>
    rw [h1] at P1
    cases h2 : hasPrefix s.data.toList [60, 33, 45, 45, 45, 62] with
    | true =>
      rw [h2] at P2
      rw [htm2 h1 h2]
      clear h1 h2 P3 P4 P5 P6 hm
      go_enter Tryz.func13, Tryz.ntmps13
      go_wp2_with fail
      refine (P1.out _).mono ?_
      rintro e w1 ⟨rfl, rfl⟩
      go_wp2_with fail
      refine (P2.out _).mono ?_
      rintro e w1 ⟨rfl, rfl⟩
      go_wp2_with fail
      go_ret
      exact ⟨rfl, rfl⟩
    | false =>
      rw [h2] at P2
      cases h3 : hasPrefix s.data.toList [60, 33, 45, 45] with
      | true =>
        have hz := pre_len h3
        rw [bytes_len] at hz
        have UP := Lib.hid (upTo_any s ⟨#[45, 45, 62]⟩ 4 w hs hz (by decide) hm)
        rw [show (⟨#[45, 45, 62]⟩ : ByteArray).data.toList = [45, 45, 62] from rfl] at UP
        rw [h3] at P3
        rw [htm3 h1 h2 h3]
        generalize upA 4 [45, 45, 62] s.data.toList = n at *
        clear h1 h2 h3 P4 P5 P6 hm hz
        go_enter Tryz.func13, Tryz.ntmps13
        go_wp2_with fail
        refine (P1.out _).mono ?_
        rintro e w1 ⟨rfl, rfl⟩
        go_wp2_with fail
        refine (P2.out _).mono ?_
        rintro e w1 ⟨rfl, rfl⟩
        go_wp2_with fail
        refine (P3.out _).mono ?_
        rintro e w1 ⟨rfl, rfl⟩
        go_wp2_with fail
        refine UP.out.mono ?_
        rintro e w1 ⟨rfl, rfl⟩
        go_wp2_with fail
        go_ret
        exact ⟨rfl, rfl⟩
      | false =>
        rw [h3] at P3
        cases h4 : hasPrefix s.data.toList [60, 63] with
        | true =>
          have hz := pre_len h4
          rw [bytes_len] at hz
          have UP := Lib.hid (upTo_any s ⟨#[63, 62]⟩ 2 w hs hz (by decide) hm)
          rw [show (⟨#[63, 62]⟩ : ByteArray).data.toList = [63, 62] from rfl] at UP
          rw [h4] at P4
          rw [htm4 h1 h2 h3 h4]
          generalize upA 2 [63, 62] s.data.toList = n at *
          clear h1 h2 h3 h4 P5 P6 hm hz
          go_enter Tryz.func13, Tryz.ntmps13
          go_wp2_with fail
          refine (P1.out _).mono ?_
          rintro e w1 ⟨rfl, rfl⟩
          go_wp2_with fail
          refine (P2.out _).mono ?_
          rintro e w1 ⟨rfl, rfl⟩
          go_wp2_with fail
          refine (P3.out _).mono ?_
          rintro e w1 ⟨rfl, rfl⟩
          go_wp2_with fail
          refine (P4.out _).mono ?_
          rintro e w1 ⟨rfl, rfl⟩
          go_wp2_with fail
          refine UP.out.mono ?_
          rintro e w1 ⟨rfl, rfl⟩
          go_wp2_with fail
          go_ret
          exact ⟨rfl, rfl⟩
        | false =>
          rw [h4] at P4
          cases h5 : hasPrefix s.data.toList [60, 33, 91, 67, 68, 65, 84, 65, 91] with
          | true =>
            have hz := pre_len h5
            rw [bytes_len] at hz
            have UP := Lib.hid (upTo_any s ⟨#[93, 93, 62]⟩ 9 w hs hz (by decide) hm)
            rw [show (⟨#[93, 93, 62]⟩ : ByteArray).data.toList = [93, 93, 62] from rfl] at UP
            rw [h5] at P5
            rw [htm5 h1 h2 h3 h4 h5]
            generalize upA 9 [93, 93, 62] s.data.toList = n at *
            clear h1 h2 h3 h4 h5 P6 hm hz
            go_enter Tryz.func13, Tryz.ntmps13
            go_wp2_with fail
            refine (P1.out _).mono ?_
            rintro e w1 ⟨rfl, rfl⟩
            go_wp2_with fail
            refine (P2.out _).mono ?_
            rintro e w1 ⟨rfl, rfl⟩
            go_wp2_with fail
            refine (P3.out _).mono ?_
            rintro e w1 ⟨rfl, rfl⟩
            go_wp2_with fail
            refine (P4.out _).mono ?_
            rintro e w1 ⟨rfl, rfl⟩
            go_wp2_with fail
            refine (P5.out _).mono ?_
            rintro e w1 ⟨rfl, rfl⟩
            go_wp2_with fail
            refine UP.out.mono ?_
            rintro e w1 ⟨rfl, rfl⟩
            go_wp2_with fail
            go_ret
            exact ⟨rfl, rfl⟩
          | false =>
            rw [h5] at P5
            cases h6 : hasPrefix s.data.toList [60, 33] with
            | true =>
              have hz := pre_len h6
              rw [bytes_len] at hz
              have DC := Lib.hid (declaration_any s w hs hz hm)
              rw [h6] at P6
              rw [htm6 h1 h2 h3 h4 h5 h6]
              generalize decN s.data.toList = n at *
              clear h1 h2 h3 h4 h5 h6 hm hz
              go_enter Tryz.func13, Tryz.ntmps13
              go_wp2_with fail
              refine (P1.out _).mono ?_
              rintro e w1 ⟨rfl, rfl⟩
              go_wp2_with fail
              refine (P2.out _).mono ?_
              rintro e w1 ⟨rfl, rfl⟩
              go_wp2_with fail
              refine (P3.out _).mono ?_
              rintro e w1 ⟨rfl, rfl⟩
              go_wp2_with fail
              refine (P4.out _).mono ?_
              rintro e w1 ⟨rfl, rfl⟩
              go_wp2_with fail
              refine (P5.out _).mono ?_
              rintro e w1 ⟨rfl, rfl⟩
              go_wp2_with fail
              refine (P6.out _).mono ?_
              rintro e w1 ⟨rfl, rfl⟩
              go_wp2_with fail
              refine DC.out.mono ?_
              rintro e w1 ⟨rfl, rfl⟩
              go_wp2_with fail
              go_ret
              exact ⟨rfl, rfl⟩
            | false =>
              have TG := Lib.hid (tag_any s w hs hm)
              rw [h6] at P6
              rw [htm7 h1 h2 h3 h4 h5 h6]
              generalize tagN s.data.toList = n at *
              clear h1 h2 h3 h4 h5 h6 hm
              go_enter Tryz.func13, Tryz.ntmps13
              go_wp2_with fail
              refine (P1.out _).mono ?_
              rintro e w1 ⟨rfl, rfl⟩
              go_wp2_with fail
              refine (P2.out _).mono ?_
              rintro e w1 ⟨rfl, rfl⟩
              go_wp2_with fail
              refine (P3.out _).mono ?_
              rintro e w1 ⟨rfl, rfl⟩
              go_wp2_with fail
              refine (P4.out _).mono ?_
              rintro e w1 ⟨rfl, rfl⟩
              go_wp2_with fail
              refine (P5.out _).mono ?_
              rintro e w1 ⟨rfl, rfl⟩
              go_wp2_with fail
              refine (P6.out _).mono ?_
              rintro e w1 ⟨rfl, rfl⟩
              go_wp2_with fail
              refine TG.out.mono ?_
              rintro e w1 ⟨rfl, rfl⟩
              go_wp2_with fail
              go_ret
              exact ⟨rfl, rfl⟩

/-! ### enclosed -/
theorem encT_no {l : List UInt8} (h : hasPrefix l [60] = false) : encT l = [] := by unfold encT; rw [if_neg (by rw [h]; decide)]
/-- What stands in a text behind its <. -/
def encI (r : List UInt8) : List UInt8 := if frP (fun b => decide (b.toNat = 62)) (r.drop (cntP rLnk r)) = true then r.take (cntP rLnk r) else []
theorem encT_yes {l : List UInt8} (h : hasPrefix l [60] = true) : encT l = encI (l.drop 1) := by unfold encT encI; rw [if_pos h]
theorem encI_at {t : ByteArray} {k : Nat} (h : k < t.size) (hc : cntP rLnk t.data.toList = k + cntP rLnk (t.data.toList.drop k)) (h2 : t[k].toNat = 62) : encI t.data.toList = t.data.toList.take k := by
  have e := cnt_at_no h hc (by unfold rLnk; rw [decide_eq_false_iff_not]; omega)
  unfold encI
  rw [e, fr_at _ t k h, if_pos (decide_eq_true h2)]
theorem encI_bad {t : ByteArray} {k : Nat} (h : k < t.size) (hc : cntP rLnk t.data.toList = k + cntP rLnk (t.data.toList.drop k)) (h1 : rLnk t[k] = false) (h2 : ¬ t[k].toNat = 62) : encI t.data.toList = [] := by
  have e := cnt_at_no h hc h1
  unfold encI
  rw [e, fr_at _ t k h, if_neg (by rw [decide_eq_true_eq]; exact h2)]
theorem encI_end {t : ByteArray} (hc : cntP rLnk t.data.toList = t.size + cntP rLnk (t.data.toList.drop t.size)) : encI t.data.toList = [] := by
  have e := cnt_at_end hc
  unfold encI
  rw [e, List.drop_eq_nil_of_le (by rw [bytes_len]; omega), if_neg (by show ¬ false = true; decide)]

set_option maxRecDepth 100000 in
set_option maxHeartbeats 1000000 in
theorem renclosed_any (s : ByteArray) (w : World) (hs : s.size ≤ 100000) :
    Calls Tryz.prog 15 #[.string s] w fun e w' => e = .returned (.string ⟨(encT s.data.toList).toArray⟩) ∧ w = w' := by
  have CP := Lib.hid (fun W => (Tryz.strings_CutPrefix s ⟨#[60]⟩ W).mono (fun _ _ h => And.intro h.1 h.2.symm))
  rw [show (⟨#[60]⟩ : ByteArray).data.toList = [60] from rfl] at CP
  unfold trimPrefix at CP
  cases hp : hasPrefix s.data.toList [60] with
  | false =>
    rw [hp] at CP
    rw [encT_no hp]
    clear hp
    generalize (⟨(if false = true then s.data.toList.drop ([60] : List UInt8).length else s.data.toList).toArray⟩ : ByteArray) = t at CP
    go_enter Tryz.func15, Tryz.ntmps15
    go_wp2_with fail
    refine (CP.out _).mono ?_
    rintro e w1 ⟨rfl, rfl⟩
    go_wp2_with fail
    go_ret
    exact ⟨rfl, rfl⟩
  | true =>
    rw [hp, if_pos rfl] at CP
    obtain ⟨t, ht⟩ : ∃ t : ByteArray, (⟨(s.data.toList.drop ([60] : List UInt8).length).toArray⟩ : ByteArray) = t := ⟨_, rfl⟩
    have tl : t.data.toList = s.data.toList.drop 1 := by rw [← ht]; rfl
    rw [ht] at CP
    rw [encT_yes hp, ← tl]
    have tz : t.size ≤ 100000 := by rw [← bytes_len, tl, List.length_drop, bytes_len]; omega
    clear ht tl hp
    go_enter Tryz.func15, Tryz.ntmps15
    go_wp2_with fail
    refine (CP.out _).mono ?_
    rintro e w1 ⟨rfl, rfl⟩
    go_wp2_with fail
    go_loop [16] (fun i => ∃ k : Nat, k ≤ t.size ∧ i = .int .i64 k ∧ Hid (cntP rLnk t.data.toList = k + cntP rLnk (t.data.toList.drop k))) (fun i => t.size - (RowKit.intOf i).toNat)
    case atStart => exact ⟨0, Nat.zero_le _, rfl, Lib.hid (by rw [List.drop_zero, Nat.zero_add])⟩
    case round =>
      obtain ⟨k, hk, rfl, HC⟩ := hrel
      by_cases h : k < t.size
      · have hb := t[k].toNat_lt
        by_cases c1 : t[k].toNat = 62
        · have q1 := beqT (show (t[k].toNat : Int) = 62 by omega)
          have HN := Lib.hid (encI_at h HC.out c1)
          clear HC c1
          go_wp2_with fail
          go_ret
          exact ⟨ret_bytes (by rw [HN.out, ext_take]), rfl⟩
        · have q1 := beqF (show ¬ (t[k].toNat : Int) = 62 by omega)
          cases c2 : rLnk t[k] with
          | true =>
            have hr : 32 < t[k].toNat ∧ t[k].toNat ≠ 60 ∧ t[k].toNat ≠ 62 ∧ t[k].toNat ≠ 127 := of_decide_eq_true c2
            have q2 : decide ((t[k].toNat : Int) ≤ 32) = false := decide_eq_false (by omega)
            have q3 := beqF (show ¬ (t[k].toNat : Int) = 60 by omega)
            have q4 := beqF (show ¬ (t[k].toNat : Int) = 127 by omega)
            have HN := Lib.hid (cnt_at_yes h HC.out c2)
            clear HC c1 c2
            go_wp2_with fail
            go_round
            case rel => exact ⟨k + 1, h, by go_num, HN⟩
            case measure => simp [RowKit.intOf]; omega
          | false =>
            have hr : ¬ (32 < t[k].toNat ∧ t[k].toNat ≠ 60 ∧ t[k].toNat ≠ 62 ∧ t[k].toNat ≠ 127) := of_decide_eq_false c2
            have HN := Lib.hid (encI_bad h HC.out c2 c1)
            by_cases d1 : t[k].toNat ≤ 32
            · have q2 : decide ((t[k].toNat : Int) ≤ 32) = true := decide_eq_true (by omega)
              clear HC c1 c2 hr
              go_wp2_with fail
              go_ret
              exact ⟨ret_str (by rw [HN.out]), rfl⟩
            · have q2 : decide ((t[k].toNat : Int) ≤ 32) = false := decide_eq_false (by omega)
              by_cases d2 : t[k].toNat = 60
              · have q3 := beqT (show (t[k].toNat : Int) = 60 by omega)
                clear HC c1 c2 hr d2
                go_wp2_with fail
                go_ret
                exact ⟨ret_str (by rw [HN.out]), rfl⟩
              · have q3 := beqF (show ¬ (t[k].toNat : Int) = 60 by omega)
                have q4 := beqT (show (t[k].toNat : Int) = 127 by omega)
                clear HC c1 c2 hr d2
                go_wp2_with fail
                go_ret
                exact ⟨ret_str (by rw [HN.out]), rfl⟩
      · obtain rfl : k = t.size := by omega
        have HN := Lib.hid (encI_end HC.out)
        clear HC
        go_wp2_with fail
        go_ret
        exact ⟨ret_str (by rw [HN.out]), rfl⟩

/-! ### schemed -/
set_option maxRecDepth 100000 in
set_option maxHeartbeats 400000 in
theorem schemed_any (s : ByteArray) (w : World) (hs : s.size ≤ 100000) :
    Calls Tryz.prog 16 #[.string s] w fun e w' => e = .returned (.bool (schB s.data.toList)) ∧ w = w' := by
  have ST := Lib.hid (fun W => stretch_rSch s W hs)
  have hn := cntP_le rSch s.data.toList
  rw [bytes_len] at hn
  unfold schB
  generalize cntP rSch s.data.toList = n at *
  by_cases c1 : 2 ≤ n
  · have q1 : decide ((2 : Int) ≤ (n : Int)) = true := decide_eq_true (by omega)
    by_cases c2 : n ≤ 32
    · have q2 : decide ((n : Int) ≤ 32) = true := decide_eq_true (by omega)
      have hp : 0 < s.size := by omega
      have LT := Lib.hid (fun W => rletter_any s[0] W)
      have hb := s[0].toNat_lt
      rw [decide_eq_true c1, decide_eq_true c2, Bool.true_and, Bool.true_and, fr_first _ s hp]
      cases c3 : rLet s[0] with
      | false =>
        rw [c3] at LT
        rw [Bool.false_and]
        clear c3 c1 c2
        go_enter Tryz.func16, Tryz.ntmps16
        go_wp2_with fail
        refine (ST.out _).mono ?_
        rintro e w1 ⟨rfl, rfl⟩
        go_wp2_with fail
        refine (LT.out _).mono ?_
        rintro e w1 ⟨rfl, rfl⟩
        go_wp2_with fail
        go_ret
        exact ⟨rfl, rfl⟩
      | true =>
        rw [c3] at LT
        rw [Bool.true_and]
        have HP := Lib.hid (fun W => (Tryz.strings_HasPrefix (s.extract n s.size) ⟨#[58]⟩ W).mono (fun _ _ h => And.intro h.1 h.2.symm))
        rw [Lib.extract_to_end, show (⟨#[58]⟩ : ByteArray).data.toList = [58] from rfl, pre_fr 58 58 rfl] at HP
        generalize frP (fun b => decide (b.toNat = 58)) (s.data.toList.drop n) = q at *
        clear c3 c1 c2
        go_enter Tryz.func16, Tryz.ntmps16
        go_wp2_with fail
        refine (ST.out _).mono ?_
        rintro e w1 ⟨rfl, rfl⟩
        go_wp2_with fail
        refine (LT.out _).mono ?_
        rintro e w1 ⟨rfl, rfl⟩
        go_wp2_with fail
        refine (HP.out _).mono ?_
        rintro e w1 ⟨rfl, rfl⟩
        go_wp2_with fail
        go_ret
        exact ⟨rfl, rfl⟩
    · have q2 : decide ((n : Int) ≤ 32) = false := decide_eq_false (by omega)
      rw [decide_eq_true c1, decide_eq_false c2, Bool.true_and, Bool.false_and, Bool.false_and]
      clear c1 c2
      go_enter Tryz.func16, Tryz.ntmps16
      go_wp2_with fail
      refine (ST.out _).mono ?_
      rintro e w1 ⟨rfl, rfl⟩
      go_wp2_with fail
      go_ret
      exact ⟨rfl, rfl⟩
  · have q1 : decide ((2 : Int) ≤ (n : Int)) = false := decide_eq_false (by omega)
    rw [decide_eq_false c1, Bool.false_and, Bool.false_and, Bool.false_and]
    clear c1
    go_enter Tryz.func16, Tryz.ntmps16
    go_wp2_with fail
    refine (ST.out _).mono ?_
    rintro e w1 ⟨rfl, rfl⟩
    go_wp2_with fail
    go_ret
    exact ⟨rfl, rfl⟩
end Go.Proofs.YtggeknhggpdpkaaGreatDoor
