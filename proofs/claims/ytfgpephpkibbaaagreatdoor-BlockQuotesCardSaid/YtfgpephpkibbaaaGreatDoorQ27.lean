/-
  Texts of the proof, one behind the other: Tra, Trb, Trc.
-/
import Derived.Test.YtfgpephpkibbaaaGreatDoorQ3
import Derived.Test.YtfgpephpkibbaaaGreatDoorQ14
import Derived.Test.YtfgpephpkibbaaaGreatDoorQ23
import Derived.LoopTactic
/-
  Contracts of width, stands, enclosed, bare, Dest, of the package, for texts of at most 100,000 bytes.
-/
namespace Go.Proofs.YtfgpephpkibbaaaGreatDoor
open Go.RowKit Go.Lib

theorem dst_out {a b : List UInt8} {n m : Nat} {x y : Bool} (h : a = b ∧ n = m ∧ x = y) : Ending.returned (.tuple #[.string ⟨a.toArray⟩, .int .i64 (n : Nat), .bool x]) = .returned (.tuple #[.string ⟨b.toArray⟩, .int .i64 (m : Nat), .bool y]) := by rw [h.1, h.2.1, h.2.2]

set_option maxRecDepth 100000 in
set_option maxHeartbeats 400000 in
theorem width_any9 (s : ByteArray) (w : World) :
    Calls Tryz.prog 193 #[.string s] w fun e w' => e = .returned (.int .i64 (widN s.data.toList : Nat)) ∧ w = w' := by
  by_cases c1 : 1 < s.size
  · by_cases c0 : s[0].toNat = 92
    · have q0 : ((s[0].toNat : Int) == 92) = true := beq_iff_eq.2 (by omega)
      have S1 := Lib.hid (fun W => sign_any s[1] W)
      have E : widN s.data.toList = if signB s[1] then 2 else 1 := by unfold widN; rw [esc_at s (by omega) c0 c1]
      cases c2 : signB s[1] with
      | true =>
        rw [c2] at S1 E
        rw [E]
        clear c0 c2 E
        go_enter Tryz.func193, Tryz.ntmps193
        go_wp2_with fail
        refine (S1.out _).mono ?_
        rintro e w1 ⟨rfl, rfl⟩
        go_wp2_with fail
        go_ret
        exact ⟨rfl, rfl⟩
      | false =>
        rw [c2] at S1 E
        rw [E]
        clear c0 c2 E
        go_enter Tryz.func193, Tryz.ntmps193
        go_wp2_with fail
        refine (S1.out _).mono ?_
        rintro e w1 ⟨rfl, rfl⟩
        go_wp2_with fail
        go_ret
        exact ⟨rfl, rfl⟩
    · have q0 : ((s[0].toNat : Int) == 92) = false := beq_eq_false_iff_ne.2 (by omega)
      have E : widN s.data.toList = 1 := by unfold widN; rw [esc_no s (by omega) c0]; rfl
      rw [E]
      clear c0 E
      go_enter Tryz.func193, Tryz.ntmps193
      go_wp2_with fail
      go_ret
      exact ⟨rfl, rfl⟩
  · have E : widN s.data.toList = 1 := by unfold widN; rw [esc_short s c1]; rfl
    rw [E]
    clear E
    go_enter Tryz.func193, Tryz.ntmps193
    go_wp2_with fail
    go_ret
    exact ⟨rfl, rfl⟩

theorem stdB_int (b : UInt8) : stdB b = (decide (32 < (b.toNat : Int)) && decide ((b.toNat : Int) ≠ 127)) := by
  unfold stdB
  rw [Bool.eq_iff_iff]
  simp only [Bool.and_eq_true, decide_eq_true_eq]
  omega
set_option maxRecDepth 100000 in
theorem stands_go (x : Int) (w : World) (h0 : 0 ≤ x) (h1 : x < 256) :
    Calls Tryz.prog 194 #[.int .u8 x] w fun e w' => e = .returned (.bool (decide (32 < x) && decide (x ≠ 127))) ∧ w = w' := by
  by_cases c : 32 < x
  · rw [decide_eq_true c, Bool.true_and]
    by_cases c2 : x = 127
    · subst c2
      go_enter Tryz.func194, Tryz.ntmps194
      go_wp2
      go_ret
      exact ⟨rfl, rfl⟩
    · rw [decide_eq_true c2]
      have t1 := beqF c2
      go_enter Tryz.func194, Tryz.ntmps194
      go_wp2
      go_ret
      exact ⟨ret_bool (by simp [c2]), rfl⟩
  · rw [decide_eq_false c, Bool.false_and]
    go_enter Tryz.func194, Tryz.ntmps194
    go_wp2
    go_ret
    exact ⟨rfl, rfl⟩
theorem stands_any (b : UInt8) (w : World) :
    Calls Tryz.prog 194 #[.int .u8 (b.toNat : Nat)] w fun e w' => e = .returned (.bool (stdB b)) ∧ w = w' := by
  have hb := b.toNat_lt
  rw [stdB_int]
  exact stands_go _ w (by omega) (by omega)
end Go.Proofs.YtfgpephpkibbaaaGreatDoor

/-
  Contracts of enclosed, bare, Dest, of the package, for texts of at most 100,000 bytes.
-/
namespace Go.Proofs.YtfgpephpkibbaaaGreatDoor
open Go.RowKit Go.Lib

theorem up_eq0 {a n : Nat} (h : upN a n = 0) : n = 0 := by
  by_cases e : n = 0
  · exact e
  · rw [up_pos a e] at h; omega
theorem up_is {a n m : Nat} (h : upN a n = m) (hm : m ≠ 0) : n + a = m := by
  by_cases e : n = 0
  · subst e; exact absurd h.symm hm
  · rw [up_pos a e] at h; exact h
theorem cut_head (s : ByteArray) (k : Nat) : (s.extract 0 k).data.toList = s.data.toList.take k := by rw [Lib.extract_data, List.drop_zero, Nat.sub_zero]
theorem cut_from1 (s : ByteArray) (k : Nat) : (s.extract 1 k).data.toList = (s.data.toList.drop 1).take (k - 1) := by rw [Lib.extract_data]
theorem drop_wid (l : List UInt8) (k n : Nat) : (l.drop k).drop n = l.drop (k + n) := by rw [List.drop_drop]
/-- What enclosed tells. -/
def EncV (L : List UInt8) : Value := .tuple #[.string ⟨(plainL ((L.drop 1).take (encN (L.drop 1) - 1))).toArray⟩, .int .i64 (upN 1 (encN (L.drop 1)) : Nat), .bool (decide (encN (L.drop 1) ≠ 0))]
theorem enc_no {L : List UInt8} (h : encN (L.drop 1) = 0) : EncV L = .tuple #[.string ⟨#[]⟩, .int .i64 0, .bool false] := by unfold EncV; rw [h]; rfl
theorem enc_yes {L t : List UInt8} {k : Nat} (h : encN (L.drop 1) = k) (hk : 1 ≤ k) (ht : plainL ((L.drop 1).take (k - 1)) = t) : EncV L = .tuple #[.string ⟨t.toArray⟩, .int .i64 ((k : Int) + 1), .bool true] := by
  unfold EncV
  rw [h, ht, decide_eq_true (by omega), up_pos 1 (by omega)]
  rfl
set_option maxRecDepth 100000 in
set_option maxHeartbeats 1000000 in
theorem enclosed_any (s : ByteArray) (w : World) (hs : s.size ≤ 100000) (h1 : 1 ≤ s.size) (hO : Lis w) :
    Calls Tryz.prog 175 #[.string s] w fun e w' => e = .returned (EncV s.data.toList) ∧ Keeps w w' := by
  have hl := Lib.hid (bytes_len s)
  have HO := Lib.hid hO
  have PL := Lib.hid (fun t W a b => plain_any t W a b)
  have WD := Lib.hid (fun k W => width_any9 (s.extract k s.size) W)
  have NO := Lib.hid (@enc_no s.data.toList)
  have YES := Lib.hid (fun t k a b c => @enc_yes s.data.toList t k a b c)
  clear hO
  go_enter Tryz.func175, Tryz.ntmps175
  go_wp2_with fail
  go_loop [5] (fun i => ∃ k : Nat, 1 ≤ k ∧ k ≤ s.size ∧ i = .int .i64 k ∧ Hid (upN 1 (encN (s.data.toList.drop 1)) = upN k (encN (s.data.toList.drop k)))) (fun i => s.size - (RowKit.intOf i).toNat)
  case atStart => exact ⟨1, Nat.le_refl _, h1, rfl, Lib.hid rfl⟩
  case round =>
    obtain ⟨k, hk1, hk, rfl, HC⟩ := hrel
    by_cases h : k < s.size
    · have hb := s[k].toNat_lt
      have HD := Lib.hid (drop_at s k h)
      by_cases c1 : s[k].toNat = 10
      · have q1 := beqT (show (s[k].toNat : Int) = 10 by omega)
        have HN := Lib.hid (NO.out (up_eq0 (HC.out.trans (by rw [HD.out, enc_none _ _ (.inl c1)]; rfl))))
        clear HC c1 HD NO YES
        go_wp2_with fail
        go_ret3
        exact ⟨congrArg Ending.returned HN.out.symm, Keeps.refl _⟩
      · have q1 := beqF (show ¬ (s[k].toNat : Int) = 10 by omega)
        by_cases c2 : s[k].toNat = 60
        · have q2 := beqT (show (s[k].toNat : Int) = 60 by omega)
          have HN := Lib.hid (NO.out (up_eq0 (HC.out.trans (by rw [HD.out, enc_none _ _ (.inr c2)]; rfl))))
          clear HC c1 c2 HD NO YES
          go_wp2_with fail
          go_ret3
          exact ⟨congrArg Ending.returned HN.out.symm, Keeps.refl _⟩
        · have q2 := beqF (show ¬ (s[k].toNat : Int) = 60 by omega)
          by_cases c3 : s[k].toNat = 62
          · have q3 := beqT (show (s[k].toNat : Int) = 62 by omega)
            have P1 := Lib.hid (PL.out (s.extract 1 k) w (by rw [ByteArray.size_extract]; omega) HO.out)
            rw [cut_from1] at P1
            obtain ⟨t, ht⟩ : ∃ t, plainL ((s.data.toList.drop 1).take (k - 1)) = t := ⟨_, rfl⟩
            have HN := Lib.hid (YES.out t k (by
              have := up_is (HC.out.trans (by rw [HD.out, enc_last _ _ c3, up_pos k (by omega)] : _ = 1 + k)) (by omega)
              omega) hk1 ht)
            rw [ht] at P1
            clear HC c1 c2 c3 HD NO YES ht
            go_wp2_with fail
            refine P1.out.mono ?_
            rintro e w1 ⟨rfl, k1⟩
            go_wp2_with fail
            go_ret3
            exact ⟨congrArg Ending.returned HN.out.symm, k1⟩
          · have q3 := beqF (show ¬ (s[k].toNat : Int) = 62 by omega)
            have W1 := Lib.hid (WD.out k)
            rw [Lib.extract_to_end] at W1
            have hw := wid_pos (s.data.toList.drop k)
            have hw2 := wid_le (l := s.data.toList.drop k) (by rw [HD.out]; simp)
            rw [List.length_drop, hl.out] at hw2
            have HN : Hid (upN 1 (encN (s.data.toList.drop 1)) = upN (k + widN (s.data.toList.drop k)) (encN (s.data.toList.drop (k + widN (s.data.toList.drop k))))) := Lib.hid (by
              rw [HC.out, ← up_up, ← drop_wid]
              refine congrArg (upN k) ?_
              rw [HD.out]
              exact enc_go _ _ (by omega) c3)
            generalize widN (s.data.toList.drop k) = n at *
            clear HC c1 c2 c3 HD NO YES
            go_wp2_with fail
            refine (W1.out _).mono ?_
            rintro e w1 ⟨rfl, rfl⟩
            go_wp2_with fail
            go_round
            case rel => exact ⟨k + n, by omega, by omega, by go_num, HN⟩
            case measure => simp [RowKit.intOf]; omega
    · have hd : s.data.toList.drop k = [] := List.drop_eq_nil_of_le (by rw [bytes_len]; omega)
      have HN := Lib.hid (NO.out (up_eq0 (HC.out.trans (by rw [hd]; rfl))))
      clear HC hd NO YES
      go_wp2_with fail
      go_ret3
      exact ⟨congrArg Ending.returned HN.out.symm, Keeps.refl _⟩

/-- What bare tells. -/
def BareV (L : List UInt8) : Value := .tuple #[.string ⟨(plainL (L.take (barN 0 L - 1))).toArray⟩, .int .i64 (barN 0 L - 1 : Nat), .bool (decide (barN 0 L ≠ 0))]
theorem bare_no {L : List UInt8} (h : barN 0 L = 0) : BareV L = .tuple #[.string ⟨#[]⟩, .int .i64 0, .bool false] := by unfold BareV; rw [h]; rfl
theorem bare_yes {L : List UInt8} {k : Nat} (h : barN 0 L = k + 1) : BareV L = .tuple #[.string ⟨(plainL (L.take k)).toArray⟩, .int .i64 (k : Nat), .bool true] := by unfold BareV; rw [h, decide_eq_true (by omega)]; rfl
theorem bar_end0 {L r : List UInt8} {k : Nat} (h : barN 0 L = upN k (barN 0 r)) (e : barN 0 r = 1) : barN 0 L = k + 1 := by rw [h, e, up_pos k (by omega)]; omega
theorem bar_endN {L r : List UInt8} {k o : Nat} (h : barN 0 L = upN k (barN o r)) (e : barN o r = 0) : barN 0 L = 0 := by rw [h, e]; rfl
set_option maxRecDepth 100000 in
set_option maxHeartbeats 2000000 in
theorem bare_any (s : ByteArray) (w : World) (hs : s.size ≤ 100000) (hO : Lis w) :
    Calls Tryz.prog 176 #[.string s] w fun e w' => e = .returned (BareV s.data.toList) ∧ Keeps w w' := by
  have hl := Lib.hid (bytes_len s)
  have HO := Lib.hid hO
  have PL := Lib.hid (fun t W a b => plain_any t W a b)
  have WD := Lib.hid (fun k W => width_any9 (s.extract k s.size) W)
  have SD := Lib.hid (fun b W => stands_any b W)
  clear hO
  go_enter Tryz.func176, Tryz.ntmps176
  go_wp2_with fail
  go_loop [5, 6] (fun i v => ∃ k o : Nat, k ≤ s.size ∧ o ≤ 32 ∧ i = .int .i64 k ∧ v = .int .i64 o ∧ Hid (barN 0 s.data.toList = upN k (barN o (s.data.toList.drop k)))) (fun i _ => s.size - (RowKit.intOf i).toNat)
  case atStart => exact ⟨0, 0, Nat.zero_le _, by omega, rfl, rfl, Lib.hid (by rw [up_zero, List.drop_zero])⟩
  case round =>
    obtain ⟨k, o, hk, ho, rfl, rfl, HC⟩ := hrel
    have P1 := Lib.hid (PL.out (s.extract 0 k) w (by rw [ByteArray.size_extract]; omega) HO.out)
    rw [cut_head] at P1
    have NO := Lib.hid (@bare_no s.data.toList)
    have YES := Lib.hid (@bare_yes s.data.toList k)
    by_cases h : k < s.size
    · have hb := s[k].toNat_lt
      have HD := Lib.hid (drop_at s k h)
      have S1 := Lib.hid (SD.out s[k])
      cases cs : stdB s[k] with
      | false =>
        rw [cs] at S1
        by_cases c0 : o = 0
        · subst c0
          have HN := Lib.hid (YES.out (bar_end0 HC.out (by rw [HD.out, bar_stop 0 _ _ cs]; rfl)))
          clear HC HD NO YES cs
          go_wp2_with fail
          refine (S1.out _).mono ?_
          rintro e w1 ⟨rfl, rfl⟩
          go_wp2_with fail
          refine P1.out.mono ?_
          rintro e w1 ⟨rfl, k1⟩
          go_wp2_with fail
          go_ret3
          exact ⟨congrArg Ending.returned HN.out.symm, k1⟩
        · have HN := Lib.hid (NO.out (bar_endN HC.out (by rw [HD.out, bar_stop o _ _ cs, if_neg c0])))
          clear HC HD NO YES cs
          have hop : 0 < o := by omega
          go_wp2_with fail
          refine (S1.out _).mono ?_
          rintro e w1 ⟨rfl, rfl⟩
          go_wp2_with fail
          go_ret3
          exact ⟨congrArg Ending.returned HN.out.symm, Keeps.refl _⟩
      | true =>
        rw [cs] at S1
        have W1 := Lib.hid (WD.out k)
        rw [Lib.extract_to_end] at W1
        by_cases c1 : s[k].toNat = 40
        · have q1 := beqT (show (s[k].toNat : Int) = 40 by omega)
          have q2 := beqF (show ¬ (s[k].toNat : Int) = 41 by omega)
          by_cases c2 : o < 32
          · have E : widN (s.data.toList.drop k) = 1 := by rw [HD.out]; exact wid_paren _ _ (.inr c1)
            rw [E] at W1
            have HN : Hid (barN 0 s.data.toList = upN (k + 1) (barN (o + 1) (s.data.toList.drop (k + 1)))) := Lib.hid (by rw [HC.out, HD.out, bar_open o _ _ cs c1 c2, up_up])
            clear HC HD NO YES E cs c1
            go_wp2_with fail
            refine (S1.out _).mono ?_
            rintro e w1 ⟨rfl, rfl⟩
            go_wp2_with fail
            refine (W1.out _).mono ?_
            rintro e w1 ⟨rfl, rfl⟩
            go_wp2_with fail
            go_round
            case rel => exact ⟨k + 1, o + 1, by omega, by omega, by go_num, by go_num, HN⟩
            case measure => simp [RowKit.intOf]; omega
          · have HN := Lib.hid (NO.out (bar_endN HC.out (by rw [HD.out]; exact bar_many o _ _ cs c1 (by omega))))
            clear HC HD NO YES cs c1
            go_wp2_with fail
            refine (S1.out _).mono ?_
            rintro e w1 ⟨rfl, rfl⟩
            go_wp2_with fail
            go_ret3
            exact ⟨congrArg Ending.returned HN.out.symm, Keeps.refl _⟩
        · have q1 := beqF (show ¬ (s[k].toNat : Int) = 40 by omega)
          by_cases c2 : s[k].toNat = 41
          · have q2 := beqT (show (s[k].toNat : Int) = 41 by omega)
            cases o with
            | zero =>
              have HN := Lib.hid (YES.out (bar_end0 HC.out (by rw [HD.out]; exact bar_shut0 _ _ cs c2)))
              clear HC HD NO YES cs c1 c2
              go_wp2_with fail
              refine (S1.out _).mono ?_
              rintro e w1 ⟨rfl, rfl⟩
              go_wp2_with fail
              refine P1.out.mono ?_
              rintro e w1 ⟨rfl, k1⟩
              go_wp2_with fail
              go_ret3
              exact ⟨congrArg Ending.returned HN.out.symm, k1⟩
            | succ o =>
              have E : widN (s.data.toList.drop k) = 1 := by rw [HD.out]; exact wid_paren _ _ (.inl c2)
              rw [E] at W1
              have HN : Hid (barN 0 s.data.toList = upN (k + 1) (barN o (s.data.toList.drop (k + 1)))) := Lib.hid (by rw [HC.out, HD.out, bar_shut o _ _ cs c2, up_up])
              clear HC HD NO YES E cs c1 c2
              go_wp2_with fail
              refine (S1.out _).mono ?_
              rintro e w1 ⟨rfl, rfl⟩
              go_wp2_with fail
              refine (W1.out _).mono ?_
              rintro e w1 ⟨rfl, rfl⟩
              go_wp2_with fail
              go_round
              case rel => exact ⟨k + 1, o, by omega, by omega, by go_num, by go_num, HN⟩
              case measure => simp [RowKit.intOf]; omega
          · have q2 := beqF (show ¬ (s[k].toNat : Int) = 41 by omega)
            have hw := wid_pos (s.data.toList.drop k)
            have hw2 := wid_le (l := s.data.toList.drop k) (by rw [HD.out]; simp)
            rw [List.length_drop, hl.out] at hw2
            have HN : Hid (barN 0 s.data.toList = upN (k + widN (s.data.toList.drop k)) (barN o (s.data.toList.drop (k + widN (s.data.toList.drop k))))) := Lib.hid (by
              rw [HC.out, ← up_up, ← drop_wid]
              refine congrArg (upN k) ?_
              rw [HD.out]
              exact bar_go o _ _ cs c2 c1)
            generalize widN (s.data.toList.drop k) = n at *
            clear HC HD NO YES cs c1 c2
            go_wp2_with fail
            refine (S1.out _).mono ?_
            rintro e w1 ⟨rfl, rfl⟩
            go_wp2_with fail
            refine (W1.out _).mono ?_
            rintro e w1 ⟨rfl, rfl⟩
            go_wp2_with fail
            go_round
            case rel => exact ⟨k + n, o, by omega, by omega, by go_num, by go_num, HN⟩
            case measure => simp [RowKit.intOf]; omega
    · have hd : s.data.toList.drop k = [] := List.drop_eq_nil_of_le (by rw [bytes_len]; omega)
      by_cases c0 : o = 0
      · subst c0
        have HN := Lib.hid (YES.out (bar_end0 HC.out (by rw [hd]; rfl)))
        clear HC NO YES hd
        go_wp2_with fail
        refine P1.out.mono ?_
        rintro e w1 ⟨rfl, k1⟩
        go_wp2_with fail
        go_ret3
        exact ⟨congrArg Ending.returned HN.out.symm, k1⟩
      · have HN := Lib.hid (NO.out (bar_endN HC.out (by rw [hd, bar_nil, if_neg c0])))
        clear HC NO YES hd
        have hop : 0 < o := by omega
        go_wp2_with fail
        go_ret3
        exact ⟨congrArg Ending.returned HN.out.symm, Keeps.refl _⟩
/-- What Dest tells. -/
def DestV (L : List UInt8) : Value := .tuple #[.string ⟨(dstT L).toArray⟩, .int .i64 (dstN L : Nat), .bool (dstB L)]
theorem dest_enc {L : List UInt8} (h : hasPrefix L [60] = true) : DestV L = EncV L := by unfold DestV EncV dstT dstN dstB; rw [if_pos h, if_pos h, if_pos h]
theorem dest_bare {L : List UInt8} (h : hasPrefix L [60] = false) : DestV L = BareV L := by
  unfold DestV BareV dstT dstN dstB
  have h2 : ¬ hasPrefix L [60] = true := by rw [h]; decide
  rw [if_neg h2, if_neg h2, if_neg h2]
set_option maxRecDepth 100000 in
set_option maxHeartbeats 400000 in
theorem dest_in (s : ByteArray) (w : World) (hs : s.size ≤ 100000) (hO : Lis w) :
    Calls Tryz.prog 153 #[.string s] w fun e w' => e = .returned (DestV s.data.toList) ∧ Keeps w w' := by
  have P1 := Lib.hid (fun W => Tryz.strings_HasPrefix s ⟨#[60]⟩ W)
  rw [show (⟨#[60]⟩ : ByteArray).data.toList = [60] from rfl] at P1
  cases h : hasPrefix s.data.toList [60] with
  | true =>
    have hz : 1 ≤ s.size := pre_size h
    have EN := Lib.hid (enclosed_any s w hs hz hO)
    have HV := Lib.hid (dest_enc h)
    obtain ⟨a, b, c, hV⟩ : ∃ (a : ByteArray) (b : Nat) (c : Bool), EncV s.data.toList = .tuple #[.string a, .int .i64 b, .bool c] := ⟨_, _, _, rfl⟩
    rw [hV] at EN HV
    rw [h] at P1
    clear h hO hz hV
    go_enter Tryz.func153, Tryz.ntmps153
    go_wp2_with fail
    refine (P1.out _).mono ?_
    rintro e w1 ⟨rfl, rfl⟩
    go_wp2_with fail
    refine EN.out.mono ?_
    rintro e w1 ⟨rfl, k1⟩
    go_wp2_with fail
    go_ret3
    exact ⟨congrArg Ending.returned HV.out.symm, k1⟩
  | false =>
    have BR := Lib.hid (bare_any s w hs hO)
    have HV := Lib.hid (dest_bare h)
    obtain ⟨a, b, c, hV⟩ : ∃ (a : ByteArray) (b : Nat) (c : Bool), BareV s.data.toList = .tuple #[.string a, .int .i64 b, .bool c] := ⟨_, _, _, rfl⟩
    rw [hV] at BR HV
    rw [h] at P1
    clear h hO hV
    go_enter Tryz.func153, Tryz.ntmps153
    go_wp2_with fail
    refine (P1.out _).mono ?_
    rintro e w1 ⟨rfl, rfl⟩
    go_wp2_with fail
    refine BR.out.mono ?_
    rintro e w1 ⟨rfl, k1⟩
    go_wp2_with fail
    go_ret3
    exact ⟨congrArg Ending.returned HV.out.symm, k1⟩
theorem dest_any (s : ByteArray) (w : World) (hs : s.size ≤ 100000) (hO : Lis w) :
    Calls Tryz.prog 153 #[.string s] w fun e w' => e = .returned (.tuple #[.string ⟨(dstT s.data.toList).toArray⟩, .int .i64 (dstN s.data.toList : Nat), .bool (dstB s.data.toList)]) ∧ Keeps w w' := dest_in s w hs hO
end Go.Proofs.YtfgpephpkibbaaaGreatDoor

/-
  Contracts of lastSign, titleEnd, Title, spacedTitle, Inline, of the package, for texts of at most 100,000 bytes.
-/
namespace Go.Proofs.YtfgpephpkibbaaaGreatDoor
open Go.RowKit Go.Lib

theorem first_head (s : ByteArray) (h : 0 < s.size) : s.data.toList.headD 0 = s[0] := by
  have := drop_at s 0 h
  rw [List.drop_zero] at this
  rw [this]; rfl
theorem byte_is {b : UInt8} {n : Nat} (hn : n < 256) : (b = UInt8.ofNat n) = (b.toNat = n) := by
  rw [← UInt8.toNat_inj, UInt8.toNat_ofNat_of_lt' hn]
theorem endC_at (s : ByteArray) (h : 0 < s.size) : endC s.data.toList = if s[0].toNat = 34 ∨ s[0].toNat = 39 then s[0].toNat else if s[0].toNat = 40 then 41 else 0 := by
  have e1 : (s[0] = (34 : UInt8)) = (s[0].toNat = 34) := byte_is (n := 34) (by omega)
  have e2 : (s[0] = (39 : UInt8)) = (s[0].toNat = 39) := byte_is (n := 39) (by omega)
  have e3 : (s[0] = (40 : UInt8)) = (s[0].toNat = 40) := byte_is (n := 40) (by omega)
  unfold endC
  simp only [first_head s h, e1, e2, e3]
set_option maxRecDepth 100000 in
theorem lastSign_any (s : ByteArray) (w : World) :
    Calls Tryz.prog 212 #[.string s] w fun e w' => e = .returned (.int .u8 (endC s.data.toList : Nat)) ∧ w = w' := by
  by_cases h : 0 < s.size
  · have hi := tl_empty h
    have hn := tl_ne h
    have HE := Lib.hid (endC_at s h)
    have hb := s[0].toNat_lt
    generalize endC s.data.toList = z at *
    by_cases c1 : s[0].toNat = 34
    · have q1 := beqT (show (s[0].toNat : Int) = 34 by omega)
      have HZ : Hid (z = s[0].toNat) := Lib.hid (by rw [HE.out, if_pos (.inl c1)])
      clear c1 HE
      go_enter Tryz.func212, Tryz.ntmps212
      go_wp2_with fail
      go_ret
      exact ⟨ret_int (by rw [HZ.out]), rfl⟩
    · have q1 := beqF (show ¬ (s[0].toNat : Int) = 34 by omega)
      by_cases c2 : s[0].toNat = 39
      · have q2 := beqT (show (s[0].toNat : Int) = 39 by omega)
        have HZ : Hid (z = s[0].toNat) := Lib.hid (by rw [HE.out, if_pos (.inr c2)])
        clear c1 c2 HE
        go_enter Tryz.func212, Tryz.ntmps212
        go_wp2_with fail
        go_ret
        exact ⟨ret_int (by rw [HZ.out]), rfl⟩
      · have q2 := beqF (show ¬ (s[0].toNat : Int) = 39 by omega)
        by_cases c3 : s[0].toNat = 40
        · have q3 := beqT (show (s[0].toNat : Int) = 40 by omega)
          have HZ : Hid (z = 41) := Lib.hid (by rw [HE.out, if_neg (by omega), if_pos c3])
          clear c1 c2 c3 HE
          go_enter Tryz.func212, Tryz.ntmps212
          go_wp2_with fail
          go_ret
          exact ⟨ret_int (by rw [HZ.out]; rfl), rfl⟩
        · have q3 := beqF (show ¬ (s[0].toNat : Int) = 40 by omega)
          have HZ : Hid (z = 0) := Lib.hid (by rw [HE.out, if_neg (by omega), if_neg c3])
          clear c1 c2 c3 HE
          go_enter Tryz.func212, Tryz.ntmps212
          go_wp2_with fail
          go_ret
          exact ⟨ret_int (by rw [HZ.out]; rfl), rfl⟩
  · have hz : s = ⟨#[]⟩ := bytes_eq (by rw [List.eq_nil_of_length_eq_zero (show s.data.toList.length = 0 by rw [bytes_len]; omega)])
    subst hz
    clear h
    go_enter Tryz.func212, Tryz.ntmps212
    go_wp2_with fail
    go_ret
    exact ⟨rfl, rfl⟩

theorem eqT8 {a b : UInt8} (h : a = b) : ((a.toNat : Int) == (b.toNat : Int)) = true ∧ (a.toNat == b.toNat) = true := by subst h; simp
theorem eqF8 {a b : UInt8} (h : a ≠ b) : ((a.toNat : Int) == (b.toNat : Int)) = false ∧ (a.toNat == b.toNat) = false := by
  have : a.toNat ≠ b.toNat := fun x => h (UInt8.toNat_inj.1 x)
  exact ⟨beq_eq_false_iff_ne.2 (by omega), beq_eq_false_iff_ne.2 this⟩
set_option maxRecDepth 100000 in
set_option maxHeartbeats 2000000 in
theorem titleEnd_in (s : ByteArray) (E : UInt8) (w : World) (hs : s.size ≤ 100000) (h0 : 0 < s.size) (hE : endC s.data.toList = E.toNat) (hz : 0 < E.toNat) (hl1 : E.toNat = 34 ∨ E.toNat = 39 ∨ E.toNat = 41) :
    Calls Tryz.prog 203 #[.string s] w fun e w' => e = .returned (.int .i64 (upN 1 (tlsN s[0] E false (s.data.toList.drop 1)) : Nat)) ∧ w = w' := by
  have hl := Lib.hid (bytes_len s)
  have LS := Lib.hid (fun W => lastSign_any s W)
  rw [hE] at LS
  have HL := Lib.hid hl1
  have WD := Lib.hid (fun k W => width_any9 (s.extract k s.size) W)
  have he := E.toNat_lt
  have z0 : ((E.toNat : Int) == 0) = false := beqF (by omega)
  have z1 : ((E.toNat : Int) != 0) = true := by rw [bne, z0]; rfl
  obtain ⟨X, hX⟩ : ∃ X, tlsN s[0] E false (s.data.toList.drop 1) = X := ⟨_, rfl⟩
  have HX := Lib.hid hX
  rw [hX]
  clear hE hl1 hX
  go_enter Tryz.func203, Tryz.ntmps203
  go_wp2_with fail
  refine (LS.out _).mono ?_
  rintro e w1 ⟨rfl, rfl⟩
  go_wp2_with fail
  go_loop [4, 5] (fun v i => ∃ (k : Nat) (bl : Bool), 1 ≤ k ∧ k ≤ s.size ∧ v = .bool bl ∧ i = .int .i64 k ∧ Hid (upN 1 X = upN k (tlsN s[0] E bl (s.data.toList.drop k)))) (fun _ i => s.size - (RowKit.intOf i).toNat)
  case atStart => exact ⟨1, false, Nat.le_refl _, h0, rfl, rfl, Lib.hid (by rw [HX.out])⟩
  case round =>
    obtain ⟨k, bl, hk1, hk, rfl, rfl, HC⟩ := hrel
    by_cases h : k < s.size
    · have hb := s[k].toNat_lt
      have HD := Lib.hid (drop_at s k h)
      have W1 := Lib.hid (WD.out k)
      rw [Lib.extract_to_end] at W1
      by_cases c1 : s[k] = E
      · obtain ⟨q1, q2⟩ := eqT8 c1
        have HN : Hid (upN 1 X = k + 1) := Lib.hid (by rw [HC.out, HD.out, tls_last bl _ c1, up_pos k (by omega)]; omega)
        clear HC c1 HD
        go_wp2_with fail
        go_ret
        exact ⟨ret_int (by rw [HN.out]; rfl), rfl⟩
      · obtain ⟨q1, q2⟩ := eqF8 c1
        by_cases c2 : s[k] = s[0]
        · obtain ⟨q3, q4⟩ := eqT8 c2
          have HN : Hid (upN 1 X = 0) := Lib.hid (by rw [HC.out, HD.out, tls_none bl _ c1 c2]; rfl)
          clear HC c1 c2 HD
          go_wp2_with fail
          go_ret
          exact ⟨ret_int (by rw [HN.out]; rfl), rfl⟩
        · obtain ⟨q3, q4⟩ := eqF8 c2
          by_cases c3 : s[k].toNat = 10
          · have q5 := beqT (show (s[k].toNat : Int) = 10 by omega)
            have E1 : widN (s.data.toList.drop k) = 1 := by rw [HD.out]; exact wid_low _ _ (.inl c3)
            rw [E1] at W1
            cases bl with
            | true =>
              have HN : Hid (upN 1 X = 0) := Lib.hid (by rw [HC.out, HD.out, tls_blank _ c1 c2 c3]; rfl)
              clear HC c1 c2 c3 HD
              go_wp2_with fail
              go_ret
              exact ⟨ret_int (by rw [HN.out]; rfl), rfl⟩
            | false =>
              have HN : Hid (upN 1 X = upN (k + 1) (tlsN s[0] E true (s.data.toList.drop (k + 1)))) := Lib.hid (by rw [HC.out, HD.out, tls_line _ c1 c2 c3, up_up])
              clear HC c1 c2 c3 HD
              go_wp2_with fail
              refine (W1.out _).mono ?_
              rintro e w1 ⟨rfl, rfl⟩
              go_wp2_with fail
              go_round
              case rel => exact ⟨k + 1, true, by omega, by omega, rfl, by go_num, HN⟩
              case measure => simp [RowKit.intOf]; omega
          · have q5 := beqF (show ¬ (s[k].toNat : Int) = 10 by omega)
            by_cases c4 : s[k].toNat = 32 ∨ s[k].toNat = 9
            · have E1 : widN (s.data.toList.drop k) = 1 := by rw [HD.out]; exact wid_low _ _ (.inr c4)
              rw [E1] at W1
              have HN : Hid (upN 1 X = upN (k + 1) (tlsN s[0] E bl (s.data.toList.drop (k + 1)))) := Lib.hid (by rw [HC.out, HD.out, tls_space bl _ c1 c2 c4, up_up])
              rcases c4 with c4 | c4
              · have q6 := beqT (show (s[k].toNat : Int) = 32 by omega)
                clear HC c1 c2 c3 c4 HD E1
                go_wp2_with fail
                refine (W1.out _).mono ?_
                rintro e w1 ⟨rfl, rfl⟩
                go_wp2_with fail
                go_round
                case rel => exact ⟨k + 1, bl, by omega, by omega, rfl, by go_num, HN⟩
                case measure => simp [RowKit.intOf]; omega
              · have q6 := beqF (show ¬ (s[k].toNat : Int) = 32 by omega)
                have q7 := beqT (show (s[k].toNat : Int) = 9 by omega)
                clear HC c1 c2 c3 c4 HD E1
                go_wp2_with fail
                refine (W1.out _).mono ?_
                rintro e w1 ⟨rfl, rfl⟩
                go_wp2_with fail
                go_round
                case rel => exact ⟨k + 1, bl, by omega, by omega, rfl, by go_num, HN⟩
                case measure => simp [RowKit.intOf]; omega
            · have q6 := beqF (show ¬ (s[k].toNat : Int) = 32 by omega)
              have q7 := beqF (show ¬ (s[k].toNat : Int) = 9 by omega)
              have hw := wid_pos (s.data.toList.drop k)
              have hw2 := wid_le (l := s.data.toList.drop k) (by rw [HD.out]; simp)
              rw [List.length_drop, hl.out] at hw2
              have HN : Hid (upN 1 X = upN (k + widN (s.data.toList.drop k)) (tlsN s[0] E false (s.data.toList.drop (k + widN (s.data.toList.drop k))))) := Lib.hid (by
                rw [HC.out, ← up_up, ← drop_wid]
                refine congrArg (upN k) ?_
                rw [HD.out]
                exact tls_go bl _ c1 c2 c3 c4)
              generalize widN (s.data.toList.drop k) = n at *
              clear HC c1 c2 c3 c4 HD
              go_wp2_with fail
              refine (W1.out _).mono ?_
              rintro e w1 ⟨rfl, rfl⟩
              go_wp2_with fail
              go_round
              case rel => exact ⟨k + n, false, by omega, by omega, rfl, by go_num, HN⟩
              case measure => simp [RowKit.intOf]; omega
    · have hd : s.data.toList.drop k = [] := List.drop_eq_nil_of_le (by rw [bytes_len]; omega)
      have HN : Hid (upN 1 X = 0) := Lib.hid (HC.out.trans (by rw [hd]; rfl))
      clear HC hd
      go_wp2_with fail
      go_ret
      exact ⟨ret_int (by rw [HN.out]; rfl), rfl⟩
set_option maxRecDepth 100000 in
set_option maxHeartbeats 400000 in
theorem titleEnd_any (s : ByteArray) (w : World) (hs : s.size ≤ 100000) :
    Calls Tryz.prog 203 #[.string s] w fun e w' => e = .returned (.int .i64 (titN s.data.toList : Nat)) ∧ w = w' := by
  by_cases hz : endC s.data.toList = 0
  · have LS := Lib.hid (fun W => lastSign_any s W)
    rw [hz] at LS
    have HN : Hid (titN s.data.toList = 0) := Lib.hid (by unfold titN; rw [if_pos hz])
    rw [HN.out]
    clear hz HN
    go_enter Tryz.func203, Tryz.ntmps203
    go_wp2_with fail
    refine (LS.out _).mono ?_
    rintro e w1 ⟨rfl, rfl⟩
    go_wp2_with fail
    go_loop [4, 5] (fun v i => v = .bool false ∧ i = .int .i64 1) (fun _ _ => 0)
    case atStart => exact ⟨rfl, rfl⟩
    case round =>
      obtain ⟨rfl, rfl⟩ := hrel
      by_cases h : 1 < s.size
      all_goals
        go_wp2_with fail
        go_ret
        exact ⟨rfl, rfl⟩
  · have h0 : 0 < s.size := by
      refine Nat.pos_of_ne_zero fun e => hz ?_
      rw [List.eq_nil_of_length_eq_zero (show s.data.toList.length = 0 by rw [bytes_len]; exact e)]
      rfl
    have hb := s[0].toNat_lt
    have HE := endC_at s h0
    have hlt : endC s.data.toList < 256 := by rw [HE]; split <;> (try split) <;> omega
    have hto : (UInt8.ofNat (endC s.data.toList)).toNat = endC s.data.toList := UInt8.toNat_ofNat_of_lt' hlt
    have := titleEnd_in s (UInt8.ofNat (endC s.data.toList)) w hs h0 hto.symm (by rw [hto]; omega) (by rw [hto]; rw [HE] at hz ⊢; split <;> (try split) <;> (try simp_all) <;> omega)
    unfold titN
    rw [if_neg hz, first_head s h0]
    exact this
theorem tit_out {a b : List UInt8} {n m : Nat} (h : a = b ∧ n = m) : Ending.returned (.tuple #[.string ⟨a.toArray⟩, .int .i64 (n : Nat)]) = .returned (.tuple #[.string ⟨b.toArray⟩, .int .i64 (m : Nat)]) := by rw [h.1, h.2]
set_option maxRecDepth 100000 in
set_option maxHeartbeats 400000 in
theorem title_any (s : ByteArray) (w : World) (hs : s.size ≤ 100000) (hO : Lis w) :
    Calls Tryz.prog 195 #[.string s] w fun e w' => e = .returned (.tuple #[.string ⟨(titT s.data.toList).toArray⟩, .int .i64 (titN s.data.toList : Nat)]) ∧ Keeps w w' := by
  have TE := Lib.hid (fun W => titleEnd_any s W hs)
  obtain ⟨t1, t2⟩ := tit_le s.data.toList
  rw [bytes_len] at t1
  have PL := Lib.hid (plain_any (s.extract 1 (titN s.data.toList - 1)) w (by rw [ByteArray.size_extract]; omega) hO)
  rw [cut_from1, Nat.sub_sub, show plainL ((s.data.toList.drop 1).take (titN s.data.toList - (1 + 1))) = titT s.data.toList from rfl] at PL
  have h0 : titN s.data.toList = 0 → titT s.data.toList = [] := fun h => by unfold titT; rw [h]; rfl
  generalize titT s.data.toList = t at *
  generalize titN s.data.toList = n at *
  by_cases c : n = 0
  · obtain rfl := h0 c
    subst c
    clear hO PL t2 h0
    go_enter Tryz.func195, Tryz.ntmps195
    go_wp2_with fail
    refine (TE.out _).mono ?_
    rintro e w1 ⟨rfl, rfl⟩
    go_wp2_with fail
    go_ret2
    exact ⟨rfl, Keeps.refl _⟩
  · obtain ⟨m, rfl⟩ : ∃ m, n = m + 2 := ⟨n - 2, by omega⟩
    have t0 : (((m + 2 : Nat) : Int) == 0) = false := beqF (by omega)
    clear hO t2 c h0
    go_enter Tryz.func195, Tryz.ntmps195
    go_wp2_with fail
    refine (TE.out _).mono ?_
    rintro e w1 ⟨rfl, rfl⟩
    go_wp2_with fail
    refine PL.out.mono ?_
    rintro e w1 ⟨rfl, k1⟩
    go_wp2_with fail
    go_ret2
    exact ⟨rfl, k1⟩
end Go.Proofs.YtfgpephpkibbaaaGreatDoor

