/-
  Contracts of enclosed, bare, Dest, of the package, for texts of at most 100,000 bytes.
-/
import Derived.Test.YtonajkcdkihchaaDoorTra
namespace Go.Proofs.YtonajkcdkihchaaDoor
open Go.RowKit Go.Lib

theorem up_eq0 {a n : Nat} (h : upN a n = 0) : n = 0 := by
  by_cases e : n = 0
  · exact e
  · rw [up_pos a e] at h; omega
theorem up_is {a n m : Nat} (h : upN a n = m) (hm : m ≠ 0) : n + a = m := by
  by_cases e : n = 0
  · subst e; exact absurd h.symm hm
  · rw [up_pos a e] at h; exact h
theorem cut_head (s : ByteArray) (k : Nat) : (s.extract 0 k).data.toList = s.data.toList.take k := by rw [Lib.extract_data, List.drop_zero, Nat.sub_zero]
theorem cut_from1 (s : ByteArray) (k : Nat) : (s.extract 1 k).data.toList = (s.data.toList.drop 1).take (k - 1) := by rw [Lib.extract_data]
theorem drop_wid (l : List UInt8) (k n : Nat) : (l.drop k).drop n = l.drop (k + n) := by rw [List.drop_drop]
/-- What enclosed tells. -/
def EncV (L : List UInt8) : Value := .tuple #[.string ⟨(plainL ((L.drop 1).take (encN (L.drop 1) - 1))).toArray⟩, .int .i64 (upN 1 (encN (L.drop 1)) : Nat), .bool (decide (encN (L.drop 1) ≠ 0))]
theorem enc_no {L : List UInt8} (h : encN (L.drop 1) = 0) : EncV L = .tuple #[.string ⟨#[]⟩, .int .i64 0, .bool false] := by unfold EncV; rw [h]; rfl
theorem enc_yes {L t : List UInt8} {k : Nat} (h : encN (L.drop 1) = k) (hk : 1 ≤ k) (ht : plainL ((L.drop 1).take (k - 1)) = t) : EncV L = .tuple #[.string ⟨t.toArray⟩, .int .i64 ((k : Int) + 1), .bool true] := by
  unfold EncV
  rw [h, ht, decide_eq_true (by omega), up_pos 1 (by omega)]
  rfl
set_option maxRecDepth 100000 in
set_option maxHeartbeats 1000000 in
theorem enclosed_any (s : ByteArray) (w : World) (hs : s.size ≤ 100000) (h1 : 1 ≤ s.size) (hO : Lis w) :
    Calls Tryd.prog 28 #[.string s] w fun e w' => e = .returned (EncV s.data.toList) ∧ Keeps w w' := by
  have hl := Lib.hid (bytes_len s)
  have HO := Lib.hid hO
  have PL := Lib.hid (fun t W a b => plain_any t W a b)
  have WD := Lib.hid (fun k W => width_any9 (s.extract k s.size) W)
  have NO := Lib.hid (@enc_no s.data.toList)
  have YES := Lib.hid (fun t k a b c => @enc_yes s.data.toList t k a b c)
  clear hO
  go_enter Tryd.func28, Tryd.ntmps28
  go_wp2_with fail
  go_loop [5] (fun i => ∃ k : Nat, 1 ≤ k ∧ k ≤ s.size ∧ i = .int .i64 k ∧ Hid (upN 1 (encN (s.data.toList.drop 1)) = upN k (encN (s.data.toList.drop k)))) (fun i => s.size - (RowKit.intOf i).toNat)
  case atStart => exact ⟨1, Nat.le_refl _, h1, rfl, Lib.hid rfl⟩
  case round =>
    obtain ⟨k, hk1, hk, rfl, HC⟩ := hrel
    by_cases h : k < s.size
    · have hb := s[k].toNat_lt
      have HD := Lib.hid (drop_at s k h)
      by_cases c1 : s[k].toNat = 10
      · have q1 := beqT (show (s[k].toNat : Int) = 10 by omega)
        have HN := Lib.hid (NO.out (up_eq0 (HC.out.trans (by rw [HD.out, enc_none _ _ (.inl c1)]; rfl))))
        clear HC c1 HD NO YES
        go_wp2_with fail
        go_ret3
        exact ⟨congrArg Ending.returned HN.out.symm, Keeps.refl _⟩
      · have q1 := beqF (show ¬ (s[k].toNat : Int) = 10 by omega)
        by_cases c2 : s[k].toNat = 60
        · have q2 := beqT (show (s[k].toNat : Int) = 60 by omega)
          have HN := Lib.hid (NO.out (up_eq0 (HC.out.trans (by rw [HD.out, enc_none _ _ (.inr c2)]; rfl))))
          clear HC c1 c2 HD NO YES
          go_wp2_with fail
          go_ret3
          exact ⟨congrArg Ending.returned HN.out.symm, Keeps.refl _⟩
        · have q2 := beqF (show ¬ (s[k].toNat : Int) = 60 by omega)
          by_cases c3 : s[k].toNat = 62
          · have q3 := beqT (show (s[k].toNat : Int) = 62 by omega)
            have P1 := Lib.hid (PL.out (s.extract 1 k) w (by rw [ByteArray.size_extract]; omega) HO.out)
            rw [cut_from1] at P1
            obtain ⟨t, ht⟩ : ∃ t, plainL ((s.data.toList.drop 1).take (k - 1)) = t := ⟨_, rfl⟩
            have HN := Lib.hid (YES.out t k (by
              have := up_is (HC.out.trans (by rw [HD.out, enc_last _ _ c3, up_pos k (by omega)] : _ = 1 + k)) (by omega)
              omega) hk1 ht)
            rw [ht] at P1
            clear HC c1 c2 c3 HD NO YES ht
            go_wp2_with fail
            refine P1.out.mono ?_
            rintro e w1 ⟨rfl, k1⟩
            go_wp2_with fail
            go_ret3
            exact ⟨congrArg Ending.returned HN.out.symm, k1⟩
          · have q3 := beqF (show ¬ (s[k].toNat : Int) = 62 by omega)
            have W1 := Lib.hid (WD.out k)
            rw [Lib.extract_to_end] at W1
            have hw := wid_pos (s.data.toList.drop k)
            have hw2 := wid_le (l := s.data.toList.drop k) (by rw [HD.out]; simp)
            rw [List.length_drop, hl.out] at hw2
            have HN : Hid (upN 1 (encN (s.data.toList.drop 1)) = upN (k + widN (s.data.toList.drop k)) (encN (s.data.toList.drop (k + widN (s.data.toList.drop k))))) := Lib.hid (by
              rw [HC.out, ← up_up, ← drop_wid]
              refine congrArg (upN k) ?_
              rw [HD.out]
              exact enc_go _ _ (by omega) c3)
            generalize widN (s.data.toList.drop k) = n at *
            clear HC c1 c2 c3 HD NO YES
            go_wp2_with fail
            refine (W1.out _).mono ?_
            rintro e w1 ⟨rfl, rfl⟩
            go_wp2_with fail
            go_round
            case rel => exact ⟨k + n, by omega, by omega, by go_num, HN⟩
            case measure => simp [RowKit.intOf]; omega
    · have hd : s.data.toList.drop k = [] := List.drop_eq_nil_of_le (by rw [bytes_len]; omega)
      have HN := Lib.hid (NO.out (up_eq0 (HC.out.trans (by rw [hd]; rfl))))
      clear HC hd NO YES
      go_wp2_with fail
      go_ret3
      exact ⟨congrArg Ending.returned HN.out.symm, Keeps.refl _⟩

/-- What bare tells. -/
def BareV (L : List UInt8) : Value := .tuple #[.string ⟨(plainL (L.take (barN 0 L - 1))).toArray⟩, .int .i64 (barN 0 L - 1 : Nat), .bool (decide (barN 0 L ≠ 0))]
theorem bare_no {L : List UInt8} (h : barN 0 L = 0) : BareV L = .tuple #[.string ⟨#[]⟩, .int .i64 0, .bool false] := by unfold BareV; rw [h]; rfl
theorem bare_yes {L : List UInt8} {k : Nat} (h : barN 0 L = k + 1) : BareV L = .tuple #[.string ⟨(plainL (L.take k)).toArray⟩, .int .i64 (k : Nat), .bool true] := by unfold BareV; rw [h, decide_eq_true (by omega)]; rfl
theorem bar_end0 {L r : List UInt8} {k : Nat} (h : barN 0 L = upN k (barN 0 r)) (e : barN 0 r = 1) : barN 0 L = k + 1 := by rw [h, e, up_pos k (by omega)]; omega
theorem bar_endN {L r : List UInt8} {k o : Nat} (h : barN 0 L = upN k (barN o r)) (e : barN o r = 0) : barN 0 L = 0 := by rw [h, e]; rfl
set_option maxRecDepth 100000 in
set_option maxHeartbeats 2000000 in
theorem bare_any (s : ByteArray) (w : World) (hs : s.size ≤ 100000) (hO : Lis w) :
    Calls Tryd.prog 29 #[.string s] w fun e w' => e = .returned (BareV s.data.toList) ∧ Keeps w w' := by
  have hl := Lib.hid (bytes_len s)
  have HO := Lib.hid hO
  have PL := Lib.hid (fun t W a b => plain_any t W a b)
  have WD := Lib.hid (fun k W => width_any9 (s.extract k s.size) W)
  have SD := Lib.hid (fun b W => stands_any b W)
  clear hO
  go_enter Tryd.func29, Tryd.ntmps29
  go_wp2_with fail
  go_loop [5, 6] (fun i v => ∃ k o : Nat, k ≤ s.size ∧ o ≤ 32 ∧ i = .int .i64 k ∧ v = .int .i64 o ∧ Hid (barN 0 s.data.toList = upN k (barN o (s.data.toList.drop k)))) (fun i _ => s.size - (RowKit.intOf i).toNat)
  case atStart => exact ⟨0, 0, Nat.zero_le _, by omega, rfl, rfl, Lib.hid (by rw [up_zero, List.drop_zero])⟩
  case round =>
    obtain ⟨k, o, hk, ho, rfl, rfl, HC⟩ := hrel
    have P1 := Lib.hid (PL.out (s.extract 0 k) w (by rw [ByteArray.size_extract]; omega) HO.out)
    rw [cut_head] at P1
    have NO := Lib.hid (@bare_no s.data.toList)
    have YES := Lib.hid (@bare_yes s.data.toList k)
    by_cases h : k < s.size
    · have hb := s[k].toNat_lt
      have HD := Lib.hid (drop_at s k h)
      have S1 := Lib.hid (SD.out s[k])
      cases cs : stdB s[k] with
      | false =>
        rw [cs] at S1
        by_cases c0 : o = 0
        · subst c0
          have HN := Lib.hid (YES.out (bar_end0 HC.out (by rw [HD.out, bar_stop 0 _ _ cs]; rfl)))
          clear HC HD NO YES cs
          go_wp2_with fail
          refine (S1.out _).mono ?_
          rintro e w1 ⟨rfl, rfl⟩
          go_wp2_with fail
          refine P1.out.mono ?_
          rintro e w1 ⟨rfl, k1⟩
          go_wp2_with fail
          go_ret3
          exact ⟨congrArg Ending.returned HN.out.symm, k1⟩
        · have HN := Lib.hid (NO.out (bar_endN HC.out (by rw [HD.out, bar_stop o _ _ cs, if_neg c0])))
          clear HC HD NO YES cs
          have hop : 0 < o := by omega
          go_wp2_with fail
          refine (S1.out _).mono ?_
          rintro e w1 ⟨rfl, rfl⟩
          go_wp2_with fail
          go_ret3
          exact ⟨congrArg Ending.returned HN.out.symm, Keeps.refl _⟩
      | true =>
        rw [cs] at S1
        have W1 := Lib.hid (WD.out k)
        rw [Lib.extract_to_end] at W1
        by_cases c1 : s[k].toNat = 40
        · have q1 := beqT (show (s[k].toNat : Int) = 40 by omega)
          have q2 := beqF (show ¬ (s[k].toNat : Int) = 41 by omega)
          by_cases c2 : o < 32
          · have E : widN (s.data.toList.drop k) = 1 := by rw [HD.out]; exact wid_paren _ _ (.inr c1)
            rw [E] at W1
            have HN : Hid (barN 0 s.data.toList = upN (k + 1) (barN (o + 1) (s.data.toList.drop (k + 1)))) := Lib.hid (by rw [HC.out, HD.out, bar_open o _ _ cs c1 c2, up_up])
            clear HC HD NO YES E cs c1
            go_wp2_with fail
            refine (S1.out _).mono ?_
            rintro e w1 ⟨rfl, rfl⟩
            go_wp2_with fail
            refine (W1.out _).mono ?_
            rintro e w1 ⟨rfl, rfl⟩
            go_wp2_with fail
            go_round
            case rel => exact ⟨k + 1, o + 1, by omega, by omega, by go_num, by go_num, HN⟩
            case measure => simp [RowKit.intOf]; omega
          · have HN := Lib.hid (NO.out (bar_endN HC.out (by rw [HD.out]; exact bar_many o _ _ cs c1 (by omega))))
            clear HC HD NO YES cs c1
            go_wp2_with fail
            refine (S1.out _).mono ?_
            rintro e w1 ⟨rfl, rfl⟩
            go_wp2_with fail
            go_ret3
            exact ⟨congrArg Ending.returned HN.out.symm, Keeps.refl _⟩
        · have q1 := beqF (show ¬ (s[k].toNat : Int) = 40 by omega)
          by_cases c2 : s[k].toNat = 41
          · have q2 := beqT (show (s[k].toNat : Int) = 41 by omega)
            cases o with
            | zero =>
              have HN := Lib.hid (YES.out (bar_end0 HC.out (by rw [HD.out]; exact bar_shut0 _ _ cs c2)))
              clear HC HD NO YES cs c1 c2
              go_wp2_with fail
              refine (S1.out _).mono ?_
              rintro e w1 ⟨rfl, rfl⟩
              go_wp2_with fail
              refine P1.out.mono ?_
              rintro e w1 ⟨rfl, k1⟩
              go_wp2_with fail
              go_ret3
              exact ⟨congrArg Ending.returned HN.out.symm, k1⟩
            | succ o =>
              have E : widN (s.data.toList.drop k) = 1 := by rw [HD.out]; exact wid_paren _ _ (.inl c2)
              rw [E] at W1
              have HN : Hid (barN 0 s.data.toList = upN (k + 1) (barN o (s.data.toList.drop (k + 1)))) := Lib.hid (by rw [HC.out, HD.out, bar_shut o _ _ cs c2, up_up])
              clear HC HD NO YES E cs c1 c2
              go_wp2_with fail
              refine (S1.out _).mono ?_
              rintro e w1 ⟨rfl, rfl⟩
              go_wp2_with fail
              refine (W1.out _).mono ?_
              rintro e w1 ⟨rfl, rfl⟩
              go_wp2_with fail
              go_round
              case rel => exact ⟨k + 1, o, by omega, by omega, by go_num, by go_num, HN⟩
              case measure => simp [RowKit.intOf]; omega
          · have q2 := beqF (show ¬ (s[k].toNat : Int) = 41 by omega)
            have hw := wid_pos (s.data.toList.drop k)
            have hw2 := wid_le (l := s.data.toList.drop k) (by rw [HD.out]; simp)
            rw [List.length_drop, hl.out] at hw2
            have HN : Hid (barN 0 s.data.toList = upN (k + widN (s.data.toList.drop k)) (barN o (s.data.toList.drop (k + widN (s.data.toList.drop k))))) := Lib.hid (by
              rw [HC.out, ← up_up, ← drop_wid]
              refine congrArg (upN k) ?_
              rw [HD.out]
              exact bar_go o _ _ cs c2 c1)
            generalize widN (s.data.toList.drop k) = n at *
            clear HC HD NO YES cs c1 c2
            go_wp2_with fail
            refine (S1.out _).mono ?_
            rintro e w1 ⟨rfl, rfl⟩
            go_wp2_with fail
            refine (W1.out _).mono ?_
            rintro e w1 ⟨rfl, rfl⟩
            go_wp2_with fail
            go_round
            case rel => exact ⟨k + n, o, by omega, by omega, by go_num, by go_num, HN⟩
            case measure => simp [RowKit.intOf]; omega
    · have hd : s.data.toList.drop k = [] := List.drop_eq_nil_of_le (by rw [bytes_len]; omega)
      by_cases c0 : o = 0
      · subst c0
        have HN := Lib.hid (YES.out (bar_end0 HC.out (by rw [hd]; rfl)))
        clear HC NO YES hd
        go_wp2_with fail
        refine P1.out.mono ?_
        rintro e w1 ⟨rfl, k1⟩
        go_wp2_with fail
        go_ret3
        exact ⟨congrArg Ending.returned HN.out.symm, k1⟩
      · have HN := Lib.hid (NO.out (bar_endN HC.out (by rw [hd, bar_nil, if_neg c0])))
        clear HC NO YES hd
        have hop : 0 < o := by omega
        go_wp2_with fail
        go_ret3
        exact ⟨congrArg Ending.returned HN.out.symm, Keeps.refl _⟩
/-- What Dest tells. -/
def DestV (L : List UInt8) : Value := .tuple #[.string ⟨(dstT L).toArray⟩, .int .i64 (dstN L : Nat), .bool (dstB L)]
theorem dest_enc {L : List UInt8} (h : hasPrefix L [60] = true) : DestV L = EncV L := by unfold DestV EncV dstT dstN dstB; rw [if_pos h, if_pos h, if_pos h]
theorem dest_bare {L : List UInt8} (h : hasPrefix L [60] = false) : DestV L = BareV L := by
  unfold DestV BareV dstT dstN dstB
  have h2 : ¬ hasPrefix L [60] = true := by rw [h]; decide
  rw [if_neg h2, if_neg h2, if_neg h2]
set_option maxRecDepth 100000 in
set_option maxHeartbeats 400000 in
theorem dest_in (s : ByteArray) (w : World) (hs : s.size ≤ 100000) (hO : Lis w) :
    Calls Tryd.prog 19 #[.string s] w fun e w' => e = .returned (DestV s.data.toList) ∧ Keeps w w' := by
  have P1 := Lib.hid (fun W => Tryd.strings_HasPrefix s ⟨#[60]⟩ W)
  rw [show (⟨#[60]⟩ : ByteArray).data.toList = [60] from rfl] at P1
  cases h : hasPrefix s.data.toList [60] with
  | true =>
    have hz : 1 ≤ s.size := pre_size h
    have EN := Lib.hid (enclosed_any s w hs hz hO)
    have HV := Lib.hid (dest_enc h)
    obtain ⟨a, b, c, hV⟩ : ∃ (a : ByteArray) (b : Nat) (c : Bool), EncV s.data.toList = .tuple #[.string a, .int .i64 b, .bool c] := ⟨_, _, _, rfl⟩
    rw [hV] at EN HV
    rw [h] at P1
    clear h hO hz hV
    go_enter Tryd.func19, Tryd.ntmps19
    go_wp2_with fail
    refine (P1.out _).mono ?_
    rintro e w1 ⟨rfl, rfl⟩
    go_wp2_with fail
    refine EN.out.mono ?_
    rintro e w1 ⟨rfl, k1⟩
    go_wp2_with fail
    go_ret3
    exact ⟨congrArg Ending.returned HV.out.symm, k1⟩
  | false =>
    have BR := Lib.hid (bare_any s w hs hO)
    have HV := Lib.hid (dest_bare h)
    obtain ⟨a, b, c, hV⟩ : ∃ (a : ByteArray) (b : Nat) (c : Bool), BareV s.data.toList = .tuple #[.string a, .int .i64 b, .bool c] := ⟨_, _, _, rfl⟩
    rw [hV] at BR HV
    rw [h] at P1
    clear h hO hV
    go_enter Tryd.func19, Tryd.ntmps19
    go_wp2_with fail
    refine (P1.out _).mono ?_
    rintro e w1 ⟨rfl, rfl⟩
    go_wp2_with fail
    refine BR.out.mono ?_
    rintro e w1 ⟨rfl, k1⟩
    go_wp2_with fail
    go_ret3
    exact ⟨congrArg Ending.returned HV.out.symm, k1⟩
theorem dest_any (s : ByteArray) (w : World) (hs : s.size ≤ 100000) (hO : Lis w) :
    Calls Tryd.prog 19 #[.string s] w fun e w' => e = .returned (.tuple #[.string ⟨(dstT s.data.toList).toArray⟩, .int .i64 (dstN s.data.toList : Nat), .bool (dstB s.data.toList)]) ∧ Keeps w w' := dest_in s w hs hO
end Go.Proofs.YtonajkcdkihchaaDoor
