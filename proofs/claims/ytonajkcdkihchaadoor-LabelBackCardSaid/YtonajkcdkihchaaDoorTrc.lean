/-
  Contracts of lastSign, titleEnd, Title, spacedTitle, Inline, of the package, for texts of at most 100,000 bytes.
-/
import Derived.Test.YtonajkcdkihchaaDoorTrb
namespace Go.Proofs.YtonajkcdkihchaaDoor
open Go.RowKit Go.Lib

theorem first_head (s : ByteArray) (h : 0 < s.size) : s.data.toList.headD 0 = s[0] := by
  have := drop_at s 0 h
  rw [List.drop_zero] at this
  rw [this]; rfl
theorem byte_is {b : UInt8} {n : Nat} (hn : n < 256) : (b = UInt8.ofNat n) = (b.toNat = n) := by
  rw [← UInt8.toNat_inj, UInt8.toNat_ofNat_of_lt' hn]
theorem endC_at (s : ByteArray) (h : 0 < s.size) : endC s.data.toList = if s[0].toNat = 34 ∨ s[0].toNat = 39 then s[0].toNat else if s[0].toNat = 40 then 41 else 0 := by
  have e1 : (s[0] = (34 : UInt8)) = (s[0].toNat = 34) := byte_is (n := 34) (by omega)
  have e2 : (s[0] = (39 : UInt8)) = (s[0].toNat = 39) := byte_is (n := 39) (by omega)
  have e3 : (s[0] = (40 : UInt8)) = (s[0].toNat = 40) := byte_is (n := 40) (by omega)
  unfold endC
  simp only [first_head s h, e1, e2, e3]
set_option maxRecDepth 100000 in
theorem lastSign_any (s : ByteArray) (w : World) :
    Calls Tryd.prog 50 #[.string s] w fun e w' => e = .returned (.int .u8 (endC s.data.toList : Nat)) ∧ w = w' := by
  by_cases h : 0 < s.size
  · have hi := tl_empty h
    have hn := tl_ne h
    have HE := Lib.hid (endC_at s h)
    have hb := s[0].toNat_lt
    generalize endC s.data.toList = z at *
    by_cases c1 : s[0].toNat = 34
    · have q1 := beqT (show (s[0].toNat : Int) = 34 by omega)
      have HZ : Hid (z = s[0].toNat) := Lib.hid (by rw [HE.out, if_pos (.inl c1)])
      clear c1 HE
      go_enter Tryd.func50, Tryd.ntmps50
      go_wp2_with fail
      go_ret
      exact ⟨ret_int (by rw [HZ.out]), rfl⟩
    · have q1 := beqF (show ¬ (s[0].toNat : Int) = 34 by omega)
      by_cases c2 : s[0].toNat = 39
      · have q2 := beqT (show (s[0].toNat : Int) = 39 by omega)
        have HZ : Hid (z = s[0].toNat) := Lib.hid (by rw [HE.out, if_pos (.inr c2)])
        clear c1 c2 HE
        go_enter Tryd.func50, Tryd.ntmps50
        go_wp2_with fail
        go_ret
        exact ⟨ret_int (by rw [HZ.out]), rfl⟩
      · have q2 := beqF (show ¬ (s[0].toNat : Int) = 39 by omega)
        by_cases c3 : s[0].toNat = 40
        · have q3 := beqT (show (s[0].toNat : Int) = 40 by omega)
          have HZ : Hid (z = 41) := Lib.hid (by rw [HE.out, if_neg (by omega), if_pos c3])
          clear c1 c2 c3 HE
          go_enter Tryd.func50, Tryd.ntmps50
          go_wp2_with fail
          go_ret
          exact ⟨ret_int (by rw [HZ.out]; rfl), rfl⟩
        · have q3 := beqF (show ¬ (s[0].toNat : Int) = 40 by omega)
          have HZ : Hid (z = 0) := Lib.hid (by rw [HE.out, if_neg (by omega), if_neg c3])
          clear c1 c2 c3 HE
          go_enter Tryd.func50, Tryd.ntmps50
          go_wp2_with fail
          go_ret
          exact ⟨ret_int (by rw [HZ.out]; rfl), rfl⟩
  · have hz : s = ⟨#[]⟩ := bytes_eq (by rw [List.eq_nil_of_length_eq_zero (show s.data.toList.length = 0 by rw [bytes_len]; omega)])
    subst hz
    clear h
    go_enter Tryd.func50, Tryd.ntmps50
    go_wp2_with fail
    go_ret
    exact ⟨rfl, rfl⟩

theorem eqT8 {a b : UInt8} (h : a = b) : ((a.toNat : Int) == (b.toNat : Int)) = true ∧ (a.toNat == b.toNat) = true := by subst h; simp
theorem eqF8 {a b : UInt8} (h : a ≠ b) : ((a.toNat : Int) == (b.toNat : Int)) = false ∧ (a.toNat == b.toNat) = false := by
  have : a.toNat ≠ b.toNat := fun x => h (UInt8.toNat_inj.1 x)
  exact ⟨beq_eq_false_iff_ne.2 (by omega), beq_eq_false_iff_ne.2 this⟩
set_option maxRecDepth 100000 in
set_option maxHeartbeats 2000000 in
theorem titleEnd_in (s : ByteArray) (E : UInt8) (w : World) (hs : s.size ≤ 100000) (h0 : 0 < s.size) (hE : endC s.data.toList = E.toNat) (hz : 0 < E.toNat) (hl1 : E.toNat = 34 ∨ E.toNat = 39 ∨ E.toNat = 41) :
    Calls Tryd.prog 47 #[.string s] w fun e w' => e = .returned (.int .i64 (upN 1 (tlsN s[0] E false (s.data.toList.drop 1)) : Nat)) ∧ w = w' := by
  have hl := Lib.hid (bytes_len s)
  have LS := Lib.hid (fun W => lastSign_any s W)
  rw [hE] at LS
  have HL := Lib.hid hl1
  have WD := Lib.hid (fun k W => width_any9 (s.extract k s.size) W)
  have he := E.toNat_lt
  have z0 : ((E.toNat : Int) == 0) = false := beqF (by omega)
  have z1 : ((E.toNat : Int) != 0) = true := by rw [bne, z0]; rfl
  obtain ⟨X, hX⟩ : ∃ X, tlsN s[0] E false (s.data.toList.drop 1) = X := ⟨_, rfl⟩
  have HX := Lib.hid hX
  rw [hX]
  clear hE hl1 hX
  go_enter Tryd.func47, Tryd.ntmps47
  go_wp2_with fail
  refine (LS.out _).mono ?_
  rintro e w1 ⟨rfl, rfl⟩
  go_wp2_with fail
  go_loop [4, 5] (fun v i => ∃ (k : Nat) (bl : Bool), 1 ≤ k ∧ k ≤ s.size ∧ v = .bool bl ∧ i = .int .i64 k ∧ Hid (upN 1 X = upN k (tlsN s[0] E bl (s.data.toList.drop k)))) (fun _ i => s.size - (RowKit.intOf i).toNat)
  case atStart => exact ⟨1, false, Nat.le_refl _, h0, rfl, rfl, Lib.hid (by rw [HX.out])⟩
  case round =>
    obtain ⟨k, bl, hk1, hk, rfl, rfl, HC⟩ := hrel
    by_cases h : k < s.size
    · have hb := s[k].toNat_lt
      have HD := Lib.hid (drop_at s k h)
      have W1 := Lib.hid (WD.out k)
      rw [Lib.extract_to_end] at W1
      by_cases c1 : s[k] = E
      · obtain ⟨q1, q2⟩ := eqT8 c1
        have HN : Hid (upN 1 X = k + 1) := Lib.hid (by rw [HC.out, HD.out, tls_last bl _ c1, up_pos k (by omega)]; omega)
        clear HC c1 HD
        go_wp2_with fail
        go_ret
        exact ⟨ret_int (by rw [HN.out]; rfl), rfl⟩
      · obtain ⟨q1, q2⟩ := eqF8 c1
        by_cases c2 : s[k] = s[0]
        · obtain ⟨q3, q4⟩ := eqT8 c2
          have HN : Hid (upN 1 X = 0) := Lib.hid (by rw [HC.out, HD.out, tls_none bl _ c1 c2]; rfl)
          clear HC c1 c2 HD
          go_wp2_with fail
          go_ret
          exact ⟨ret_int (by rw [HN.out]; rfl), rfl⟩
        · obtain ⟨q3, q4⟩ := eqF8 c2
          by_cases c3 : s[k].toNat = 10
          · have q5 := beqT (show (s[k].toNat : Int) = 10 by omega)
            have E1 : widN (s.data.toList.drop k) = 1 := by rw [HD.out]; exact wid_low _ _ (.inl c3)
            rw [E1] at W1
            cases bl with
            | true =>
              have HN : Hid (upN 1 X = 0) := Lib.hid (by rw [HC.out, HD.out, tls_blank _ c1 c2 c3]; rfl)
              clear HC c1 c2 c3 HD
              go_wp2_with fail
              go_ret
              exact ⟨ret_int (by rw [HN.out]; rfl), rfl⟩
            | false =>
              have HN : Hid (upN 1 X = upN (k + 1) (tlsN s[0] E true (s.data.toList.drop (k + 1)))) := Lib.hid (by rw [HC.out, HD.out, tls_line _ c1 c2 c3, up_up])
              clear HC c1 c2 c3 HD
              go_wp2_with fail
              refine (W1.out _).mono ?_
              rintro e w1 ⟨rfl, rfl⟩
              go_wp2_with fail
              go_round
              case rel => exact ⟨k + 1, true, by omega, by omega, rfl, by go_num, HN⟩
              case measure => simp [RowKit.intOf]; omega
          · have q5 := beqF (show ¬ (s[k].toNat : Int) = 10 by omega)
            by_cases c4 : s[k].toNat = 32 ∨ s[k].toNat = 9
            · have E1 : widN (s.data.toList.drop k) = 1 := by rw [HD.out]; exact wid_low _ _ (.inr c4)
              rw [E1] at W1
              have HN : Hid (upN 1 X = upN (k + 1) (tlsN s[0] E bl (s.data.toList.drop (k + 1)))) := Lib.hid (by rw [HC.out, HD.out, tls_space bl _ c1 c2 c4, up_up])
              rcases c4 with c4 | c4
              · have q6 := beqT (show (s[k].toNat : Int) = 32 by omega)
                clear HC c1 c2 c3 c4 HD E1
                go_wp2_with fail
                refine (W1.out _).mono ?_
                rintro e w1 ⟨rfl, rfl⟩
                go_wp2_with fail
                go_round
                case rel => exact ⟨k + 1, bl, by omega, by omega, rfl, by go_num, HN⟩
                case measure => simp [RowKit.intOf]; omega
              · have q6 := beqF (show ¬ (s[k].toNat : Int) = 32 by omega)
                have q7 := beqT (show (s[k].toNat : Int) = 9 by omega)
                clear HC c1 c2 c3 c4 HD E1
                go_wp2_with fail
                refine (W1.out _).mono ?_
                rintro e w1 ⟨rfl, rfl⟩
                go_wp2_with fail
                go_round
                case rel => exact ⟨k + 1, bl, by omega, by omega, rfl, by go_num, HN⟩
                case measure => simp [RowKit.intOf]; omega
            · have q6 := beqF (show ¬ (s[k].toNat : Int) = 32 by omega)
              have q7 := beqF (show ¬ (s[k].toNat : Int) = 9 by omega)
              have hw := wid_pos (s.data.toList.drop k)
              have hw2 := wid_le (l := s.data.toList.drop k) (by rw [HD.out]; simp)
              rw [List.length_drop, hl.out] at hw2
              have HN : Hid (upN 1 X = upN (k + widN (s.data.toList.drop k)) (tlsN s[0] E false (s.data.toList.drop (k + widN (s.data.toList.drop k))))) := Lib.hid (by
                rw [HC.out, ← up_up, ← drop_wid]
                refine congrArg (upN k) ?_
                rw [HD.out]
                exact tls_go bl _ c1 c2 c3 c4)
              generalize widN (s.data.toList.drop k) = n at *
              clear HC c1 c2 c3 c4 HD
              go_wp2_with fail
              refine (W1.out _).mono ?_
              rintro e w1 ⟨rfl, rfl⟩
              go_wp2_with fail
              go_round
              case rel => exact ⟨k + n, false, by omega, by omega, rfl, by go_num, HN⟩
              case measure => simp [RowKit.intOf]; omega
    · have hd : s.data.toList.drop k = [] := List.drop_eq_nil_of_le (by rw [bytes_len]; omega)
      have HN : Hid (upN 1 X = 0) := Lib.hid (HC.out.trans (by rw [hd]; rfl))
      clear HC hd
      go_wp2_with fail
      go_ret
      exact ⟨ret_int (by rw [HN.out]; rfl), rfl⟩
set_option maxRecDepth 100000 in
set_option maxHeartbeats 400000 in
theorem titleEnd_any (s : ByteArray) (w : World) (hs : s.size ≤ 100000) :
    Calls Tryd.prog 47 #[.string s] w fun e w' => e = .returned (.int .i64 (titN s.data.toList : Nat)) ∧ w = w' := by
  by_cases hz : endC s.data.toList = 0
  · have LS := Lib.hid (fun W => lastSign_any s W)
    rw [hz] at LS
    have HN : Hid (titN s.data.toList = 0) := Lib.hid (by unfold titN; rw [if_pos hz])
    rw [HN.out]
    clear hz HN
    go_enter Tryd.func47, Tryd.ntmps47
    go_wp2_with fail
    refine (LS.out _).mono ?_
    rintro e w1 ⟨rfl, rfl⟩
    go_wp2_with fail
    go_loop [4, 5] (fun v i => v = .bool false ∧ i = .int .i64 1) (fun _ _ => 0)
    case atStart => exact ⟨rfl, rfl⟩
    case round =>
      obtain ⟨rfl, rfl⟩ := hrel
      by_cases h : 1 < s.size
      all_goals
        go_wp2_with fail
        go_ret
        exact ⟨rfl, rfl⟩
  · have h0 : 0 < s.size := by
      refine Nat.pos_of_ne_zero fun e => hz ?_
      rw [List.eq_nil_of_length_eq_zero (show s.data.toList.length = 0 by rw [bytes_len]; exact e)]
      rfl
    have hb := s[0].toNat_lt
    have HE := endC_at s h0
    have hlt : endC s.data.toList < 256 := by rw [HE]; split <;> (try split) <;> omega
    have hto : (UInt8.ofNat (endC s.data.toList)).toNat = endC s.data.toList := UInt8.toNat_ofNat_of_lt' hlt
    have := titleEnd_in s (UInt8.ofNat (endC s.data.toList)) w hs h0 hto.symm (by rw [hto]; omega) (by rw [hto]; rw [HE] at hz ⊢; split <;> (try split) <;> (try simp_all) <;> omega)
    unfold titN
    rw [if_neg hz, first_head s h0]
    exact this
theorem tit_out {a b : List UInt8} {n m : Nat} (h : a = b ∧ n = m) : Ending.returned (.tuple #[.string ⟨a.toArray⟩, .int .i64 (n : Nat)]) = .returned (.tuple #[.string ⟨b.toArray⟩, .int .i64 (m : Nat)]) := by rw [h.1, h.2]
set_option maxRecDepth 100000 in
set_option maxHeartbeats 400000 in
theorem title_any (s : ByteArray) (w : World) (hs : s.size ≤ 100000) (hO : Lis w) :
    Calls Tryd.prog 40 #[.string s] w fun e w' => e = .returned (.tuple #[.string ⟨(titT s.data.toList).toArray⟩, .int .i64 (titN s.data.toList : Nat)]) ∧ Keeps w w' := by
  have TE := Lib.hid (fun W => titleEnd_any s W hs)
  obtain ⟨t1, t2⟩ := tit_le s.data.toList
  rw [bytes_len] at t1
  have PL := Lib.hid (plain_any (s.extract 1 (titN s.data.toList - 1)) w (by rw [ByteArray.size_extract]; omega) hO)
  rw [cut_from1, Nat.sub_sub, show plainL ((s.data.toList.drop 1).take (titN s.data.toList - (1 + 1))) = titT s.data.toList from rfl] at PL
  have h0 : titN s.data.toList = 0 → titT s.data.toList = [] := fun h => by unfold titT; rw [h]; rfl
  generalize titT s.data.toList = t at *
  generalize titN s.data.toList = n at *
  by_cases c : n = 0
  · obtain rfl := h0 c
    subst c
    clear hO PL t2 h0
    go_enter Tryd.func40, Tryd.ntmps40
    go_wp2_with fail
    refine (TE.out _).mono ?_
    rintro e w1 ⟨rfl, rfl⟩
    go_wp2_with fail
    go_ret2
    exact ⟨rfl, Keeps.refl _⟩
  · obtain ⟨m, rfl⟩ : ∃ m, n = m + 2 := ⟨n - 2, by omega⟩
    have t0 : (((m + 2 : Nat) : Int) == 0) = false := beqF (by omega)
    clear hO t2 c h0
    go_enter Tryd.func40, Tryd.ntmps40
    go_wp2_with fail
    refine (TE.out _).mono ?_
    rintro e w1 ⟨rfl, rfl⟩
    go_wp2_with fail
    refine PL.out.mono ?_
    rintro e w1 ⟨rfl, k1⟩
    go_wp2_with fail
    go_ret2
    exact ⟨rfl, k1⟩
end Go.Proofs.YtonajkcdkihchaaDoor
