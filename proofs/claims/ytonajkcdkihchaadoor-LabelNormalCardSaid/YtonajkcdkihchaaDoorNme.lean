/-
  Contracts of Sign, piece, Plain, of the package.
-/
import Derived.Test.YtonajkcdkihchaaDoorNmd
import Derived.Test.YtonajkcdkihchaaDoorBls
namespace Go.Proofs.YtonajkcdkihchaaDoor
open Go.RowKit Go.Lib

set_option maxRecDepth 100000 in
theorem sign_go (x : Int) (w : World) (h0 : 0 ≤ x) (h1 : x < 256) :
    Calls Tryd.prog 44 #[.int .u8 x] w fun e w' => e = .returned (.bool (decide ((33 ≤ x ∧ x ≤ 47) ∨ (58 ≤ x ∧ x ≤ 64) ∨ (91 ≤ x ∧ x ≤ 96) ∨ (123 ≤ x ∧ x ≤ 126)))) ∧ w = w' := by
  have hw : ((33 ≤ x ∧ x ≤ 47) ∨ (58 ≤ x ∧ x ≤ 64) ∨ (91 ≤ x ∧ x ≤ 96) ∨ (123 ≤ x ∧ x ≤ 126)) ∨ (x < 33 ∨ (47 < x ∧ x < 58) ∨ (64 < x ∧ x < 91) ∨ (96 < x ∧ x < 123) ∨ 126 < x) := by omega
  rcases hw with hw | hw
  · rw [decide_eq_true hw]
    rcases hw with ⟨a, b⟩ | ⟨a, b⟩ | ⟨a, b⟩ | ⟨a, b⟩
    all_goals
      go_enter Tryd.func44, Tryd.ntmps44
      go_wp2
      go_ret
      exact ⟨rfl, rfl⟩
  · rw [decide_eq_false (by omega)]
    rcases hw with a | ⟨a, b⟩ | ⟨a, b⟩ | ⟨a, b⟩ | a
    all_goals
      go_enter Tryd.func44, Tryd.ntmps44
      go_wp2
      go_ret
      exact ⟨rfl, rfl⟩
theorem signB_int (b : UInt8) : signB b = decide ((33 ≤ (b.toNat : Int) ∧ (b.toNat : Int) ≤ 47) ∨ (58 ≤ (b.toNat : Int) ∧ (b.toNat : Int) ≤ 64) ∨ (91 ≤ (b.toNat : Int) ∧ (b.toNat : Int) ≤ 96) ∨ (123 ≤ (b.toNat : Int) ∧ (b.toNat : Int) ≤ 126)) := by
  unfold signB
  rw [Bool.eq_iff_iff]
  simp only [Bool.or_eq_true, Bool.and_eq_true, decide_eq_true_eq]
  omega
theorem sign_any (b : UInt8) (w : World) :
    Calls Tryd.prog 44 #[.int .u8 (b.toNat : Nat)] w fun e w' => e = .returned (.bool (signB b)) ∧ w = w' := by
  have hb := b.toNat_lt
  rw [signB_int]
  exact sign_go _ w (by omega) (by omega)

theorem piece_one (s : ByteArray) (k : Nat) (h : k < s.size) : s.extract k (k + 1) = ⟨#[s[k]]⟩ := bytes_eq (by
  rw [Lib.extract_data, Nat.add_sub_cancel_left]
  have := drop_cons s.data.toList k (by rw [bytes_len]; exact h)
  rw [this]; rfl)
theorem one_second (s : ByteArray) (h : 1 < s.size) : s.extract 1 2 = ⟨[s[1]].toArray⟩ := bytes_eq (by
  rw [Lib.extract_data]
  have := drop_cons s.data.toList 1 (by rw [bytes_len]; exact h)
  rw [this]; rfl)
theorem getD_second (s : ByteArray) (h : 1 < s.size) : s.data.toList.getD 1 0 = s[1] := by
  have h2 : 1 < s.data.toList.length := by rw [bytes_len]; exact h
  rw [List.getD, List.getElem?_eq_getElem h2]; rfl
theorem pre_first (s : ByteArray) (h : 0 < s.size) (c : UInt8) : hasPrefix s.data.toList [c] = (c == s[0]) := by
  have e : s.data.toList = s[0] :: s.data.toList.drop 1 := by
    have := drop_cons s.data.toList 0 (by rw [bytes_len]; exact h)
    rw [List.drop_zero] at this
    exact this
  rw [e, pre1_cons]
theorem esc_no (s : ByteArray) (h : 0 < s.size) (hb : ¬ s[0].toNat = 92) : escB s.data.toList = false := by
  unfold escB
  rw [pre_first s h, show ((92 : UInt8) == s[0]) = false from beq_eq_false_iff_ne.2 (fun e => hb (by rw [← e]; rfl))]
  rfl
theorem esc_at (s : ByteArray) (h : 0 < s.size) (hb : s[0].toNat = 92) (h1 : 1 < s.size) : escB s.data.toList = signB s[1] := by
  unfold escB
  rw [pre_first s h, show ((92 : UInt8) == s[0]) = true from beq_iff_eq.2 (UInt8.toNat_inj.1 (by rw [hb]; rfl)), bytes_len, decide_eq_true h1, getD_second s h1]
  rfl
theorem esc_short (s : ByteArray) (h1 : ¬ 1 < s.size) : escB s.data.toList = false := by
  unfold escB
  rw [bytes_len, decide_eq_false h1]
  simp
theorem ref_not (s : ByteArray) (h : 0 < s.size) (hb : ¬ s[0].toNat = 38) : (refL s.data.toList).2 = 0 := by
  rw [refL_no (by rw [pre_first s h]; exact beq_eq_false_iff_ne.2 (fun e => hb (by rw [← e]; rfl)))]

set_option maxRecDepth 100000 in
theorem piece_any (s : ByteArray) (w : World) (hs : s.size ≤ maxLen) (h : 0 < s.size) (hO : Lis w) :
    Calls Tryd.prog 45 #[.string s] w fun e w' => e = .returned (.tuple #[.string ⟨(plT s.data.toList).toArray⟩, .int .i64 (plN s.data.toList)]) ∧ w = w' := by
  have SG := Lib.hid (fun b W => sign_any b W)
  have RF := Lib.hid (ref_any s w hs hO)
  unfold maxLen at hs
  clear hO
  have hb := s[0].toNat_lt
  have OW : Hid (escB s.data.toList = false → (refL s.data.toList).2 = 0 → (⟨(plT s.data.toList).toArray⟩ : ByteArray) = s.extract 0 1 ∧ plN s.data.toList = 1) := Lib.hid fun a b => by
    obtain ⟨h1, h2⟩ := pl_own a b
    exact ⟨by rw [h1, ext_take], h2⟩
  by_cases c0 : s[0].toNat = 92
  · have q0 : ((s[0].toNat : Int) == 92) = true := beq_iff_eq.2 (by omega)
    have hr : (refL s.data.toList).2 = 0 := ref_not s h (by omega)
    by_cases c1 : 1 < s.size
    · have e1 := esc_at s h c0 c1
      cases c2 : signB s[1] with
      | true =>
        rw [c2] at e1
        have E := Lib.hid (pl_esc e1)
        have S1 := Lib.hid (SG.out s[1])
        rw [c2] at S1
        have X := Lib.hid (one_second s c1)
        have G := Lib.hid (getD_second s c1)
        clear c2 e1 c0 hr
        go_enter Tryd.func45, Tryd.ntmps45
        go_wp2_with fail
        refine (S1.out _).mono ?_
        rintro e w1 ⟨rfl, rfl⟩
        go_wp2_with fail
        go_ret2
        exact ⟨by rw [E.out.1, E.out.2, G.out, ← X.out]; rfl, rfl⟩
      | false =>
        rw [c2] at e1
        have E := Lib.hid (OW.out e1 hr)
        have S1 := Lib.hid (SG.out s[1])
        rw [c2] at S1
        clear c2 e1 c0 hr
        go_enter Tryd.func45, Tryd.ntmps45
        go_wp2_with fail
        refine (S1.out _).mono ?_
        rintro e w1 ⟨rfl, rfl⟩
        go_wp2_with fail
        go_ret2
        exact ⟨by rw [E.out.1, E.out.2]; rfl, rfl⟩
    · have E := Lib.hid (OW.out (esc_short s c1) hr)
      clear c0 hr
      go_enter Tryd.func45, Tryd.ntmps45
      go_wp2_with fail
      go_ret2
      exact ⟨by rw [E.out.1, E.out.2]; rfl, rfl⟩
  · have e1 := esc_no s h c0
    have q0 : ((s[0].toNat : Int) == 92) = false := beq_eq_false_iff_ne.2 (by omega)
    by_cases c1 : s[0].toNat = 38
    · have q1 : ((s[0].toNat : Int) == 38) = true := beq_iff_eq.2 (by omega)
      have hRF := refL_facts s.data.toList
      by_cases c2 : (refL s.data.toList).2 = 0
      · have E := Lib.hid (OW.out e1 c2)
        rw [c2] at RF
        clear c0 c1 e1 c2 hRF
        go_enter Tryd.func45, Tryd.ntmps45
        go_wp2_with fail
        refine RF.out.mono ?_
        rintro e w1 ⟨rfl, rfl⟩
        go_wp2_with fail
        go_ret2
        exact ⟨by rw [E.out.1, E.out.2]; rfl, rfl⟩
      · have E := Lib.hid (pl_ref e1 c2)
        have hB : Hid (refB s.data.toList = encodeRune ((refL s.data.toList).1 : Nat)) := Lib.hid (by unfold refB; rw [if_neg c2])
        have hN : (refL s.data.toList).2 ≤ 10 := by
          rcases hRF with e | e
          · exact absurd (congrArg Prod.snd e) c2
          · exact e.2.1
        have hN0 : 0 < (refL s.data.toList).2 := by omega
        rw [hB.out] at RF
        rw [E.out.1, E.out.2]
        clear c0 c1 e1 c2 hRF OW hB E
        generalize refL s.data.toList = q at *
        obtain ⟨r, n⟩ := q
        dsimp only at *
        go_enter Tryd.func45, Tryd.ntmps45
        go_wp2_with fail
        refine RF.out.mono ?_
        rintro e w1 ⟨rfl, rfl⟩
        go_wp2_with fail
        go_ret2
        exact ⟨rfl, rfl⟩
    · have q1 : ((s[0].toNat : Int) == 38) = false := beq_eq_false_iff_ne.2 (by omega)
      have E := Lib.hid (OW.out e1 (ref_not s h c1))
      clear c0 c1 e1
      go_enter Tryd.func45, Tryd.ntmps45
      go_wp2_with fail
      go_ret2
      exact ⟨by rw [E.out.1, E.out.2]; rfl, rfl⟩
end Go.Proofs.YtonajkcdkihchaaDoor
