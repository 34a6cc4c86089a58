/-
  Texts of the proof, one behind the other: Rwb, Rwc.
-/
import Derived.Test.YtfgpephpkibbaaaGreatDoorQ14
import Derived.Test.YtfgpephpkibbaaaGreatDoorQ19
/-
  Contracts of upTo, name, closed, attributeName, value, assigned, attribute, attributes, of the package raw, for texts of at most 100,000 bytes.
-/
namespace Go.Proofs.YtfgpephpkibbaaaGreatDoor
open Go.RowKit Go.Lib

theorem bneT {x y : Int} (h : ¬ x = y) : (x != y) = true := bne_iff_ne.2 h
theorem bneF {x y : Int} (h : x = y) : (x != y) = false := by subst h; simp
theorem bytes_none {s : ByteArray} (h : s.size = 0) : s = ⟨#[]⟩ := bytes_eq (List.length_eq_zero_iff.1 (by rw [bytes_len]; exact h))
theorem fr_at (p : UInt8 → Bool) (s : ByteArray) (k : Nat) (h : k < s.size) : frP p (s.data.toList.drop k) = p s[k] := by rw [drop_at s k h]; rfl
theorem fr_first (p : UInt8 → Bool) (s : ByteArray) (h : 0 < s.size) : frP p s.data.toList = p s[0] := by
  have := fr_at p s 0 h
  rwa [List.drop_zero] at this
theorem pre_fr (c : UInt8) (n : Nat) (h : c.toNat = n) (l : List UInt8) : hasPrefix l [c] = frP (fun b => decide (b.toNat = n)) l := by
  cases l with
  | nil => rfl
  | cons b l =>
    show (c == b && List.isPrefixOf [] l) = decide (b.toNat = n)
    rw [show List.isPrefixOf [] l = true from by cases l <;> rfl, Bool.and_true, Bool.eq_iff_iff, beq_iff_eq, decide_eq_true_eq, ← h]
    exact ⟨fun e => by rw [e], fun e => (UInt8.toNat_inj.1 e).symm⟩
theorem ext_one (s : ByteArray) (h : 0 < s.size) : (s.extract 0 1).data.toList = [s[0]] := by
  rw [Lib.extract_data, List.drop_zero]
  have := drop_at s 0 h
  rw [List.drop_zero] at this
  rw [this]; rfl

set_option maxRecDepth 100000 in
set_option maxHeartbeats 400000 in
theorem upTo_any (s t : ByteArray) (k : Nat) (w : World) (hs : s.size ≤ 100000) (hk : k ≤ s.size) (ht : t.size ≤ 100000) (hm : Mxl w) :
    Calls Tryz.prog 214 #[.string s, .int .i64 (k : Nat), .string t] w fun e w' => e = .returned (.int .i64 (upA k t.data.toList s.data.toList : Nat)) ∧ w = w' := by
  obtain ⟨m, hm⟩ := hm
  have IX := Lib.hid ((Tryz.strings_Index (s.extract k s.size) t m w (by rw [ByteArray.size_extract]; omega) hm).mono (fun _ _ h => And.intro h.1 h.2.symm))
  rw [Lib.extract_to_end] at IX
  unfold upA
  by_cases c : index (s.data.toList.drop k) t.data.toList = -1
  · rw [c] at IX
    rw [if_pos c]
    clear c hm
    go_enter Tryz.func214, Tryz.ntmps214
    go_wp2_with fail
    refine IX.out.mono ?_
    rintro e w1 ⟨rfl, rfl⟩
    go_wp2_with fail
    go_ret
    exact ⟨rfl, rfl⟩
  · have hg := index_ge (s.data.toList.drop k) t.data.toList
    have hr := index_room (s.data.toList.drop k) t.data.toList (by omega)
    rw [List.length_drop, bytes_len, bytes_len] at hr
    rw [if_neg c, bytes_len]
    obtain ⟨i, hi⟩ : ∃ i : Nat, index (s.data.toList.drop k) t.data.toList = i := ⟨_, (Int.toNat_of_nonneg (by omega)).symm⟩
    rw [hi] at IX hr ⊢
    rw [Int.toNat_natCast]
    clear c hg hi hm
    go_enter Tryz.func214, Tryz.ntmps214
    go_wp2_with fail
    refine IX.out.mono ?_
    rintro e w1 ⟨rfl, rfl⟩
    go_wp2_with fail
    go_ret
    exact ⟨ret_int (by omega), rfl⟩

set_option maxRecDepth 100000 in
theorem wname_any (s : ByteArray) (w : World) (hs : s.size ≤ 100000) :
    Calls Tryz.prog 163 #[.string s] w fun e w' => e = .returned (.int .i64 (namN s.data.toList : Nat)) ∧ w = w' := by
  by_cases h0 : s.size = 0
  · obtain rfl := bytes_none h0
    go_enter Tryz.func163, Tryz.ntmps163
    go_wp2_with fail
    go_ret
    exact ⟨rfl, rfl⟩
  · have hp : 0 < s.size := by omega
    have u0 := tl_ne hp
    have u1 := tl_empty hp
    have LT := Lib.hid (fun W => rletter_any s[0] W)
    have ST := Lib.hid (fun W => stretch_rNam s W hs)
    have hb := s[0].toNat_lt
    unfold namN
    rw [fr_first _ s hp]
    generalize cntP rNam s.data.toList = n at *
    cases c : rLet s[0] with
    | true =>
      rw [c] at LT
      rw [if_pos rfl]
      clear c h0
      go_enter Tryz.func163, Tryz.ntmps163
      go_wp2_with fail
      refine (LT.out _).mono ?_
      rintro e w1 ⟨rfl, rfl⟩
      go_wp2_with fail
      refine (ST.out _).mono ?_
      rintro e w1 ⟨rfl, rfl⟩
      go_wp2_with fail
      go_ret
      exact ⟨rfl, rfl⟩
    | false =>
      rw [c] at LT
      rw [if_neg (by decide)]
      clear c h0
      go_enter Tryz.func163, Tryz.ntmps163
      go_wp2_with fail
      refine (LT.out _).mono ?_
      rintro e w1 ⟨rfl, rfl⟩
      go_wp2_with fail
      go_ret
      exact ⟨rfl, rfl⟩

set_option maxRecDepth 100000 in
theorem closed_any (s : ByteArray) (n : Nat) (w : World) (hs : s.size ≤ 100000) (hn : n ≤ s.size) :
    Calls Tryz.prog 164 #[.string s, .int .i64 (n : Nat)] w fun e w' => e = .returned (.int .i64 (cloN n s.data.toList : Nat)) ∧ w = w' := by
  have HP := Lib.hid (fun W => (Tryz.strings_HasPrefix (s.extract n s.size) ⟨#[62]⟩ W).mono (fun _ _ h => And.intro h.1 h.2.symm))
  rw [Lib.extract_to_end, show (⟨#[62]⟩ : ByteArray).data.toList = [62] from rfl, pre_fr 62 62 rfl] at HP
  unfold cloN
  cases c : frP (fun b => decide (b.toNat = 62)) (s.data.toList.drop n) with
  | true =>
    rw [c] at HP
    rw [if_pos rfl]
    clear c
    go_enter Tryz.func164, Tryz.ntmps164
    go_wp2_with fail
    refine (HP.out _).mono ?_
    rintro e w1 ⟨rfl, rfl⟩
    go_wp2_with fail
    go_ret
    exact ⟨rfl, rfl⟩
  | false =>
    rw [c] at HP
    rw [if_neg (by decide)]
    clear c
    go_enter Tryz.func164, Tryz.ntmps164
    go_wp2_with fail
    refine (HP.out _).mono ?_
    rintro e w1 ⟨rfl, rfl⟩
    go_wp2_with fail
    go_ret
    exact ⟨rfl, rfl⟩

set_option maxRecDepth 100000 in
set_option maxHeartbeats 400000 in
theorem attributeName_any (s : ByteArray) (w : World) (hs : s.size ≤ 100000) :
    Calls Tryz.prog 200 #[.string s] w fun e w' => e = .returned (.int .i64 (attN s.data.toList : Nat)) ∧ w = w' := by
  by_cases h0 : s.size = 0
  · obtain rfl := bytes_none h0
    go_enter Tryz.func200, Tryz.ntmps200
    go_wp2_with fail
    go_ret
    exact ⟨rfl, rfl⟩
  · have hp : 0 < s.size := by omega
    have u0 := tl_ne hp
    have u1 := tl_empty hp
    have LT := Lib.hid (fun W => rletter_any s[0] W)
    have ST := Lib.hid (fun W => stretch_rAtt s W hs)
    have hb := s[0].toNat_lt
    unfold attN
    rw [fr_first _ s hp]
    have E : rAt1 s[0] = (rLet s[0] || decide (s[0].toNat = 95 ∨ s[0].toNat = 58)) := rfl
    rw [E]
    generalize cntP rAtt s.data.toList = n at *
    cases c : rLet s[0] with
    | true =>
      rw [c] at LT
      rw [Bool.true_or, if_pos rfl]
      clear c h0 E
      go_enter Tryz.func200, Tryz.ntmps200
      go_wp2_with fail
      refine (LT.out _).mono ?_
      rintro e w1 ⟨rfl, rfl⟩
      go_wp2_with fail
      refine (ST.out _).mono ?_
      rintro e w1 ⟨rfl, rfl⟩
      go_wp2_with fail
      go_ret
      exact ⟨rfl, rfl⟩
    | false =>
      rw [c] at LT
      rw [Bool.false_or]
      by_cases c1 : s[0].toNat = 95
      · have q1 := bneF (show (s[0].toNat : Int) = 95 by omega)
        rw [if_pos (decide_eq_true (.inl c1))]
        clear c h0 E c1
        go_enter Tryz.func200, Tryz.ntmps200
        go_wp2_with fail
        refine (LT.out _).mono ?_
        rintro e w1 ⟨rfl, rfl⟩
        go_wp2_with fail
        refine (ST.out _).mono ?_
        rintro e w1 ⟨rfl, rfl⟩
        go_wp2_with fail
        go_ret
        exact ⟨rfl, rfl⟩
      · have q1 := bneT (show ¬ (s[0].toNat : Int) = 95 by omega)
        by_cases c2 : s[0].toNat = 58
        · have q2 := bneF (show (s[0].toNat : Int) = 58 by omega)
          rw [if_pos (decide_eq_true (.inr c2))]
          clear c h0 E c1 c2
          go_enter Tryz.func200, Tryz.ntmps200
          go_wp2_with fail
          refine (LT.out _).mono ?_
          rintro e w1 ⟨rfl, rfl⟩
          go_wp2_with fail
          refine (ST.out _).mono ?_
          rintro e w1 ⟨rfl, rfl⟩
          go_wp2_with fail
          go_ret
          exact ⟨rfl, rfl⟩
        · have q2 := bneT (show ¬ (s[0].toNat : Int) = 58 by omega)
          rw [if_neg (by rw [decide_eq_true_eq]; omega)]
          clear c h0 E c1 c2
          go_enter Tryz.func200, Tryz.ntmps200
          go_wp2_with fail
          refine (LT.out _).mono ?_
          rintro e w1 ⟨rfl, rfl⟩
          go_wp2_with fail
          go_ret
          exact ⟨rfl, rfl⟩

theorem val_first (s : ByteArray) (h : 0 < s.size) : valN s.data.toList = if s[0].toNat = 34 ∨ s[0].toNat = 39 then upA 1 [s[0]] s.data.toList else cntP rVal s.data.toList := by
  have := drop_at s 0 h
  rw [List.drop_zero] at this
  rw [this]
  rfl
set_option maxRecDepth 100000 in
set_option maxHeartbeats 400000 in
theorem rvalue_any (s : ByteArray) (w : World) (hs : s.size ≤ 100000) (hm : Mxl w) :
    Calls Tryz.prog 209 #[.string s] w fun e w' => e = .returned (.int .i64 (valN s.data.toList : Nat)) ∧ w = w' := by
  by_cases h0 : s.size = 0
  · obtain rfl := bytes_none h0
    go_enter Tryz.func209, Tryz.ntmps209
    go_wp2_with fail
    go_ret
    exact ⟨rfl, rfl⟩
  · have hp : 0 < s.size := by omega
    have u0 := tl_ne hp
    have u1 := tl_empty hp
    have UP := Lib.hid (upTo_any s (s.extract 0 1) 1 w hs (by omega) (by rw [ByteArray.size_extract]; omega) hm)
    rw [ext_one s hp] at UP
    have ST := Lib.hid (fun W => stretch_rVal s W hs)
    have hb := s[0].toNat_lt
    rw [val_first s hp]
    generalize cntP rVal s.data.toList = n at *
    generalize upA 1 [s[0]] s.data.toList = m at *
    by_cases c1 : s[0].toNat = 34
    · have q1 := beqT (show (s[0].toNat : Int) = 34 by omega)
      rw [if_pos (.inl c1)]
      clear h0 c1 hm
      go_enter Tryz.func209, Tryz.ntmps209
      go_wp2_with fail
      refine UP.out.mono ?_
      rintro e w1 ⟨rfl, rfl⟩
      go_wp2_with fail
      go_ret
      exact ⟨rfl, rfl⟩
    · have q1 := beqF (show ¬ (s[0].toNat : Int) = 34 by omega)
      by_cases c2 : s[0].toNat = 39
      · have q2 := beqT (show (s[0].toNat : Int) = 39 by omega)
        rw [if_pos (.inr c2)]
        clear h0 c1 c2 hm
        go_enter Tryz.func209, Tryz.ntmps209
        go_wp2_with fail
        refine UP.out.mono ?_
        rintro e w1 ⟨rfl, rfl⟩
        go_wp2_with fail
        go_ret
        exact ⟨rfl, rfl⟩
      · have q2 := beqF (show ¬ (s[0].toNat : Int) = 39 by omega)
        rw [if_neg (by omega)]
        clear h0 c1 c2 hm
        go_enter Tryz.func209, Tryz.ntmps209
        go_wp2_with fail
        refine (ST.out _).mono ?_
        rintro e w1 ⟨rfl, rfl⟩
        go_wp2_with fail
        go_ret
        exact ⟨rfl, rfl⟩
end Go.Proofs.YtfgpephpkibbaaaGreatDoor

/-
  Contracts of assigned, attribute, attributes, ending, beginning, Tag, declaration, Html, of the package raw, for texts of at most 100,000 bytes.
-/
namespace Go.Proofs.YtfgpephpkibbaaaGreatDoor
open Go.RowKit Go.Lib

set_option maxRecDepth 100000 in
set_option maxHeartbeats 400000 in
theorem assigned_any (s : ByteArray) (w : World) (hs : s.size ≤ 100000) (hm : Mxl w) :
    Calls Tryz.prog 201 #[.string s] w fun e w' => e = .returned (.int .i64 (asgN s.data.toList : Nat)) ∧ w = w' := by
  have S1 := Lib.hid (fun W => spaces_any s false W hs)
  rw [spc_cnt] at S1
  have ha := cntP_le rSpc s.data.toList
  rw [bytes_len] at ha
  have hA : asgA s.data.toList = cntP rSpc s.data.toList := rfl
  have HP := Lib.hid (fun W => (Tryz.strings_HasPrefix (s.extract (asgA s.data.toList) s.size) ⟨#[61]⟩ W).mono (fun _ _ h => And.intro h.1 h.2.symm))
  rw [Lib.extract_to_end, show (⟨#[61]⟩ : ByteArray).data.toList = [61] from rfl, pre_fr 61 61 rfl] at HP
  have hQ : asgQ s.data.toList = frP (fun b => decide (b.toNat = 61)) (s.data.toList.drop (asgA s.data.toList)) := rfl
  rw [← hQ] at HP
  unfold asgN
  cases c : asgQ s.data.toList with
  | false =>
    rw [c] at HP
    rw [hA] at HP
    rw [if_neg (by decide)]
    generalize cntP rSpc s.data.toList = a at *
    clear c hQ hA hm
    go_enter Tryz.func201, Tryz.ntmps201
    go_wp2_with fail
    refine (S1.out _).mono ?_
    rintro e w1 ⟨rfl, rfl⟩
    go_wp2_with fail
    refine (HP.out _).mono ?_
    rintro e w1 ⟨rfl, rfl⟩
    go_wp2_with fail
    go_ret
    exact ⟨rfl, rfl⟩
  | true =>
    have hl := frP_drop (hQ.symm.trans c)
    rw [bytes_len] at hl
    have hC : asgC s.data.toList = asgA s.data.toList + 1 + cntP rSpc (s.data.toList.drop (asgA s.data.toList + 1)) := rfl
    have hV : asgV s.data.toList = valN (s.data.toList.drop (asgC s.data.toList)) := rfl
    rw [c] at HP
    rw [if_pos rfl, hV, hC, hA]
    rw [hA] at HP hl
    clear c hQ hA hC hV
    generalize cntP rSpc s.data.toList = a at *
    have S2 := Lib.hid (fun W => spaces_any (s.extract (a + 1) s.size) false W (by rw [ByteArray.size_extract]; omega))
    rw [spc_cnt, Lib.extract_to_end] at S2
    have hb := cntP_le rSpc (s.data.toList.drop (a + 1))
    rw [List.length_drop, bytes_len] at hb
    generalize cntP rSpc (s.data.toList.drop (a + 1)) = b at *
    have VL := Lib.hid (rvalue_any (s.extract (a + 1 + b) s.size) w (by rw [ByteArray.size_extract]; omega) hm)
    rw [Lib.extract_to_end] at VL
    have hv := valN_le (s.data.toList.drop (a + 1 + b))
    rw [List.length_drop, bytes_len] at hv
    generalize valN (s.data.toList.drop (a + 1 + b)) = v at *
    clear hm
    by_cases c0 : v = 0
    · subst c0
      rw [if_pos rfl]
      go_enter Tryz.func201, Tryz.ntmps201
      go_wp2_with fail
      refine (S1.out _).mono ?_
      rintro e w1 ⟨rfl, rfl⟩
      go_wp2_with fail
      refine (HP.out _).mono ?_
      rintro e w1 ⟨rfl, rfl⟩
      go_wp2_with fail
      refine (S2.out _).mono ?_
      rintro e w1 ⟨rfl, rfl⟩
      go_wp2_with fail
      refine VL.out.mono ?_
      rintro e w1 ⟨rfl, rfl⟩
      go_wp2_with fail
      go_ret
      exact ⟨rfl, rfl⟩
    · have q0 := beqF (show ¬ (v : Int) = 0 by omega)
      rw [if_neg c0]
      clear c0
      go_enter Tryz.func201, Tryz.ntmps201
      go_wp2_with fail
      refine (S1.out _).mono ?_
      rintro e w1 ⟨rfl, rfl⟩
      go_wp2_with fail
      refine (HP.out _).mono ?_
      rintro e w1 ⟨rfl, rfl⟩
      go_wp2_with fail
      refine (S2.out _).mono ?_
      rintro e w1 ⟨rfl, rfl⟩
      go_wp2_with fail
      refine VL.out.mono ?_
      rintro e w1 ⟨rfl, rfl⟩
      go_wp2_with fail
      go_ret
      exact ⟨ret_int (by omega), rfl⟩

set_option maxRecDepth 100000 in
set_option maxHeartbeats 400000 in
theorem attribute_any (s : ByteArray) (w : World) (hs : s.size ≤ 100000) (hm : Mxl w) :
    Calls Tryz.prog 188 #[.string s] w fun e w' => e = .returned (.int .i64 (atrN s.data.toList : Nat)) ∧ w = w' := by
  have S1 := Lib.hid (fun W => spaces_any s false W hs)
  rw [spc_cnt] at S1
  have ha := cntP_le rSpc s.data.toList
  rw [bytes_len] at ha
  have hA : atrA s.data.toList = cntP rSpc s.data.toList := rfl
  have hM : atrM s.data.toList = attN (s.data.toList.drop (atrA s.data.toList)) := rfl
  unfold atrN
  rw [hM, hA]
  clear hM hA
  generalize cntP rSpc s.data.toList = a at *
  by_cases c0 : a = 0
  · subst c0
    rw [if_pos rfl]
    clear hm
    go_enter Tryz.func188, Tryz.ntmps188
    go_wp2_with fail
    refine (S1.out _).mono ?_
    rintro e w1 ⟨rfl, rfl⟩
    go_wp2_with fail
    go_ret
    exact ⟨rfl, rfl⟩
  · have q0 := beqF (show ¬ (a : Int) = 0 by omega)
    rw [if_neg c0]
    have NM := Lib.hid (fun W => attributeName_any (s.extract a s.size) W (by rw [ByteArray.size_extract]; omega))
    rw [Lib.extract_to_end] at NM
    have hn := attN_le (s.data.toList.drop a)
    rw [List.length_drop, bytes_len] at hn
    generalize attN (s.data.toList.drop a) = m at *
    by_cases c1 : m = 0
    · subst c1
      rw [if_pos rfl]
      clear hm c0
      go_enter Tryz.func188, Tryz.ntmps188
      go_wp2_with fail
      refine (S1.out _).mono ?_
      rintro e w1 ⟨rfl, rfl⟩
      go_wp2_with fail
      refine (NM.out _).mono ?_
      rintro e w1 ⟨rfl, rfl⟩
      go_wp2_with fail
      go_ret
      exact ⟨rfl, rfl⟩
    · have q1 := beqF (show ¬ (m : Int) = 0 by omega)
      rw [if_neg c1]
      have AS := Lib.hid (assigned_any (s.extract (a + m) s.size) w (by rw [ByteArray.size_extract]; omega) hm)
      rw [Lib.extract_to_end] at AS
      have hv := asgN_le (s.data.toList.drop (a + m))
      rw [List.length_drop, bytes_len] at hv
      generalize asgN (s.data.toList.drop (a + m)) = v at *
      clear hm c0 c1
      go_enter Tryz.func188, Tryz.ntmps188
      go_wp2_with fail
      refine (S1.out _).mono ?_
      rintro e w1 ⟨rfl, rfl⟩
      go_wp2_with fail
      refine (NM.out _).mono ?_
      rintro e w1 ⟨rfl, rfl⟩
      go_wp2_with fail
      refine AS.out.mono ?_
      rintro e w1 ⟨rfl, rfl⟩
      go_wp2_with fail
      go_ret
      exact ⟨ret_int (by omega), rfl⟩

set_option maxRecDepth 100000 in
set_option maxHeartbeats 400000 in
theorem attributes_any (s : ByteArray) (w : World) (hs : s.size ≤ 100000) (hm : Mxl w) :
    Calls Tryz.prog 165 #[.string s] w fun e w' => e = .returned (.int .i64 (atsN s.data.toList : Nat)) ∧ w = w' := by
  have hl := Lib.hid (bytes_len s)
  have AT := Lib.hid (fun k (hk : k ≤ s.size) => attribute_any (s.extract k s.size) w (by rw [ByteArray.size_extract]; omega) hm)
  clear hm
  go_enter Tryz.func165, Tryz.ntmps165
  go_wp2_with fail
  go_loop [3] (fun i => ∃ k : Nat, k ≤ s.size ∧ i = .int .i64 k ∧ Hid (atsN s.data.toList = k + atsN (s.data.toList.drop k))) (fun i => s.size - (RowKit.intOf i).toNat)
  case atStart => exact ⟨0, Nat.zero_le _, rfl, Lib.hid (by rw [List.drop_zero, Nat.zero_add])⟩
  case round =>
    obtain ⟨k, hk, rfl, HC⟩ := hrel
    have A1 := Lib.hid (AT.out k hk)
    rw [Lib.extract_to_end] at A1
    have ha := atrN_le (s.data.toList.drop k)
    rw [List.length_drop, hl.out] at ha
    obtain ⟨m, HM⟩ : ∃ m, Hid (atrN (s.data.toList.drop k) = m) := ⟨_, rfl⟩
    rw [HM.out] at A1 ha
    by_cases c0 : m = 0
    · subst c0
      have HN : Hid (atsN s.data.toList = k) := Lib.hid (by rw [HC.out, ats_stop HM.out]; rfl)
      clear HM HC
      go_wp2_with fail
      refine A1.out.mono ?_
      rintro e w1 ⟨rfl, rfl⟩
      go_wp2_with fail
      go_ret
      exact ⟨ret_int (by rw [HN.out]), rfl⟩
    · have q0 := beqF (show ¬ (m : Int) = 0 by omega)
      have HN : Hid (atsN s.data.toList = (k + m) + atsN (s.data.toList.drop (k + m))) := Lib.hid (by
        rw [HC.out, ats_step (by rw [HM.out]; exact c0), HM.out, List.drop_drop]
        omega)
      clear HM HC
      go_wp2_with fail
      refine A1.out.mono ?_
      rintro e w1 ⟨rfl, rfl⟩
      go_wp2_with fail
      go_round
      case rel => exact ⟨k + m, by omega, by go_num, HN⟩
      case measure => simp [RowKit.intOf]; omega

set_option maxRecDepth 100000 in
set_option maxHeartbeats 400000 in
theorem rending_any (s : ByteArray) (w : World) (hs : s.size ≤ 100000) (h2 : 2 ≤ s.size) :
    Calls Tryz.prog 142 #[.string s] w fun e w' => e = .returned (.int .i64 (endN s.data.toList : Nat)) ∧ w = w' := by
  have NM := Lib.hid (fun W => wname_any (s.extract 2 s.size) W (by rw [ByteArray.size_extract]; omega))
  rw [Lib.extract_to_end] at NM
  have hn := namN_le (s.data.toList.drop 2)
  rw [List.length_drop, bytes_len] at hn
  unfold endN
  generalize namN (s.data.toList.drop 2) = n at *
  by_cases c0 : n = 0
  · subst c0
    rw [if_pos rfl]
    go_enter Tryz.func142, Tryz.ntmps142
    go_wp2_with fail
    refine (NM.out _).mono ?_
    rintro e w1 ⟨rfl, rfl⟩
    go_wp2_with fail
    go_ret
    exact ⟨rfl, rfl⟩
  · have q0 := beqF (show ¬ (n : Int) = 0 by omega)
    rw [if_neg c0]
    have S1 := Lib.hid (fun W => spaces_any (s.extract (n + 2) s.size) false W (by rw [ByteArray.size_extract]; omega))
    rw [spc_cnt, Lib.extract_to_end] at S1
    rw [show 2 + n = n + 2 by omega]
    have ha := cntP_le rSpc (s.data.toList.drop (n + 2))
    rw [List.length_drop, bytes_len] at ha
    generalize cntP rSpc (s.data.toList.drop (n + 2)) = a at *
    have CL := Lib.hid (fun W => closed_any s (n + 2 + a) W hs (by omega))
    clear c0
    go_enter Tryz.func142, Tryz.ntmps142
    go_wp2_with fail
    refine (NM.out _).mono ?_
    rintro e w1 ⟨rfl, rfl⟩
    go_wp2_with fail
    refine (S1.out _).mono ?_
    rintro e w1 ⟨rfl, rfl⟩
    go_wp2_with fail
    refine (CL.out _).mono ?_
    rintro e w1 ⟨rfl, rfl⟩
    go_wp2_with fail
    go_ret
    exact ⟨rfl, rfl⟩

set_option maxRecDepth 100000 in
set_option maxHeartbeats 1000000 in
theorem beginning_any (s : ByteArray) (w : World) (hs : s.size ≤ 100000) (h1 : 1 ≤ s.size) (hm : Mxl w) :
    Calls Tryz.prog 143 #[.string s] w fun e w' => e = .returned (.int .i64 (begN s.data.toList : Nat)) ∧ w = w' := by
  have NM := Lib.hid (fun W => wname_any (s.extract 1 s.size) W (by rw [ByteArray.size_extract]; omega))
  rw [Lib.extract_to_end] at NM
  have hn := namN_le (s.data.toList.drop 1)
  rw [List.length_drop, bytes_len] at hn
  have hA : begA s.data.toList = 1 + namN (s.data.toList.drop 1) + atsN (s.data.toList.drop (1 + namN (s.data.toList.drop 1))) := rfl
  have hB : begB s.data.toList = begA s.data.toList + cntP rSpc (s.data.toList.drop (begA s.data.toList)) := rfl
  have hC : begC s.data.toList = if frP (fun b => decide (b.toNat = 47)) (s.data.toList.drop (begB s.data.toList)) = true then begB s.data.toList + 1 else begB s.data.toList := rfl
  unfold begN
  rw [hC, hB, hA]
  clear hC hB hA
  generalize namN (s.data.toList.drop 1) = n at *
  by_cases c0 : n = 0
  · subst c0
    rw [if_pos rfl]
    clear hm
    go_enter Tryz.func143, Tryz.ntmps143
    go_wp2_with fail
    refine (NM.out _).mono ?_
    rintro e w1 ⟨rfl, rfl⟩
    go_wp2_with fail
    go_ret
    exact ⟨rfl, rfl⟩
  · have q0 := beqF (show ¬ (n : Int) = 0 by omega)
    rw [if_neg c0, show 1 + n = n + 1 by omega]
    have AT := Lib.hid (attributes_any (s.extract (n + 1) s.size) w (by rw [ByteArray.size_extract]; omega) hm)
    rw [Lib.extract_to_end] at AT
    have ha := atsN_le (s.data.toList.drop (n + 1))
    rw [List.length_drop, bytes_len] at ha
    generalize atsN (s.data.toList.drop (n + 1)) = a at *
    have S1 := Lib.hid (fun W => spaces_any (s.extract (n + 1 + a) s.size) false W (by rw [ByteArray.size_extract]; omega))
    rw [spc_cnt, Lib.extract_to_end] at S1
    have hb := cntP_le rSpc (s.data.toList.drop (n + 1 + a))
    rw [List.length_drop, bytes_len] at hb
    generalize cntP rSpc (s.data.toList.drop (n + 1 + a)) = b at *
    have HP := Lib.hid (fun W => (Tryz.strings_HasPrefix (s.extract (n + 1 + a + b) s.size) ⟨#[47]⟩ W).mono (fun _ _ h => And.intro h.1 h.2.symm))
    rw [Lib.extract_to_end, show (⟨#[47]⟩ : ByteArray).data.toList = [47] from rfl, pre_fr 47 47 rfl] at HP
    have hr : frP (fun b => decide (b.toNat = 47)) (s.data.toList.drop (n + 1 + a + b)) = true → n + 1 + a + b < s.size := fun h => by
      have := frP_drop h
      rwa [bytes_len] at this
    cases c1 : frP (fun b => decide (b.toNat = 47)) (s.data.toList.drop (n + 1 + a + b)) with
    | true =>
      have hr2 := hr c1
      rw [c1] at HP
      rw [if_pos rfl]
      have CL := Lib.hid (fun W => closed_any s (n + 1 + a + b + 1) W hs (by omega))
      clear c0 c1 hm hr
      go_enter Tryz.func143, Tryz.ntmps143
      go_wp2_with fail
      refine (NM.out _).mono ?_
      rintro e w1 ⟨rfl, rfl⟩
      go_wp2_with fail
      refine AT.out.mono ?_
      rintro e w1 ⟨rfl, rfl⟩
      go_wp2_with fail
      refine (S1.out _).mono ?_
      rintro e w1 ⟨rfl, rfl⟩
      go_wp2_with fail
      refine (HP.out _).mono ?_
      rintro e w1 ⟨rfl, rfl⟩
      go_wp2_with fail
      refine (CL.out _).mono ?_
      rintro e w1 ⟨rfl, rfl⟩
      go_wp2_with fail
      go_ret
      exact ⟨rfl, rfl⟩
    | false =>
      rw [c1] at HP
      rw [if_neg (by decide)]
      have CL := Lib.hid (fun W => closed_any s (n + 1 + a + b) W hs (by omega))
      clear c0 c1 hm hr
      go_enter Tryz.func143, Tryz.ntmps143
      go_wp2_with fail
      refine (NM.out _).mono ?_
      rintro e w1 ⟨rfl, rfl⟩
      go_wp2_with fail
      refine AT.out.mono ?_
      rintro e w1 ⟨rfl, rfl⟩
      go_wp2_with fail
      refine (S1.out _).mono ?_
      rintro e w1 ⟨rfl, rfl⟩
      go_wp2_with fail
      refine (HP.out _).mono ?_
      rintro e w1 ⟨rfl, rfl⟩
      go_wp2_with fail
      refine (CL.out _).mono ?_
      rintro e w1 ⟨rfl, rfl⟩
      go_wp2_with fail
      go_ret
      exact ⟨rfl, rfl⟩

set_option maxRecDepth 100000 in
set_option maxHeartbeats 400000 in
theorem tag_any (s : ByteArray) (w : World) (hs : s.size ≤ 100000) (hm : Mxl w) :
    Calls Tryz.prog 119 #[.string s] w fun e w' => e = .returned (.int .i64 (tagN s.data.toList : Nat)) ∧ w = w' := by
  have P1 := Lib.hid (fun W => (Tryz.strings_HasPrefix s ⟨#[60, 47]⟩ W).mono (fun _ _ h => And.intro h.1 h.2.symm))
  rw [show (⟨#[60, 47]⟩ : ByteArray).data.toList = [60, 47] from rfl] at P1
  have P2 := Lib.hid (fun W => (Tryz.strings_HasPrefix s ⟨#[60]⟩ W).mono (fun _ _ h => And.intro h.1 h.2.symm))
  rw [show (⟨#[60]⟩ : ByteArray).data.toList = [60] from rfl] at P2
  unfold tagN
  cases c1 : hasPrefix s.data.toList [60, 47] with
  | true =>
    have hz := pre_len c1
    rw [bytes_len] at hz
    have EN := Lib.hid (fun W => rending_any s W hs hz)
    rw [if_pos rfl]
    rw [c1] at P1
    clear c1 hm P2 hz
    generalize endN s.data.toList = n at *
    go_enter Tryz.func119, Tryz.ntmps119
    go_wp2_with fail
    refine (P1.out _).mono ?_
    rintro e w1 ⟨rfl, rfl⟩
    go_wp2_with fail
    refine (EN.out _).mono ?_
    rintro e w1 ⟨rfl, rfl⟩
    go_wp2_with fail
    go_ret
    exact ⟨rfl, rfl⟩
  | false =>
    rw [if_neg (by decide)]
    rw [c1] at P1
    clear c1
    cases c2 : hasPrefix s.data.toList [60] with
    | true =>
      have hz := pre_len c2
      rw [bytes_len] at hz
      have BE := Lib.hid (beginning_any s w hs hz hm)
      rw [if_pos rfl]
      rw [c2] at P2
      clear c2 hm hz
      generalize begN s.data.toList = n at *
      go_enter Tryz.func119, Tryz.ntmps119
      go_wp2_with fail
      refine (P1.out _).mono ?_
      rintro e w1 ⟨rfl, rfl⟩
      go_wp2_with fail
      refine (P2.out _).mono ?_
      rintro e w1 ⟨rfl, rfl⟩
      go_wp2_with fail
      refine BE.out.mono ?_
      rintro e w1 ⟨rfl, rfl⟩
      go_wp2_with fail
      go_ret
      exact ⟨rfl, rfl⟩
    | false =>
      rw [if_neg (by decide)]
      rw [c2] at P2
      clear c2 hm
      go_enter Tryz.func119, Tryz.ntmps119
      go_wp2_with fail
      refine (P1.out _).mono ?_
      rintro e w1 ⟨rfl, rfl⟩
      go_wp2_with fail
      refine (P2.out _).mono ?_
      rintro e w1 ⟨rfl, rfl⟩
      go_wp2_with fail
      go_ret
      exact ⟨rfl, rfl⟩

end Go.Proofs.YtfgpephpkibbaaaGreatDoor

