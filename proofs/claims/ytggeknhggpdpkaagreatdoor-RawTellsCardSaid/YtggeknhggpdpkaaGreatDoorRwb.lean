/-
  Contracts of upTo, name, closed, attributeName, value, assigned, attribute, attributes, of the package raw, for texts of at most 100,000 bytes.
-/
import Derived.Test.YtggeknhggpdpkaaGreatDoorRwa
import Derived.Test.YtggeknhggpdpkaaGreatDoorMxl
namespace Go.Proofs.YtggeknhggpdpkaaGreatDoor
open Go.RowKit Go.Lib

theorem bneT {x y : Int} (h : ¬ x = y) : (x != y) = true := bne_iff_ne.2 h
theorem bneF {x y : Int} (h : x = y) : (x != y) = false := by subst h; simp
theorem bytes_none {s : ByteArray} (h : s.size = 0) : s = ⟨#[]⟩ := bytes_eq (List.length_eq_zero_iff.1 (by rw [bytes_len]; exact h))
theorem fr_at (p : UInt8 → Bool) (s : ByteArray) (k : Nat) (h : k < s.size) : frP p (s.data.toList.drop k) = p s[k] := by rw [drop_at s k h]; rfl
theorem fr_first (p : UInt8 → Bool) (s : ByteArray) (h : 0 < s.size) : frP p s.data.toList = p s[0] := by
  have := fr_at p s 0 h
  rwa [List.drop_zero] at this
theorem pre_fr (c : UInt8) (n : Nat) (h : c.toNat = n) (l : List UInt8) : hasPrefix l [c] = frP (fun b => decide (b.toNat = n)) l := by
  cases l with
  | nil => rfl
  | cons b l =>
    show (c == b && List.isPrefixOf [] l) = decide (b.toNat = n)
    rw [show List.isPrefixOf [] l = true from by cases l <;> rfl, Bool.and_true, Bool.eq_iff_iff, beq_iff_eq, decide_eq_true_eq, ← h]
    exact ⟨fun e => by rw [e], fun e => (UInt8.toNat_inj.1 e).symm⟩
theorem ext_one (s : ByteArray) (h : 0 < s.size) : (s.extract 0 1).data.toList = [s[0]] := by
  rw [Lib.extract_data, List.drop_zero]
  have := drop_at s 0 h
  rw [List.drop_zero] at this
  rw [this]; rfl

set_option maxRecDepth 100000 in
set_option maxHeartbeats 400000 in
theorem upTo_any (s t : ByteArray) (k : Nat) (w : World) (hs : s.size ≤ 100000) (hk : k ≤ s.size) (ht : t.size ≤ 100000) (hm : Mxl w) :
    Calls Tryz.prog 35 #[.string s, .int .i64 (k : Nat), .string t] w fun e w' => e = .returned (.int .i64 (upA k t.data.toList s.data.toList : Nat)) ∧ w = w' := by
  obtain ⟨m, hm⟩ := hm
  have IX := Lib.hid ((Tryz.strings_Index (s.extract k s.size) t m w (by rw [ByteArray.size_extract]; omega) hm).mono (fun _ _ h => And.intro h.1 h.2.symm))
  rw [Lib.extract_to_end] at IX
  unfold upA
  by_cases c : index (s.data.toList.drop k) t.data.toList = -1
  · rw [c] at IX
    rw [if_pos c]
    clear c hm
    go_enter Tryz.func35, Tryz.ntmps35
    go_wp2_with fail
    refine IX.out.mono ?_
    rintro e w1 ⟨rfl, rfl⟩
    go_wp2_with fail
    go_ret
    exact ⟨rfl, rfl⟩
  · have hg := index_ge (s.data.toList.drop k) t.data.toList
    have hr := index_room (s.data.toList.drop k) t.data.toList (by omega)
    rw [List.length_drop, bytes_len, bytes_len] at hr
    rw [if_neg c, bytes_len]
    obtain ⟨i, hi⟩ : ∃ i : Nat, index (s.data.toList.drop k) t.data.toList = i := ⟨_, (Int.toNat_of_nonneg (by omega)).symm⟩
    rw [hi] at IX hr ⊢
    rw [Int.toNat_natCast]
    clear c hg hi hm
    go_enter Tryz.func35, Tryz.ntmps35
    go_wp2_with fail
    refine IX.out.mono ?_
    rintro e w1 ⟨rfl, rfl⟩
    go_wp2_with fail
    go_ret
    exact ⟨ret_int (by omega), rfl⟩

set_option maxRecDepth 100000 in
theorem rname_any (s : ByteArray) (w : World) (hs : s.size ≤ 100000) :
    Calls Tryz.prog 54 #[.string s] w fun e w' => e = .returned (.int .i64 (namN s.data.toList : Nat)) ∧ w = w' := by
  by_cases h0 : s.size = 0
  · obtain rfl := bytes_none h0
    go_enter Tryz.func54, Tryz.ntmps54
    go_wp2_with fail
    go_ret
    exact ⟨rfl, rfl⟩
  · have hp : 0 < s.size := by omega
    have u0 := tl_ne hp
    have u1 := tl_empty hp
    have LT := Lib.hid (fun W => rletter_any s[0] W)
    have ST := Lib.hid (fun W => stretch_rNam s W hs)
    have hb := s[0].toNat_lt
    unfold namN
    rw [fr_first _ s hp]
    generalize cntP rNam s.data.toList = n at *
    cases c : rLet s[0] with
    | true =>
      rw [c] at LT
      rw [if_pos rfl]
      clear c h0
      go_enter Tryz.func54, Tryz.ntmps54
      go_wp2_with fail
      refine (LT.out _).mono ?_
      rintro e w1 ⟨rfl, rfl⟩
      go_wp2_with fail
      refine (ST.out _).mono ?_
      rintro e w1 ⟨rfl, rfl⟩
      go_wp2_with fail
      go_ret
      exact ⟨rfl, rfl⟩
    | false =>
      rw [c] at LT
      rw [if_neg (by decide)]
      clear c h0
      go_enter Tryz.func54, Tryz.ntmps54
      go_wp2_with fail
      refine (LT.out _).mono ?_
      rintro e w1 ⟨rfl, rfl⟩
      go_wp2_with fail
      go_ret
      exact ⟨rfl, rfl⟩

set_option maxRecDepth 100000 in
theorem closed_any (s : ByteArray) (n : Nat) (w : World) (hs : s.size ≤ 100000) (hn : n ≤ s.size) :
    Calls Tryz.prog 55 #[.string s, .int .i64 (n : Nat)] w fun e w' => e = .returned (.int .i64 (cloN n s.data.toList : Nat)) ∧ w = w' := by
  have HP := Lib.hid (fun W => (Tryz.strings_HasPrefix (s.extract n s.size) ⟨#[62]⟩ W).mono (fun _ _ h => And.intro h.1 h.2.symm))
  rw [Lib.extract_to_end, show (⟨#[62]⟩ : ByteArray).data.toList = [62] from rfl, pre_fr 62 62 rfl] at HP
  unfold cloN
  cases c : frP (fun b => decide (b.toNat = 62)) (s.data.toList.drop n) with
  | true =>
    rw [c] at HP
    rw [if_pos rfl]
    clear c
    go_enter Tryz.func55, Tryz.ntmps55
    go_wp2_with fail
    refine (HP.out _).mono ?_
    rintro e w1 ⟨rfl, rfl⟩
    go_wp2_with fail
    go_ret
    exact ⟨rfl, rfl⟩
  | false =>
    rw [c] at HP
    rw [if_neg (by decide)]
    clear c
    go_enter Tryz.func55, Tryz.ntmps55
    go_wp2_with fail
    refine (HP.out _).mono ?_
    rintro e w1 ⟨rfl, rfl⟩
    go_wp2_with fail
    go_ret
    exact ⟨rfl, rfl⟩

set_option maxRecDepth 100000 in
set_option maxHeartbeats 400000 in
theorem attributeName_any (s : ByteArray) (w : World) (hs : s.size ≤ 100000) :
    Calls Tryz.prog 87 #[.string s] w fun e w' => e = .returned (.int .i64 (attN s.data.toList : Nat)) ∧ w = w' := by
  by_cases h0 : s.size = 0
  · obtain rfl := bytes_none h0
    go_enter Tryz.func87, Tryz.ntmps87
    go_wp2_with fail
    go_ret
    exact ⟨rfl, rfl⟩
  · have hp : 0 < s.size := by omega
    have u0 := tl_ne hp
    have u1 := tl_empty hp
    have LT := Lib.hid (fun W => rletter_any s[0] W)
    have ST := Lib.hid (fun W => stretch_rAtt s W hs)
    have hb := s[0].toNat_lt
    unfold attN
    rw [fr_first _ s hp]
    have E : rAt1 s[0] = (rLet s[0] || decide (s[0].toNat = 95 ∨ s[0].toNat = 58)) := rfl
    rw [E]
    generalize cntP rAtt s.data.toList = n at *
    cases c : rLet s[0] with
    | true =>
      rw [c] at LT
      rw [Bool.true_or, if_pos rfl]
      clear c h0 E
      go_enter Tryz.func87, Tryz.ntmps87
      go_wp2_with fail
      refine (LT.out _).mono ?_
      rintro e w1 ⟨rfl, rfl⟩
      go_wp2_with fail
      refine (ST.out _).mono ?_
      rintro e w1 ⟨rfl, rfl⟩
      go_wp2_with fail
      go_ret
      exact ⟨rfl, rfl⟩
    | false =>
      rw [c] at LT
      rw [Bool.false_or]
      by_cases c1 : s[0].toNat = 95
      · have q1 := bneF (show (s[0].toNat : Int) = 95 by omega)
        rw [if_pos (decide_eq_true (.inl c1))]
        clear c h0 E c1
        go_enter Tryz.func87, Tryz.ntmps87
        go_wp2_with fail
        refine (LT.out _).mono ?_
        rintro e w1 ⟨rfl, rfl⟩
        go_wp2_with fail
        refine (ST.out _).mono ?_
        rintro e w1 ⟨rfl, rfl⟩
        go_wp2_with fail
        go_ret
        exact ⟨rfl, rfl⟩
      · have q1 := bneT (show ¬ (s[0].toNat : Int) = 95 by omega)
        by_cases c2 : s[0].toNat = 58
        · have q2 := bneF (show (s[0].toNat : Int) = 58 by omega)
          rw [if_pos (decide_eq_true (.inr c2))]
          clear c h0 E c1 c2
          go_enter Tryz.func87, Tryz.ntmps87
          go_wp2_with fail
          refine (LT.out _).mono ?_
          rintro e w1 ⟨rfl, rfl⟩
          go_wp2_with fail
          refine (ST.out _).mono ?_
          rintro e w1 ⟨rfl, rfl⟩
          go_wp2_with fail
          go_ret
          exact ⟨rfl, rfl⟩
        · have q2 := bneT (show ¬ (s[0].toNat : Int) = 58 by omega)
          rw [if_neg (by rw [decide_eq_true_eq]; omega)]
          clear c h0 E c1 c2
          go_enter Tryz.func87, Tryz.ntmps87
          go_wp2_with fail
          refine (LT.out _).mono ?_
          rintro e w1 ⟨rfl, rfl⟩
          go_wp2_with fail
          go_ret
          exact ⟨rfl, rfl⟩

theorem val_first (s : ByteArray) (h : 0 < s.size) : valN s.data.toList = if s[0].toNat = 34 ∨ s[0].toNat = 39 then upA 1 [s[0]] s.data.toList else cntP rVal s.data.toList := by
  have := drop_at s 0 h
  rw [List.drop_zero] at this
  rw [this]
  rfl
set_option maxRecDepth 100000 in
set_option maxHeartbeats 400000 in
theorem rvalue_any (s : ByteArray) (w : World) (hs : s.size ≤ 100000) (hm : Mxl w) :
    Calls Tryz.prog 101 #[.string s] w fun e w' => e = .returned (.int .i64 (valN s.data.toList : Nat)) ∧ w = w' := by
  by_cases h0 : s.size = 0
  · obtain rfl := bytes_none h0
    go_enter Tryz.func101, Tryz.ntmps101
    go_wp2_with fail
    go_ret
    exact ⟨rfl, rfl⟩
  · have hp : 0 < s.size := by omega
    have u0 := tl_ne hp
    have u1 := tl_empty hp
    have UP := Lib.hid (upTo_any s (s.extract 0 1) 1 w hs (by omega) (by rw [ByteArray.size_extract]; omega) hm)
    rw [ext_one s hp] at UP
    have ST := Lib.hid (fun W => stretch_rVal s W hs)
    have hb := s[0].toNat_lt
    rw [val_first s hp]
    generalize cntP rVal s.data.toList = n at *
    generalize upA 1 [s[0]] s.data.toList = m at *
    by_cases c1 : s[0].toNat = 34
    · have q1 := beqT (show (s[0].toNat : Int) = 34 by omega)
      rw [if_pos (.inl c1)]
      clear h0 c1 hm
      go_enter Tryz.func101, Tryz.ntmps101
      go_wp2_with fail
      refine UP.out.mono ?_
      rintro e w1 ⟨rfl, rfl⟩
      go_wp2_with fail
      go_ret
      exact ⟨rfl, rfl⟩
    · have q1 := beqF (show ¬ (s[0].toNat : Int) = 34 by omega)
      by_cases c2 : s[0].toNat = 39
      · have q2 := beqT (show (s[0].toNat : Int) = 39 by omega)
        rw [if_pos (.inr c2)]
        clear h0 c1 c2 hm
        go_enter Tryz.func101, Tryz.ntmps101
        go_wp2_with fail
        refine UP.out.mono ?_
        rintro e w1 ⟨rfl, rfl⟩
        go_wp2_with fail
        go_ret
        exact ⟨rfl, rfl⟩
      · have q2 := beqF (show ¬ (s[0].toNat : Int) = 39 by omega)
        rw [if_neg (by omega)]
        clear h0 c1 c2 hm
        go_enter Tryz.func101, Tryz.ntmps101
        go_wp2_with fail
        refine (ST.out _).mono ?_
        rintro e w1 ⟨rfl, rfl⟩
        go_wp2_with fail
        go_ret
        exact ⟨rfl, rfl⟩
end Go.Proofs.YtggeknhggpdpkaaGreatDoor
