/-
  Contracts of nameRune, refRune, Ref, of the package.
-/
import Derived.Test.YtonajkcdkihchaaDoorNmc
import Derived.Test.YtonajkcdkihchaaDoorSrcr
namespace Go.Proofs.YtonajkcdkihchaaDoor
open Go.RowKit Go.Lib

theorem upto_take (r : List UInt8) : r.take (semiL r).length = semiL r := by
  have h : semiL r <+: r := List.takeWhile_prefix _
  exact (List.prefix_iff_eq_take.1 h).symm
theorem pre_size {s : ByteArray} {p : List UInt8} (h : hasPrefix s.data.toList p = true) : p.length ≤ s.size := by
  obtain ⟨z, e⟩ := (pre_iff _ _).1 h
  have := congrArg List.length e
  rw [bytes_len, List.length_append] at this
  omega
set_option maxRecDepth 100000 in
set_option maxHeartbeats 400000 in
theorem nameRune_any (s : ByteArray) (w : World) (hs : s.size ≤ maxLen) (h1 : hasPrefix s.data.toList [38, 35] = false) (h : hasPrefix s.data.toList [38] = true) (hO : Lis w) :
    Calls Tryd.prog 58 #[.string s] w fun e w' => e = .returned (.tuple #[.int .i32 (refL s.data.toList).1, .int .i64 (refL s.data.toList).2]) ∧ w = w' := by
  have hz : 1 ≤ s.size := pre_size h
  unfold maxLen at hs
  have NA := Lib.hid (fun t => nmName_any t w hO)
  have IB := Lib.hid (fun t W => Tryd.strings_IndexByte t 59 W)
  have RN := Lib.hid (refL_name h1 h)
  clear h1 h hO
  obtain ⟨l, hl⟩ : ∃ l, s.data.toList.drop 1 = l := ⟨_, rfl⟩
  have hlen : l.length = s.size - 1 := by rw [← hl, List.length_drop, bytes_len]
  have hrl : (s.extract 1 s.size).data.toList = l := by rw [Lib.extract_to_end, hl]
  rw [hl] at RN
  clear hl
  have hix := index_upto l 7
  have ht := upto_take l
  obtain ⟨u, hu⟩ : ∃ u, semiL l = u := ⟨_, rfl⟩
  rw [hu] at hix ht RN
  have hm : (min ((s.size - 1 : Nat) : Int) 7).toNat = min l.length 7 := by omega
  have hp : ((s.extract 1 s.size).extract 0 (min ((s.size - 1 : Nat) : Int) 7).toNat).data.toList = l.take 7 := by
    rw [Lib.extract_data, List.drop_zero, Nat.sub_zero, hrl, hm]
    rcases Nat.le_total l.length 7 with k | k
    · rw [Nat.min_eq_left k, List.take_of_length_le (Nat.le_refl _), List.take_of_length_le k]
    · rw [Nat.min_eq_right k]
  have IX : Hid (∀ W, Calls Tryd.prog 63 #[.string ((s.extract 1 s.size).extract 0 (min ((s.size - 1 : Nat) : Int) 7).toNat), .int .u8 59] W fun e w' => e = .returned (.int .i64 (if u.length < l.length ∧ u.length < 7 then (u.length : Int) else -1)) ∧ w' = W) := Lib.hid fun W => by
    have := IB.out ((s.extract 1 s.size).extract 0 (min ((s.size - 1 : Nat) : Int) 7).toNat) W
    rw [hp, show (59 : Int).toNat.toUInt8 = 59 from rfl, hix] at this
    exact this
  have HU := Lib.hid hu
  rw [hlen] at *
  by_cases c : u.length < s.size - 1 ∧ u.length < 7
  · rw [if_pos c] at IX
    have hq : ((s.extract 1 s.size).extract 0 u.length).data.toList = u := by rw [Lib.extract_data, List.drop_zero, Nat.sub_zero, hrl]; exact ht
    have NX := Lib.hid (NA.out ((s.extract 1 s.size).extract 0 u.length))
    rw [hq] at NX
    obtain ⟨n1, n2⟩ := c
    by_cases hn : namedL u = 0
    · have RQ := Lib.hid (RN.out.trans (if_neg (fun k => k.2 hn)))
      have NX : Hid (Calls Tryd.prog 64 #[.string ((s.extract 1 s.size).extract 0 u.length)] w fun e w' => e = .returned (.tuple #[.int .i32 0, .bool false]) ∧ w = w') := by
        have := NX.out
        rw [hn] at this
        exact Lib.hid this
      rw [RQ.out]
      clear hn RN hix ht hlen hp hq hrl IB NA hu HU hm
      generalize u.length = k at *
      go_enter Tryd.func58, Tryd.ntmps58
      go_wp2_with fail
      refine (IX.out _).mono ?_
      rintro e w1 ⟨rfl, rfl⟩
      go_wp2_with fail
      refine NX.out.mono ?_
      rintro e w1 ⟨rfl, rfl⟩
      go_wp2_with fail
      go_ret2
      exact ⟨rfl, rfl⟩
    · have RQ := Lib.hid (RN.out.trans (if_pos ⟨n1, hn⟩))
      have NX : Hid (Calls Tryd.prog 64 #[.string ((s.extract 1 s.size).extract 0 u.length)] w fun e w' => e = .returned (.tuple #[.int .i32 (namedL u), .bool true]) ∧ w = w') := by
        have := NX.out
        rw [show (!decide (namedL u = 0)) = true by rw [decide_eq_false hn]; rfl] at this
        exact Lib.hid this
      rw [RQ.out]
      clear hn RN hix ht hlen hp hq hrl IB NA hu HU hm RQ
      generalize u.length = k at *
      generalize namedL u = z at *
      go_enter Tryd.func58, Tryd.ntmps58
      go_wp2_with fail
      refine (IX.out _).mono ?_
      rintro e w1 ⟨rfl, rfl⟩
      go_wp2_with fail
      refine NX.out.mono ?_
      rintro e w1 ⟨rfl, rfl⟩
      go_wp2_with fail
      go_ret2
      exact ⟨ret_pair rfl (by omega), rfl⟩
  · rw [if_neg c] at IX
    have RQ := Lib.hid (RN.out.trans (if_neg (fun k => by have := named_facts k.2; omega)))
    rw [RQ.out]
    clear RN hix ht hlen hp hrl IB NA hu HU hm RQ c
    go_enter Tryd.func58, Tryd.ntmps58
    go_wp2_with fail
    refine (IX.out _).mono ?_
    rintro e w1 ⟨rfl, rfl⟩
    go_wp2_with fail
    go_ret2
    exact ⟨rfl, rfl⟩

set_option maxRecDepth 100000 in
theorem refRune_any (s : ByteArray) (w : World) (hs : s.size ≤ maxLen) (hO : Lis w) :
    Calls Tryd.prog 52 #[.string s] w fun e w' => e = .returned (.tuple #[.int .i32 (refL s.data.toList).1, .int .i64 (refL s.data.toList).2]) ∧ w = w' := by
  have P1 := Lib.hid (fun W => Tryd.strings_HasPrefix s ⟨#[38, 35, 120]⟩ W)
  have P2 := Lib.hid (fun W => Tryd.strings_HasPrefix s ⟨#[38, 35, 88]⟩ W)
  have P3 := Lib.hid (fun W => Tryd.strings_HasPrefix s ⟨#[38, 35]⟩ W)
  have P4 := Lib.hid (fun W => Tryd.strings_HasPrefix s ⟨#[38]⟩ W)
  rw [show (⟨#[38, 35, 120]⟩ : ByteArray).data.toList = [38, 35, 120] from rfl] at P1
  rw [show (⟨#[38, 35, 88]⟩ : ByteArray).data.toList = [38, 35, 88] from rfl] at P2
  rw [show (⟨#[38, 35]⟩ : ByteArray).data.toList = [38, 35] from rfl] at P3
  rw [show (⟨#[38]⟩ : ByteArray).data.toList = [38] from rfl] at P4
  cases h1 : hasPrefix s.data.toList [38, 35, 120] with
  | true =>
    have hz : 3 ≤ s.size := pre_size h1
    have NR := Lib.hid (number_hex s w hs hz)
    rw [← refL_hex (.inl h1)] at NR
    rw [h1] at P1
    clear h1 hO
    generalize refL s.data.toList = q at *
    go_enter Tryd.func52, Tryd.ntmps52
    go_wp2_with fail
    refine (P1.out _).mono ?_
    rintro e w1 ⟨rfl, rfl⟩
    go_wp2_with fail
    refine NR.out.mono ?_
    rintro e w1 ⟨rfl, rfl⟩
    go_wp2_with fail
    go_ret2
    exact ⟨rfl, rfl⟩
  | false =>
    rw [h1] at P1
    cases h2 : hasPrefix s.data.toList [38, 35, 88] with
    | true =>
      have hz : 3 ≤ s.size := pre_size h2
      have NR := Lib.hid (number_hex s w hs hz)
      rw [← refL_hex (.inr h2)] at NR
      rw [h2] at P2
      clear h1 h2 hO
      generalize refL s.data.toList = q at *
      go_enter Tryd.func52, Tryd.ntmps52
      go_wp2_with fail
      refine (P1.out _).mono ?_
      rintro e w1 ⟨rfl, rfl⟩
      go_wp2_with fail
      refine (P2.out _).mono ?_
      rintro e w1 ⟨rfl, rfl⟩
      go_wp2_with fail
      refine NR.out.mono ?_
      rintro e w1 ⟨rfl, rfl⟩
      go_wp2_with fail
      go_ret2
      exact ⟨rfl, rfl⟩
    | false =>
      rw [h2] at P2
      cases h3 : hasPrefix s.data.toList [38, 35] with
      | true =>
        have hz : 2 ≤ s.size := pre_size h3
        have NR := Lib.hid (number_dec s w hs hz)
        rw [← refL_dec h1 h2 h3] at NR
        rw [h3] at P3
        clear h1 h2 h3 hO
        generalize refL s.data.toList = q at *
        go_enter Tryd.func52, Tryd.ntmps52
        go_wp2_with fail
        refine (P1.out _).mono ?_
        rintro e w1 ⟨rfl, rfl⟩
        go_wp2_with fail
        refine (P2.out _).mono ?_
        rintro e w1 ⟨rfl, rfl⟩
        go_wp2_with fail
        refine (P3.out _).mono ?_
        rintro e w1 ⟨rfl, rfl⟩
        go_wp2_with fail
        refine NR.out.mono ?_
        rintro e w1 ⟨rfl, rfl⟩
        go_wp2_with fail
        go_ret2
        exact ⟨rfl, rfl⟩
      | false =>
        rw [h3] at P3
        cases h4 : hasPrefix s.data.toList [38] with
        | true =>
          have NR := Lib.hid (nameRune_any s w hs h3 h4 hO)
          rw [h4] at P4
          clear h1 h2 h3 h4 hO
          generalize refL s.data.toList = q at *
          go_enter Tryd.func52, Tryd.ntmps52
          go_wp2_with fail
          refine (P1.out _).mono ?_
          rintro e w1 ⟨rfl, rfl⟩
          go_wp2_with fail
          refine (P2.out _).mono ?_
          rintro e w1 ⟨rfl, rfl⟩
          go_wp2_with fail
          refine (P3.out _).mono ?_
          rintro e w1 ⟨rfl, rfl⟩
          go_wp2_with fail
          refine (P4.out _).mono ?_
          rintro e w1 ⟨rfl, rfl⟩
          go_wp2_with fail
          refine NR.out.mono ?_
          rintro e w1 ⟨rfl, rfl⟩
          go_wp2_with fail
          go_ret2
          exact ⟨rfl, rfl⟩
        | false =>
          have RQ := Lib.hid (refL_no h4)
          rw [RQ.out]
          rw [h4] at P4
          clear h1 h2 h3 h4 hO
          go_enter Tryd.func52, Tryd.ntmps52
          go_wp2_with fail
          refine (P1.out _).mono ?_
          rintro e w1 ⟨rfl, rfl⟩
          go_wp2_with fail
          refine (P2.out _).mono ?_
          rintro e w1 ⟨rfl, rfl⟩
          go_wp2_with fail
          refine (P3.out _).mono ?_
          rintro e w1 ⟨rfl, rfl⟩
          go_wp2_with fail
          refine (P4.out _).mono ?_
          rintro e w1 ⟨rfl, rfl⟩
          go_wp2_with fail
          go_ret2
          exact ⟨rfl, rfl⟩
theorem refB_of {l : List UInt8} {r n : Nat} (h : refL l = (r, n)) (hn : n ≠ 0) : refB l = encodeRune (r : Nat) := by
  unfold refB; rw [h]; exact if_neg hn
theorem enc_str (n : Nat) (h : okR (n : Int)) : Utf8.encode (n : Int) = ⟨(encodeRune (n : Int)).toArray⟩ := bytes_eq (by rw [enc_eq _ h])
set_option maxRecDepth 100000 in
theorem ref_any (s : ByteArray) (w : World) (hs : s.size ≤ maxLen) (hO : Lis w) :
    Calls Tryd.prog 49 #[.string s] w fun e w' => e = .returned (.tuple #[.string ⟨(refB s.data.toList).toArray⟩, .int .i64 (refL s.data.toList).2]) ∧ w = w' := by
  have RR := Lib.hid (refRune_any s w hs hO)
  have RF := refL_facts s.data.toList
  unfold refB
  clear hs hO
  generalize refL s.data.toList = q at *
  obtain ⟨r, n⟩ := q
  dsimp only at *
  rcases RF with e | ⟨h1, h2, _, _, h3⟩
  · obtain ⟨rfl, rfl⟩ := Prod.mk.inj e
    clear e
    go_enter Tryd.func49, Tryd.ntmps49
    go_wp2_with fail
    refine RR.out.mono ?_
    rintro e w1 ⟨rfl, rfl⟩
    go_wp2_with fail
    go_ret2
    exact ⟨rfl, rfl⟩
  · have E := Lib.hid (enc_str r h3)
    have t0 : ((n : Int) == 0) = false := beq_eq_false_iff_ne.2 (by omega)
    rw [if_neg (by omega)]
    clear h1 h2 h3
    go_enter Tryd.func49, Tryd.ntmps49
    go_wp2_with fail
    refine RR.out.mono ?_
    rintro e w1 ⟨rfl, rfl⟩
    go_wp2_with fail
    go_ret2
    exact ⟨by rw [← E.out]; rfl, rfl⟩
end Go.Proofs.YtonajkcdkihchaaDoor
