/-
  Contracts of letter, digit, number, of the document's answer.
-/
import Derived.Test.YtmljngahlkhihaaDoorNmc
import Derived.Test.YtmljngahlkhihaaDoorNmg
namespace Go.Proofs.YtmljngahlkhihaaDoor
open Go.RowKit Go.Lib

def letB (b : UInt8) : Bool := decide ((97 ≤ (b.toNat : Int) ∧ (b.toNat : Int) ≤ 122) ∨ (65 ≤ (b.toNat : Int) ∧ (b.toNat : Int) ≤ 90))
theorem letter_go (x : Int) (w : World) (h0 : 0 ≤ x) (h1 : x < 256) :
    Calls Tryd.prog 19 #[.int .u8 x] w fun e w' => e = .returned (.bool (decide ((97 ≤ x ∧ x ≤ 122) ∨ (65 ≤ x ∧ x ≤ 90)))) ∧ w = w' := by
  have hw : ((97 ≤ x ∧ x ≤ 122) ∨ (65 ≤ x ∧ x ≤ 90)) ∨ (x < 65 ∨ (90 < x ∧ x < 97) ∨ 122 < x) := by omega
  rcases hw with hw | hw
  · rw [decide_eq_true hw]
    rcases hw with ⟨a, b⟩ | ⟨a, b⟩
    all_goals
      go_enter Tryd.func19, Tryd.ntmps19
      go_wp2
      go_ret
      exact ⟨ret_bool (by first | rfl | (simp; omega)), rfl⟩
  · rw [decide_eq_false (by omega)]
    rcases hw with a | ⟨a, b⟩ | a
    all_goals
      go_enter Tryd.func19, Tryd.ntmps19
      go_wp2
      go_ret
      exact ⟨ret_bool (by first | rfl | (simp; omega)), rfl⟩
theorem letter_any (b : UInt8) (w : World) :
    Calls Tryd.prog 19 #[.int .u8 (b.toNat : Nat)] w fun e w' => e = .returned (.bool (letB b)) ∧ w = w' := by
  have hb := b.toNat_lt
  exact letter_go _ w (by omega) (by omega)
theorem rdigit_go (x : Int) (base : Int) (hb : base = 10 ∨ base = 16) (w : World) (h0 : 0 ≤ x) (h1 : x < 256) (d : Int) (hd : d = if 48 ≤ x ∧ x ≤ 57 then x - 48 else if 97 ≤ x ∧ x ≤ 102 then x - 87 else if 65 ≤ x ∧ x ≤ 70 then x - 55 else 16) :
    Calls Tryd.prog 28 #[.int .u8 x, .int .i64 base] w fun e w' => e = .returned (.int .i64 (if d < base then d else -1)) ∧ w = w' := by
  by_cases a1 : 48 ≤ x ∧ x ≤ 57
  · rw [if_pos a1] at hd
    subst hd
    obtain ⟨a1, a2⟩ := a1
    rcases hb with rfl | rfl
    all_goals
      rw [if_pos (by omega)]
      go_enter Tryd.func28, Tryd.ntmps28
      go_wp2
      go_ret
      exact ⟨ret_int (by omega), rfl⟩
  · rw [if_neg a1] at hd
    by_cases a2 : 97 ≤ x ∧ x ≤ 102
    · rw [if_pos a2] at hd
      subst hd
      obtain ⟨a2, a3⟩ := a2
      clear a1
      rcases hb with rfl | rfl
      · rw [if_neg (by omega)]
        go_enter Tryd.func28, Tryd.ntmps28
        go_wp2
        go_ret
        exact ⟨ret_int (by omega), rfl⟩
      · rw [if_pos (by omega)]
        go_enter Tryd.func28, Tryd.ntmps28
        go_wp2
        go_ret
        exact ⟨ret_int (by omega), rfl⟩
    · rw [if_neg a2] at hd
      by_cases a3 : 65 ≤ x ∧ x ≤ 70
      · rw [if_pos a3] at hd
        subst hd
        obtain ⟨a3, a4⟩ := a3
        clear a1 a2
        rcases hb with rfl | rfl
        · rw [if_neg (by omega)]
          go_enter Tryd.func28, Tryd.ntmps28
          go_wp2
          go_ret
          exact ⟨ret_int (by omega), rfl⟩
        · rw [if_pos (by omega)]
          go_enter Tryd.func28, Tryd.ntmps28
          go_wp2
          go_ret
          exact ⟨ret_int (by omega), rfl⟩
      · rw [if_neg a3] at hd
        subst hd
        have hw : x < 48 ∨ (57 < x ∧ x < 65) ∨ (70 < x ∧ x < 97) ∨ 102 < x := by omega
        clear a1 a2 a3
        rw [if_neg (by omega)]
        rcases hb with rfl | rfl
        all_goals
          rcases hw with a | ⟨a, b⟩ | ⟨a, b⟩ | a
          all_goals
            go_enter Tryd.func28, Tryd.ntmps28
            go_wp2
            go_ret
            exact ⟨rfl, rfl⟩
theorem rdigit_any (b : UInt8) (base : Nat) (hb : base = 10 ∨ base = 16) (w : World) :
    Calls Tryd.prog 28 #[.int .u8 (b.toNat : Nat), .int .i64 base] w fun e w' => e = .returned (.int .i64 (if hexD b < base then (hexD b : Int) else -1)) ∧ w = w' := by
  have hc := b.toNat_lt
  have e : (if hexD b < base then (hexD b : Int) else -1) = if ((hexD b : Nat) : Int) < (base : Int) then ((hexD b : Nat) : Int) else -1 := by
    by_cases h : hexD b < base
    · rw [if_pos h, if_pos (by omega)]
    · rw [if_neg h, if_neg (by omega)]
  rw [e]
  refine rdigit_go _ base (by omega) w (by omega) (by omega) _ ?_
  unfold hexD
  have b1 : (48 ≤ (b.toNat : Int) ∧ (b.toNat : Int) ≤ 57) ↔ (48 ≤ b.toNat ∧ b.toNat ≤ 57) := by omega
  have b2 : (97 ≤ (b.toNat : Int) ∧ (b.toNat : Int) ≤ 102) ↔ (97 ≤ b.toNat ∧ b.toNat ≤ 102) := by omega
  have b3 : (65 ≤ (b.toNat : Int) ∧ (b.toNat : Int) ≤ 70) ↔ (65 ≤ b.toNat ∧ b.toNat ≤ 70) := by omega
  simp only [b1, b2, b3]
  clear b1 b2 b3 e
  split
  · omega
  · split
    · omega
    · split <;> omega
theorem num_bad {base most : Nat} {l : List UInt8} {k : Nat} (h : k < l.length) (hd : ¬ hexD l[k] < base) : numL base most l = 0 := by
  refine numL_no (.inr (.inr ?_))
  rw [List.all_eq_false]
  exact ⟨l[k], List.getElem_mem h, by rw [dig_ge hd]; exact Bool.false_ne_true⟩
theorem num_end {base most : Nat} {l : List UInt8} {k v : Nat} (h : Scan base l k v) (hk : k = l.length) (h1 : 1 ≤ l.length) (h2 : l.length ≤ most) : numL base most l = runeOf v := by
  subst hk
  rw [numL_yes (fun e => by rw [e] at h1; simp at h1) h2 (List.all_eq_true.2 fun b hb => by
    obtain ⟨j, hj, rfl⟩ := List.getElem_of_mem hb
    exact h.all j hj hj), h.num, List.take_of_length_le (Nat.le_refl _)]

set_option maxHeartbeats 1000000 in
theorem rnumber_hex (s : ByteArray) (w : World) (hs : s.size ≤ maxLen) :
    Calls Tryd.prog 20 #[.string s, .int .i64 16, .int .i64 6] w fun e w' => e = .returned (.tuple #[.int .i32 (numL 16 6 s.data.toList), .bool (!decide (numL 16 6 s.data.toList = 0))]) ∧ w = w' := by
  have hlen := bytes_len s
  unfold maxLen at hs
  by_cases c1 : s.size < 1
  · have E : numL 16 6 s.data.toList = 0 := numL_no (.inl (List.eq_nil_of_length_eq_zero (by omega)))
    rw [E]
    clear E hlen
    go_enter Tryd.func20, Tryd.ntmps20
    go_wp2
    go_ret2
    exact ⟨rfl, rfl⟩
  · by_cases c2 : 6 < s.size
    · have E : numL 16 6 s.data.toList = 0 := numL_no (.inr (.inl (by omega)))
      rw [E]
      clear E hlen
      go_enter Tryd.func20, Tryd.ntmps20
      go_wp2
      go_ret2
      exact ⟨rfl, rfl⟩
    · have DG := Lib.hid (fun b W => rdigit_any b 16 (by omega) W)
      have HL := Lib.hid hlen
      obtain ⟨l, hl⟩ : ∃ l, s.data.toList = l := ⟨_, rfl⟩
      have AT : Hid (∀ (k : Nat) (h : k < l.length) (h' : k < s.size), l[k] = s[k]) := by
        subst hl; exact Lib.hid fun k h h' => rfl
      rw [hl] at HL ⊢
      clear hl hlen
      go_enter Tryd.func20, Tryd.ntmps20
      go_wp2_with fail
      go_loop [8, 9] (fun n i => ∃ (k v : Nat), k ≤ s.size ∧ Hid (Scan 16 l k v) ∧ n = .int .i64 v ∧ i = .int .i64 k) (fun _ i => s.size - (RowKit.intOf i).toNat)
      case atStart => exact ⟨0, 0, by omega, Lib.hid (scan_start _ _), rfl, rfl⟩
      case round =>
        obtain ⟨k, v, hk, HS, rfl, rfl⟩ := hrel
        have hbd := scan_bd HS.out
        have vmax : v ≤ 16777215 := by
          have : 16 ^ k ≤ 16 ^ 6 := Nat.pow_le_pow_right (by omega) (by omega)
          have : 16 ^ 6 = 16777215 + 1 := by decide
          omega
        by_cases c3 : k < s.size
        · have hkl : k < l.length := by have := HL.out; omega
          have hb : l[k] = s[k] := AT.out k hkl c3
          have D1 := Lib.hid (fun W => DG.out s[k] W)
          by_cases c4 : hexD s[k] < 16
          · have hn := scan_next HS.out hkl (by rw [hb]; exact c4)
            rw [hb] at hn
            have HN := Lib.hid hn
            have v5 : v ≤ 1048575 := by
              have : 16 ^ k ≤ 16 ^ 5 := Nat.pow_le_pow_right (by omega) (by omega)
              have : 16 ^ 5 = 1048575 + 1 := by decide
              omega
            rw [if_pos c4] at D1
            have d0 : (0 : Int) ≤ (hexD s[k] : Int) := by omega
            have c5 : (hexD s[k] : Int) < 16 := by omega
            have HE : Hid ((v : Int) * 16 + (hexD s[k] : Int) = ((v * 16 + hexD s[k] : Nat) : Int)) := Lib.hid (by omega)
            clear hn hb hkl hbd c4
            generalize hexD s[k] = d at *
            go_wp2_with fail
            refine (D1.out _).mono ?_
            rintro e w1 ⟨rfl, rfl⟩
            go_wp2_with fail
            go_round
            case rel => exact ⟨k + 1, _, by omega, HN, by rw [← HE.out], by go_num⟩
            case measure => simp [RowKit.intOf]; omega
          · have E := Lib.hid (num_bad (most := 6) hkl (by rw [hb]; exact c4))
            rw [if_neg c4] at D1
            clear hb hkl hbd c4
            go_wp2_with fail
            refine (D1.out _).mono ?_
            rintro e w1 ⟨rfl, rfl⟩
            go_wp2_with fail
            go_ret2
            exact ⟨by rw [E.out]; rfl, rfl⟩
        · have hE := num_end (most := 6) HS.out (by have := HL.out; omega) (by have := HL.out; omega) (by have := HL.out; omega)
          have hne := (runeOf_ok v).1
          have E := Lib.hid hE
          have E0 := Lib.hid (show (!decide (numL 16 6 l = 0)) = true by rw [hE, decide_eq_false hne]; rfl)
          by_cases c4 : v = 0
          · have R := Lib.hid (show runeOf v = 65533 by unfold runeOf; rw [if_pos (.inl c4)])
            subst c4
            clear hE hne hbd
            go_wp2_with fail
            go_ret2
            exact ⟨by rw [E0.out, E.out, R.out]; rfl, rfl⟩
          · have t0 : ((v : Int) == 0) = false := beq_eq_false_iff_ne.2 (by omega)
            by_cases c5 : 1114111 < v
            · have R := Lib.hid (show runeOf v = 65533 by unfold runeOf; rw [if_pos (.inr (.inl c5))])
              clear hE hne hbd
              have V : Hid (v = v) := Lib.hid rfl
              obtain ⟨x, hx⟩ : ∃ x : Int, x = (v : Int) := ⟨_, rfl⟩
              have x1 : 1114111 < x := by omega
              have x2 : x ≤ 16777215 := by omega
              rw [← hx] at t0 ⊢
              clear c4 c5 vmax V
              have HX := Lib.hid hx
              clear hx
              go_wp2_with fail
              go_ret2
              exact ⟨by rw [E0.out, E.out, R.out]; rfl, rfl⟩
            · by_cases c6 : 55296 ≤ v ∧ v < 57344
              · have R := Lib.hid (show runeOf v = 65533 by unfold runeOf; rw [if_pos (.inr (.inr c6))])
                obtain ⟨x, hx⟩ : ∃ x : Int, x = (v : Int) := ⟨_, rfl⟩
                have x1 : 55296 ≤ x := by omega
                have x2 : x ≤ 57343 := by omega
                clear hE hne hbd c4 c5 c6 vmax
                rw [← hx] at t0 ⊢
                have HX := Lib.hid hx
                clear hx
                go_wp2_with fail
                go_ret2
                exact ⟨by rw [E0.out, E.out, R.out]; rfl, rfl⟩
              · have R := Lib.hid (show runeOf v = v by unfold runeOf; rw [if_neg (by omega)])
                obtain ⟨x, hx⟩ : ∃ x : Int, x = (v : Int) := ⟨_, rfl⟩
                have hw : x < 55296 ∨ 57343 < x := by omega
                have x2 : x ≤ 1114111 := by omega
                have x0 : 0 ≤ x := by omega
                clear hE hne hbd c4 c5 c6 vmax
                rw [← hx] at t0 ⊢
                have HX := Lib.hid hx
                clear hx
                rcases hw with hw | hw
                all_goals
                  go_wp2_with fail
                  go_ret2
                  exact ⟨by rw [E0.out, E.out, R.out, ← HX.out]; rfl, rfl⟩

set_option maxHeartbeats 1000000 in
theorem rnumber_dec (s : ByteArray) (w : World) (hs : s.size ≤ maxLen) :
    Calls Tryd.prog 20 #[.string s, .int .i64 10, .int .i64 7] w fun e w' => e = .returned (.tuple #[.int .i32 (numL 10 7 s.data.toList), .bool (!decide (numL 10 7 s.data.toList = 0))]) ∧ w = w' := by
  have hlen := bytes_len s
  unfold maxLen at hs
  by_cases c1 : s.size < 1
  · have E : numL 10 7 s.data.toList = 0 := numL_no (.inl (List.eq_nil_of_length_eq_zero (by omega)))
    rw [E]
    clear E hlen
    go_enter Tryd.func20, Tryd.ntmps20
    go_wp2
    go_ret2
    exact ⟨rfl, rfl⟩
  · by_cases c2 : 7 < s.size
    · have E : numL 10 7 s.data.toList = 0 := numL_no (.inr (.inl (by omega)))
      rw [E]
      clear E hlen
      go_enter Tryd.func20, Tryd.ntmps20
      go_wp2
      go_ret2
      exact ⟨rfl, rfl⟩
    · have DG := Lib.hid (fun b W => rdigit_any b 10 (by omega) W)
      have HL := Lib.hid hlen
      obtain ⟨l, hl⟩ : ∃ l, s.data.toList = l := ⟨_, rfl⟩
      have AT : Hid (∀ (k : Nat) (h : k < l.length) (h' : k < s.size), l[k] = s[k]) := by
        subst hl; exact Lib.hid fun k h h' => rfl
      rw [hl] at HL ⊢
      clear hl hlen
      go_enter Tryd.func20, Tryd.ntmps20
      go_wp2_with fail
      go_loop [8, 9] (fun n i => ∃ (k v : Nat), k ≤ s.size ∧ Hid (Scan 10 l k v) ∧ n = .int .i64 v ∧ i = .int .i64 k) (fun _ i => s.size - (RowKit.intOf i).toNat)
      case atStart => exact ⟨0, 0, by omega, Lib.hid (scan_start _ _), rfl, rfl⟩
      case round =>
        obtain ⟨k, v, hk, HS, rfl, rfl⟩ := hrel
        have hbd := scan_bd HS.out
        have vmax : v ≤ 9999999 := by
          have : 10 ^ k ≤ 10 ^ 7 := Nat.pow_le_pow_right (by omega) (by omega)
          have : 10 ^ 7 = 9999999 + 1 := by decide
          omega
        by_cases c3 : k < s.size
        · have hkl : k < l.length := by have := HL.out; omega
          have hb : l[k] = s[k] := AT.out k hkl c3
          have D1 := Lib.hid (fun W => DG.out s[k] W)
          by_cases c4 : hexD s[k] < 10
          · have hn := scan_next HS.out hkl (by rw [hb]; exact c4)
            rw [hb] at hn
            have HN := Lib.hid hn
            have v5 : v ≤ 999999 := by
              have : 10 ^ k ≤ 10 ^ 6 := Nat.pow_le_pow_right (by omega) (by omega)
              have : 10 ^ 6 = 999999 + 1 := by decide
              omega
            rw [if_pos c4] at D1
            have d0 : (0 : Int) ≤ (hexD s[k] : Int) := by omega
            have c5 : (hexD s[k] : Int) < 10 := by omega
            have HE : Hid ((v : Int) * 10 + (hexD s[k] : Int) = ((v * 10 + hexD s[k] : Nat) : Int)) := Lib.hid (by omega)
            clear hn hb hkl hbd c4
            generalize hexD s[k] = d at *
            go_wp2_with fail
            refine (D1.out _).mono ?_
            rintro e w1 ⟨rfl, rfl⟩
            go_wp2_with fail
            go_round
            case rel => exact ⟨k + 1, _, by omega, HN, by rw [← HE.out], by go_num⟩
            case measure => simp [RowKit.intOf]; omega
          · have E := Lib.hid (num_bad (most := 7) hkl (by rw [hb]; exact c4))
            rw [if_neg c4] at D1
            clear hb hkl hbd c4
            go_wp2_with fail
            refine (D1.out _).mono ?_
            rintro e w1 ⟨rfl, rfl⟩
            go_wp2_with fail
            go_ret2
            exact ⟨by rw [E.out]; rfl, rfl⟩
        · have hE := num_end (most := 7) HS.out (by have := HL.out; omega) (by have := HL.out; omega) (by have := HL.out; omega)
          have hne := (runeOf_ok v).1
          have E := Lib.hid hE
          have E0 := Lib.hid (show (!decide (numL 10 7 l = 0)) = true by rw [hE, decide_eq_false hne]; rfl)
          by_cases c4 : v = 0
          · have R := Lib.hid (show runeOf v = 65533 by unfold runeOf; rw [if_pos (.inl c4)])
            subst c4
            clear hE hne hbd
            go_wp2_with fail
            go_ret2
            exact ⟨by rw [E0.out, E.out, R.out]; rfl, rfl⟩
          · have t0 : ((v : Int) == 0) = false := beq_eq_false_iff_ne.2 (by omega)
            by_cases c5 : 1114111 < v
            · have R := Lib.hid (show runeOf v = 65533 by unfold runeOf; rw [if_pos (.inr (.inl c5))])
              clear hE hne hbd
              have V : Hid (v = v) := Lib.hid rfl
              obtain ⟨x, hx⟩ : ∃ x : Int, x = (v : Int) := ⟨_, rfl⟩
              have x1 : 1114111 < x := by omega
              have x2 : x ≤ 9999999 := by omega
              rw [← hx] at t0 ⊢
              clear c4 c5 vmax V
              have HX := Lib.hid hx
              clear hx
              go_wp2_with fail
              go_ret2
              exact ⟨by rw [E0.out, E.out, R.out]; rfl, rfl⟩
            · by_cases c6 : 55296 ≤ v ∧ v < 57344
              · have R := Lib.hid (show runeOf v = 65533 by unfold runeOf; rw [if_pos (.inr (.inr c6))])
                obtain ⟨x, hx⟩ : ∃ x : Int, x = (v : Int) := ⟨_, rfl⟩
                have x1 : 55296 ≤ x := by omega
                have x2 : x ≤ 57343 := by omega
                clear hE hne hbd c4 c5 c6 vmax
                rw [← hx] at t0 ⊢
                have HX := Lib.hid hx
                clear hx
                go_wp2_with fail
                go_ret2
                exact ⟨by rw [E0.out, E.out, R.out]; rfl, rfl⟩
              · have R := Lib.hid (show runeOf v = v by unfold runeOf; rw [if_neg (by omega)])
                obtain ⟨x, hx⟩ : ∃ x : Int, x = (v : Int) := ⟨_, rfl⟩
                have hw : x < 55296 ∨ 57343 < x := by omega
                have x2 : x ≤ 1114111 := by omega
                have x0 : 0 ≤ x := by omega
                clear hE hne hbd c4 c5 c6 vmax
                rw [← hx] at t0 ⊢
                have HX := Lib.hid hx
                clear hx
                rcases hw with hw | hw
                all_goals
                  go_wp2_with fail
                  go_ret2
                  exact ⟨by rw [E0.out, E.out, R.out, ← HX.out]; rfl, rfl⟩
end Go.Proofs.YtmljngahlkhihaaDoor
