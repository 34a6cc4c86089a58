/-
  Texts of the proof, one behind the other: Nmb, Nmc, Nmd.
-/
import Derived.Test.YtfgpephpkibbaaaGreatDoorQ12
import Derived.Test.YtfgpephpkibbaaaGreatDoorQ1
import Derived.Test.YtfgpephpkibbaaaGreatDoorQ3
import Derived.Test.YtfgpephpkibbaaaGreatDoorQ8
/-
  Contracts of digitOf, known, numberRune, nameRune, refRune, Ref, of the package.
-/
namespace Go.Proofs.YtfgpephpkibbaaaGreatDoor
open Go.RowKit Go.Lib

set_option maxRecDepth 100000 in
theorem digit_go (x : Int) (w : World) (h0 : 0 ≤ x) (h1 : x < 256) :
    Calls Tryz.prog 205 #[.int .u8 x] w fun e w' => e = .returned (.int .i64 (if 48 ≤ x ∧ x ≤ 57 then x - 48 else if 97 ≤ x ∧ x ≤ 102 then x - 87 else if 65 ≤ x ∧ x ≤ 70 then x - 55 else 16)) ∧ w = w' := by
  by_cases a1 : 48 ≤ x ∧ x ≤ 57
  · rw [if_pos a1]
    obtain ⟨a1, a2⟩ := a1
    go_enter Tryz.func205, Tryz.ntmps205
    go_wp2
    go_ret
    exact ⟨rfl, rfl⟩
  · rw [if_neg a1]
    have a1 : x < 48 ∨ 57 < x := by omega
    by_cases a2 : 97 ≤ x ∧ x ≤ 102
    · rw [if_pos a2]
      obtain ⟨a2, a3⟩ := a2
      have a1 : 57 < x := by omega
      go_enter Tryz.func205, Tryz.ntmps205
      go_wp2
      go_ret
      exact ⟨ret_int (by omega), rfl⟩
    · rw [if_neg a2]
      by_cases a3 : 65 ≤ x ∧ x ≤ 70
      · rw [if_pos a3]
        obtain ⟨a3, a4⟩ := a3
        have a1 : 57 < x := by omega
        have a2 : x < 97 := by omega
        go_enter Tryz.func205, Tryz.ntmps205
        go_wp2
        go_ret
        exact ⟨ret_int (by omega), rfl⟩
      · rw [if_neg a3]
        have hw : x < 48 ∨ (57 < x ∧ x < 65) ∨ (70 < x ∧ x < 97) ∨ 102 < x := by omega
        clear a1 a2 a3
        rcases hw with a | ⟨a, b⟩ | ⟨a, b⟩ | a
        all_goals
          go_enter Tryz.func205, Tryz.ntmps205
          go_wp2
          go_ret
          exact ⟨rfl, rfl⟩
theorem digit_any (b : UInt8) (w : World) :
    Calls Tryz.prog 205 #[.int .u8 (b.toNat : Nat)] w fun e w' => e = .returned (.int .i64 (hexD b : Nat)) ∧ w = w' := by
  have hb := b.toNat_lt
  have e : ((hexD b : Nat) : Int) = (if 48 ≤ (b.toNat : Int) ∧ (b.toNat : Int) ≤ 57 then (b.toNat : Int) - 48 else if 97 ≤ (b.toNat : Int) ∧ (b.toNat : Int) ≤ 102 then (b.toNat : Int) - 87 else if 65 ≤ (b.toNat : Int) ∧ (b.toNat : Int) ≤ 70 then (b.toNat : Int) - 55 else 16) := by
    unfold hexD
    have b1 : (48 ≤ (b.toNat : Int) ∧ (b.toNat : Int) ≤ 57) ↔ (48 ≤ b.toNat ∧ b.toNat ≤ 57) := by omega
    have b2 : (97 ≤ (b.toNat : Int) ∧ (b.toNat : Int) ≤ 102) ↔ (97 ≤ b.toNat ∧ b.toNat ≤ 102) := by omega
    have b3 : (65 ≤ (b.toNat : Int) ∧ (b.toNat : Int) ≤ 70) ↔ (65 ≤ b.toNat ∧ b.toNat ≤ 70) := by omega
    simp only [b1, b2, b3]
    clear b1 b2 b3
    split
    · omega
    · split
      · omega
      · split <;> omega
  rw [e]
  exact digit_go _ w (by omega) (by omega)

set_option maxRecDepth 100000 in
theorem valid_go (x : Int) (w : World) :
    Calls Tryz.prog 181 #[.int .i32 x] w fun e w' => e = .returned (.bool ((decide (0 ≤ x) && decide (x < 55296)) || (decide (57343 < x) && decide (x ≤ 1114111)))) ∧ w = w' := by
  by_cases a1 : 0 ≤ x ∧ x < 55296
  · obtain ⟨a1, a2⟩ := a1
    rw [decide_eq_true a1, decide_eq_true a2]
    go_enter Tryz.func181, Tryz.ntmps181
    go_wp2
    go_ret
    exact ⟨rfl, rfl⟩
  · have hf : (decide (0 ≤ x) && decide (x < 55296)) = false := by simp; omega
    rw [hf]
    by_cases a2 : 57343 < x ∧ x ≤ 1114111
    · obtain ⟨a2, a3⟩ := a2
      rw [decide_eq_true a2, decide_eq_true a3]
      clear a1 hf
      go_enter Tryz.func181, Tryz.ntmps181
      go_wp2
      go_ret
      exact ⟨rfl, rfl⟩
    · have hg : (decide (57343 < x) && decide (x ≤ 1114111)) = false := by simp; omega
      rw [hg]
      have hw : x < 0 ∨ (55295 < x ∧ x ≤ 57343) ∨ 1114111 < x := by omega
      clear a1 a2 hf hg
      rcases hw with a | ⟨a, b⟩ | a
      all_goals
        go_enter Tryz.func181, Tryz.ntmps181
        go_wp2
        go_ret
        exact ⟨rfl, rfl⟩
set_option maxRecDepth 100000 in
theorem known_any (n : Nat) (w : World) (h : n ≤ 16777215) :
    Calls Tryz.prog 206 #[.int .i32 n] w fun e w' => e = .returned (.int .i32 (runeOf n : Nat)) ∧ w = w' := by
  have VA := Lib.hid (fun W => valid_go n W)
  by_cases h0 : n = 0
  · subst h0
    go_enter Tryz.func206, Tryz.ntmps206
    go_wp2
    go_ret
    exact ⟨rfl, rfl⟩
  · have t0 : ((n : Int) == 0) = false := beq_eq_false_iff_ne.2 (by omega)
    by_cases hv : 1114111 < n ∨ (55296 ≤ n ∧ n < 57344)
    · have e : runeOf n = 65533 := by unfold runeOf; rw [if_pos (.inr hv)]
      rw [e]
      rw [show ((decide ((0 : Int) ≤ (n : Int)) && decide ((n : Int) < 55296)) || (decide (57343 < (n : Int)) && decide ((n : Int) ≤ 1114111))) = false by simp; omega] at VA
      clear h hv e h0
      generalize (n : Int) = x at *
      go_enter Tryz.func206, Tryz.ntmps206
      go_wp2_with fail
      refine (VA.out _).mono ?_
      rintro e w1 ⟨rfl, rfl⟩
      go_wp2_with fail
      go_ret
      exact ⟨rfl, rfl⟩
    · have e : runeOf n = n := by unfold runeOf; rw [if_neg (by omega)]
      rw [e]
      rw [show ((decide ((0 : Int) ≤ (n : Int)) && decide ((n : Int) < 55296)) || (decide (57343 < (n : Int)) && decide ((n : Int) ≤ 1114111))) = true by simp; omega] at VA
      clear h hv e h0
      generalize (n : Int) = x at *
      go_enter Tryz.func206, Tryz.ntmps206
      go_wp2_with fail
      refine (VA.out _).mono ?_
      rintro e w1 ⟨rfl, rfl⟩
      go_wp2_with fail
      go_ret
      exact ⟨rfl, rfl⟩
end Go.Proofs.YtfgpephpkibbaaaGreatDoor

/-
  Contracts of numberRune, of the package, at its two calls.
-/
namespace Go.Proofs.YtfgpephpkibbaaaGreatDoor
open Go.RowKit Go.Lib

theorem ret_pair {a b c d : Int} (h : a = b) (k : c = d) : Ending.returned (.tuple #[.int .i32 a, .int .i64 c]) = .returned (.tuple #[.int .i32 b, .int .i64 d]) := by rw [h, k]
theorem dig_lt {base : Nat} {b : UInt8} (h : hexD b < base) : isDig base b = true := decide_eq_true h
theorem dig_ge {base : Nat} {b : UInt8} (h : ¬ hexD b < base) : isDig base b = false := decide_eq_false h
/-- So many digits ahead, and their number. -/
structure Scan (base : Nat) (l : List UInt8) (k : Nat) (v : Nat) : Prop where
  room : k ≤ l.length
  all : ∀ (j : Nat) (h : j < l.length), j < k → isDig base l[j] = true
  num : v = numV base (l.take k)
theorem scan_start (base : Nat) (l : List UInt8) : Scan base l 0 0 := ⟨Nat.zero_le _, fun _ _ h => absurd h (Nat.not_lt_zero _), rfl⟩
theorem scan_next {base : Nat} {l : List UInt8} {k v : Nat} (h : Scan base l k v) (hk : k < l.length) (hd : hexD l[k] < base) : Scan base l (k + 1) (v * base + hexD l[k]) :=
  ⟨hk, fun j hj hjk => by
    rcases Nat.lt_or_ge j k with h' | h'
    · exact h.all j hj h'
    · obtain rfl : j = k := by omega
      exact dig_lt hd, by rw [List.take_succ_eq_append_getElem hk, numV_snoc, h.num]⟩
theorem scan_bd {base : Nat} {l : List UInt8} {k v : Nat} (h : Scan base l k v) : v < base ^ k := by
  have h1 := numV_lt base (l.take k) (fun b hb => by
    obtain ⟨j, hj, rfl⟩ := List.getElem_of_mem hb
    rw [List.length_take] at hj
    rw [List.getElem_take]
    exact of_decide_eq_true (h.all j (by omega) (by omega)))
  rw [← h.num, List.length_take, Nat.min_eq_left h.room] at h1
  exact h1
theorem scan_done {base most : Nat} {l : List UInt8} {k v : Nat} (h : Scan base l k v) (hk : k ≤ most) (h2 : k = most ∨ ∀ (h : k < l.length), isDig base l[k] = false) : scanL base most l = l.take k ∧ (scanL base most l).length = k ∧ numV base (scanL base most l) = v := by
  have e := scan_stop hk h.all h2
  rw [e, List.length_take, Nat.min_eq_left h.room, h.num]
  exact ⟨rfl, rfl, rfl⟩
/-- What numberRune answers once the digits are known. -/
theorem nr_zero {base most start : Nat} {l : List UInt8} (h : (scanL base most l).length = 0) : nrL base most start l = (0, 0) := by
  unfold nrL
  rw [if_neg]
  rintro ⟨h1, _⟩
  exact h1 (List.eq_nil_of_length_eq_zero h)
theorem nr_not {base most start k : Nat} {l : List UInt8} (h : (scanL base most l).length = k) (hp : hasPrefix (l.drop k) [59] = false) : nrL base most start l = (0, 0) := by
  subst h
  unfold nrL
  rw [if_neg]
  rintro ⟨_, h1⟩
  rw [hp] at h1; cases h1
theorem nr_yes {base most start k v : Nat} {l : List UInt8} (h : (scanL base most l).length = k) (hk : k ≠ 0) (hv : numV base (scanL base most l) = v) (hp : hasPrefix (l.drop k) [59] = true) : nrL base most start l = (runeOf v, start + k + 1) := by
  subst h hv
  unfold nrL
  rw [if_pos ⟨fun e => hk (by rw [e]; rfl), hp⟩]
theorem at_drop (s : ByteArray) (a k : Nat) (h : k < (s.data.toList.drop a).length) (h' : a + k < s.size) : (s.data.toList.drop a)[k] = s[a + k] := by
  rw [List.getElem_drop]; rfl
theorem len_drop (s : ByteArray) (a : Nat) : (s.data.toList.drop a).length = s.size - a := by rw [List.length_drop]; simp

set_option maxRecDepth 100000 in
set_option maxHeartbeats 1000000 in
theorem number_hex (s : ByteArray) (w : World) (hs : s.size ≤ maxLen) (hst : 3 ≤ s.size) :
    Calls Tryz.prog 197 #[.string s, .int .i64 3, .int .i64 16, .int .i64 6] w fun e w' => e = .returned (.tuple #[.int .i32 (nrL 16 6 3 (s.data.toList.drop 3)).1, .int .i64 (nrL 16 6 3 (s.data.toList.drop 3)).2]) ∧ w = w' := by
  unfold maxLen at hs
  have HP := Lib.hid (fun a b W => Tryz.strings_HasPrefix a b W)
  have DG := Lib.hid (fun b W => digit_any b W)
  have KN := Lib.hid (fun n W h => known_any n W h)
  have LD := Lib.hid (len_drop s 3)
  have AD := Lib.hid (fun k h h' => at_drop s 3 k h h')
  obtain ⟨l, hl⟩ : ∃ l, s.data.toList.drop 3 = l := ⟨_, rfl⟩
  have HL := Lib.hid hl
  rw [hl] at LD
  rw [hl]
  rw [hl] at AD
  clear hl
  go_enter Tryz.func197, Tryz.ntmps197
  go_wp2_with fail
  go_loop [10, 11] (fun n e => ∃ (k p v : Nat), k ≤ 6 ∧ p ≤ s.size ∧ Hid (p = 3 + k) ∧ Hid (Scan 16 l k v) ∧ n = .int .i64 v ∧ e = .int .i64 p) (fun _ e => s.size - (RowKit.intOf e).toNat)
  case atStart => exact ⟨0, 3, 0, by omega, hst, Lib.hid rfl, Lib.hid (scan_start _ _), rfl, rfl⟩
  case round =>
    obtain ⟨k, p, v, hk, hp, HPK, HS, rfl, rfl⟩ := hrel
    have hbd := scan_bd HS.out
    have pk := HPK.out
    -- behind the loop
    have LEAVE : Hid ((k = 6 ∨ ∀ (h : k < l.length), isDig 16 l[k] = false) → (scanL 16 6 l).length = k ∧ numV 16 (scanL 16 6 l) = v) := Lib.hid fun h => (scan_done HS.out hk h).2
    have vmax : v ≤ 16777215 := by
      have : 16 ^ k ≤ 16 ^ 6 := Nat.pow_le_pow_right (by omega) hk
      have : 16 ^ 6 = 16777215 + 1 := by decide
      omega
    have KV := Lib.hid (fun W => KN.out v W (by omega))
    have AFTER : Hid (s.extract p s.size = ⟨(l.drop k).toArray⟩) := by
      have : s.extract p s.size = ⟨(l.drop k).toArray⟩ := by rw [ext_drop, ← HL.out, List.drop_drop, pk]
      exact Lib.hid this
    by_cases c1 : k < 6
    · by_cases c2 : p < s.size
      · have hkl : k < l.length := by have := LD.out; omega
        have hb : l[k] = s[p] := by rw [AD.out k hkl (by omega)]; congr 1; omega
        have D1 := Lib.hid (fun W => DG.out s[p] W)
        have m1 : decide ((p : Int) < min (s.size : Int) 9) = true := decide_eq_true (by omega)
        have m2 : (p : Int) < min (s.size : Int) 9 := by omega
        by_cases c3 : hexD s[p] < 16
        · have hn := scan_next HS.out hkl (by rw [hb]; exact c3)
          rw [hb] at hn
          have HN := Lib.hid hn
          have v5 : v ≤ 1048575 := by
            have : 16 ^ k ≤ 16 ^ 5 := Nat.pow_le_pow_right (by omega) (by omega)
            have : 16 ^ 5 = 1048575 + 1 := by decide
            omega
          have HK2 : Hid (p + 1 = 3 + (k + 1)) := Lib.hid (by omega)
          have d0 : (0 : Int) ≤ (hexD s[p] : Int) := by omega
          have c4 : (hexD s[p] : Int) < 16 := by omega
          have c5 : decide ((16 : Int) ≤ (hexD s[p] : Int)) = false := decide_eq_false (by omega)
          have HE : Hid ((v : Int) * 16 + (hexD s[p] : Int) = ((v * 16 + hexD s[p] : Nat) : Int)) := Lib.hid (by omega)
          have vb : v * 16 + hexD s[p] ≤ 16777215 := by omega
          clear hn hb hkl hbd c3 pk vb
          generalize hexD s[p] = d at *
          go_wp2_with fail
          refine (D1.out _).mono ?_
          rintro e w1 ⟨rfl, rfl⟩
          go_wp2_with fail
          go_round
          case rel => exact ⟨k + 1, p + 1, _, by omega, by omega, HK2, HN, by rw [← HE.out], by go_num⟩
          case measure => simp [RowKit.intOf]; omega
        · have HQ := Lib.hid (LEAVE.out (.inr fun _ => by rw [hb]; exact dig_ge c3))
          have c4 : (16 : Int) ≤ (hexD s[p] : Int) := by omega
          have c5 : decide ((16 : Int) ≤ (hexD s[p] : Int)) = true := decide_eq_true c4
          have d1 : (hexD s[p] : Int) ≤ 16 := by have := hexD_le s[p]; omega
          clear hb hkl hbd c3 pk
          generalize hexD s[p] = d at *
          by_cases c6 : k = 0
          · have t1 : ((p : Int) == 3) = true := beq_iff_eq.2 (by have := HPK.out; omega)
            have HR := Lib.hid (nr_zero (start := 3) (HQ.out.1.trans c6))
            go_wp2_with fail
            refine (D1.out _).mono ?_
            rintro e w1 ⟨rfl, rfl⟩
            go_wp2_with fail
            go_ret2
            exact ⟨by rw [HR.out]; rfl, rfl⟩
          · have t1 : ((p : Int) == 3) = false := beq_eq_false_iff_ne.2 (by have := HPK.out; omega)
            cases hpre : hasPrefix (l.drop k) [59] with
            | true =>
              have HR := Lib.hid (nr_yes (start := 3) HQ.out.1 c6 HQ.out.2 hpre)
              have HPB : Hid (∀ W, Calls Tryz.prog 76 #[.string (s.extract p s.size), .string ⟨#[59]⟩] W fun e w' => e = .returned (.bool true) ∧ w' = W) := Lib.hid fun W => by
                have := HP.out (s.extract p s.size) ⟨#[59]⟩ W
                rw [show (s.extract p s.size).data.toList = l.drop k by rw [AFTER.out], hpre] at this
                exact this
              clear hpre
              go_wp2_with fail
              refine (D1.out _).mono ?_
              rintro e w1 ⟨rfl, rfl⟩
              go_wp2_with fail
              refine (HPB.out _).mono ?_
              rintro e w1 ⟨rfl, rfl⟩
              go_wp2_with fail
              refine (KV.out _).mono ?_
              rintro e w1 ⟨rfl, rfl⟩
              go_wp2_with fail
              go_ret2
              exact ⟨ret_pair (by rw [HR.out]) (by rw [HR.out]; have := HPK.out; dsimp only; first | omega | (rw [IntWalk.wrap64_in _ (by omega)]; omega)), rfl⟩
            | false =>
              have HR := Lib.hid (nr_not (start := 3) HQ.out.1 hpre)
              have HPB : Hid (∀ W, Calls Tryz.prog 76 #[.string (s.extract p s.size), .string ⟨#[59]⟩] W fun e w' => e = .returned (.bool false) ∧ w' = W) := Lib.hid fun W => by
                have := HP.out (s.extract p s.size) ⟨#[59]⟩ W
                rw [show (s.extract p s.size).data.toList = l.drop k by rw [AFTER.out], hpre] at this
                exact this
              clear hpre
              go_wp2_with fail
              refine (D1.out _).mono ?_
              rintro e w1 ⟨rfl, rfl⟩
              go_wp2_with fail
              refine (HPB.out _).mono ?_
              rintro e w1 ⟨rfl, rfl⟩
              go_wp2_with fail
              go_ret2
              exact ⟨ret_pair (by rw [HR.out]; rfl) (by rw [HR.out]; rfl), rfl⟩
      · have hlk : ¬ k < l.length := by have := LD.out; omega
        have HQ := Lib.hid (LEAVE.out (.inr fun h => absurd h hlk))
        have m1 : decide ((p : Int) < min (s.size : Int) 9) = false := decide_eq_false (by omega)
        have m2 : ¬ (p : Int) < min (s.size : Int) 9 := by omega
        clear hlk hbd pk
        by_cases c6 : k = 0
        · have t1 : ((p : Int) == 3) = true := beq_iff_eq.2 (by have := HPK.out; omega)
          have HR := Lib.hid (nr_zero (start := 3) (HQ.out.1.trans c6))
          go_wp2_with fail
          go_ret2
          exact ⟨by rw [HR.out]; rfl, rfl⟩
        · have t1 : ((p : Int) == 3) = false := beq_eq_false_iff_ne.2 (by have := HPK.out; omega)
          cases hpre : hasPrefix (l.drop k) [59] with
          | true =>
            have HR := Lib.hid (nr_yes (start := 3) HQ.out.1 c6 HQ.out.2 hpre)
            have HPB : Hid (∀ W, Calls Tryz.prog 76 #[.string (s.extract p s.size), .string ⟨#[59]⟩] W fun e w' => e = .returned (.bool true) ∧ w' = W) := Lib.hid fun W => by
              have := HP.out (s.extract p s.size) ⟨#[59]⟩ W
              rw [show (s.extract p s.size).data.toList = l.drop k by rw [AFTER.out], hpre] at this
              exact this
            clear hpre
            go_wp2_with fail
            refine (HPB.out _).mono ?_
            rintro e w1 ⟨rfl, rfl⟩
            go_wp2_with fail
            refine (KV.out _).mono ?_
            rintro e w1 ⟨rfl, rfl⟩
            go_wp2_with fail
            go_ret2
            exact ⟨ret_pair (by rw [HR.out]) (by rw [HR.out]; have := HPK.out; dsimp only; first | omega | (rw [IntWalk.wrap64_in _ (by omega)]; omega)), rfl⟩
          | false =>
            have HR := Lib.hid (nr_not (start := 3) HQ.out.1 hpre)
            have HPB : Hid (∀ W, Calls Tryz.prog 76 #[.string (s.extract p s.size), .string ⟨#[59]⟩] W fun e w' => e = .returned (.bool false) ∧ w' = W) := Lib.hid fun W => by
              have := HP.out (s.extract p s.size) ⟨#[59]⟩ W
              rw [show (s.extract p s.size).data.toList = l.drop k by rw [AFTER.out], hpre] at this
              exact this
            clear hpre
            go_wp2_with fail
            refine (HPB.out _).mono ?_
            rintro e w1 ⟨rfl, rfl⟩
            go_wp2_with fail
            go_ret2
            exact ⟨ret_pair (by rw [HR.out]; rfl) (by rw [HR.out]; rfl), rfl⟩
    · have HQ := Lib.hid (LEAVE.out (.inl (by omega)))
      have m1 : decide ((p : Int) < min (s.size : Int) 9) = false := decide_eq_false (by omega)
      have m2 : ¬ (p : Int) < min (s.size : Int) 9 := by omega
      clear hbd pk
      by_cases c6 : k = 0
      · have t1 : ((p : Int) == 3) = true := beq_iff_eq.2 (by have := HPK.out; omega)
        have HR := Lib.hid (nr_zero (start := 3) (HQ.out.1.trans c6))
        go_wp2_with fail
        go_ret2
        exact ⟨by rw [HR.out]; rfl, rfl⟩
      · have t1 : ((p : Int) == 3) = false := beq_eq_false_iff_ne.2 (by have := HPK.out; omega)
        cases hpre : hasPrefix (l.drop k) [59] with
        | true =>
          have HR := Lib.hid (nr_yes (start := 3) HQ.out.1 c6 HQ.out.2 hpre)
          have HPB : Hid (∀ W, Calls Tryz.prog 76 #[.string (s.extract p s.size), .string ⟨#[59]⟩] W fun e w' => e = .returned (.bool true) ∧ w' = W) := Lib.hid fun W => by
            have := HP.out (s.extract p s.size) ⟨#[59]⟩ W
            rw [show (s.extract p s.size).data.toList = l.drop k by rw [AFTER.out], hpre] at this
            exact this
          clear hpre
          go_wp2_with fail
          refine (HPB.out _).mono ?_
          rintro e w1 ⟨rfl, rfl⟩
          go_wp2_with fail
          refine (KV.out _).mono ?_
          rintro e w1 ⟨rfl, rfl⟩
          go_wp2_with fail
          go_ret2
          exact ⟨ret_pair (by rw [HR.out]) (by rw [HR.out]; have := HPK.out; dsimp only; first | omega | (rw [IntWalk.wrap64_in _ (by omega)]; omega)), rfl⟩
        | false =>
          have HR := Lib.hid (nr_not (start := 3) HQ.out.1 hpre)
          have HPB : Hid (∀ W, Calls Tryz.prog 76 #[.string (s.extract p s.size), .string ⟨#[59]⟩] W fun e w' => e = .returned (.bool false) ∧ w' = W) := Lib.hid fun W => by
            have := HP.out (s.extract p s.size) ⟨#[59]⟩ W
            rw [show (s.extract p s.size).data.toList = l.drop k by rw [AFTER.out], hpre] at this
            exact this
          clear hpre
          go_wp2_with fail
          refine (HPB.out _).mono ?_
          rintro e w1 ⟨rfl, rfl⟩
          go_wp2_with fail
          go_ret2
          exact ⟨ret_pair (by rw [HR.out]; rfl) (by rw [HR.out]; rfl), rfl⟩

set_option maxRecDepth 100000 in
set_option maxHeartbeats 1000000 in
theorem number_dec (s : ByteArray) (w : World) (hs : s.size ≤ maxLen) (hst : 2 ≤ s.size) :
    Calls Tryz.prog 197 #[.string s, .int .i64 2, .int .i64 10, .int .i64 7] w fun e w' => e = .returned (.tuple #[.int .i32 (nrL 10 7 2 (s.data.toList.drop 2)).1, .int .i64 (nrL 10 7 2 (s.data.toList.drop 2)).2]) ∧ w = w' := by
  unfold maxLen at hs
  have HP := Lib.hid (fun a b W => Tryz.strings_HasPrefix a b W)
  have DG := Lib.hid (fun b W => digit_any b W)
  have KN := Lib.hid (fun n W h => known_any n W h)
  have LD := Lib.hid (len_drop s 2)
  have AD := Lib.hid (fun k h h' => at_drop s 2 k h h')
  obtain ⟨l, hl⟩ : ∃ l, s.data.toList.drop 2 = l := ⟨_, rfl⟩
  have HL := Lib.hid hl
  rw [hl] at LD
  rw [hl]
  rw [hl] at AD
  clear hl
  go_enter Tryz.func197, Tryz.ntmps197
  go_wp2_with fail
  go_loop [10, 11] (fun n e => ∃ (k p v : Nat), k ≤ 7 ∧ p ≤ s.size ∧ Hid (p = 2 + k) ∧ Hid (Scan 10 l k v) ∧ n = .int .i64 v ∧ e = .int .i64 p) (fun _ e => s.size - (RowKit.intOf e).toNat)
  case atStart => exact ⟨0, 2, 0, by omega, hst, Lib.hid rfl, Lib.hid (scan_start _ _), rfl, rfl⟩
  case round =>
    obtain ⟨k, p, v, hk, hp, HPK, HS, rfl, rfl⟩ := hrel
    have hbd := scan_bd HS.out
    have pk := HPK.out
    -- behind the loop
    have LEAVE : Hid ((k = 7 ∨ ∀ (h : k < l.length), isDig 10 l[k] = false) → (scanL 10 7 l).length = k ∧ numV 10 (scanL 10 7 l) = v) := Lib.hid fun h => (scan_done HS.out hk h).2
    have vmax : v ≤ 9999999 := by
      have : 10 ^ k ≤ 10 ^ 7 := Nat.pow_le_pow_right (by omega) hk
      have : 10 ^ 7 = 9999999 + 1 := by decide
      omega
    have KV := Lib.hid (fun W => KN.out v W (by omega))
    have AFTER : Hid (s.extract p s.size = ⟨(l.drop k).toArray⟩) := by
      have : s.extract p s.size = ⟨(l.drop k).toArray⟩ := by rw [ext_drop, ← HL.out, List.drop_drop, pk]
      exact Lib.hid this
    by_cases c1 : k < 7
    · by_cases c2 : p < s.size
      · have hkl : k < l.length := by have := LD.out; omega
        have hb : l[k] = s[p] := by rw [AD.out k hkl (by omega)]; congr 1; omega
        have D1 := Lib.hid (fun W => DG.out s[p] W)
        have m1 : decide ((p : Int) < min (s.size : Int) 9) = true := decide_eq_true (by omega)
        have m2 : (p : Int) < min (s.size : Int) 9 := by omega
        by_cases c3 : hexD s[p] < 10
        · have hn := scan_next HS.out hkl (by rw [hb]; exact c3)
          rw [hb] at hn
          have HN := Lib.hid hn
          have v5 : v ≤ 999999 := by
            have : 10 ^ k ≤ 10 ^ 6 := Nat.pow_le_pow_right (by omega) (by omega)
            have : 10 ^ 6 = 999999 + 1 := by decide
            omega
          have HK2 : Hid (p + 1 = 2 + (k + 1)) := Lib.hid (by omega)
          have d0 : (0 : Int) ≤ (hexD s[p] : Int) := by omega
          have c4 : (hexD s[p] : Int) < 10 := by omega
          have c5 : decide ((10 : Int) ≤ (hexD s[p] : Int)) = false := decide_eq_false (by omega)
          have HE : Hid ((v : Int) * 10 + (hexD s[p] : Int) = ((v * 10 + hexD s[p] : Nat) : Int)) := Lib.hid (by omega)
          have vb : v * 10 + hexD s[p] ≤ 9999999 := by omega
          clear hn hb hkl hbd c3 pk vb
          generalize hexD s[p] = d at *
          go_wp2_with fail
          refine (D1.out _).mono ?_
          rintro e w1 ⟨rfl, rfl⟩
          go_wp2_with fail
          go_round
          case rel => exact ⟨k + 1, p + 1, _, by omega, by omega, HK2, HN, by rw [← HE.out], by go_num⟩
          case measure => simp [RowKit.intOf]; omega
        · have HQ := Lib.hid (LEAVE.out (.inr fun _ => by rw [hb]; exact dig_ge c3))
          have c4 : (10 : Int) ≤ (hexD s[p] : Int) := by omega
          have c5 : decide ((10 : Int) ≤ (hexD s[p] : Int)) = true := decide_eq_true c4
          have d1 : (hexD s[p] : Int) ≤ 16 := by have := hexD_le s[p]; omega
          clear hb hkl hbd c3 pk
          generalize hexD s[p] = d at *
          by_cases c6 : k = 0
          · have t1 : ((p : Int) == 2) = true := beq_iff_eq.2 (by have := HPK.out; omega)
            have HR := Lib.hid (nr_zero (start := 2) (HQ.out.1.trans c6))
            go_wp2_with fail
            refine (D1.out _).mono ?_
            rintro e w1 ⟨rfl, rfl⟩
            go_wp2_with fail
            go_ret2
            exact ⟨by rw [HR.out]; rfl, rfl⟩
          · have t1 : ((p : Int) == 2) = false := beq_eq_false_iff_ne.2 (by have := HPK.out; omega)
            cases hpre : hasPrefix (l.drop k) [59] with
            | true =>
              have HR := Lib.hid (nr_yes (start := 2) HQ.out.1 c6 HQ.out.2 hpre)
              have HPB : Hid (∀ W, Calls Tryz.prog 76 #[.string (s.extract p s.size), .string ⟨#[59]⟩] W fun e w' => e = .returned (.bool true) ∧ w' = W) := Lib.hid fun W => by
                have := HP.out (s.extract p s.size) ⟨#[59]⟩ W
                rw [show (s.extract p s.size).data.toList = l.drop k by rw [AFTER.out], hpre] at this
                exact this
              clear hpre
              go_wp2_with fail
              refine (D1.out _).mono ?_
              rintro e w1 ⟨rfl, rfl⟩
              go_wp2_with fail
              refine (HPB.out _).mono ?_
              rintro e w1 ⟨rfl, rfl⟩
              go_wp2_with fail
              refine (KV.out _).mono ?_
              rintro e w1 ⟨rfl, rfl⟩
              go_wp2_with fail
              go_ret2
              exact ⟨ret_pair (by rw [HR.out]) (by rw [HR.out]; have := HPK.out; dsimp only; first | omega | (rw [IntWalk.wrap64_in _ (by omega)]; omega)), rfl⟩
            | false =>
              have HR := Lib.hid (nr_not (start := 2) HQ.out.1 hpre)
              have HPB : Hid (∀ W, Calls Tryz.prog 76 #[.string (s.extract p s.size), .string ⟨#[59]⟩] W fun e w' => e = .returned (.bool false) ∧ w' = W) := Lib.hid fun W => by
                have := HP.out (s.extract p s.size) ⟨#[59]⟩ W
                rw [show (s.extract p s.size).data.toList = l.drop k by rw [AFTER.out], hpre] at this
                exact this
              clear hpre
              go_wp2_with fail
              refine (D1.out _).mono ?_
              rintro e w1 ⟨rfl, rfl⟩
              go_wp2_with fail
              refine (HPB.out _).mono ?_
              rintro e w1 ⟨rfl, rfl⟩
              go_wp2_with fail
              go_ret2
              exact ⟨ret_pair (by rw [HR.out]; rfl) (by rw [HR.out]; rfl), rfl⟩
      · have hlk : ¬ k < l.length := by have := LD.out; omega
        have HQ := Lib.hid (LEAVE.out (.inr fun h => absurd h hlk))
        have m1 : decide ((p : Int) < min (s.size : Int) 9) = false := decide_eq_false (by omega)
        have m2 : ¬ (p : Int) < min (s.size : Int) 9 := by omega
        clear hlk hbd pk
        by_cases c6 : k = 0
        · have t1 : ((p : Int) == 2) = true := beq_iff_eq.2 (by have := HPK.out; omega)
          have HR := Lib.hid (nr_zero (start := 2) (HQ.out.1.trans c6))
          go_wp2_with fail
          go_ret2
          exact ⟨by rw [HR.out]; rfl, rfl⟩
        · have t1 : ((p : Int) == 2) = false := beq_eq_false_iff_ne.2 (by have := HPK.out; omega)
          cases hpre : hasPrefix (l.drop k) [59] with
          | true =>
            have HR := Lib.hid (nr_yes (start := 2) HQ.out.1 c6 HQ.out.2 hpre)
            have HPB : Hid (∀ W, Calls Tryz.prog 76 #[.string (s.extract p s.size), .string ⟨#[59]⟩] W fun e w' => e = .returned (.bool true) ∧ w' = W) := Lib.hid fun W => by
              have := HP.out (s.extract p s.size) ⟨#[59]⟩ W
              rw [show (s.extract p s.size).data.toList = l.drop k by rw [AFTER.out], hpre] at this
              exact this
            clear hpre
            go_wp2_with fail
            refine (HPB.out _).mono ?_
            rintro e w1 ⟨rfl, rfl⟩
            go_wp2_with fail
            refine (KV.out _).mono ?_
            rintro e w1 ⟨rfl, rfl⟩
            go_wp2_with fail
            go_ret2
            exact ⟨ret_pair (by rw [HR.out]) (by rw [HR.out]; have := HPK.out; dsimp only; first | omega | (rw [IntWalk.wrap64_in _ (by omega)]; omega)), rfl⟩
          | false =>
            have HR := Lib.hid (nr_not (start := 2) HQ.out.1 hpre)
            have HPB : Hid (∀ W, Calls Tryz.prog 76 #[.string (s.extract p s.size), .string ⟨#[59]⟩] W fun e w' => e = .returned (.bool false) ∧ w' = W) := Lib.hid fun W => by
              have := HP.out (s.extract p s.size) ⟨#[59]⟩ W
              rw [show (s.extract p s.size).data.toList = l.drop k by rw [AFTER.out], hpre] at this
              exact this
            clear hpre
            go_wp2_with fail
            refine (HPB.out _).mono ?_
            rintro e w1 ⟨rfl, rfl⟩
            go_wp2_with fail
            go_ret2
            exact ⟨ret_pair (by rw [HR.out]; rfl) (by rw [HR.out]; rfl), rfl⟩
    · have HQ := Lib.hid (LEAVE.out (.inl (by omega)))
      have m1 : decide ((p : Int) < min (s.size : Int) 9) = false := decide_eq_false (by omega)
      have m2 : ¬ (p : Int) < min (s.size : Int) 9 := by omega
      clear hbd pk
      by_cases c6 : k = 0
      · have t1 : ((p : Int) == 2) = true := beq_iff_eq.2 (by have := HPK.out; omega)
        have HR := Lib.hid (nr_zero (start := 2) (HQ.out.1.trans c6))
        go_wp2_with fail
        go_ret2
        exact ⟨by rw [HR.out]; rfl, rfl⟩
      · have t1 : ((p : Int) == 2) = false := beq_eq_false_iff_ne.2 (by have := HPK.out; omega)
        cases hpre : hasPrefix (l.drop k) [59] with
        | true =>
          have HR := Lib.hid (nr_yes (start := 2) HQ.out.1 c6 HQ.out.2 hpre)
          have HPB : Hid (∀ W, Calls Tryz.prog 76 #[.string (s.extract p s.size), .string ⟨#[59]⟩] W fun e w' => e = .returned (.bool true) ∧ w' = W) := Lib.hid fun W => by
            have := HP.out (s.extract p s.size) ⟨#[59]⟩ W
            rw [show (s.extract p s.size).data.toList = l.drop k by rw [AFTER.out], hpre] at this
            exact this
          clear hpre
          go_wp2_with fail
          refine (HPB.out _).mono ?_
          rintro e w1 ⟨rfl, rfl⟩
          go_wp2_with fail
          refine (KV.out _).mono ?_
          rintro e w1 ⟨rfl, rfl⟩
          go_wp2_with fail
          go_ret2
          exact ⟨ret_pair (by rw [HR.out]) (by rw [HR.out]; have := HPK.out; dsimp only; first | omega | (rw [IntWalk.wrap64_in _ (by omega)]; omega)), rfl⟩
        | false =>
          have HR := Lib.hid (nr_not (start := 2) HQ.out.1 hpre)
          have HPB : Hid (∀ W, Calls Tryz.prog 76 #[.string (s.extract p s.size), .string ⟨#[59]⟩] W fun e w' => e = .returned (.bool false) ∧ w' = W) := Lib.hid fun W => by
            have := HP.out (s.extract p s.size) ⟨#[59]⟩ W
            rw [show (s.extract p s.size).data.toList = l.drop k by rw [AFTER.out], hpre] at this
            exact this
          clear hpre
          go_wp2_with fail
          refine (HPB.out _).mono ?_
          rintro e w1 ⟨rfl, rfl⟩
          go_wp2_with fail
          go_ret2
          exact ⟨ret_pair (by rw [HR.out]; rfl) (by rw [HR.out]; rfl), rfl⟩
end Go.Proofs.YtfgpephpkibbaaaGreatDoor

/-
  Contracts of nameRune, refRune, Ref, of the package.
-/
namespace Go.Proofs.YtfgpephpkibbaaaGreatDoor
open Go.RowKit Go.Lib

theorem upto_take (r : List UInt8) : r.take (semiL r).length = semiL r := by
  have h : semiL r <+: r := List.takeWhile_prefix _
  exact (List.prefix_iff_eq_take.1 h).symm
theorem pre_size {s : ByteArray} {p : List UInt8} (h : hasPrefix s.data.toList p = true) : p.length ≤ s.size := by
  obtain ⟨z, e⟩ := (pre_iff _ _).1 h
  have := congrArg List.length e
  rw [bytes_len, List.length_append] at this
  omega
set_option maxRecDepth 100000 in
set_option maxHeartbeats 400000 in
theorem nameRune_any (s : ByteArray) (w : World) (hs : s.size ≤ maxLen) (h1 : hasPrefix s.data.toList [38, 35] = false) (h : hasPrefix s.data.toList [38] = true) (hO : Lis w) :
    Calls Tryz.prog 198 #[.string s] w fun e w' => e = .returned (.tuple #[.int .i32 (refL s.data.toList).1, .int .i64 (refL s.data.toList).2]) ∧ w = w' := by
  have hz : 1 ≤ s.size := pre_size h
  unfold maxLen at hs
  have NA := Lib.hid (fun t => nmName_any t w hO)
  have IB := Lib.hid (fun t W => Tryz.strings_IndexByte t 59 W)
  have RN := Lib.hid (refL_name h1 h)
  clear h1 h hO
  obtain ⟨l, hl⟩ : ∃ l, s.data.toList.drop 1 = l := ⟨_, rfl⟩
  have hlen : l.length = s.size - 1 := by rw [← hl, List.length_drop, bytes_len]
  have hrl : (s.extract 1 s.size).data.toList = l := by rw [Lib.extract_to_end, hl]
  rw [hl] at RN
  clear hl
  have hix := index_upto l 7
  have ht := upto_take l
  obtain ⟨u, hu⟩ : ∃ u, semiL l = u := ⟨_, rfl⟩
  rw [hu] at hix ht RN
  have hm : (min ((s.size - 1 : Nat) : Int) 7).toNat = min l.length 7 := by omega
  have hp : ((s.extract 1 s.size).extract 0 (min ((s.size - 1 : Nat) : Int) 7).toNat).data.toList = l.take 7 := by
    rw [Lib.extract_data, List.drop_zero, Nat.sub_zero, hrl, hm]
    rcases Nat.le_total l.length 7 with k | k
    · rw [Nat.min_eq_left k, List.take_of_length_le (Nat.le_refl _), List.take_of_length_le k]
    · rw [Nat.min_eq_right k]
  have IX : Hid (∀ W, Calls Tryz.prog 71 #[.string ((s.extract 1 s.size).extract 0 (min ((s.size - 1 : Nat) : Int) 7).toNat), .int .u8 59] W fun e w' => e = .returned (.int .i64 (if u.length < l.length ∧ u.length < 7 then (u.length : Int) else -1)) ∧ w' = W) := Lib.hid fun W => by
    have := IB.out ((s.extract 1 s.size).extract 0 (min ((s.size - 1 : Nat) : Int) 7).toNat) W
    rw [hp, show (59 : Int).toNat.toUInt8 = 59 from rfl, hix] at this
    exact this
  have HU := Lib.hid hu
  rw [hlen] at *
  by_cases c : u.length < s.size - 1 ∧ u.length < 7
  · rw [if_pos c] at IX
    have hq : ((s.extract 1 s.size).extract 0 u.length).data.toList = u := by rw [Lib.extract_data, List.drop_zero, Nat.sub_zero, hrl]; exact ht
    have NX := Lib.hid (NA.out ((s.extract 1 s.size).extract 0 u.length))
    rw [hq] at NX
    obtain ⟨n1, n2⟩ := c
    by_cases hn : namedL u = 0
    · have RQ := Lib.hid (RN.out.trans (if_neg (fun k => k.2 hn)))
      have NX : Hid (Calls Tryz.prog 207 #[.string ((s.extract 1 s.size).extract 0 u.length)] w fun e w' => e = .returned (.tuple #[.int .i32 0, .bool false]) ∧ w = w') := by
        have := NX.out
        rw [hn] at this
        exact Lib.hid this
      rw [RQ.out]
      clear hn RN hix ht hlen hp hq hrl IB NA hu HU hm
      generalize u.length = k at *
      go_enter Tryz.func198, Tryz.ntmps198
      go_wp2_with fail
      refine (IX.out _).mono ?_
      rintro e w1 ⟨rfl, rfl⟩
      go_wp2_with fail
      refine NX.out.mono ?_
      rintro e w1 ⟨rfl, rfl⟩
      go_wp2_with fail
      go_ret2
      exact ⟨rfl, rfl⟩
    · have RQ := Lib.hid (RN.out.trans (if_pos ⟨n1, hn⟩))
      have NX : Hid (Calls Tryz.prog 207 #[.string ((s.extract 1 s.size).extract 0 u.length)] w fun e w' => e = .returned (.tuple #[.int .i32 (namedL u), .bool true]) ∧ w = w') := by
        have := NX.out
        rw [show (!decide (namedL u = 0)) = true by rw [decide_eq_false hn]; rfl] at this
        exact Lib.hid this
      rw [RQ.out]
      clear hn RN hix ht hlen hp hq hrl IB NA hu HU hm RQ
      generalize u.length = k at *
      generalize namedL u = z at *
      go_enter Tryz.func198, Tryz.ntmps198
      go_wp2_with fail
      refine (IX.out _).mono ?_
      rintro e w1 ⟨rfl, rfl⟩
      go_wp2_with fail
      refine NX.out.mono ?_
      rintro e w1 ⟨rfl, rfl⟩
      go_wp2_with fail
      go_ret2
      exact ⟨ret_pair rfl (by omega), rfl⟩
  · rw [if_neg c] at IX
    have RQ := Lib.hid (RN.out.trans (if_neg (fun k => by have := named_facts k.2; omega)))
    rw [RQ.out]
    clear RN hix ht hlen hp hrl IB NA hu HU hm RQ c
    go_enter Tryz.func198, Tryz.ntmps198
    go_wp2_with fail
    refine (IX.out _).mono ?_
    rintro e w1 ⟨rfl, rfl⟩
    go_wp2_with fail
    go_ret2
    exact ⟨rfl, rfl⟩

set_option maxRecDepth 100000 in
theorem refRune_any (s : ByteArray) (w : World) (hs : s.size ≤ maxLen) (hO : Lis w) :
    Calls Tryz.prog 184 #[.string s] w fun e w' => e = .returned (.tuple #[.int .i32 (refL s.data.toList).1, .int .i64 (refL s.data.toList).2]) ∧ w = w' := by
  have P1 := Lib.hid (fun W => Tryz.strings_HasPrefix s ⟨#[38, 35, 120]⟩ W)
  have P2 := Lib.hid (fun W => Tryz.strings_HasPrefix s ⟨#[38, 35, 88]⟩ W)
  have P3 := Lib.hid (fun W => Tryz.strings_HasPrefix s ⟨#[38, 35]⟩ W)
  have P4 := Lib.hid (fun W => Tryz.strings_HasPrefix s ⟨#[38]⟩ W)
  rw [show (⟨#[38, 35, 120]⟩ : ByteArray).data.toList = [38, 35, 120] from rfl] at P1
  rw [show (⟨#[38, 35, 88]⟩ : ByteArray).data.toList = [38, 35, 88] from rfl] at P2
  rw [show (⟨#[38, 35]⟩ : ByteArray).data.toList = [38, 35] from rfl] at P3
  rw [show (⟨#[38]⟩ : ByteArray).data.toList = [38] from rfl] at P4
  cases h1 : hasPrefix s.data.toList [38, 35, 120] with
  | true =>
    have hz : 3 ≤ s.size := pre_size h1
    have NR := Lib.hid (number_hex s w hs hz)
    rw [← refL_hex (.inl h1)] at NR
    rw [h1] at P1
    clear h1 hO
    generalize refL s.data.toList = q at *
    go_enter Tryz.func184, Tryz.ntmps184
    go_wp2_with fail
    refine (P1.out _).mono ?_
    rintro e w1 ⟨rfl, rfl⟩
    go_wp2_with fail
    refine NR.out.mono ?_
    rintro e w1 ⟨rfl, rfl⟩
    go_wp2_with fail
    go_ret2
    exact ⟨rfl, rfl⟩
  | false =>
    rw [h1] at P1
    cases h2 : hasPrefix s.data.toList [38, 35, 88] with
    | true =>
      have hz : 3 ≤ s.size := pre_size h2
      have NR := Lib.hid (number_hex s w hs hz)
      rw [← refL_hex (.inr h2)] at NR
      rw [h2] at P2
      clear h1 h2 hO
      generalize refL s.data.toList = q at *
      go_enter Tryz.func184, Tryz.ntmps184
      go_wp2_with fail
      refine (P1.out _).mono ?_
      rintro e w1 ⟨rfl, rfl⟩
      go_wp2_with fail
      refine (P2.out _).mono ?_
      rintro e w1 ⟨rfl, rfl⟩
      go_wp2_with fail
      refine NR.out.mono ?_
      rintro e w1 ⟨rfl, rfl⟩
      go_wp2_with fail
      go_ret2
      exact ⟨rfl, rfl⟩
    | false =>
      rw [h2] at P2
      cases h3 : hasPrefix s.data.toList [38, 35] with
      | true =>
        have hz : 2 ≤ s.size := pre_size h3
        have NR := Lib.hid (number_dec s w hs hz)
        rw [← refL_dec h1 h2 h3] at NR
        rw [h3] at P3
        clear h1 h2 h3 hO
        generalize refL s.data.toList = q at *
        go_enter Tryz.func184, Tryz.ntmps184
        go_wp2_with fail
        refine (P1.out _).mono ?_
        rintro e w1 ⟨rfl, rfl⟩
        go_wp2_with fail
        refine (P2.out _).mono ?_
        rintro e w1 ⟨rfl, rfl⟩
        go_wp2_with fail
        refine (P3.out _).mono ?_
        rintro e w1 ⟨rfl, rfl⟩
        go_wp2_with fail
        refine NR.out.mono ?_
        rintro e w1 ⟨rfl, rfl⟩
        go_wp2_with fail
        go_ret2
        exact ⟨rfl, rfl⟩
      | false =>
        rw [h3] at P3
        cases h4 : hasPrefix s.data.toList [38] with
        | true =>
          have NR := Lib.hid (nameRune_any s w hs h3 h4 hO)
          rw [h4] at P4
          clear h1 h2 h3 h4 hO
          generalize refL s.data.toList = q at *
          go_enter Tryz.func184, Tryz.ntmps184
          go_wp2_with fail
          refine (P1.out _).mono ?_
          rintro e w1 ⟨rfl, rfl⟩
          go_wp2_with fail
          refine (P2.out _).mono ?_
          rintro e w1 ⟨rfl, rfl⟩
          go_wp2_with fail
          refine (P3.out _).mono ?_
          rintro e w1 ⟨rfl, rfl⟩
          go_wp2_with fail
          refine (P4.out _).mono ?_
          rintro e w1 ⟨rfl, rfl⟩
          go_wp2_with fail
          refine NR.out.mono ?_
          rintro e w1 ⟨rfl, rfl⟩
          go_wp2_with fail
          go_ret2
          exact ⟨rfl, rfl⟩
        | false =>
          have RQ := Lib.hid (refL_no h4)
          rw [RQ.out]
          rw [h4] at P4
          clear h1 h2 h3 h4 hO
          go_enter Tryz.func184, Tryz.ntmps184
          go_wp2_with fail
          refine (P1.out _).mono ?_
          rintro e w1 ⟨rfl, rfl⟩
          go_wp2_with fail
          refine (P2.out _).mono ?_
          rintro e w1 ⟨rfl, rfl⟩
          go_wp2_with fail
          refine (P3.out _).mono ?_
          rintro e w1 ⟨rfl, rfl⟩
          go_wp2_with fail
          refine (P4.out _).mono ?_
          rintro e w1 ⟨rfl, rfl⟩
          go_wp2_with fail
          go_ret2
          exact ⟨rfl, rfl⟩
theorem refB_of {l : List UInt8} {r n : Nat} (h : refL l = (r, n)) (hn : n ≠ 0) : refB l = encodeRune (r : Nat) := by
  unfold refB; rw [h]; exact if_neg hn
theorem enc_str (n : Nat) (h : okR (n : Int)) : Utf8.encode (n : Int) = ⟨(encodeRune (n : Int)).toArray⟩ := bytes_eq (by rw [enc_eq _ h])
set_option maxRecDepth 100000 in
theorem ref_any (s : ByteArray) (w : World) (hs : s.size ≤ maxLen) (hO : Lis w) :
    Calls Tryz.prog 162 #[.string s] w fun e w' => e = .returned (.tuple #[.string ⟨(refB s.data.toList).toArray⟩, .int .i64 (refL s.data.toList).2]) ∧ w = w' := by
  have RR := Lib.hid (refRune_any s w hs hO)
  have RF := refL_facts s.data.toList
  unfold refB
  clear hs hO
  generalize refL s.data.toList = q at *
  obtain ⟨r, n⟩ := q
  dsimp only at *
  rcases RF with e | ⟨h1, h2, _, _, h3⟩
  · obtain ⟨rfl, rfl⟩ := Prod.mk.inj e
    clear e
    go_enter Tryz.func162, Tryz.ntmps162
    go_wp2_with fail
    refine RR.out.mono ?_
    rintro e w1 ⟨rfl, rfl⟩
    go_wp2_with fail
    go_ret2
    exact ⟨rfl, rfl⟩
  · have E := Lib.hid (enc_str r h3)
    have t0 : ((n : Int) == 0) = false := beq_eq_false_iff_ne.2 (by omega)
    rw [if_neg (by omega)]
    clear h1 h2 h3
    go_enter Tryz.func162, Tryz.ntmps162
    go_wp2_with fail
    refine RR.out.mono ?_
    rintro e w1 ⟨rfl, rfl⟩
    go_wp2_with fail
    go_ret2
    exact ⟨by rw [← E.out]; rfl, rfl⟩
end Go.Proofs.YtfgpephpkibbaaaGreatDoor

