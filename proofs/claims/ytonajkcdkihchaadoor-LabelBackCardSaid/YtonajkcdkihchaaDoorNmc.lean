/-
  Contracts of numberRune, of the package, at its two calls.
-/
import Derived.Test.YtonajkcdkihchaaDoorNmb
import Derived.Test.YtonajkcdkihchaaDoorNmu
namespace Go.Proofs.YtonajkcdkihchaaDoor
open Go.RowKit Go.Lib

theorem ret_pair {a b c d : Int} (h : a = b) (k : c = d) : Ending.returned (.tuple #[.int .i32 a, .int .i64 c]) = .returned (.tuple #[.int .i32 b, .int .i64 d]) := by rw [h, k]
theorem dig_lt {base : Nat} {b : UInt8} (h : hexD b < base) : isDig base b = true := decide_eq_true h
theorem dig_ge {base : Nat} {b : UInt8} (h : ¬ hexD b < base) : isDig base b = false := decide_eq_false h
/-- So many digits ahead, and their number. -/
structure Scan (base : Nat) (l : List UInt8) (k : Nat) (v : Nat) : Prop where
  room : k ≤ l.length
  all : ∀ (j : Nat) (h : j < l.length), j < k → isDig base l[j] = true
  num : v = numV base (l.take k)
theorem scan_start (base : Nat) (l : List UInt8) : Scan base l 0 0 := ⟨Nat.zero_le _, fun _ _ h => absurd h (Nat.not_lt_zero _), rfl⟩
theorem scan_next {base : Nat} {l : List UInt8} {k v : Nat} (h : Scan base l k v) (hk : k < l.length) (hd : hexD l[k] < base) : Scan base l (k + 1) (v * base + hexD l[k]) :=
  ⟨hk, fun j hj hjk => by
    rcases Nat.lt_or_ge j k with h' | h'
    · exact h.all j hj h'
    · obtain rfl : j = k := by omega
      exact dig_lt hd, by rw [List.take_succ_eq_append_getElem hk, numV_snoc, h.num]⟩
theorem scan_bd {base : Nat} {l : List UInt8} {k v : Nat} (h : Scan base l k v) : v < base ^ k := by
  have h1 := numV_lt base (l.take k) (fun b hb => by
    obtain ⟨j, hj, rfl⟩ := List.getElem_of_mem hb
    rw [List.length_take] at hj
    rw [List.getElem_take]
    exact of_decide_eq_true (h.all j (by omega) (by omega)))
  rw [← h.num, List.length_take, Nat.min_eq_left h.room] at h1
  exact h1
theorem scan_done {base most : Nat} {l : List UInt8} {k v : Nat} (h : Scan base l k v) (hk : k ≤ most) (h2 : k = most ∨ ∀ (h : k < l.length), isDig base l[k] = false) : scanL base most l = l.take k ∧ (scanL base most l).length = k ∧ numV base (scanL base most l) = v := by
  have e := scan_stop hk h.all h2
  rw [e, List.length_take, Nat.min_eq_left h.room, h.num]
  exact ⟨rfl, rfl, rfl⟩
/-- What numberRune answers once the digits are known. -/
theorem nr_zero {base most start : Nat} {l : List UInt8} (h : (scanL base most l).length = 0) : nrL base most start l = (0, 0) := by
  unfold nrL
  rw [if_neg]
  rintro ⟨h1, _⟩
  exact h1 (List.eq_nil_of_length_eq_zero h)
theorem nr_not {base most start k : Nat} {l : List UInt8} (h : (scanL base most l).length = k) (hp : hasPrefix (l.drop k) [59] = false) : nrL base most start l = (0, 0) := by
  subst h
  unfold nrL
  rw [if_neg]
  rintro ⟨_, h1⟩
  rw [hp] at h1; cases h1
theorem nr_yes {base most start k v : Nat} {l : List UInt8} (h : (scanL base most l).length = k) (hk : k ≠ 0) (hv : numV base (scanL base most l) = v) (hp : hasPrefix (l.drop k) [59] = true) : nrL base most start l = (runeOf v, start + k + 1) := by
  subst h hv
  unfold nrL
  rw [if_pos ⟨fun e => hk (by rw [e]; rfl), hp⟩]
theorem at_drop (s : ByteArray) (a k : Nat) (h : k < (s.data.toList.drop a).length) (h' : a + k < s.size) : (s.data.toList.drop a)[k] = s[a + k] := by
  rw [List.getElem_drop]; rfl
theorem len_drop (s : ByteArray) (a : Nat) : (s.data.toList.drop a).length = s.size - a := by rw [List.length_drop]; simp

set_option maxRecDepth 100000 in
set_option maxHeartbeats 1000000 in
theorem number_hex (s : ByteArray) (w : World) (hs : s.size ≤ maxLen) (hst : 3 ≤ s.size) :
    Calls Tryd.prog 57 #[.string s, .int .i64 3, .int .i64 16, .int .i64 6] w fun e w' => e = .returned (.tuple #[.int .i32 (nrL 16 6 3 (s.data.toList.drop 3)).1, .int .i64 (nrL 16 6 3 (s.data.toList.drop 3)).2]) ∧ w = w' := by
  unfold maxLen at hs
  have HP := Lib.hid (fun a b W => Tryd.strings_HasPrefix a b W)
  have DG := Lib.hid (fun b W => digit_any b W)
  have KN := Lib.hid (fun n W h => known_any n W h)
  have LD := Lib.hid (len_drop s 3)
  have AD := Lib.hid (fun k h h' => at_drop s 3 k h h')
  obtain ⟨l, hl⟩ : ∃ l, s.data.toList.drop 3 = l := ⟨_, rfl⟩
  have HL := Lib.hid hl
  rw [hl] at LD
  rw [hl]
  rw [hl] at AD
  clear hl
  go_enter Tryd.func57, Tryd.ntmps57
  go_wp2_with fail
  go_loop [10, 11] (fun n e => ∃ (k p v : Nat), k ≤ 6 ∧ p ≤ s.size ∧ Hid (p = 3 + k) ∧ Hid (Scan 16 l k v) ∧ n = .int .i64 v ∧ e = .int .i64 p) (fun _ e => s.size - (RowKit.intOf e).toNat)
  case atStart => exact ⟨0, 3, 0, by omega, hst, Lib.hid rfl, Lib.hid (scan_start _ _), rfl, rfl⟩
  case round =>
    obtain ⟨k, p, v, hk, hp, HPK, HS, rfl, rfl⟩ := hrel
    have hbd := scan_bd HS.out
    have pk := HPK.out
    -- behind the loop
    have LEAVE : Hid ((k = 6 ∨ ∀ (h : k < l.length), isDig 16 l[k] = false) → (scanL 16 6 l).length = k ∧ numV 16 (scanL 16 6 l) = v) := Lib.hid fun h => (scan_done HS.out hk h).2
    have vmax : v ≤ 16777215 := by
      have : 16 ^ k ≤ 16 ^ 6 := Nat.pow_le_pow_right (by omega) hk
      have : 16 ^ 6 = 16777215 + 1 := by decide
      omega
    have KV := Lib.hid (fun W => KN.out v W (by omega))
    have AFTER : Hid (s.extract p s.size = ⟨(l.drop k).toArray⟩) := by
      have : s.extract p s.size = ⟨(l.drop k).toArray⟩ := by rw [ext_drop, ← HL.out, List.drop_drop, pk]
      exact Lib.hid this
    by_cases c1 : k < 6
    · by_cases c2 : p < s.size
      · have hkl : k < l.length := by have := LD.out; omega
        have hb : l[k] = s[p] := by rw [AD.out k hkl (by omega)]; congr 1; omega
        have D1 := Lib.hid (fun W => DG.out s[p] W)
        have m1 : decide ((p : Int) < min (s.size : Int) 9) = true := decide_eq_true (by omega)
        have m2 : (p : Int) < min (s.size : Int) 9 := by omega
        by_cases c3 : hexD s[p] < 16
        · have hn := scan_next HS.out hkl (by rw [hb]; exact c3)
          rw [hb] at hn
          have HN := Lib.hid hn
          have v5 : v ≤ 1048575 := by
            have : 16 ^ k ≤ 16 ^ 5 := Nat.pow_le_pow_right (by omega) (by omega)
            have : 16 ^ 5 = 1048575 + 1 := by decide
            omega
          have HK2 : Hid (p + 1 = 3 + (k + 1)) := Lib.hid (by omega)
          have d0 : (0 : Int) ≤ (hexD s[p] : Int) := by omega
          have c4 : (hexD s[p] : Int) < 16 := by omega
          have c5 : decide ((16 : Int) ≤ (hexD s[p] : Int)) = false := decide_eq_false (by omega)
          have HE : Hid ((v : Int) * 16 + (hexD s[p] : Int) = ((v * 16 + hexD s[p] : Nat) : Int)) := Lib.hid (by omega)
          have vb : v * 16 + hexD s[p] ≤ 16777215 := by omega
          clear hn hb hkl hbd c3 pk vb
          generalize hexD s[p] = d at *
          go_wp2_with fail
          refine (D1.out _).mono ?_
          rintro e w1 ⟨rfl, rfl⟩
          go_wp2_with fail
          go_round
          case rel => exact ⟨k + 1, p + 1, _, by omega, by omega, HK2, HN, by rw [← HE.out], by go_num⟩
          case measure => simp [RowKit.intOf]; omega
        · have HQ := Lib.hid (LEAVE.out (.inr fun _ => by rw [hb]; exact dig_ge c3))
          have c4 : (16 : Int) ≤ (hexD s[p] : Int) := by omega
          have c5 : decide ((16 : Int) ≤ (hexD s[p] : Int)) = true := decide_eq_true c4
          have d1 : (hexD s[p] : Int) ≤ 16 := by have := hexD_le s[p]; omega
          clear hb hkl hbd c3 pk
          generalize hexD s[p] = d at *
          by_cases c6 : k = 0
          · have t1 : ((p : Int) == 3) = true := beq_iff_eq.2 (by have := HPK.out; omega)
            have HR := Lib.hid (nr_zero (start := 3) (HQ.out.1.trans c6))
            go_wp2_with fail
            refine (D1.out _).mono ?_
            rintro e w1 ⟨rfl, rfl⟩
            go_wp2_with fail
            go_ret2
            exact ⟨by rw [HR.out]; rfl, rfl⟩
          · have t1 : ((p : Int) == 3) = false := beq_eq_false_iff_ne.2 (by have := HPK.out; omega)
            cases hpre : hasPrefix (l.drop k) [59] with
            | true =>
              have HR := Lib.hid (nr_yes (start := 3) HQ.out.1 c6 HQ.out.2 hpre)
              have HPB : Hid (∀ W, Calls Tryd.prog 17 #[.string (s.extract p s.size), .string ⟨#[59]⟩] W fun e w' => e = .returned (.bool true) ∧ w' = W) := Lib.hid fun W => by
                have := HP.out (s.extract p s.size) ⟨#[59]⟩ W
                rw [show (s.extract p s.size).data.toList = l.drop k by rw [AFTER.out], hpre] at this
                exact this
              clear hpre
              go_wp2_with fail
              refine (D1.out _).mono ?_
              rintro e w1 ⟨rfl, rfl⟩
              go_wp2_with fail
              refine (HPB.out _).mono ?_
              rintro e w1 ⟨rfl, rfl⟩
              go_wp2_with fail
              refine (KV.out _).mono ?_
              rintro e w1 ⟨rfl, rfl⟩
              go_wp2_with fail
              go_ret2
              exact ⟨ret_pair (by rw [HR.out]) (by rw [HR.out]; have := HPK.out; dsimp only; first | omega | (rw [IntWalk.wrap64_in _ (by omega)]; omega)), rfl⟩
            | false =>
              have HR := Lib.hid (nr_not (start := 3) HQ.out.1 hpre)
              have HPB : Hid (∀ W, Calls Tryd.prog 17 #[.string (s.extract p s.size), .string ⟨#[59]⟩] W fun e w' => e = .returned (.bool false) ∧ w' = W) := Lib.hid fun W => by
                have := HP.out (s.extract p s.size) ⟨#[59]⟩ W
                rw [show (s.extract p s.size).data.toList = l.drop k by rw [AFTER.out], hpre] at this
                exact this
              clear hpre
              go_wp2_with fail
              refine (D1.out _).mono ?_
              rintro e w1 ⟨rfl, rfl⟩
              go_wp2_with fail
              refine (HPB.out _).mono ?_
              rintro e w1 ⟨rfl, rfl⟩
              go_wp2_with fail
              go_ret2
              exact ⟨ret_pair (by rw [HR.out]; rfl) (by rw [HR.out]; rfl), rfl⟩
      · have hlk : ¬ k < l.length := by have := LD.out; omega
        have HQ := Lib.hid (LEAVE.out (.inr fun h => absurd h hlk))
        have m1 : decide ((p : Int) < min (s.size : Int) 9) = false := decide_eq_false (by omega)
        have m2 : ¬ (p : Int) < min (s.size : Int) 9 := by omega
        clear hlk hbd pk
        by_cases c6 : k = 0
        · have t1 : ((p : Int) == 3) = true := beq_iff_eq.2 (by have := HPK.out; omega)
          have HR := Lib.hid (nr_zero (start := 3) (HQ.out.1.trans c6))
          go_wp2_with fail
          go_ret2
          exact ⟨by rw [HR.out]; rfl, rfl⟩
        · have t1 : ((p : Int) == 3) = false := beq_eq_false_iff_ne.2 (by have := HPK.out; omega)
          cases hpre : hasPrefix (l.drop k) [59] with
          | true =>
            have HR := Lib.hid (nr_yes (start := 3) HQ.out.1 c6 HQ.out.2 hpre)
            have HPB : Hid (∀ W, Calls Tryd.prog 17 #[.string (s.extract p s.size), .string ⟨#[59]⟩] W fun e w' => e = .returned (.bool true) ∧ w' = W) := Lib.hid fun W => by
              have := HP.out (s.extract p s.size) ⟨#[59]⟩ W
              rw [show (s.extract p s.size).data.toList = l.drop k by rw [AFTER.out], hpre] at this
              exact this
            clear hpre
            go_wp2_with fail
            refine (HPB.out _).mono ?_
            rintro e w1 ⟨rfl, rfl⟩
            go_wp2_with fail
            refine (KV.out _).mono ?_
            rintro e w1 ⟨rfl, rfl⟩
            go_wp2_with fail
            go_ret2
            exact ⟨ret_pair (by rw [HR.out]) (by rw [HR.out]; have := HPK.out; dsimp only; first | omega | (rw [IntWalk.wrap64_in _ (by omega)]; omega)), rfl⟩
          | false =>
            have HR := Lib.hid (nr_not (start := 3) HQ.out.1 hpre)
            have HPB : Hid (∀ W, Calls Tryd.prog 17 #[.string (s.extract p s.size), .string ⟨#[59]⟩] W fun e w' => e = .returned (.bool false) ∧ w' = W) := Lib.hid fun W => by
              have := HP.out (s.extract p s.size) ⟨#[59]⟩ W
              rw [show (s.extract p s.size).data.toList = l.drop k by rw [AFTER.out], hpre] at this
              exact this
            clear hpre
            go_wp2_with fail
            refine (HPB.out _).mono ?_
            rintro e w1 ⟨rfl, rfl⟩
            go_wp2_with fail
            go_ret2
            exact ⟨ret_pair (by rw [HR.out]; rfl) (by rw [HR.out]; rfl), rfl⟩
    · have HQ := Lib.hid (LEAVE.out (.inl (by omega)))
      have m1 : decide ((p : Int) < min (s.size : Int) 9) = false := decide_eq_false (by omega)
      have m2 : ¬ (p : Int) < min (s.size : Int) 9 := by omega
      clear hbd pk
      by_cases c6 : k = 0
      · have t1 : ((p : Int) == 3) = true := beq_iff_eq.2 (by have := HPK.out; omega)
        have HR := Lib.hid (nr_zero (start := 3) (HQ.out.1.trans c6))
        go_wp2_with fail
        go_ret2
        exact ⟨by rw [HR.out]; rfl, rfl⟩
      · have t1 : ((p : Int) == 3) = false := beq_eq_false_iff_ne.2 (by have := HPK.out; omega)
        cases hpre : hasPrefix (l.drop k) [59] with
        | true =>
          have HR := Lib.hid (nr_yes (start := 3) HQ.out.1 c6 HQ.out.2 hpre)
          have HPB : Hid (∀ W, Calls Tryd.prog 17 #[.string (s.extract p s.size), .string ⟨#[59]⟩] W fun e w' => e = .returned (.bool true) ∧ w' = W) := Lib.hid fun W => by
            have := HP.out (s.extract p s.size) ⟨#[59]⟩ W
            rw [show (s.extract p s.size).data.toList = l.drop k by rw [AFTER.out], hpre] at this
            exact this
          clear hpre
          go_wp2_with fail
          refine (HPB.out _).mono ?_
          rintro e w1 ⟨rfl, rfl⟩
          go_wp2_with fail
          refine (KV.out _).mono ?_
          rintro e w1 ⟨rfl, rfl⟩
          go_wp2_with fail
          go_ret2
          exact ⟨ret_pair (by rw [HR.out]) (by rw [HR.out]; have := HPK.out; dsimp only; first | omega | (rw [IntWalk.wrap64_in _ (by omega)]; omega)), rfl⟩
        | false =>
          have HR := Lib.hid (nr_not (start := 3) HQ.out.1 hpre)
          have HPB : Hid (∀ W, Calls Tryd.prog 17 #[.string (s.extract p s.size), .string ⟨#[59]⟩] W fun e w' => e = .returned (.bool false) ∧ w' = W) := Lib.hid fun W => by
            have := HP.out (s.extract p s.size) ⟨#[59]⟩ W
            rw [show (s.extract p s.size).data.toList = l.drop k by rw [AFTER.out], hpre] at this
            exact this
          clear hpre
          go_wp2_with fail
          refine (HPB.out _).mono ?_
          rintro e w1 ⟨rfl, rfl⟩
          go_wp2_with fail
          go_ret2
          exact ⟨ret_pair (by rw [HR.out]; rfl) (by rw [HR.out]; rfl), rfl⟩

set_option maxRecDepth 100000 in
set_option maxHeartbeats 1000000 in
theorem number_dec (s : ByteArray) (w : World) (hs : s.size ≤ maxLen) (hst : 2 ≤ s.size) :
    Calls Tryd.prog 57 #[.string s, .int .i64 2, .int .i64 10, .int .i64 7] w fun e w' => e = .returned (.tuple #[.int .i32 (nrL 10 7 2 (s.data.toList.drop 2)).1, .int .i64 (nrL 10 7 2 (s.data.toList.drop 2)).2]) ∧ w = w' := by
  unfold maxLen at hs
  have HP := Lib.hid (fun a b W => Tryd.strings_HasPrefix a b W)
  have DG := Lib.hid (fun b W => digit_any b W)
  have KN := Lib.hid (fun n W h => known_any n W h)
  have LD := Lib.hid (len_drop s 2)
  have AD := Lib.hid (fun k h h' => at_drop s 2 k h h')
  obtain ⟨l, hl⟩ : ∃ l, s.data.toList.drop 2 = l := ⟨_, rfl⟩
  have HL := Lib.hid hl
  rw [hl] at LD
  rw [hl]
  rw [hl] at AD
  clear hl
  go_enter Tryd.func57, Tryd.ntmps57
  go_wp2_with fail
  go_loop [10, 11] (fun n e => ∃ (k p v : Nat), k ≤ 7 ∧ p ≤ s.size ∧ Hid (p = 2 + k) ∧ Hid (Scan 10 l k v) ∧ n = .int .i64 v ∧ e = .int .i64 p) (fun _ e => s.size - (RowKit.intOf e).toNat)
  case atStart => exact ⟨0, 2, 0, by omega, hst, Lib.hid rfl, Lib.hid (scan_start _ _), rfl, rfl⟩
  case round =>
    obtain ⟨k, p, v, hk, hp, HPK, HS, rfl, rfl⟩ := hrel
    have hbd := scan_bd HS.out
    have pk := HPK.out
    -- behind the loop
    have LEAVE : Hid ((k = 7 ∨ ∀ (h : k < l.length), isDig 10 l[k] = false) → (scanL 10 7 l).length = k ∧ numV 10 (scanL 10 7 l) = v) := Lib.hid fun h => (scan_done HS.out hk h).2
    have vmax : v ≤ 9999999 := by
      have : 10 ^ k ≤ 10 ^ 7 := Nat.pow_le_pow_right (by omega) hk
      have : 10 ^ 7 = 9999999 + 1 := by decide
      omega
    have KV := Lib.hid (fun W => KN.out v W (by omega))
    have AFTER : Hid (s.extract p s.size = ⟨(l.drop k).toArray⟩) := by
      have : s.extract p s.size = ⟨(l.drop k).toArray⟩ := by rw [ext_drop, ← HL.out, List.drop_drop, pk]
      exact Lib.hid this
    by_cases c1 : k < 7
    · by_cases c2 : p < s.size
      · have hkl : k < l.length := by have := LD.out; omega
        have hb : l[k] = s[p] := by rw [AD.out k hkl (by omega)]; congr 1; omega
        have D1 := Lib.hid (fun W => DG.out s[p] W)
        have m1 : decide ((p : Int) < min (s.size : Int) 9) = true := decide_eq_true (by omega)
        have m2 : (p : Int) < min (s.size : Int) 9 := by omega
        by_cases c3 : hexD s[p] < 10
        · have hn := scan_next HS.out hkl (by rw [hb]; exact c3)
          rw [hb] at hn
          have HN := Lib.hid hn
          have v5 : v ≤ 999999 := by
            have : 10 ^ k ≤ 10 ^ 6 := Nat.pow_le_pow_right (by omega) (by omega)
            have : 10 ^ 6 = 999999 + 1 := by decide
            omega
          have HK2 : Hid (p + 1 = 2 + (k + 1)) := Lib.hid (by omega)
          have d0 : (0 : Int) ≤ (hexD s[p] : Int) := by omega
          have c4 : (hexD s[p] : Int) < 10 := by omega
          have c5 : decide ((10 : Int) ≤ (hexD s[p] : Int)) = false := decide_eq_false (by omega)
          have HE : Hid ((v : Int) * 10 + (hexD s[p] : Int) = ((v * 10 + hexD s[p] : Nat) : Int)) := Lib.hid (by omega)
          have vb : v * 10 + hexD s[p] ≤ 9999999 := by omega
          clear hn hb hkl hbd c3 pk vb
          generalize hexD s[p] = d at *
          go_wp2_with fail
          refine (D1.out _).mono ?_
          rintro e w1 ⟨rfl, rfl⟩
          go_wp2_with fail
          go_round
          case rel => exact ⟨k + 1, p + 1, _, by omega, by omega, HK2, HN, by rw [← HE.out], by go_num⟩
          case measure => simp [RowKit.intOf]; omega
        · have HQ := Lib.hid (LEAVE.out (.inr fun _ => by rw [hb]; exact dig_ge c3))
          have c4 : (10 : Int) ≤ (hexD s[p] : Int) := by omega
          have c5 : decide ((10 : Int) ≤ (hexD s[p] : Int)) = true := decide_eq_true c4
          have d1 : (hexD s[p] : Int) ≤ 16 := by have := hexD_le s[p]; omega
          clear hb hkl hbd c3 pk
          generalize hexD s[p] = d at *
          by_cases c6 : k = 0
          · have t1 : ((p : Int) == 2) = true := beq_iff_eq.2 (by have := HPK.out; omega)
            have HR := Lib.hid (nr_zero (start := 2) (HQ.out.1.trans c6))
            go_wp2_with fail
            refine (D1.out _).mono ?_
            rintro e w1 ⟨rfl, rfl⟩
            go_wp2_with fail
            go_ret2
            exact ⟨by rw [HR.out]; rfl, rfl⟩
          · have t1 : ((p : Int) == 2) = false := beq_eq_false_iff_ne.2 (by have := HPK.out; omega)
            cases hpre : hasPrefix (l.drop k) [59] with
            | true =>
              have HR := Lib.hid (nr_yes (start := 2) HQ.out.1 c6 HQ.out.2 hpre)
              have HPB : Hid (∀ W, Calls Tryd.prog 17 #[.string (s.extract p s.size), .string ⟨#[59]⟩] W fun e w' => e = .returned (.bool true) ∧ w' = W) := Lib.hid fun W => by
                have := HP.out (s.extract p s.size) ⟨#[59]⟩ W
                rw [show (s.extract p s.size).data.toList = l.drop k by rw [AFTER.out], hpre] at this
                exact this
              clear hpre
              go_wp2_with fail
              refine (D1.out _).mono ?_
              rintro e w1 ⟨rfl, rfl⟩
              go_wp2_with fail
              refine (HPB.out _).mono ?_
              rintro e w1 ⟨rfl, rfl⟩
              go_wp2_with fail
              refine (KV.out _).mono ?_
              rintro e w1 ⟨rfl, rfl⟩
              go_wp2_with fail
              go_ret2
              exact ⟨ret_pair (by rw [HR.out]) (by rw [HR.out]; have := HPK.out; dsimp only; first | omega | (rw [IntWalk.wrap64_in _ (by omega)]; omega)), rfl⟩
            | false =>
              have HR := Lib.hid (nr_not (start := 2) HQ.out.1 hpre)
              have HPB : Hid (∀ W, Calls Tryd.prog 17 #[.string (s.extract p s.size), .string ⟨#[59]⟩] W fun e w' => e = .returned (.bool false) ∧ w' = W) := Lib.hid fun W => by
                have := HP.out (s.extract p s.size) ⟨#[59]⟩ W
                rw [show (s.extract p s.size).data.toList = l.drop k by rw [AFTER.out], hpre] at this
                exact this
              clear hpre
              go_wp2_with fail
              refine (D1.out _).mono ?_
              rintro e w1 ⟨rfl, rfl⟩
              go_wp2_with fail
              refine (HPB.out _).mono ?_
              rintro e w1 ⟨rfl, rfl⟩
              go_wp2_with fail
              go_ret2
              exact ⟨ret_pair (by rw [HR.out]; rfl) (by rw [HR.out]; rfl), rfl⟩
      · have hlk : ¬ k < l.length := by have := LD.out; omega
        have HQ := Lib.hid (LEAVE.out (.inr fun h => absurd h hlk))
        have m1 : decide ((p : Int) < min (s.size : Int) 9) = false := decide_eq_false (by omega)
        have m2 : ¬ (p : Int) < min (s.size : Int) 9 := by omega
        clear hlk hbd pk
        by_cases c6 : k = 0
        · have t1 : ((p : Int) == 2) = true := beq_iff_eq.2 (by have := HPK.out; omega)
          have HR := Lib.hid (nr_zero (start := 2) (HQ.out.1.trans c6))
          go_wp2_with fail
          go_ret2
          exact ⟨by rw [HR.out]; rfl, rfl⟩
        · have t1 : ((p : Int) == 2) = false := beq_eq_false_iff_ne.2 (by have := HPK.out; omega)
          cases hpre : hasPrefix (l.drop k) [59] with
          | true =>
            have HR := Lib.hid (nr_yes (start := 2) HQ.out.1 c6 HQ.out.2 hpre)
            have HPB : Hid (∀ W, Calls Tryd.prog 17 #[.string (s.extract p s.size), .string ⟨#[59]⟩] W fun e w' => e = .returned (.bool true) ∧ w' = W) := Lib.hid fun W => by
              have := HP.out (s.extract p s.size) ⟨#[59]⟩ W
              rw [show (s.extract p s.size).data.toList = l.drop k by rw [AFTER.out], hpre] at this
              exact this
            clear hpre
            go_wp2_with fail
            refine (HPB.out _).mono ?_
            rintro e w1 ⟨rfl, rfl⟩
            go_wp2_with fail
            refine (KV.out _).mono ?_
            rintro e w1 ⟨rfl, rfl⟩
            go_wp2_with fail
            go_ret2
            exact ⟨ret_pair (by rw [HR.out]) (by rw [HR.out]; have := HPK.out; dsimp only; first | omega | (rw [IntWalk.wrap64_in _ (by omega)]; omega)), rfl⟩
          | false =>
            have HR := Lib.hid (nr_not (start := 2) HQ.out.1 hpre)
            have HPB : Hid (∀ W, Calls Tryd.prog 17 #[.string (s.extract p s.size), .string ⟨#[59]⟩] W fun e w' => e = .returned (.bool false) ∧ w' = W) := Lib.hid fun W => by
              have := HP.out (s.extract p s.size) ⟨#[59]⟩ W
              rw [show (s.extract p s.size).data.toList = l.drop k by rw [AFTER.out], hpre] at this
              exact this
            clear hpre
            go_wp2_with fail
            refine (HPB.out _).mono ?_
            rintro e w1 ⟨rfl, rfl⟩
            go_wp2_with fail
            go_ret2
            exact ⟨ret_pair (by rw [HR.out]; rfl) (by rw [HR.out]; rfl), rfl⟩
    · have HQ := Lib.hid (LEAVE.out (.inl (by omega)))
      have m1 : decide ((p : Int) < min (s.size : Int) 9) = false := decide_eq_false (by omega)
      have m2 : ¬ (p : Int) < min (s.size : Int) 9 := by omega
      clear hbd pk
      by_cases c6 : k = 0
      · have t1 : ((p : Int) == 2) = true := beq_iff_eq.2 (by have := HPK.out; omega)
        have HR := Lib.hid (nr_zero (start := 2) (HQ.out.1.trans c6))
        go_wp2_with fail
        go_ret2
        exact ⟨by rw [HR.out]; rfl, rfl⟩
      · have t1 : ((p : Int) == 2) = false := beq_eq_false_iff_ne.2 (by have := HPK.out; omega)
        cases hpre : hasPrefix (l.drop k) [59] with
        | true =>
          have HR := Lib.hid (nr_yes (start := 2) HQ.out.1 c6 HQ.out.2 hpre)
          have HPB : Hid (∀ W, Calls Tryd.prog 17 #[.string (s.extract p s.size), .string ⟨#[59]⟩] W fun e w' => e = .returned (.bool true) ∧ w' = W) := Lib.hid fun W => by
            have := HP.out (s.extract p s.size) ⟨#[59]⟩ W
            rw [show (s.extract p s.size).data.toList = l.drop k by rw [AFTER.out], hpre] at this
            exact this
          clear hpre
          go_wp2_with fail
          refine (HPB.out _).mono ?_
          rintro e w1 ⟨rfl, rfl⟩
          go_wp2_with fail
          refine (KV.out _).mono ?_
          rintro e w1 ⟨rfl, rfl⟩
          go_wp2_with fail
          go_ret2
          exact ⟨ret_pair (by rw [HR.out]) (by rw [HR.out]; have := HPK.out; dsimp only; first | omega | (rw [IntWalk.wrap64_in _ (by omega)]; omega)), rfl⟩
        | false =>
          have HR := Lib.hid (nr_not (start := 2) HQ.out.1 hpre)
          have HPB : Hid (∀ W, Calls Tryd.prog 17 #[.string (s.extract p s.size), .string ⟨#[59]⟩] W fun e w' => e = .returned (.bool false) ∧ w' = W) := Lib.hid fun W => by
            have := HP.out (s.extract p s.size) ⟨#[59]⟩ W
            rw [show (s.extract p s.size).data.toList = l.drop k by rw [AFTER.out], hpre] at this
            exact this
          clear hpre
          go_wp2_with fail
          refine (HPB.out _).mono ?_
          rintro e w1 ⟨rfl, rfl⟩
          go_wp2_with fail
          go_ret2
          exact ⟨ret_pair (by rw [HR.out]; rfl) (by rw [HR.out]; rfl), rfl⟩
end Go.Proofs.YtonajkcdkihchaaDoor
