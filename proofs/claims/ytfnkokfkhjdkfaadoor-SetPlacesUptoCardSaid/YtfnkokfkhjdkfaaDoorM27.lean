/-
  Texts of the proof, one behind the other: Divw.
-/
import Derived.Test.YtfnkokfkhjdkfaaDoorM21
import Derived.Test.YtfnkokfkhjdkfaaDoorM7
import Derived.Deep.DeepCutAuto
import Derived.Deep.CutBlock
import Derived.LoopTactic
/-
  math/bits.Div64 gives quotient and rest of two words by one, wherever the high word is below the divisor.
-/
namespace Go.Proofs.YtfnkokfkhjdkfaaDoor
open Go.RowKit Go.Shelf Go.Lib

set_option maxHeartbeats 400000 in
theorem div64_lo (lo y : Nat) (w : World) (hlo : lo < 18446744073709551616) (hy : y < 18446744073709551616) (h : 0 < y) :
    Calls Tryd.prog 68 #[.int .u64 0, .int .u64 lo, .int .u64 y] w fun e w' => e = .returned (.tuple #[.int .u64 ((lo / y : Nat) : Int), .int .u64 ((lo % y : Nat) : Int)]) ∧ Keeps w w' := by
  have e0 : ((y : Int) == 0) = false := by simp; omega
  have e1 : decide ((y : Int) ≤ 0) = false := by simp; omega
  go_enter Tryd.func68, Tryd.ntmps68
  go_wp2
  go_quiet (fail)
  go_wp2
  go_ret2
  exact ⟨by
    show Ending.returned (.tuple #[.int .u64 (IntKind.u64.wrap ((lo : Int) / (y : Int))), .int .u64 ((lo : Int) % (y : Int))]) = _
    have hq := Nat.div_le_self lo y
    rw [show (lo : Int) / (y : Int) = ((lo / y : Nat) : Int) from rfl]
    generalize lo / y = q at *
    rw [IntWalk.u64_in _ ⟨by omega, by omega⟩]; rfl, (Keeps.refl w).drewN _⟩

theorem lz_any (y s : Nat) (w : World) (hy : y < 18446744073709551616) (h : 64 - (Lib.bitLen y : Int) = s) :
    Calls Tryd.prog 80 #[.int .u64 y] w fun e w' => e = .returned (.int .i64 s) ∧ w' = w := by
  have c := (Tryd.bits_LeadingZeros64 y w (by omega) (by omega))
  rw [Int.toNat_natCast, show (64 - (Lib.bitLen y : Int)) = s from h] at c
  exact c

set_option maxRecDepth 100000 in
set_option maxHeartbeats 400000 in
theorem div64_any (hi lo y s : Nat) (w : World) (hhi : hi < y) (hlo : lo < 18446744073709551616) (hy : y < 18446744073709551616) (h0 : 0 < hi) (hs : s < 64) (hsn : Hid (64 - (Lib.bitLen y : Int) = s)) (hm : Hid (9223372036854775808 ≤ y * 2 ^ s ∧ y * 2 ^ s < 18446744073709551616)) :
    Calls Tryd.prog 68 #[.int .u64 hi, .int .u64 lo, .int .u64 y] w fun e w' => e = .returned (.tuple #[.int .u64 (((hi * 18446744073709551616 + lo) / y : Nat) : Int), .int .u64 (((hi * 18446744073709551616 + lo) % y : Nat) : Int)]) ∧ Keeps w w' := by
  have e0 : ((y : Int) == 0) = false := by simp; omega
  have e1 : decide ((y : Int) ≤ hi) = false := by simp; omega
  have e2 : ((hi : Int) == 0) = false := by simp; omega
  have C := Lib.hid (fun W => lz_any y s W hy hsn.out)
  go_enter Tryd.func68, Tryd.ntmps68
  go_wp2_with fail
  refine (C.out _).mono ?_
  rintro e w' ⟨rfl, rfl⟩
  go_upto_region 14 with fail
  go_cut [2, 8, 9, 10, 11, 13, 14] (fun s2 s8 s9 s10 s11 s13 s14 wx => ∃ d1 d0 u v1 v0 : Nat, 2147483648 ≤ d1 ∧ d1 < 4294967296 ∧ d0 < 4294967296 ∧ u < d1 * 4294967296 + d0 ∧ v1 < 4294967296 ∧ v0 < 4294967296 ∧
    Hid ((hi * 18446744073709551616 + lo) * 2 ^ s = (u * 4294967296 + v1) * 4294967296 + v0) ∧ Hid (y * 2 ^ s = d1 * 4294967296 + d0) ∧
    s2 = .int .u64 (d1 * 4294967296 + d0 : Nat) ∧ s8 = .int .u64 s ∧ s9 = .int .u64 d1 ∧ s10 = .int .u64 d0 ∧ s11 = .int .u64 u ∧ s13 = .int .u64 v1 ∧ s14 = .int .u64 v0 ∧ wx = w')
  case first =>
    go_wp2_with fail
    go_meet
    case rel => exact first_words hi lo y s w' hs hhi hlo hm.out.1 hm.out.2
  case rest =>
    obtain ⟨d1, d0, u, v1, v0, k1, k2, k3, k4, k5, k6, HU, HD, rfl, rfl, rfl, rfl, rfl, rfl, rfl, rfl⟩ := hcut
    have ed : ((d1 : Int) == 0) = false := by simp; omega
    have x1 := quo_in u d1 (by omega)
    have x2 := (quo_mul_in u d1 (by omega)).1
    have x3 := (quo_mul_in u d1 (by omega)).2
    have hw := rest_word u v1 (d1 * 4294967296 + d0)
    have HW := Lib.hid (fun q => hw q (by omega) (by omega))
    clear hw
    go_upto_block 0 with fail
    go_cut [15, 16] (fun s15 _ wx => ∃ q : Int, 0 ≤ q ∧ q < 4294967296 ∧ q = (((u * 4294967296 + v1) / (d1 * 4294967296 + d0) : Nat) : Int) ∧ s15 = .int .u64 q ∧ wx = wc)
    case first =>
      clear ed x1 x2 x3
      have K4 := Lib.hid k4
      clear k4
      go_wp2_with fail
      go_loop [15, 16] (fun a b => ∃ q r : Int, DigI d1 d0 u v1 q r ∧ a = .int .u64 q ∧ b = .int .u64 r) (fun a _ => (RowKit.intOf a).toNat)
      case atStart => exact ⟨_, _, digi_start d1 d0 u v1 (by omega) k2 (by omega), rfl, rfl⟩
      case round =>
        obtain ⟨q, r, hd, rfl, rfl⟩ := hrel
        obtain ⟨q1, q2, r1, r2⟩ := digi_bd hd k1 K4.out k3
        have HN := Lib.hid (digi_next hd K4.out (by omega))
        have HT := Lib.hid (digi_stop hd (by omega))
        by_cases c1 : 4294967296 ≤ q
        · by_cases c2 : 4294967296 ≤ r + d1
          · go_wp2_with fail
            go_meet
            case rel => exact ⟨_, by have := (HN.out (.inl c1)).1; omega, ((HN.out (.inl c1)).2.2 (by omega) k3 c2).1, ((HN.out (.inl c1)).2.2 (by omega) k3 c2).2, rfl, rfl⟩
          · go_wp2_with fail
            go_round
            case rel => exact ⟨_, _, (HN.out (.inl c1)).2.1 c2, rfl, rfl⟩
            case measure => simp [RowKit.intOf]; omega
        · have hm := mul_bd q d0 q1 c1 k3
          by_cases c3 : 4294967296 * r + v1 < q * d0
          · have p1 := (HN.out (.inr c3)).1
            by_cases c2 : 4294967296 ≤ r + d1
            · go_wp2_with fail
              go_meet
              case rel => exact ⟨_, by omega, ((HN.out (.inr c3)).2.2 (by omega) k3 c2).1, ((HN.out (.inr c3)).2.2 (by omega) k3 c2).2, rfl, rfl⟩
            · go_wp2_with fail
              go_round
              case rel => exact ⟨_, _, (HN.out (.inr c3)).2.1 c2, rfl, rfl⟩
              case measure => simp [RowKit.intOf]; omega
          · go_wp2_with fail
            go_meet
            case rel => exact ⟨_, q1, by omega, HT.out c3, rfl, rfl⟩

    case rest =>
      obtain ⟨q, q1, q2, hq, rfl, rfl⟩ := hcut
      have HQ := Lib.hid hq
      clear hq x1 x2 x3
      go_upto_region 21 with fail
      go_cut [17] (fun s17 wx => ∃ u2 : Nat, u2 < d1 * 4294967296 + d0 ∧ Hid (u2 = (u * 4294967296 + v1) % (d1 * 4294967296 + d0)) ∧ s17 = .int .u64 u2 ∧ wx = wc)
      case first =>
        go_wp2_with fail
        go_meet
        case rel => exact ⟨_, Nat.mod_lt _ (by omega), rfl, congrArg (Value.int .u64) (HW.out q HQ.out), rfl⟩
      case rest =>
        obtain ⟨u2, k7, H2, rfl, rfl⟩ := hcut
        have x1 := quo_in u2 d1 (by omega)
        have x2 := (quo_mul_in u2 d1 (by omega)).1
        have x3 := (quo_mul_in u2 d1 (by omega)).2
        go_upto_block 2 with fail
        go_cut [18, 16] (fun s18 _ wx => ∃ q0 : Int, 0 ≤ q0 ∧ q0 < 4294967296 ∧ q0 = (((u2 * 4294967296 + v0) / (d1 * 4294967296 + d0) : Nat) : Int) ∧ s18 = .int .u64 q0 ∧ wx = wc)
        case first =>
          clear ed x1 x2 x3
          have K7 := Lib.hid k7
          clear k7
          go_wp2_with fail
          go_loop [18, 16] (fun a b => ∃ q r : Int, DigI d1 d0 u2 v0 q r ∧ a = .int .u64 q ∧ b = .int .u64 r) (fun a _ => (RowKit.intOf a).toNat)
          case atStart => exact ⟨_, _, digi_start d1 d0 u2 v0 (by omega) k2 (by omega), rfl, rfl⟩
          case round =>
            obtain ⟨q, r, hd, rfl, rfl⟩ := hrel
            obtain ⟨q1, q2, r1, r2⟩ := digi_bd hd k1 K7.out k3
            have HN := Lib.hid (digi_next hd K7.out (by omega))
            have HT := Lib.hid (digi_stop hd (by omega))
            by_cases c1 : 4294967296 ≤ q
            · by_cases c2 : 4294967296 ≤ r + d1
              · go_wp2_with fail
                go_meet
                case rel => exact ⟨_, by have := (HN.out (.inl c1)).1; omega, ((HN.out (.inl c1)).2.2 (by omega) k3 c2).1, ((HN.out (.inl c1)).2.2 (by omega) k3 c2).2, rfl, rfl⟩
              · go_wp2_with fail
                go_round
                case rel => exact ⟨_, _, (HN.out (.inl c1)).2.1 c2, rfl, rfl⟩
                case measure => simp [RowKit.intOf]; omega
            · have hm := mul_bd q d0 q1 c1 k3
              by_cases c3 : 4294967296 * r + v0 < q * d0
              · have p1 := (HN.out (.inr c3)).1
                by_cases c2 : 4294967296 ≤ r + d1
                · go_wp2_with fail
                  go_meet
                  case rel => exact ⟨_, by omega, ((HN.out (.inr c3)).2.2 (by omega) k3 c2).1, ((HN.out (.inr c3)).2.2 (by omega) k3 c2).2, rfl, rfl⟩
                · go_wp2_with fail
                  go_round
                  case rel => exact ⟨_, _, (HN.out (.inr c3)).2.1 c2, rfl, rfl⟩
                  case measure => simp [RowKit.intOf]; omega
              · go_wp2_with fail
                go_meet
                case rel => exact ⟨_, q1, by omega, HT.out c3, rfl, rfl⟩

        case rest =>
          obtain ⟨q0, p1, p2, hq0, rfl, rfl⟩ := hcut
          have HQ0 := Lib.hid hq0
          clear hq0 x1 x2 x3
          go_wp2_with fail
          go_ret2
          obtain ⟨l1, l2⟩ := last_words _ y s d1 d0 u v1 v0 u2 q q0 (by omega) k2 k3 HU.out HD.out HQ.out H2.out HQ0.out
          exact ⟨by
            rw [← l1, ← l2]
            rfl, Keeps.refl _⟩

/-- math/bits.Div64 at every high word below the divisor. -/
theorem div64_all (hi lo y : Nat) (w : World) (hhi : hi < y) (hlo : lo < 18446744073709551616) (hy : y < 18446744073709551616) :
    Calls Tryd.prog 68 #[.int .u64 hi, .int .u64 lo, .int .u64 y] w fun e w' => e = .returned (.tuple #[.int .u64 (((hi * 18446744073709551616 + lo) / y : Nat) : Int), .int .u64 (((hi * 18446744073709551616 + lo) % y : Nat) : Int)]) ∧ Keeps w w' := by
  rcases Nat.eq_zero_or_pos hi with h | h
  · subst h
    rw [Nat.zero_mul, Nat.zero_add]
    exact div64_lo lo y w hlo hy hhi
  · obtain ⟨s, h1, h2, h3, h4⟩ := moved_first y (by omega) hy
    exact div64_any hi lo y s w hhi hlo hy h h1 h2 ⟨h3, h4⟩
end Go.Proofs.YtfnkokfkhjdkfaaDoor

