/-
  Contracts of digitOf, known, numberRune, nameRune, refRune, Ref, of the package.
-/
import Derived.Test.YtonajkcdkihchaaDoorNma
import Derived.Test.YtonajkcdkihchaaDoorShelf
namespace Go.Proofs.YtonajkcdkihchaaDoor
open Go.RowKit Go.Lib

set_option maxRecDepth 100000 in
theorem digit_go (x : Int) (w : World) (h0 : 0 ≤ x) (h1 : x < 256) :
    Calls Tryd.prog 61 #[.int .u8 x] w fun e w' => e = .returned (.int .i64 (if 48 ≤ x ∧ x ≤ 57 then x - 48 else if 97 ≤ x ∧ x ≤ 102 then x - 87 else if 65 ≤ x ∧ x ≤ 70 then x - 55 else 16)) ∧ w = w' := by
  by_cases a1 : 48 ≤ x ∧ x ≤ 57
  · rw [if_pos a1]
    obtain ⟨a1, a2⟩ := a1
    go_enter Tryd.func61, Tryd.ntmps61
    go_wp2
    go_ret
    exact ⟨rfl, rfl⟩
  · rw [if_neg a1]
    have a1 : x < 48 ∨ 57 < x := by omega
    by_cases a2 : 97 ≤ x ∧ x ≤ 102
    · rw [if_pos a2]
      obtain ⟨a2, a3⟩ := a2
      have a1 : 57 < x := by omega
      go_enter Tryd.func61, Tryd.ntmps61
      go_wp2
      go_ret
      exact ⟨ret_int (by omega), rfl⟩
    · rw [if_neg a2]
      by_cases a3 : 65 ≤ x ∧ x ≤ 70
      · rw [if_pos a3]
        obtain ⟨a3, a4⟩ := a3
        have a1 : 57 < x := by omega
        have a2 : x < 97 := by omega
        go_enter Tryd.func61, Tryd.ntmps61
        go_wp2
        go_ret
        exact ⟨ret_int (by omega), rfl⟩
      · rw [if_neg a3]
        have hw : x < 48 ∨ (57 < x ∧ x < 65) ∨ (70 < x ∧ x < 97) ∨ 102 < x := by omega
        clear a1 a2 a3
        rcases hw with a | ⟨a, b⟩ | ⟨a, b⟩ | a
        all_goals
          go_enter Tryd.func61, Tryd.ntmps61
          go_wp2
          go_ret
          exact ⟨rfl, rfl⟩
theorem digit_any (b : UInt8) (w : World) :
    Calls Tryd.prog 61 #[.int .u8 (b.toNat : Nat)] w fun e w' => e = .returned (.int .i64 (hexD b : Nat)) ∧ w = w' := by
  have hb := b.toNat_lt
  have e : ((hexD b : Nat) : Int) = (if 48 ≤ (b.toNat : Int) ∧ (b.toNat : Int) ≤ 57 then (b.toNat : Int) - 48 else if 97 ≤ (b.toNat : Int) ∧ (b.toNat : Int) ≤ 102 then (b.toNat : Int) - 87 else if 65 ≤ (b.toNat : Int) ∧ (b.toNat : Int) ≤ 70 then (b.toNat : Int) - 55 else 16) := by
    unfold hexD
    have b1 : (48 ≤ (b.toNat : Int) ∧ (b.toNat : Int) ≤ 57) ↔ (48 ≤ b.toNat ∧ b.toNat ≤ 57) := by omega
    have b2 : (97 ≤ (b.toNat : Int) ∧ (b.toNat : Int) ≤ 102) ↔ (97 ≤ b.toNat ∧ b.toNat ≤ 102) := by omega
    have b3 : (65 ≤ (b.toNat : Int) ∧ (b.toNat : Int) ≤ 70) ↔ (65 ≤ b.toNat ∧ b.toNat ≤ 70) := by omega
    simp only [b1, b2, b3]
    clear b1 b2 b3
    split
    · omega
    · split
      · omega
      · split <;> omega
  rw [e]
  exact digit_go _ w (by omega) (by omega)

set_option maxRecDepth 100000 in
theorem valid_go (x : Int) (w : World) :
    Calls Tryd.prog 65 #[.int .i32 x] w fun e w' => e = .returned (.bool ((decide (0 ≤ x) && decide (x < 55296)) || (decide (57343 < x) && decide (x ≤ 1114111)))) ∧ w = w' := by
  by_cases a1 : 0 ≤ x ∧ x < 55296
  · obtain ⟨a1, a2⟩ := a1
    rw [decide_eq_true a1, decide_eq_true a2]
    go_enter Tryd.func65, Tryd.ntmps65
    go_wp2
    go_ret
    exact ⟨rfl, rfl⟩
  · have hf : (decide (0 ≤ x) && decide (x < 55296)) = false := by simp; omega
    rw [hf]
    by_cases a2 : 57343 < x ∧ x ≤ 1114111
    · obtain ⟨a2, a3⟩ := a2
      rw [decide_eq_true a2, decide_eq_true a3]
      clear a1 hf
      go_enter Tryd.func65, Tryd.ntmps65
      go_wp2
      go_ret
      exact ⟨rfl, rfl⟩
    · have hg : (decide (57343 < x) && decide (x ≤ 1114111)) = false := by simp; omega
      rw [hg]
      have hw : x < 0 ∨ (55295 < x ∧ x ≤ 57343) ∨ 1114111 < x := by omega
      clear a1 a2 hf hg
      rcases hw with a | ⟨a, b⟩ | a
      all_goals
        go_enter Tryd.func65, Tryd.ntmps65
        go_wp2
        go_ret
        exact ⟨rfl, rfl⟩
set_option maxRecDepth 100000 in
theorem known_any (n : Nat) (w : World) (h : n ≤ 16777215) :
    Calls Tryd.prog 62 #[.int .i32 n] w fun e w' => e = .returned (.int .i32 (runeOf n : Nat)) ∧ w = w' := by
  have VA := Lib.hid (fun W => valid_go n W)
  by_cases h0 : n = 0
  · subst h0
    go_enter Tryd.func62, Tryd.ntmps62
    go_wp2
    go_ret
    exact ⟨rfl, rfl⟩
  · have t0 : ((n : Int) == 0) = false := beq_eq_false_iff_ne.2 (by omega)
    by_cases hv : 1114111 < n ∨ (55296 ≤ n ∧ n < 57344)
    · have e : runeOf n = 65533 := by unfold runeOf; rw [if_pos (.inr hv)]
      rw [e]
      rw [show ((decide ((0 : Int) ≤ (n : Int)) && decide ((n : Int) < 55296)) || (decide (57343 < (n : Int)) && decide ((n : Int) ≤ 1114111))) = false by simp; omega] at VA
      clear h hv e h0
      generalize (n : Int) = x at *
      go_enter Tryd.func62, Tryd.ntmps62
      go_wp2_with fail
      refine (VA.out _).mono ?_
      rintro e w1 ⟨rfl, rfl⟩
      go_wp2_with fail
      go_ret
      exact ⟨rfl, rfl⟩
    · have e : runeOf n = n := by unfold runeOf; rw [if_neg (by omega)]
      rw [e]
      rw [show ((decide ((0 : Int) ≤ (n : Int)) && decide ((n : Int) < 55296)) || (decide (57343 < (n : Int)) && decide ((n : Int) ≤ 1114111))) = true by simp; omega] at VA
      clear h hv e h0
      generalize (n : Int) = x at *
      go_enter Tryd.func62, Tryd.ntmps62
      go_wp2_with fail
      refine (VA.out _).mono ?_
      rintro e w1 ⟨rfl, rfl⟩
      go_wp2_with fail
      go_ret
      exact ⟨rfl, rfl⟩
end Go.Proofs.YtonajkcdkihchaaDoor
