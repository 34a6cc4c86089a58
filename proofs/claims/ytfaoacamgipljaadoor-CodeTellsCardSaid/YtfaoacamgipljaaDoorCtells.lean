/-
  CodeTells and CodeBack return true of any rune and any code.
-/
import Derived.Test.YtfaoacamgipljaaDoorCaw
namespace Go.Proofs.YtfaoacamgipljaaDoor
open Go.RowKit Go.Lib

set_option maxHeartbeats 800000 in
theorem ctells_any (r : Int) (c : Nat) (hc : c < 256) (w : World) (hO : Odd w) :
    Calls Tryd.prog 3 #[.int .i32 r, .int .u8 c] w fun e w' => e = .returned (.bool true) ∧ Keeps w w' := by
  have T1 := Lib.hid (fun W h => to_any r W h)
  have T2 := Lib.hid (fun W => rto_any r W)
  have F1 := Lib.hid (fun W h => from_any c hc W h)
  have F2 := Lib.hid (fun W => rfrom_any c hc W)
  have AW := Lib.hid (fun W h => awake4_any W h)
  have hb := toN_lt r
  have hf := from_range c hc
  generalize toN r = p at *
  generalize fromR c = q at *
  obtain ⟨a, x⟩ := p
  obtain ⟨d, z⟩ := q
  dsimp only at *
  go_enter Tryd.func3, Tryd.ntmps3
  go_wp2_with fail
  refine (T1.out _ hO).mono ?_
  rintro e w1 ⟨rfl, rfl⟩
  go_wp2_with fail
  refine (T2.out _).mono ?_
  rintro e w1 ⟨rfl, k1⟩
  have K1 := Lib.hid k1
  clear k1
  go_wp2_with fail
  refine (F1.out _ (Odd.keep hO K1.out)).mono ?_
  rintro e w2 ⟨rfl, rfl⟩
  go_wp2_with fail
  refine (F2.out _).mono ?_
  rintro e w2 ⟨rfl, k2⟩
  have K2 := Lib.hid (K1.out.trans k2)
  clear k2
  go_wp2_with fail
  refine (AW.out _ (Odd.keep hO K2.out)).mono ?_
  rintro e w3 ⟨rfl, k3⟩
  have K3 := Lib.hid (K2.out.trans k3)
  clear k3
  go_wp2_with fail
  go_ret
  exact ⟨rfl, K3.out⟩

set_option maxHeartbeats 800000 in
theorem cback_any (r : Int) (c : Nat) (hc : c < 256) (w : World) (hO : Odd w) :
    Calls Tryd.prog 5 #[.int .i32 r, .int .u8 c] w fun e w' => e = .returned (.bool true) ∧ Keeps w w' := by
  have T1 := Lib.hid (fun W h => to_any r W h)
  have F1 := Lib.hid (fun W h => from_any (toN r).1 (toN_lt r) W h)
  have F2 := Lib.hid (fun W h => from_any c hc W h)
  have T2 := Lib.hid (fun W h => to_any (fromR c).1 W h)
  have AW := Lib.hid (fun W h => awake4_any W h)
  have hb := toN_lt r
  have hf := from_range c hc
  have B1 := @to_from r
  have B2 := @to_not r
  have B3 := from_to c hc
  have hb2 := toN_lt (fromR c).1
  generalize toN (fromR c).1 = u at *
  generalize fromR (toN r).1 = v at *
  generalize toN r = p at *
  generalize fromR c = q at *
  obtain ⟨a, x⟩ := p
  obtain ⟨d, z⟩ := q
  obtain ⟨e1, wq⟩ := u
  obtain ⟨b, y⟩ := v
  dsimp only at *
  have hx : (x = true ∧ b = r ∧ y = true) ∨ (x = false ∧ a = 63) := by
    cases x with
    | true => have := B1 rfl; simp only [Prod.mk.injEq] at this; exact .inl ⟨rfl, this⟩
    | false => exact .inr ⟨rfl, B2 rfl⟩
  have hz : (z = true ∧ e1 = c ∧ wq = true) ∨ z = false := by
    cases z with
    | true => have := B3 rfl; simp only [Prod.mk.injEq] at this; exact .inl ⟨rfl, this⟩
    | false => exact .inr rfl
  clear B1 B2 B3
  rcases hx with ⟨rfl, rfl, rfl⟩ | ⟨rfl, rfl⟩ <;> rcases hz with ⟨rfl, rfl, rfl⟩ | rfl
  all_goals
    go_enter Tryd.func5, Tryd.ntmps5
    go_wp2_with fail
    refine (T1.out _ hO).mono ?_
    rintro e w1 ⟨rfl, rfl⟩
    go_wp2_with fail
    refine (F1.out _ hO).mono ?_
    rintro e w1 ⟨rfl, rfl⟩
    go_wp2_with fail
    refine (F2.out _ hO).mono ?_
    rintro e w1 ⟨rfl, rfl⟩
    go_wp2_with fail
    refine (T2.out _ hO).mono ?_
    rintro e w1 ⟨rfl, rfl⟩
    go_wp2_with fail
    refine (AW.out _ hO).mono ?_
    rintro e w1 ⟨rfl, k1⟩
    have K1 := Lib.hid k1
    clear k1
    go_wp2_with fail
    go_ret
    exact ⟨rfl, K1.out⟩
end Go.Proofs.YtfaoacamgipljaaDoor
