/-
  FixOrder returns true for any three numbers, in every world that holds strconv's table.
-/
import Derived.Test.YtfpfjaedoafnpaaDoorAwake1
namespace Go.Proofs.YtfpfjaedoafnpaaDoor
open Go.RowKit Go.Shelf Go.Lib

theorem scl_comm (a b c : Int) : sclOk a b c = sclOk b a c := by
  unfold sclOk
  rw [Int.mul_comm, Bool.and_comm (room a)]
theorem scl_comm' (a b c : Int) : scl b a c = scl a b c ∧ sclE b a c = sclE a b c := by
  unfold scl sclE
  rw [scl_comm b a c, Int.mul_comm]
  exact ⟨rfl, rfl⟩

set_option maxHeartbeats 400000 in
theorem order_any (a b c : Int) (w : World) (ha : -9223372036854775808 ≤ a) (ha' : a ≤ 9223372036854775807) (hb : -9223372036854775808 ≤ b) (hb' : b ≤ 9223372036854775807) (ht : Tab w) :
    Calls Tryd.prog 6 #[.int .i64 a, .int .i64 b, .int .i64 c] w fun e w' => e = .returned (.bool true) ∧ Keeps w w' := by
  have S := Lib.hid (fun W => scale_any a b c W)
  have S2 := Lib.hid (fun W => scale_any b a c W)
  rw [(scl_comm' a b c).1, (scl_comm' a b c).2] at S2
  have AW := Lib.hid (fun W t => awake_any W t)
  generalize scl a b c = z at *
  generalize sclE a b c = g at *
  cases h : (room a && room b && room (a + b)) with
  | false =>
    have A := Lib.hid (fun W => add_no a b W h ha ha' hb hb')
    have A2 := Lib.hid (fun W => add_no b a W (by rw [Bool.and_comm (room b), Int.add_comm]; exact h) hb hb' ha ha')
    clear h
    go_enter Tryd.func6, Tryd.ntmps6
    go_wp2_with fail
    refine (A.out _).mono ?_
    rintro e w1 ⟨rfl, rfl⟩
    go_wp2_with fail
    refine (A2.out _).mono ?_
    rintro e w1 ⟨rfl, rfl⟩
    go_wp2_with fail
    refine (S.out _).mono ?_
    rintro e w1 ⟨rfl, k1⟩
    go_wp2_with fail
    refine (S2.out _).mono ?_
    rintro e w2 ⟨rfl, k2⟩
    have t2 := (ht.keep k1).keep k2
    go_wp2_with fail
    refine (AW.out _ t2).mono ?_
    rintro e w3 ⟨rfl, k3⟩
    go_wp2_with fail
    go_ret
    exact ⟨rfl, (k1.trans k2).trans k3⟩
  | true =>
    rw [Bool.and_eq_true, Bool.and_eq_true] at h
    obtain ⟨⟨h1, h2⟩, h3⟩ := h
    obtain ⟨b1, b2⟩ := room_yes h2
    have A := Lib.hid (fun W => add_yes a b W h1 h2 h3)
    have A2 := Lib.hid (fun W => add_yes b a W h2 h1 (by rw [Int.add_comm]; exact h3))
    have A3 := Lib.hid (fun W => add_yes (a + b) (-b) W h3 (room_mk ⟨by omega, by omega⟩) (by rw [Int.add_neg_cancel_right]; exact h1))
    rw [Int.add_neg_cancel_right] at A3
    rw [Int.add_comm b a] at A2
    generalize a + b = x at *
    clear h1 h2 h3
    go_enter Tryd.func6, Tryd.ntmps6
    go_wp2_with fail
    refine (A.out _).mono ?_
    rintro e w1 ⟨rfl, rfl⟩
    go_wp2_with fail
    refine (A2.out _).mono ?_
    rintro e w1 ⟨rfl, rfl⟩
    go_wp2_with fail
    refine (S.out _).mono ?_
    rintro e w1 ⟨rfl, k1⟩
    go_wp2_with fail
    refine (S2.out _).mono ?_
    rintro e w2 ⟨rfl, k2⟩
    have t2 := (ht.keep k1).keep k2
    go_wp2_with fail
    refine (A3.out _).mono ?_
    rintro e w3 ⟨rfl, rfl⟩
    go_wp2_with fail
    refine (AW.out _ t2).mono ?_
    rintro e w3 ⟨rfl, k3⟩
    go_wp2_with fail
    go_ret
    exact ⟨rfl, (k1.trans k2).trans k3⟩
end Go.Proofs.YtfpfjaedoafnpaaDoor
