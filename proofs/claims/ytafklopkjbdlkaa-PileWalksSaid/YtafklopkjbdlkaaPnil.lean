/-
  PileNil returns true, whatever the number.
-/
import Derived.Test.YtafklopkjbdlkaaPup
import Derived.Test.YtafklopkjbdlkaaPdn
import Derived.Test.YtafklopkjbdlkaaPaw
namespace Go.Proofs.Ytafklopkjbdlkaa
open Go.RowKit Go.Lib Go.Shelf

theorem own_form {W : World} {n₀ : Nat} {e : TypeId} {v : Value} {n : Nat} {vs : List Value} (h : W.ownsRow n₀ e 1 v n vs) : ∃ ao cap, v = .slice ao n cap := by
  rcases Go.Joins.ownsRow_forms h with ⟨rfl, e⟩ | ⟨g, cap, rfl⟩
  · exact ⟨none, 0, by rw [e]⟩
  · exact ⟨_, cap, rfl⟩
theorem up_any (p : Option Addr) (xs : List Int) (hl : xs.length ≤ 1000) (most : Nat) (hm : 1 ≤ most) (hm2 : most ≤ 1000) (w : World) (hL : Lie w.heap.size w p xs) :
    Calls Try.prog 22 #[.pointer p, .int .i64 (most : Int)] w fun e W' => ∃ ao cap, e = .returned (.tuple #[.slice ao (min xs.length most) cap, .bool true]) ∧ W'.ownsRow w.heap.size 3 1 (.slice ao (min xs.length most) cap) (min xs.length most) ((xs.take most).map (Value.int .i64)) ∧ Below w.heap.size w W' :=
  (callsIn_wide.1 (ups_in 3 (Nat.le_refl _) p xs hl most hm hm2 w hL)).mono fun e W' ⟨v, he, hr, hb⟩ => by
    obtain ⟨ao, cap, rfl⟩ := own_form hr
    exact ⟨ao, cap, he, hr, hb⟩
theorem down_any (p : Option Addr) (xs : List Int) (hl : xs.length ≤ 1000) (w : World) (hL : Lie w.heap.size w p xs) :
    Calls Try.prog 23 #[.pointer p] w fun e W' => ∃ ao cap, e = .returned (.slice ao xs.length cap) ∧ W'.ownsRow w.heap.size 3 1 (.slice ao xs.length cap) xs.length ((rev xs xs.length).map (Value.int .i64)) ∧ Below w.heap.size w W' :=
  (callsIn_wide.1 (downs_in 3 (Nat.le_refl _) p xs hl w hL)).mono fun e W' ⟨v, he, hr, hb⟩ => by
    obtain ⟨ao, cap, rfl⟩ := own_form hr
    exact ⟨ao, cap, he, hr, hb⟩
theorem list_any (p : Option Addr) (xs : List Int) (hl : xs.length ≤ 1000) (w : World) (hL : Lie w.heap.size w p xs) :
    Calls Try.prog 24 #[.pointer p] w fun e W' => ∃ ao cap, e = .returned (.slice ao xs.length cap) ∧ W'.ownsRow w.heap.size 3 1 (.slice ao xs.length cap) xs.length (xs.map (Value.int .i64)) ∧ Below w.heap.size w W' :=
  (callsIn_wide.1 (list_in 3 (Nat.le_refl _) p xs hl w hL)).mono fun e W' ⟨v, he, hr, hb⟩ => by
    obtain ⟨ao, cap, rfl⟩ := own_form hr
    exact ⟨ao, cap, he, hr, hb⟩

set_option maxHeartbeats 1000000 in
theorem nil_any (n : Int) (w : World) :
    Calls Try.prog 5 #[.int .i64 n] w fun e w' => e = .returned (.bool true) ∧ Below w.heap.size w w' := by
  have PU := Lib.hid (pushI_nil n w)
  have CU := Lib.hid (cutI_nil n w)
  have PO := Lib.hid (popI_nil w)
  have AT := Lib.hid (atI_nil n w)
  have UP := Lib.hid (up_any none [] (by simp) 5 (by omega) (by omega) w (Lie.nil _ _))
  have AW := Lib.hid (fun W => awake_any W)
  have LN := Lib.hid (fun W => lenI_nil W)
  have DN := Lib.hid (fun W => down_any none [] (by simp) W (Lie.nil _ _))
  have LI := Lib.hid (fun W => list_any none [] (by simp) W (Lie.nil _ _))
  go_enter Try.func5, Try.ntmps5
  go_wp2_with fail
  refine PU.out.mono ?_
  rintro e w1 ⟨rfl, rfl⟩
  go_wp2_with fail
  refine CU.out.mono ?_
  rintro e w1 ⟨rfl, rfl⟩
  go_wp2_with fail
  refine PO.out.mono ?_
  rintro e w1 ⟨rfl, rfl⟩
  go_wp2_with fail
  refine AT.out.mono ?_
  rintro e w1 ⟨rfl, rfl⟩
  go_wp2_with fail
  refine UP.out.mono ?_
  rintro e w1 ⟨ao, cap, rfl, _, b1⟩
  have B1 := Lib.hid b1
  clear b1
  go_wp2_with fail
  refine (AW.out _).mono ?_
  rintro e w2 ⟨rfl, b2⟩
  have B2 := Lib.hid (B1.out.trans (b2.mono B1.out.size))
  clear b2
  go_wp2_with fail
  refine (LN.out _).mono ?_
  rintro e w3 ⟨rfl, rfl⟩
  go_wp2_with fail
  refine (DN.out _).mono ?_
  rintro e w3 ⟨ao2, cap2, rfl, _, b3⟩
  have B3 := Lib.hid (B2.out.trans (b3.mono B2.out.size))
  clear b3
  go_wp2_with fail
  refine (LI.out _).mono ?_
  rintro e w4 ⟨ao3, cap3, rfl, _, b4⟩
  have B4 := Lib.hid (B3.out.trans (b4.mono B3.out.size))
  clear b4
  go_wp2_with fail
  go_ret
  exact ⟨rfl, B4.out⟩
end Go.Proofs.Ytafklopkjbdlkaa
