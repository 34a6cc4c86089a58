/-
  MarkEnds returns true of any text and numbers.
-/
import Derived.Test.YtjfhbfnagcjdmaaGreatDoorMaw
import Derived.Test.YtjfhbfnagcjdmaaGreatDoorMra
namespace Go.Proofs.YtjfhbfnagcjdmaaGreatDoor
open Go.RowKit Go.Lib

set_option maxHeartbeats 400000 in
set_option maxRecDepth 100000 in
theorem mends_long (s : ByteArray) (x m : Int) (w : World) (hs : s.size ≤ maxLen) (h : 1000 < s.size) (hE : Env8 w) :
    Calls Tryz.prog 3 #[.string s, .int .u8 x, .int .i64 m] w fun e w' => e = .returned (.bool true) ∧ Keeps w w' := by
  have AW := Lib.hid (awake8_any w hE)
  unfold maxLen at hs
  clear hE
  go_enter Tryz.func3, Tryz.ntmps3
  go_wp2_with fail
  refine AW.out.mono ?_
  rintro e w2 ⟨rfl, k2⟩
  go_wp2_with fail
  go_ret
  exact ⟨rfl, k2⟩
set_option maxHeartbeats 2000000 in
set_option maxRecDepth 100000 in
theorem mends_short (s : ByteArray) (c : UInt8) (m : Int) (w : World) (hs : s.size ≤ 1000) (hE : Env8 w) :
    Calls Tryz.prog 3 #[.string s, .int .u8 (c.toNat : Nat), .int .i64 m] w fun e w' => e = .returned (.bool true) ∧ Keeps w w' := by
  have AW := Lib.hid (awake8_any w hE)
  have HM := Lib.hid hE.2
  have F1 := Lib.hid (fun W => fenceEnd_any s c m W (by unfold maxLen; omega))
  have F2 := Lib.hid (fun W => rfenceEnd_any s c m W (by omega))
  have H1 := Lib.hid (fun W h => htmlEnd_any s m W (by omega) h)
  have H2 := Lib.hid (fun W => rhtmlEnd_any s m W (by omega))
  have hc := c.toNat_lt
  generalize stretchL c (max m 3) s.data.toList = a at *
  generalize htmlEndL m s.data.toList = b at *
  clear hE
  cases a <;> cases b
  all_goals
    go_enter Tryz.func3, Tryz.ntmps3
    go_wp2_with fail
    (with_reducible refine AW.out.mono ?_)
    rintro e w1 ⟨rfl, k1⟩
    go_wp2_with fail
    (with_reducible refine (F1.out _).mono ?_)
    rintro e w2 ⟨rfl, k2⟩
    go_wp2_with fail
    (with_reducible refine (F2.out _).mono ?_)
    rintro e w3 ⟨rfl, rfl⟩
    go_wp2_with fail
    (with_reducible refine (H1.out _ (HM.out.keep (k1.trans k2))).mono ?_)
    rintro e w4 ⟨rfl, k4⟩
    go_wp2_with fail
    (with_reducible refine (H2.out _).mono ?_)
    rintro e w5 ⟨rfl, k5⟩
    go_wp2_with fail
    go_ret
    exact ⟨rfl, ((k1.trans k2).trans k4).trans k5⟩
theorem mends_any (s : ByteArray) (x : Int) (hx : 0 ≤ x ∧ x ≤ 255) (m : Int) (w : World) (hs : s.size ≤ maxLen) (hE : Env8 w) :
    Calls Tryz.prog 3 #[.string s, .int .u8 x, .int .i64 m] w fun e w' => e = .returned (.bool true) ∧ Keeps w w' := by
  by_cases h : s.size ≤ 1000
  · have e : x = (((UInt8.ofNat x.toNat).toNat : Nat) : Int) := by
      rw [UInt8.toNat_ofNat']
      omega
    rw [e]
    exact mends_short s _ m w h hE
  · exact mends_long s x m w hs (by omega) hE
end Go.Proofs.YtjfhbfnagcjdmaaGreatDoor
