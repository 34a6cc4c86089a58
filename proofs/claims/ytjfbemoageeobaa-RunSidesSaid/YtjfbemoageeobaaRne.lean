/-
  RunSides is true of any two runes.
-/
import Derived.Test.YtjfbemoageeobaaRnd
namespace Go.Proofs.Ytjfbemoageeobaa
open Go.RowKit Go.Lib

set_option maxHeartbeats 4000000 in
set_option maxRecDepth 100000 in
theorem rsides_00 (a b : Int) (w : World) (hx : clsR a = 0) (hy : clsR b = 0) :
    Calls Try.prog 3 #[.int .i32 a, .int .i32 b] w fun e w' => e = .returned (.bool true) ∧ Keeps w w' := by
  have F1 := Lib.hid (flank_star a b w)
  have F2 := Lib.hid (flank_star b a w)
  have F3 := Lib.hid (flank_under a b w)
  have C1 := Lib.hid (class_any a w)
  have C2 := Lib.hid (class_any b w)
  have AW := Lib.hid (awake13_any w)
  rw [hx, hy, show leanB 0 0 = true from rfl] at F1 F2
  rw [hx, hy, show underO (leanB 0 0) (leanB 0 0) 0 = false from rfl] at F3
  rw [hx] at C1
  rw [hy] at C2
  clear hx hy
  go_enter Try.func3, Try.ntmps3
  go_wp2_with fail
  refine F1.out.mono ?_
  rintro e w1 ⟨rfl, rfl⟩
  go_wp2_with fail
  refine F2.out.mono ?_
  rintro e w1 ⟨rfl, rfl⟩
  go_wp2_with fail
  refine F3.out.mono ?_
  rintro e w1 ⟨rfl, rfl⟩
  go_wp2_with fail
  refine C1.out.mono ?_
  rintro e w1 ⟨rfl, rfl⟩
  go_wp2_with fail
  refine C2.out.mono ?_
  rintro e w1 ⟨rfl, rfl⟩
  go_wp2_with fail
  simp only [List.append] at *
  refine AW.out.mono ?_
  rintro e w1 ⟨rfl, k1⟩
  go_wp2_with fail
  go_ret
  exact ⟨rfl, k1⟩

set_option maxHeartbeats 4000000 in
set_option maxRecDepth 100000 in
theorem rsides_01 (a b : Int) (w : World) (hx : clsR a = 0) (hy : clsR b = 1) :
    Calls Try.prog 3 #[.int .i32 a, .int .i32 b] w fun e w' => e = .returned (.bool true) ∧ Keeps w w' := by
  have F1 := Lib.hid (flank_star a b w)
  have F2 := Lib.hid (flank_star b a w)
  have F3 := Lib.hid (flank_under a b w)
  have C1 := Lib.hid (class_any a w)
  have C2 := Lib.hid (class_any b w)
  have AW := Lib.hid (awake13_any w)
  rw [hx, hy, show leanB 0 1 = true from rfl, show leanB 1 0 = false from rfl] at F1 F2
  rw [hx, hy, show underO (leanB 1 0) (leanB 0 1) 0 = false from rfl, show underO (leanB 0 1) (leanB 1 0) 1 = true from rfl] at F3
  rw [hx] at C1
  rw [hy] at C2
  clear hx hy
  go_enter Try.func3, Try.ntmps3
  go_wp2_with fail
  refine F1.out.mono ?_
  rintro e w1 ⟨rfl, rfl⟩
  go_wp2_with fail
  refine F2.out.mono ?_
  rintro e w1 ⟨rfl, rfl⟩
  go_wp2_with fail
  refine F3.out.mono ?_
  rintro e w1 ⟨rfl, rfl⟩
  go_wp2_with fail
  refine C1.out.mono ?_
  rintro e w1 ⟨rfl, rfl⟩
  go_wp2_with fail
  refine C2.out.mono ?_
  rintro e w1 ⟨rfl, rfl⟩
  go_wp2_with fail
  simp only [List.append] at *
  refine AW.out.mono ?_
  rintro e w1 ⟨rfl, k1⟩
  go_wp2_with fail
  go_ret
  exact ⟨rfl, k1⟩

set_option maxHeartbeats 4000000 in
set_option maxRecDepth 100000 in
theorem rsides_02 (a b : Int) (w : World) (hx : clsR a = 0) (hy : clsR b = 2) :
    Calls Try.prog 3 #[.int .i32 a, .int .i32 b] w fun e w' => e = .returned (.bool true) ∧ Keeps w w' := by
  have F1 := Lib.hid (flank_star a b w)
  have F2 := Lib.hid (flank_star b a w)
  have F3 := Lib.hid (flank_under a b w)
  have C1 := Lib.hid (class_any a w)
  have C2 := Lib.hid (class_any b w)
  have AW := Lib.hid (awake13_any w)
  rw [hx, hy, show leanB 0 2 = true from rfl, show leanB 2 0 = false from rfl] at F1 F2
  rw [hx, hy, show underO (leanB 2 0) (leanB 0 2) 0 = false from rfl, show underO (leanB 0 2) (leanB 2 0) 2 = true from rfl] at F3
  rw [hx] at C1
  rw [hy] at C2
  clear hx hy
  go_enter Try.func3, Try.ntmps3
  go_wp2_with fail
  refine F1.out.mono ?_
  rintro e w1 ⟨rfl, rfl⟩
  go_wp2_with fail
  refine F2.out.mono ?_
  rintro e w1 ⟨rfl, rfl⟩
  go_wp2_with fail
  refine F3.out.mono ?_
  rintro e w1 ⟨rfl, rfl⟩
  go_wp2_with fail
  refine C1.out.mono ?_
  rintro e w1 ⟨rfl, rfl⟩
  go_wp2_with fail
  refine C2.out.mono ?_
  rintro e w1 ⟨rfl, rfl⟩
  go_wp2_with fail
  simp only [List.append] at *
  refine AW.out.mono ?_
  rintro e w1 ⟨rfl, k1⟩
  go_wp2_with fail
  go_ret
  exact ⟨rfl, k1⟩

set_option maxHeartbeats 4000000 in
set_option maxRecDepth 100000 in
theorem rsides_10 (a b : Int) (w : World) (hx : clsR a = 1) (hy : clsR b = 0) :
    Calls Try.prog 3 #[.int .i32 a, .int .i32 b] w fun e w' => e = .returned (.bool true) ∧ Keeps w w' := by
  have F1 := Lib.hid (flank_star a b w)
  have F2 := Lib.hid (flank_star b a w)
  have F3 := Lib.hid (flank_under a b w)
  have C1 := Lib.hid (class_any a w)
  have C2 := Lib.hid (class_any b w)
  have AW := Lib.hid (awake13_any w)
  rw [hx, hy, show leanB 1 0 = false from rfl, show leanB 0 1 = true from rfl] at F1 F2
  rw [hx, hy, show underO (leanB 0 1) (leanB 1 0) 1 = true from rfl, show underO (leanB 1 0) (leanB 0 1) 0 = false from rfl] at F3
  rw [hx] at C1
  rw [hy] at C2
  clear hx hy
  go_enter Try.func3, Try.ntmps3
  go_wp2_with fail
  refine F1.out.mono ?_
  rintro e w1 ⟨rfl, rfl⟩
  go_wp2_with fail
  refine F2.out.mono ?_
  rintro e w1 ⟨rfl, rfl⟩
  go_wp2_with fail
  refine F3.out.mono ?_
  rintro e w1 ⟨rfl, rfl⟩
  go_wp2_with fail
  refine C1.out.mono ?_
  rintro e w1 ⟨rfl, rfl⟩
  go_wp2_with fail
  refine C2.out.mono ?_
  rintro e w1 ⟨rfl, rfl⟩
  go_wp2_with fail
  simp only [List.append] at *
  refine AW.out.mono ?_
  rintro e w1 ⟨rfl, k1⟩
  go_wp2_with fail
  go_ret
  exact ⟨rfl, k1⟩

set_option maxHeartbeats 4000000 in
set_option maxRecDepth 100000 in
theorem rsides_11 (a b : Int) (w : World) (hx : clsR a = 1) (hy : clsR b = 1) :
    Calls Try.prog 3 #[.int .i32 a, .int .i32 b] w fun e w' => e = .returned (.bool true) ∧ Keeps w w' := by
  have F1 := Lib.hid (flank_star a b w)
  have F2 := Lib.hid (flank_star b a w)
  have F3 := Lib.hid (flank_under a b w)
  have C1 := Lib.hid (class_any a w)
  have C2 := Lib.hid (class_any b w)
  have AW := Lib.hid (awake13_any w)
  rw [hx, hy, show leanB 1 1 = false from rfl] at F1 F2
  rw [hx, hy, show underO (leanB 1 1) (leanB 1 1) 1 = false from rfl] at F3
  rw [hx] at C1
  rw [hy] at C2
  clear hx hy
  go_enter Try.func3, Try.ntmps3
  go_wp2_with fail
  refine F1.out.mono ?_
  rintro e w1 ⟨rfl, rfl⟩
  go_wp2_with fail
  refine F2.out.mono ?_
  rintro e w1 ⟨rfl, rfl⟩
  go_wp2_with fail
  refine F3.out.mono ?_
  rintro e w1 ⟨rfl, rfl⟩
  go_wp2_with fail
  refine C1.out.mono ?_
  rintro e w1 ⟨rfl, rfl⟩
  go_wp2_with fail
  refine C2.out.mono ?_
  rintro e w1 ⟨rfl, rfl⟩
  go_wp2_with fail
  simp only [List.append] at *
  refine AW.out.mono ?_
  rintro e w1 ⟨rfl, k1⟩
  go_wp2_with fail
  go_ret
  exact ⟨rfl, k1⟩

set_option maxHeartbeats 4000000 in
set_option maxRecDepth 100000 in
theorem rsides_12 (a b : Int) (w : World) (hx : clsR a = 1) (hy : clsR b = 2) :
    Calls Try.prog 3 #[.int .i32 a, .int .i32 b] w fun e w' => e = .returned (.bool true) ∧ Keeps w w' := by
  have F1 := Lib.hid (flank_star a b w)
  have F2 := Lib.hid (flank_star b a w)
  have F3 := Lib.hid (flank_under a b w)
  have C1 := Lib.hid (class_any a w)
  have C2 := Lib.hid (class_any b w)
  have AW := Lib.hid (awake13_any w)
  rw [hx, hy, show leanB 1 2 = false from rfl, show leanB 2 1 = true from rfl] at F1 F2
  rw [hx, hy, show underO (leanB 2 1) (leanB 1 2) 1 = true from rfl, show underO (leanB 1 2) (leanB 2 1) 2 = false from rfl] at F3
  rw [hx] at C1
  rw [hy] at C2
  clear hx hy
  go_enter Try.func3, Try.ntmps3
  go_wp2_with fail
  refine F1.out.mono ?_
  rintro e w1 ⟨rfl, rfl⟩
  go_wp2_with fail
  refine F2.out.mono ?_
  rintro e w1 ⟨rfl, rfl⟩
  go_wp2_with fail
  refine F3.out.mono ?_
  rintro e w1 ⟨rfl, rfl⟩
  go_wp2_with fail
  refine C1.out.mono ?_
  rintro e w1 ⟨rfl, rfl⟩
  go_wp2_with fail
  refine C2.out.mono ?_
  rintro e w1 ⟨rfl, rfl⟩
  go_wp2_with fail
  simp only [List.append] at *
  refine AW.out.mono ?_
  rintro e w1 ⟨rfl, k1⟩
  go_wp2_with fail
  go_ret
  exact ⟨rfl, k1⟩

set_option maxHeartbeats 4000000 in
set_option maxRecDepth 100000 in
theorem rsides_20 (a b : Int) (w : World) (hx : clsR a = 2) (hy : clsR b = 0) :
    Calls Try.prog 3 #[.int .i32 a, .int .i32 b] w fun e w' => e = .returned (.bool true) ∧ Keeps w w' := by
  have F1 := Lib.hid (flank_star a b w)
  have F2 := Lib.hid (flank_star b a w)
  have F3 := Lib.hid (flank_under a b w)
  have C1 := Lib.hid (class_any a w)
  have C2 := Lib.hid (class_any b w)
  have AW := Lib.hid (awake13_any w)
  rw [hx, hy, show leanB 2 0 = false from rfl, show leanB 0 2 = true from rfl] at F1 F2
  rw [hx, hy, show underO (leanB 0 2) (leanB 2 0) 2 = true from rfl, show underO (leanB 2 0) (leanB 0 2) 0 = false from rfl] at F3
  rw [hx] at C1
  rw [hy] at C2
  clear hx hy
  go_enter Try.func3, Try.ntmps3
  go_wp2_with fail
  refine F1.out.mono ?_
  rintro e w1 ⟨rfl, rfl⟩
  go_wp2_with fail
  refine F2.out.mono ?_
  rintro e w1 ⟨rfl, rfl⟩
  go_wp2_with fail
  refine F3.out.mono ?_
  rintro e w1 ⟨rfl, rfl⟩
  go_wp2_with fail
  refine C1.out.mono ?_
  rintro e w1 ⟨rfl, rfl⟩
  go_wp2_with fail
  refine C2.out.mono ?_
  rintro e w1 ⟨rfl, rfl⟩
  go_wp2_with fail
  simp only [List.append] at *
  refine AW.out.mono ?_
  rintro e w1 ⟨rfl, k1⟩
  go_wp2_with fail
  go_ret
  exact ⟨rfl, k1⟩

set_option maxHeartbeats 4000000 in
set_option maxRecDepth 100000 in
theorem rsides_21 (a b : Int) (w : World) (hx : clsR a = 2) (hy : clsR b = 1) :
    Calls Try.prog 3 #[.int .i32 a, .int .i32 b] w fun e w' => e = .returned (.bool true) ∧ Keeps w w' := by
  have F1 := Lib.hid (flank_star a b w)
  have F2 := Lib.hid (flank_star b a w)
  have F3 := Lib.hid (flank_under a b w)
  have C1 := Lib.hid (class_any a w)
  have C2 := Lib.hid (class_any b w)
  have AW := Lib.hid (awake13_any w)
  rw [hx, hy, show leanB 2 1 = true from rfl, show leanB 1 2 = false from rfl] at F1 F2
  rw [hx, hy, show underO (leanB 1 2) (leanB 2 1) 2 = false from rfl, show underO (leanB 2 1) (leanB 1 2) 1 = true from rfl] at F3
  rw [hx] at C1
  rw [hy] at C2
  clear hx hy
  go_enter Try.func3, Try.ntmps3
  go_wp2_with fail
  refine F1.out.mono ?_
  rintro e w1 ⟨rfl, rfl⟩
  go_wp2_with fail
  refine F2.out.mono ?_
  rintro e w1 ⟨rfl, rfl⟩
  go_wp2_with fail
  refine F3.out.mono ?_
  rintro e w1 ⟨rfl, rfl⟩
  go_wp2_with fail
  refine C1.out.mono ?_
  rintro e w1 ⟨rfl, rfl⟩
  go_wp2_with fail
  refine C2.out.mono ?_
  rintro e w1 ⟨rfl, rfl⟩
  go_wp2_with fail
  simp only [List.append] at *
  refine AW.out.mono ?_
  rintro e w1 ⟨rfl, k1⟩
  go_wp2_with fail
  go_ret
  exact ⟨rfl, k1⟩

set_option maxHeartbeats 4000000 in
set_option maxRecDepth 100000 in
theorem rsides_22 (a b : Int) (w : World) (hx : clsR a = 2) (hy : clsR b = 2) :
    Calls Try.prog 3 #[.int .i32 a, .int .i32 b] w fun e w' => e = .returned (.bool true) ∧ Keeps w w' := by
  have F1 := Lib.hid (flank_star a b w)
  have F2 := Lib.hid (flank_star b a w)
  have F3 := Lib.hid (flank_under a b w)
  have C1 := Lib.hid (class_any a w)
  have C2 := Lib.hid (class_any b w)
  have AW := Lib.hid (awake13_any w)
  rw [hx, hy, show leanB 2 2 = true from rfl] at F1 F2
  rw [hx, hy, show underO (leanB 2 2) (leanB 2 2) 2 = true from rfl] at F3
  rw [hx] at C1
  rw [hy] at C2
  clear hx hy
  go_enter Try.func3, Try.ntmps3
  go_wp2_with fail
  refine F1.out.mono ?_
  rintro e w1 ⟨rfl, rfl⟩
  go_wp2_with fail
  refine F2.out.mono ?_
  rintro e w1 ⟨rfl, rfl⟩
  go_wp2_with fail
  refine F3.out.mono ?_
  rintro e w1 ⟨rfl, rfl⟩
  go_wp2_with fail
  refine C1.out.mono ?_
  rintro e w1 ⟨rfl, rfl⟩
  go_wp2_with fail
  refine C2.out.mono ?_
  rintro e w1 ⟨rfl, rfl⟩
  go_wp2_with fail
  simp only [List.append] at *
  refine AW.out.mono ?_
  rintro e w1 ⟨rfl, k1⟩
  go_wp2_with fail
  go_ret
  exact ⟨rfl, k1⟩
theorem rsides_any (a b : Int) (w : World) :
    Calls Try.prog 3 #[.int .i32 a, .int .i32 b] w fun e w' => e = .returned (.bool true) ∧ Keeps w w' := by
  rcases cls_three a with h | h | h <;> rcases cls_three b with k | k | k
  · exact rsides_00 a b w h k
  · exact rsides_01 a b w h k
  · exact rsides_02 a b w h k
  · exact rsides_10 a b w h k
  · exact rsides_11 a b w h k
  · exact rsides_12 a b w h k
  · exact rsides_20 a b w h k
  · exact rsides_21 a b w h k
  · exact rsides_22 a b w h k
end Go.Proofs.Ytjfbemoageeobaa
