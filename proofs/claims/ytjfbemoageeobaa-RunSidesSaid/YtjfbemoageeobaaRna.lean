/-
  Contracts of Class, leans, Flank, Fits, of the package run.
-/
import Derived.Test.YtjfbemoageeobaaRnt
import Derived.Test.YtjfbemoageeobaaBas
namespace Go.Proofs.Ytjfbemoageeobaa
open Go.RowKit Go.Lib

set_option maxRecDepth 100000 in
theorem rnBlank_any (r : Int) (w : World) :
    Calls Try.prog 15 #[.int .i32 r] w fun e w' => e = .returned (.bool (decide (blankP r))) ∧ w = w' := by
  by_cases hb : blankP r
  · rw [decide_eq_true hb]
    unfold blankP at hb
    rcases hb with a | ⟨a, b⟩ | rfl | rfl | rfl | ⟨a, b⟩ | rfl | rfl | rfl
    all_goals
      go_enter Try.func15, Try.ntmps15
      go_wp2
      go_ret
      exact ⟨rfl, rfl⟩
  · rw [decide_eq_false hb]
    have hw : (1 ≤ r ∧ r ≤ 8) ∨ (14 ≤ r ∧ r ≤ 31) ∨ (33 ≤ r ∧ r ≤ 159) ∨ (161 ≤ r ∧ r ≤ 5759) ∨ (5761 ≤ r ∧ r ≤ 8191) ∨ (8203 ≤ r ∧ r ≤ 8238) ∨ (8240 ≤ r ∧ r ≤ 8286) ∨ (8288 ≤ r ∧ r ≤ 12287) ∨ 12289 ≤ r := by
      unfold blankP at hb; omega
    clear hb
    rcases hw with ⟨a, b⟩ | ⟨a, b⟩ | ⟨a, b⟩ | ⟨a, b⟩ | ⟨a, b⟩ | ⟨a, b⟩ | ⟨a, b⟩ | ⟨a, b⟩ | a
    all_goals
      go_enter Try.func15, Try.ntmps15
      go_wp2
      go_ret
      exact ⟨rfl, rfl⟩
def oddP (r : Int) : Prop := r = 170 ∨ r = 178 ∨ r = 179 ∨ r = 181 ∨ r = 185 ∨ r = 186 ∨ r = 188 ∨ r = 189 ∨ r = 190
instance (r : Int) : Decidable (oddP r) := by unfold oddP; infer_instance
set_option maxRecDepth 100000 in
theorem rnOdd_any (r : Int) (w : World) :
    Calls Try.prog 17 #[.int .i32 r] w fun e w' => e = .returned (.bool (decide (oddP r))) ∧ w = w' := by
  by_cases hb : oddP r
  · rw [decide_eq_true hb]
    unfold oddP at hb
    rcases hb with rfl | rfl | rfl | rfl | rfl | rfl | rfl | rfl | rfl
    all_goals
      go_enter Try.func17, Try.ntmps17
      go_wp2
      go_ret
      exact ⟨rfl, rfl⟩
  · rw [decide_eq_false hb]
    have hw : (r ≤ 169) ∨ (171 ≤ r ∧ r ≤ 177) ∨ r = 180 ∨ (182 ≤ r ∧ r ≤ 184) ∨ r = 187 ∨ 191 ≤ r := by
      unfold oddP at hb; omega
    clear hb
    rcases hw with a | ⟨a, b⟩ | rfl | ⟨a, b⟩ | rfl | a
    all_goals
      go_enter Try.func17, Try.ntmps17
      go_wp2
      go_ret
      exact ⟨rfl, rfl⟩
set_option maxHeartbeats 2000000 in
set_option maxRecDepth 100000 in
theorem rnPunct_any (r : Int) (w : World) :
    Calls Try.prog 16 #[.int .i32 r] w fun e w' => e = .returned (.bool (decide (punctP r))) ∧ w = w' := by
  have OD := Lib.hid (rnOdd_any r w)
  by_cases h1 : 161 ≤ r ∧ r ≤ 191
  · have e1 : (!decide (oddP r)) = decide (punctP r) := by
      rw [← decide_not, decide_eq_decide]
      unfold oddP punctP
      omega
    obtain ⟨a, b⟩ := h1
    rw [← e1]
    clear e1
    generalize decide (oddP r) = o at *
    go_enter Try.func16, Try.ntmps16
    go_wp2_with fail
    refine OD.out.mono ?_
    rintro e w1 ⟨rfl, rfl⟩
    go_wp2_with fail
    go_ret
    exact ⟨rfl, rfl⟩
  · clear OD
    by_cases hb : punctP r
    · rw [decide_eq_true hb]
      have hw : (33 ≤ r ∧ r ≤ 47) ∨ (58 ≤ r ∧ r ≤ 64) ∨ (91 ≤ r ∧ r ≤ 96) ∨ (123 ≤ r ∧ r ≤ 126) ∨ r = 215 ∨ r = 247 ∨ (8208 ≤ r ∧ r ≤ 8231) ∨ (8240 ≤ r ∧ r ≤ 8286) ∨ (8352 ≤ r ∧ r ≤ 8384) ∨ (8592 ≤ r ∧ r ≤ 9215) ∨ (9472 ≤ r ∧ r ≤ 10175) ∨ (12289 ≤ r ∧ r ≤ 12291) ∨ (12296 ≤ r ∧ r ≤ 12305) := by
        unfold punctP at hb; omega
      clear hb h1
      rcases hw with ⟨a, b⟩ | ⟨a, b⟩ | ⟨a, b⟩ | ⟨a, b⟩ | rfl | rfl | ⟨a, b⟩ | ⟨a, b⟩ | ⟨a, b⟩ | ⟨a, b⟩ | ⟨a, b⟩ | ⟨a, b⟩ | ⟨a, b⟩
      all_goals
        go_enter Try.func16, Try.ntmps16
        go_wp2
        go_ret
        exact ⟨rfl, rfl⟩
    · rw [decide_eq_false hb]
      have hw : r ≤ 32 ∨ (48 ≤ r ∧ r ≤ 57) ∨ (65 ≤ r ∧ r ≤ 90) ∨ (97 ≤ r ∧ r ≤ 122) ∨ (127 ≤ r ∧ r ≤ 160) ∨ (192 ≤ r ∧ r ≤ 214) ∨ (216 ≤ r ∧ r ≤ 246) ∨ (248 ≤ r ∧ r ≤ 8207) ∨ (8232 ≤ r ∧ r ≤ 8239) ∨ (8287 ≤ r ∧ r ≤ 8351) ∨ (8385 ≤ r ∧ r ≤ 8591) ∨ (9216 ≤ r ∧ r ≤ 9471) ∨ (10176 ≤ r ∧ r ≤ 12288) ∨ (12292 ≤ r ∧ r ≤ 12295) ∨ 12306 ≤ r := by
        unfold punctP at hb; omega
      clear hb h1
      rcases hw with a | ⟨a, b⟩ | ⟨a, b⟩ | ⟨a, b⟩ | ⟨a, b⟩ | ⟨a, b⟩ | ⟨a, b⟩ | ⟨a, b⟩ | ⟨a, b⟩ | ⟨a, b⟩ | ⟨a, b⟩ | ⟨a, b⟩ | ⟨a, b⟩ | ⟨a, b⟩ | a
      all_goals
        go_enter Try.func16, Try.ntmps16
        go_wp2
        go_ret
        exact ⟨rfl, rfl⟩
set_option maxRecDepth 100000 in
theorem class_any (r : Int) (w : World) :
    Calls Try.prog 7 #[.int .i32 r] w fun e w' => e = .returned (.int .i64 (clsR r)) ∧ w = w' := by
  have B := Lib.hid (rnBlank_any r w)
  have C := Lib.hid (rnPunct_any r w)
  by_cases h1 : blankP r
  · have e1 : clsR r = 1 := by unfold clsR; rw [if_pos h1]
    rw [e1]
    rw [decide_eq_true h1] at B
    clear h1 e1 C
    go_enter Try.func7, Try.ntmps7
    go_wp2_with fail
    refine B.out.mono ?_
    rintro e w1 ⟨rfl, rfl⟩
    go_wp2_with fail
    go_ret
    exact ⟨rfl, rfl⟩
  · rw [decide_eq_false h1] at B
    by_cases h2 : punctP r
    · have e1 : clsR r = 2 := by unfold clsR; rw [if_neg h1, if_pos h2]
      rw [e1]
      rw [decide_eq_true h2] at C
      clear h1 h2 e1
      go_enter Try.func7, Try.ntmps7
      go_wp2_with fail
      refine B.out.mono ?_
      rintro e w1 ⟨rfl, rfl⟩
      go_wp2_with fail
      refine C.out.mono ?_
      rintro e w1 ⟨rfl, rfl⟩
      go_wp2_with fail
      go_ret
      exact ⟨rfl, rfl⟩
    · have e1 : clsR r = 0 := by unfold clsR; rw [if_neg h1, if_neg h2]
      rw [e1]
      rw [decide_eq_false h2] at C
      clear h1 h2 e1
      go_enter Try.func7, Try.ntmps7
      go_wp2_with fail
      refine B.out.mono ?_
      rintro e w1 ⟨rfl, rfl⟩
      go_wp2_with fail
      refine C.out.mono ?_
      rintro e w1 ⟨rfl, rfl⟩
      go_wp2_with fail
      go_ret
      exact ⟨rfl, rfl⟩
set_option maxRecDepth 100000 in
theorem leans_any (near far : Int) (w : World) :
    Calls Try.prog 14 #[.int .i32 near, .int .i32 far] w fun e w' => e = .returned (.bool (leanB (clsR near) (clsR far))) ∧ w = w' := by
  have X := Lib.hid (class_any near w)
  have Y := Lib.hid (class_any far w)
  have hx := cls_three near
  have hy := cls_three far
  generalize clsR near = x at *
  generalize clsR far = y at *
  rcases hx with rfl | rfl | rfl
  · go_enter Try.func14, Try.ntmps14
    go_wp2_with fail
    refine X.out.mono ?_
    rintro e w1 ⟨rfl, rfl⟩
    go_wp2_with fail
    go_ret
    exact ⟨rfl, rfl⟩
  · go_enter Try.func14, Try.ntmps14
    go_wp2_with fail
    refine X.out.mono ?_
    rintro e w1 ⟨rfl, rfl⟩
    go_wp2_with fail
    go_ret
    exact ⟨rfl, rfl⟩
  · rcases hy with rfl | rfl | rfl
    all_goals
      go_enter Try.func14, Try.ntmps14
      go_wp2_with fail
      refine X.out.mono ?_
      rintro e w1 ⟨rfl, rfl⟩
      go_wp2_with fail
      refine Y.out.mono ?_
      rintro e w1 ⟨rfl, rfl⟩
      go_wp2_with fail
      go_ret
      exact ⟨rfl, rfl⟩
end Go.Proofs.Ytjfbemoageeobaa
