/-
  Contracts of Flank, Fits, of the package run.
-/
import Derived.Test.YtjfbemoageeobaaRna
namespace Go.Proofs.Ytjfbemoageeobaa
open Go.RowKit Go.Lib

set_option maxHeartbeats 2000000 in
set_option maxRecDepth 100000 in
theorem flank_star (a b : Int) (w : World) :
    Calls Try.prog 6 #[.int .i32 a, .int .i32 b, .int .u8 42] w fun e w' => e = .returned (.tuple #[.bool (leanB (clsR b) (clsR a)), .bool (leanB (clsR a) (clsR b))]) ∧ w = w' := by
  have L := Lib.hid (leans_any b a w)
  have R := Lib.hid (leans_any a b w)
  generalize leanB (clsR b) (clsR a) = l at *
  generalize leanB (clsR a) (clsR b) = r at *
  go_enter Try.func6, Try.ntmps6
  go_wp2_with fail
  refine L.out.mono ?_
  rintro e w1 ⟨rfl, rfl⟩
  go_wp2_with fail
  refine R.out.mono ?_
  rintro e w1 ⟨rfl, rfl⟩
  go_wp2_with fail
  go_ret2
  exact ⟨rfl, rfl⟩
def underO (l r : Bool) (x : Int) : Bool := l && (!r || x == 2)
set_option maxHeartbeats 2000000 in
set_option maxRecDepth 100000 in
theorem flank_under (a b : Int) (w : World) :
    Calls Try.prog 6 #[.int .i32 a, .int .i32 b, .int .u8 95] w fun e w' => e = .returned (.tuple #[.bool (underO (leanB (clsR b) (clsR a)) (leanB (clsR a) (clsR b)) (clsR a)), .bool (underO (leanB (clsR a) (clsR b)) (leanB (clsR b) (clsR a)) (clsR b))]) ∧ w = w' := by
  have L := Lib.hid (leans_any b a w)
  have R := Lib.hid (leans_any a b w)
  have X := Lib.hid (class_any a w)
  have Y := Lib.hid (class_any b w)
  generalize leanB (clsR b) (clsR a) = l at *
  generalize leanB (clsR a) (clsR b) = r at *
  generalize clsR a = x at *
  generalize clsR b = y at *
  cases l <;> cases r
  all_goals
    go_enter Try.func6, Try.ntmps6
    go_wp2_with fail
    refine L.out.mono ?_
    rintro e w1 ⟨rfl, rfl⟩
    go_wp2_with fail
    refine R.out.mono ?_
    rintro e w1 ⟨rfl, rfl⟩
    go_wp2_with fail
  · go_ret2
    exact ⟨rfl, rfl⟩
  · go_ret2
    exact ⟨rfl, rfl⟩
  · go_ret2
    exact ⟨rfl, rfl⟩
  · refine X.out.mono ?_
    rintro e w1 ⟨rfl, rfl⟩
    go_wp2_with fail
    refine Y.out.mono ?_
    rintro e w1 ⟨rfl, rfl⟩
    go_wp2_with fail
    go_ret2
    exact ⟨rfl, rfl⟩
set_option maxHeartbeats 4000000 in
set_option maxRecDepth 100000 in
theorem fits_any (x y p q : Int) (a b : Bool) (hx : x.tmod 3 = p) (hy : y.tmod 3 = q) (hp : p = 0 ∨ p = 1 ∨ p = 2) (hq : q = 0 ∨ q = 1 ∨ q = 2) (w : World) :
    Calls Try.prog 13 #[.int .i64 x, .int .i64 y, .bool a, .bool b] w fun e w' => e = .returned (.bool (fitsB p q a b)) ∧ w = w' := by
  cases a
  · cases b
    · have e1 : fitsB p q false false = true := rfl
      rw [e1]
      clear e1 hp hq hx hy
      go_enter Try.func13, Try.ntmps13
      go_wp2
      go_ret
      exact ⟨rfl, rfl⟩
    · rcases hp with rfl | rfl | rfl <;> rcases hq with rfl | rfl | rfl
      all_goals
        go_enter Try.func13, Try.ntmps13
        go_wp2
        go_ret
        exact ⟨rfl, rfl⟩
  · rcases hp with rfl | rfl | rfl <;> rcases hq with rfl | rfl | rfl
    all_goals
      go_enter Try.func13, Try.ntmps13
      go_wp2
      go_ret
      exact ⟨rfl, rfl⟩
end Go.Proofs.Ytjfbemoageeobaa
