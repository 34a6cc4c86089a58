/-
  Contracts of the small functions of package fix: size, within, each for every argument.
-/
import Derived.Test.YtjkkinccehfmoaaPre
import Derived.Test.YtjkkinccehfmoaaFxq
namespace Go.Proofs.Ytjkkinccehfmoaa
open Go.RowKit Go.Shelf Go.Lib

theorem size_any (n : Int) (w : World) (h1 : -9223372036854775808 ≤ n) (h2 : n ≤ 9223372036854775807) :
    Calls Try.prog 34 #[.int .i64 n] w fun e w' => e = .returned (.int .u64 n.natAbs) ∧ w = w' := by
  by_cases h : n < 0
  · go_enter Try.func34, Try.ntmps34
    go_wp2
    go_ret
    exact ⟨ret_int (by rw [IntKind.wrap_u64, IntKind.wrap_u64]; omega), rfl⟩
  · go_enter Try.func34, Try.ntmps34
    go_wp2
    go_ret
    exact ⟨ret_int (by omega), rfl⟩

theorem within_any (n a b : Int) (w : World) :
    Calls Try.prog 31 #[.int .i64 n, .int .i64 a, .int .i64 b] w fun e w' => e = .returned (.int .i64 (clamp n a b)) ∧ w = w' := by
  by_cases h : n < a
  · have H := Lib.hid (show clamp n a b = a by unfold clamp; rw [if_pos h])
    go_enter Try.func31, Try.ntmps31
    go_wp2
    go_ret
    exact ⟨ret_int H.out.symm, rfl⟩
  · by_cases h2 : b < n
    · have H := Lib.hid (show clamp n a b = b by unfold clamp; rw [if_neg h, if_pos h2])
      go_enter Try.func31, Try.ntmps31
      go_wp2
      go_ret
      exact ⟨ret_int H.out.symm, rfl⟩
    · have H := Lib.hid (show clamp n a b = n by unfold clamp; rw [if_neg h, if_neg h2])
      go_enter Try.func31, Try.ntmps31
      go_wp2
      go_ret
      exact ⟨ret_int H.out.symm, rfl⟩
end Go.Proofs.Ytjkkinccehfmoaa
