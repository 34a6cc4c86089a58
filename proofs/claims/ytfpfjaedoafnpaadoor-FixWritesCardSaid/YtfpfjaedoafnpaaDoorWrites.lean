/-
  FixWrites returns true for any number and any text, in every world that holds strconv's table.
-/
import Derived.Test.YtfpfjaedoafnpaaDoorAwake1
import Derived.Test.YtfpfjaedoafnpaaDoorRefa
import Derived.Test.YtfpfjaedoafnpaaDoorRefp
namespace Go.Proofs.YtfpfjaedoafnpaaDoor
open Go.RowKit Go.Shelf Go.Lib

set_option maxHeartbeats 400000 in
theorem writes_long (n : Int) (s : ByteArray) (w : World) (hs : s.size ≤ maxLen) (h : 1000 < s.size) (ht : Tab w) :
    Calls Tryd.prog 3 #[.int .i64 n, .string s] w fun e w' => e = .returned (.bool true) ∧ Keeps w w' := by
  have AW := Lib.hid (awake_any w ht)
  unfold maxLen at hs
  go_enter Tryd.func3, Tryd.ntmps3
  go_wp2_with fail
  refine AW.out.mono ?_
  rintro e w2 ⟨rfl, k2⟩
  go_wp2_with fail
  go_ret
  exact ⟨rfl, k2⟩

set_option maxHeartbeats 800000 in
theorem writes_short (n : Int) (s : ByteArray) (w : World) (h1 : -9223372036854775808 ≤ n) (h2 : n ≤ 9223372036854775807) (h : s.size ≤ 1000) (ht : Tab w) :
    Calls Tryd.prog 3 #[.int .i64 n, .string s] w fun e w' => e = .returned (.bool true) ∧ Keeps w w' := by
  have AW := Lib.hid (fun W t => awake_any W t)
  have P1 := Lib.hid (fun W => parse_any s W (by unfold maxLen; omega))
  have P2 := Lib.hid (fun W => rparse_any s W h)
  have W1 := Lib.hid (fun W t => whole_any n W h1 h2 t)
  have W2 := Lib.hid (fun W => rwhole_any n W h1 h2)
  have R1 := Lib.hid (fun W t => print_any n W h1 h2 t)
  have R2 := Lib.hid (fun W => rprint_any n W h1 h2)
  generalize parseN s.data.toList = a at *
  generalize parseK s.data.toList = b at *
  generalize Lib.itoa n = U at *
  generalize printT n = T at *
  go_enter Tryd.func3, Tryd.ntmps3
  go_wp2_with fail
  refine (P1.out _).mono ?_
  rintro e w1 ⟨rfl, rfl⟩
  go_wp2_with fail
  refine (P2.out _).mono ?_
  rintro e w1 ⟨rfl, rfl⟩
  go_wp2_with fail
  refine (AW.out _ ht).mono ?_
  rintro e w1 ⟨rfl, k1⟩
  have t1 := ht.keep k1
  go_wp2_with fail
  refine (W1.out _ t1).mono ?_
  rintro e w2 ⟨rfl, k2⟩
  have t2 := t1.keep k2
  go_wp2_with fail
  refine (W2.out _).mono ?_
  rintro e w3 ⟨rfl, k3⟩
  have t3 := t2.keep k3
  go_wp2_with fail
  refine (R1.out _ t3).mono ?_
  rintro e w4 ⟨rfl, k4⟩
  go_wp2_with fail
  refine (R2.out _).mono ?_
  rintro e w5 ⟨rfl, k5⟩
  go_wp2_with fail
  go_ret
  exact ⟨rfl, (((k1.trans k2).trans k3).trans k4).trans k5⟩

theorem writes_any (n : Int) (s : ByteArray) (w : World) (h1 : -9223372036854775808 ≤ n) (h2 : n ≤ 9223372036854775807) (hs : s.size ≤ maxLen) (ht : Tab w) :
    Calls Tryd.prog 3 #[.int .i64 n, .string s] w fun e w' => e = .returned (.bool true) ∧ Keeps w w' := by
  by_cases h : s.size ≤ 1000
  · exact writes_short n s w h1 h2 h ht
  · exact writes_long n s w hs (by omega) ht
end Go.Proofs.YtfpfjaedoafnpaaDoor
