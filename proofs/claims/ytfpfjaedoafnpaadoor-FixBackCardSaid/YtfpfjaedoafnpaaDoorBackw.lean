/-
  FixBack returns true for any number, in every world that holds strconv's table.
-/
import Derived.Test.YtfpfjaedoafnpaaDoorAwake1
import Derived.Test.YtfpfjaedoafnpaaDoorBack
namespace Go.Proofs.YtfpfjaedoafnpaaDoor
open Go.RowKit Go.Shelf Go.Lib

theorem ends_nil : Ends [] := fun _ h => by cases h
theorem ends_7 : Ends [32, 55] := fun b h => by cases h; decide
theorem ends_x : Ends [120] := fun b h => by cases h; decide
theorem printT_len (n : Int) (h : n.natAbs ≤ 1000000000000000) : (printT n).length ≤ 40 := by
  have h1 := dd_len 19 (n.natAbs / 1000) (by omega)
  have h2 := dd_len 3 (1000 + n.natAbs % 1000) (by omega)
  have h3 : (Lib.trimRightB ((Lib.decDigits (1000 + n.natAbs % 1000)).drop 1) 48).length ≤ ((Lib.decDigits (1000 + n.natAbs % 1000)).drop 1).length := trim_len _ _
  rw [List.length_drop] at h3
  unfold printT printD
  split <;> split <;> simp only [List.length_append, List.length_nil, List.length_cons] <;> omega

set_option maxHeartbeats 400000 in
theorem back_far (n : Int) (w : World) (h : 1000000000000000 < n ∨ n < -1000000000000000) (ht : Tab w) :
    Calls Tryd.prog 4 #[.int .i64 n] w fun e w' => e = .returned (.bool true) ∧ Keeps w w' := by
  have AW := Lib.hid (awake_any w ht)
  rcases h with h | h
  · have d1 : decide (1000000000000000 < n) = true := decide_eq_true h
    go_enter Tryd.func4, Tryd.ntmps4
    go_wp2_with fail
    refine AW.out.mono ?_
    rintro e w2 ⟨rfl, k2⟩
    go_wp2_with fail
    go_ret
    exact ⟨rfl, k2⟩
  · have d1 : decide (1000000000000000 < n) = false := decide_eq_false (by omega)
    have d2 : decide (n < -1000000000000000) = true := decide_eq_true h
    go_enter Tryd.func4, Tryd.ntmps4
    go_wp2_with fail
    refine AW.out.mono ?_
    rintro e w2 ⟨rfl, k2⟩
    go_wp2_with fail
    go_ret
    exact ⟨rfl, k2⟩

set_option maxHeartbeats 1000000 in
theorem back_near (n : Int) (w : World) (h1 : -1000000000000000 ≤ n) (h2 : n ≤ 1000000000000000) (ht : Tab w) :
    Calls Tryd.prog 4 #[.int .i64 n] w fun e w' => e = .returned (.bool true) ∧ Keeps w w' := by
  have AW := Lib.hid (fun W t => awake_any W t)
  have d1 : decide (1000000000000000 < n) = false := decide_eq_false (by omega)
  have d2 : decide (n < -1000000000000000) = false := decide_eq_false (by omega)
  have hl := printT_len n (by omega)
  obtain ⟨p1, p2⟩ := back_print n [] (by omega) ends_nil
  rw [List.append_nil] at p1 p2
  obtain ⟨q1, q2⟩ := back_print n [32, 55] (by omega) ends_7
  have PR := Lib.hid (fun W t => print_any n W (by omega) (by omega) t)
  have PA := Lib.hid (fun W => parse_any ⟨(printT n).toArray⟩ W (by unfold maxLen; simp [ByteArray.size]; omega))
  rw [p1, p2] at PA
  have PB := Lib.hid (fun W => parse_any (⟨(printT n).toArray⟩ ++ ⟨#[32, 55]⟩) W (by unfold maxLen; rw [ByteArray.size_append]; simp [ByteArray.size]; omega))
  rw [bytes_app] at PB
  have PB' := Lib.hid (fun W => (show Calls Tryd.prog 8 #[.string (⟨(printT n).toArray⟩ ++ ⟨#[32, 55]⟩)] W fun e w' => e = .returned (.tuple #[.int .i64 (parseN (printT n ++ [32, 55])), .int .i64 (parseK (printT n ++ [32, 55]))]) ∧ W = w' from PB.out W))
  rw [q1, q2] at PB'
  have e0 : (n.tdiv 1000).natAbs = n.natAbs / 1000 := Int.natAbs_tdiv n 1000
  have m1 : -1000000000000 ≤ n.tdiv 1000 := by omega
  have m2 : n.tdiv 1000 ≤ 1000000000000 := by omega
  obtain ⟨r1, r2⟩ := back_whole (n.tdiv 1000) [120] (by omega) ends_x
  have WH := Lib.hid (fun W t => whole_any (n.tdiv 1000) W (by omega) (by omega) t)
  have hi : (Lib.itoa (n.tdiv 1000)).length ≤ 40 := by
    have h1 := dd_len 19 (n.tdiv 1000).natAbs (by omega)
    have h2 := dd_len 19 (n.tdiv 1000).toNat (by omega)
    unfold Lib.itoa
    split
    · rw [List.length_cons]; omega
    · omega
  have PC := Lib.hid (fun W => parse_any (⟨(Lib.itoa (n.tdiv 1000)).toArray⟩ ++ ⟨#[120]⟩) W (by unfold maxLen; rw [ByteArray.size_append]; simp [ByteArray.size]; omega))
  rw [bytes_app] at PC
  have PC' := Lib.hid (fun W => (show Calls Tryd.prog 8 #[.string (⟨(Lib.itoa (n.tdiv 1000)).toArray⟩ ++ ⟨#[120]⟩)] W fun e w' => e = .returned (.tuple #[.int .i64 (parseN (Lib.itoa (n.tdiv 1000) ++ [120])), .int .i64 (parseK (Lib.itoa (n.tdiv 1000) ++ [120]))]) ∧ W = w' from PC.out W))
  rw [r1, r2] at PC'
  clear PB PC p1 p2 q1 q2 r1 r2 e0
  generalize printT n = T at *
  generalize Lib.itoa (n.tdiv 1000) = U at *
  go_enter Tryd.func4, Tryd.ntmps4
  go_wp2_with fail
  refine (PR.out _ ht).mono ?_
  rintro e w1 ⟨rfl, k1⟩
  have t1 := ht.keep k1
  go_wp2_with fail
  refine (PA.out _).mono ?_
  rintro e w2 ⟨rfl, rfl⟩
  go_wp2_with fail
  refine (PB'.out _).mono ?_
  rintro e w2 ⟨rfl, rfl⟩
  go_wp2_with fail
  refine (WH.out _ t1).mono ?_
  rintro e w2 ⟨rfl, k2⟩
  have t2 := t1.keep k2
  go_wp2_with fail
  refine (PC'.out _).mono ?_
  rintro e w3 ⟨rfl, rfl⟩
  go_wp2_with fail
  refine (AW.out _ t2).mono ?_
  rintro e w3 ⟨rfl, k3⟩
  have t3 := t2.keep k3
  go_wp2_with fail
  refine (WH.out _ t3).mono ?_
  rintro e w4 ⟨rfl, k4⟩
  go_wp2_with fail
  go_ret
  exact ⟨rfl, ((k1.trans k2).trans k3).trans k4⟩

theorem back_any (n : Int) (w : World) (ht : Tab w) : Calls Tryd.prog 4 #[.int .i64 n] w fun e w' => e = .returned (.bool true) ∧ Keeps w w' := by
  by_cases h1 : -1000000000000000 ≤ n
  · by_cases h2 : n ≤ 1000000000000000
    · exact back_near n w h1 h2 ht
    · exact back_far n w (.inl (by omega)) ht
  · exact back_far n w (.inr (by omega)) ht
end Go.Proofs.YtfpfjaedoafnpaaDoor
