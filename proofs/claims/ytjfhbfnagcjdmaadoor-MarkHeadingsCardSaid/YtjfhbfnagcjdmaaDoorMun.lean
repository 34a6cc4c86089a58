/-
  MarkUnders returns true of any numbers.
-/
import Derived.Test.YtjfhbfnagcjdmaaDoorMaw
namespace Go.Proofs.YtjfhbfnagcjdmaaDoor
open Go.RowKit Go.Lib

theorem cnt_rep_ne {c b : UInt8} (h : b ≠ c) (r : List UInt8) (hr : cntL c r = 0) : ∀ j, cntL c (List.replicate j b ++ r) = 0
  | 0 => hr
  | j + 1 => by rw [List.replicate_succ, List.cons_append, cnt_other h]
theorem rep_snoc (b : UInt8) (j : Nat) : List.replicate j b ++ [b] = List.replicate (j + 1) b := by rw [List.replicate_succ']
theorem byte_snoc (S : ByteArray) (b : UInt8) : (S ++ ⟨#[b]⟩).data.toList = S.data.toList ++ [b] := bytes_app S ⟨#[b]⟩
theorem size_snoc8 (S : ByteArray) (b : UInt8) : (S ++ ⟨#[b]⟩).size = S.size + 1 := by rw [ByteArray.size_append]; rfl
theorem blank_no_rep {i : Nat} (hi : 1 ≤ i) (b : UInt8) (hb : isB b = false) : blankL (List.replicate i b) = false :=
  blank_no (b := b) (List.mem_replicate.2 ⟨by omega, rfl⟩) hb
theorem under_a {i j : Nat} (hi : 1 ≤ i) : underL (List.replicate i 61 ++ List.replicate j 32) = 1 := by
  unfold underL
  rw [stretch_rep _ _ _ _ (by have := cnt_rep_ne (c := 61) (b := 32) (by decide) [] rfl j; rwa [List.append_nil] at this), decide_eq_true (by omega), blank_rep]
  rfl
theorem under_b {i j : Nat} (hi : 1 ≤ i) : underL (List.replicate i 45 ++ List.replicate j 32) = 2 := by
  have h0 : cntL 61 (List.replicate j 32) = 0 := by have := cnt_rep_ne (c := 61) (b := 32) (by decide) [] rfl j; rwa [List.append_nil] at this
  have h1 : cntL 45 (List.replicate j 32) = 0 := by have := cnt_rep_ne (c := 45) (b := 32) (by decide) [] rfl j; rwa [List.append_nil] at this
  unfold underL
  rw [stretch_none (cnt_rep_ne (by decide) _ h0 i) (by omega), stretch_rep _ _ _ _ h1, decide_eq_true (by omega), blank_rep]
  rfl
theorem under_c {i : Nat} (hi : 1 ≤ i) : underL (List.replicate i 61 ++ List.replicate i 45) = 0 := by
  have h0 : cntL 61 (List.replicate i 45) = 0 := by have := cnt_rep_ne (c := 61) (b := 45) (by decide) [] rfl i; rwa [List.append_nil] at this
  unfold underL
  rw [stretch_rep _ _ _ _ h0, blank_no_rep hi 45 (by decide), Bool.and_false, stretch_none (by obtain ⟨k, rfl⟩ : ∃ k, i = k + 1 := ⟨i - 1, by omega⟩; rw [List.replicate_succ, List.cons_append, cnt_other (by decide)]) (by omega)]
  rfl
theorem under_d {i j : Nat} (hi : 1 ≤ i) : underL (List.replicate i 61 ++ List.replicate j 32 ++ [32, 120]) = 0 := by
  have h0 : cntL 61 (List.replicate j 32 ++ [32, 120]) = 0 := cnt_rep_ne (by decide) _ rfl j
  unfold underL
  rw [List.append_assoc, stretch_rep _ _ _ _ h0, blank_no (l := List.replicate j 32 ++ [32, 120]) (b := 120) (by simp) (by decide), Bool.and_false, stretch_none (by obtain ⟨k, rfl⟩ : ∃ k, i = k + 1 := ⟨i - 1, by omega⟩; rw [List.replicate_succ, List.cons_append, cnt_other (by decide)]) (by omega)]
  rfl
set_option maxHeartbeats 4000000 in
set_option maxRecDepth 100000 in
theorem munders_any (x y : Int) (hx : 0 ≤ x ∧ x ≤ 255) (hy : 0 ≤ y ∧ y ≤ 255) (w : World) (hE : Env8 w) :
    Calls Tryd.prog 7 #[.int .u8 x, .int .u8 y] w fun e w' => e = .returned (.bool true) ∧ Keeps w w' := by
  have AW := Lib.hid (awake8_any w hE)
  have UN := Lib.hid (fun s W h => under_any s W h)
  obtain ⟨hx0, hx1⟩ := hx
  obtain ⟨hy0, hy1⟩ := hy
  clear hE
  go_enter Tryd.func7, Tryd.ntmps7
  go_wp2_with fail
  go_loop [5, 6, 8] (fun a b v => ∃ (i : Nat) (A B : ByteArray), i ≤ 20 ∧ (i : Int) ≤ x % 20 + 1 ∧ v = .int .i64 i ∧ a = .string A ∧ b = .string B ∧ A.size = i ∧ B.size = i ∧ Hid (A.data.toList = List.replicate i 61) ∧ Hid (B.data.toList = List.replicate i 45)) (fun _ _ v => 30 - (RowKit.intOf v).toNat)
  case atStart => exact ⟨0, ⟨#[]⟩, ⟨#[]⟩, by omega, by omega, rfl, rfl, rfl, rfl, rfl, Lib.hid rfl, Lib.hid rfl⟩
  case round =>
    obtain ⟨i, A, B, hi, hix, rfl, rfl, rfl, hA, hB, HA, HB⟩ := hrel
    by_cases c : (i : Int) ≤ x % 20
    · go_wp2_with fail
      go_round
      case rel => exact ⟨i + 1, A ++ ⟨#[61]⟩, B ++ ⟨#[45]⟩, by omega, by omega, by go_num, rfl, rfl, by rw [size_snoc8]; omega, by rw [size_snoc8]; omega, Lib.hid (by rw [byte_snoc, HA.out, rep_snoc]), Lib.hid (by rw [byte_snoc, HB.out, rep_snoc])⟩
      case measure => simp [RowKit.intOf]; omega
    · have hi1 : 1 ≤ i := by omega
      clear hix
      go_wp2_with fail
      go_loop [7, 9] (fun a v => ∃ (j : Nat) (C : ByteArray), j ≤ 5 ∧ v = .int .i64 j ∧ a = .string C ∧ C.size = j ∧ Hid (C.data.toList = List.replicate j 32)) (fun _ v => 10 - (RowKit.intOf v).toNat)
      case atStart => exact ⟨0, ⟨#[]⟩, by omega, rfl, rfl, rfl, Lib.hid rfl⟩
      case round =>
        obtain ⟨j, C, hj, rfl, rfl, hC, HC⟩ := hrel
        by_cases d : (j : Int) < y % 5
        · go_wp2_with fail
          go_round
          case rel => exact ⟨j + 1, C ++ ⟨#[32]⟩, by omega, by go_num, rfl, by rw [size_snoc8]; omega, Lib.hid (by rw [byte_snoc, HC.out, rep_snoc])⟩
          case measure => simp [RowKit.intOf]; omega
        · have U1 := Lib.hid (fun W => UN.out (A ++ C) W (by rw [ByteArray.size_append]; unfold maxLen; omega))
          have U2 := Lib.hid (fun W => UN.out (B ++ C) W (by rw [ByteArray.size_append]; unfold maxLen; omega))
          have U3 := Lib.hid (fun W => UN.out (A ++ B) W (by rw [ByteArray.size_append]; unfold maxLen; omega))
          have U4 := Lib.hid (fun W => UN.out (A ++ C ++ ⟨#[32, 120]⟩) W (by rw [ByteArray.size_append, ByteArray.size_append, show (⟨#[32, 120]⟩ : ByteArray).size = 2 from rfl]; unfold maxLen; omega))
          have U5 := Lib.hid (fun W => UN.out ⟨#[]⟩ W (by decide))
          rw [bytes_app, HA.out, HC.out, under_a hi1] at U1
          rw [bytes_app, HB.out, HC.out, under_b hi1] at U2
          rw [bytes_app, HA.out, HB.out, under_c hi1] at U3
          rw [bytes_app, bytes_app, HA.out, HC.out, show (⟨#[32, 120]⟩ : ByteArray).data.toList = [32, 120] from rfl, under_d hi1] at U4
          rw [show underL (⟨#[]⟩ : ByteArray).data.toList = 0 from rfl] at U5
          simp only [Int.cast_ofNat_Int] at U1 U2 U3 U4 U5
          have z1 : A.size + C.size ≤ 9223372036854775807 := by omega
          have z2 : B.size + C.size ≤ 9223372036854775807 := by omega
          have z3 : A.size + B.size ≤ 9223372036854775807 := by omega
          have z4 : (A ++ C).size + 2 ≤ 9223372036854775807 := by rw [ByteArray.size_append]; omega
          clear HA HB HC UN
          go_wp2_with fail
          (with_reducible refine AW.out.mono ?_)
          rintro e w1 ⟨rfl, k1⟩
          go_wp2_with fail
          (with_reducible refine (U1.out _).mono ?_)
          rintro e w2 ⟨rfl, k2⟩
          go_wp2_with fail
          (with_reducible refine (U2.out _).mono ?_)
          rintro e w3 ⟨rfl, k3⟩
          go_wp2_with fail
          (with_reducible refine (U3.out _).mono ?_)
          rintro e w4 ⟨rfl, k4⟩
          go_wp2_with fail
          (with_reducible refine (U4.out _).mono ?_)
          rintro e w5 ⟨rfl, k5⟩
          go_wp2_with fail
          (with_reducible refine (U5.out _).mono ?_)
          rintro e w6 ⟨rfl, k6⟩
          go_wp2_with fail
          go_ret
          exact ⟨rfl, ((((k1.trans k2).trans k3).trans k4).trans k5).trans k6⟩
end Go.Proofs.YtjfhbfnagcjdmaaDoor
