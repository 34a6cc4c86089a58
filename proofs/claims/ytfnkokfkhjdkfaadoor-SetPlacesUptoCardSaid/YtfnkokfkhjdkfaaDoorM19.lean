/-
  Texts of the proof, one behind the other: Itr.
-/
import Derived.Test.YtfnkokfkhjdkfaaDoorM17
import Derived.Shelf.Spec.BitsCarry
/-
  Contracts of room's methods, of the package item: widths in two words, as whole numbers.
-/
namespace Go.Proofs.YtfnkokfkhjdkfaaDoor
open Go.RowKit Go.Lib Go.Maps

theorem wrap_u64 (x : Int) : IntKind.u64.wrap x = x % 18446744073709551616 := rfl
/-- What is left of a width, in two words. -/
def roomV (r : Int) : Value := .agg #[.int .i64 (r / 18446744073709551616), .int .u64 (r % 18446744073709551616)]
theorem sub64_run (x y : Nat) (w : World) : (callFunc 82 #[.int .u64 x, .int .u64 y, .int .u64 0]).run Tryd.prog w = .ok (.value (.tuple #[.int .u64 (((x + 18446744073709551616 - y - 0) % 18446744073709551616 : Nat) : Int), .int .u64 ((if x < y + 0 then 1 else 0 : Nat) : Int)])) w := by
  rw [run_callFunc_extern Tryd.func82 (by kernel_rfl) (by kernel_rfl) (by kernel_rfl) (e := sub64Entry) (by kernel_rfl)]
  have := run_sub64 (P := Tryd.prog) x y 0 (Nat.zero_le _) w
  rw [show ((0 : Nat) : Int) = 0 from rfl] at this
  rw [this]
  rfl
set_option maxRecDepth 100000 in
theorem roomOf_any (x : Int) (w : World) (h1 : -9223372036854775808 ≤ x) (h2 : x ≤ 9223372036854775807) :
    Calls Tryd.prog 28 #[.int .i64 x] w fun e w' => e = .returned (roomV x) ∧ Keeps w w' := by
  unfold roomV
  go_enter Tryd.func28, Tryd.ntmps28
  go_wp2_with fail
  exact ret_blk rfl rfl rfl (Blk.new _ _ _) Tryd.underlying66 (by kernel_rfl) ⟨by rw [wrap_u64, show x / 9223372036854775808 = x / 18446744073709551616 by omega], (Keeps.refl w).alloc _⟩
set_option maxRecDepth 100000 in
set_option maxHeartbeats 4000000 in
theorem less_any (r x : Int) (w : World) (h0 : -1208925819614629174706176 ≤ r) (h3 : r ≤ 1208925819614629174706176) (h1 : -9223372036854775808 ≤ x) (h2 : x ≤ 9223372036854775807) :
    Calls Tryd.prog 70 #[roomV r, .int .i64 x] w fun e w' => e = .returned (roomV (r - x)) ∧ Keeps w w' := by
  have RO := Lib.hid (fun W => roomOf_any x W h1 h2)
  have a0 : -65536 ≤ r / 18446744073709551616 := by omega
  have a1 : r / 18446744073709551616 ≤ 65536 := by omega
  have b0 : -1 ≤ x / 18446744073709551616 := by omega
  have b1 : x / 18446744073709551616 ≤ 0 := by omega
  have c0 : 0 ≤ r % 18446744073709551616 := by omega
  have c1 : r % 18446744073709551616 < 18446744073709551616 := by omega
  have d0 : 0 ≤ x % 18446744073709551616 := by omega
  have d1 : x % 18446744073709551616 < 18446744073709551616 := by omega
  have E : Hid (r - x = (r / 18446744073709551616 - x / 18446744073709551616) * 18446744073709551616 + (r % 18446744073709551616 - x % 18446744073709551616)) := Lib.hid (by omega)
  have P1 : (r - x) / 18446744073709551616 = r / 18446744073709551616 - x / 18446744073709551616 - (if r % 18446744073709551616 < x % 18446744073709551616 then 1 else 0) := by split <;> omega
  have P2 : (r - x) % 18446744073709551616 = if r % 18446744073709551616 < x % 18446744073709551616 then r % 18446744073709551616 - x % 18446744073709551616 + 18446744073709551616 else r % 18446744073709551616 - x % 18446744073709551616 := by split <;> omega
  unfold roomV at *
  rw [P1, P2]
  clear P1 P2 E h0 h1 h2 h3
  generalize r / 18446744073709551616 = rh at *
  generalize x / 18446744073709551616 = xh at *
  obtain ⟨rl, hrl⟩ : ∃ n : Nat, r % 18446744073709551616 = (n : Int) := ⟨(r % 18446744073709551616).toNat, by omega⟩
  obtain ⟨xl, hxl⟩ : ∃ n : Nat, x % 18446744073709551616 = (n : Int) := ⟨(x % 18446744073709551616).toNat, by omega⟩
  rw [hrl] at c0 c1 ⊢
  rw [hxl] at d0 d1 RO ⊢
  clear hrl hxl
  obtain ⟨lo, bo, SB, hlo, hbo, o0, o1, o2, o3⟩ : ∃ lo bo : Int, Hid (∀ w : World, (callFunc 82 #[.int .u64 rl, .int .u64 xl, .int .u64 0]).run Tryd.prog w = .ok (.value (.tuple #[.int .u64 lo, .int .u64 bo])) w) ∧ Hid (lo = if (rl : Int) < xl then (rl : Int) - xl + 18446744073709551616 else (rl : Int) - xl) ∧ Hid (bo = if (rl : Int) < xl then 1 else 0) ∧ 0 ≤ bo ∧ bo ≤ 1 ∧ 0 ≤ lo ∧ Hid (lo < 18446744073709551616) := by
    refine ⟨_, _, Lib.hid (sub64_run rl xl), Lib.hid ?_, Lib.hid ?_, ?_, ?_, ?_, Lib.hid ?_⟩
    · split <;> omega
    · by_cases h : rl < xl
      · rw [if_pos (by omega), if_pos (by omega)]; rfl
      · rw [if_neg (by omega), if_neg (by omega)]; rfl
    · omega
    · split <;> omega
    · omega
    · omega
  rw [← hlo.out, ← hbo.out]
  clear hlo hbo
  go_enter Tryd.func70, Tryd.ntmps70
  go_wp2_with fail
  refine (RO.out _).mono ?_
  rintro e w1 ⟨rfl, k1⟩
  have K1 := (keeps_two w (.cells #[.int .i64 rh, .int .u64 rl] 66) (.cells #[.int .i64 0, .int .u64 0] 66)).trans k1
  have bs := (blk_old w (.cells #[.int .i64 0, .int .u64 0] 66) 66 #[.int .i64 rh, .int .u64 rl]).keep k1 |>.alloc (.cells #[.int .i64 xh, .int .u64 xl] 66)
  have bz := (blk_two w (.cells #[.int .i64 rh, .int .u64 rl] 66) 66 #[.int .i64 0, .int .u64 0]).keep k1 |>.alloc (.cells #[.int .i64 xh, .int .u64 xl] 66)
  have s0 := bs.cell 0 (v := .int .i64 rh) rfl
  have s1 := bs.cell 1 (v := .int .u64 rl) rfl
  have z0 := bz.cell 0 (v := .int .i64 0) rfl
  have z1 := bz.cell 1 (v := .int .u64 0) rfl
  have f0 := bz.free 0
  have f1 := bz.free 1
  clear c0 c1 d0 d1
  go_wp2
  rw [SB.out]
  rw [Oper.upon_value]
  go_wp2_with fail
  exact ret_blk rfl rfl rfl ((bz.set 0 _ rfl).set 1 _ rfl) Tryd.underlying66 (by kernel_rfl) ⟨rfl, ((K1.alloc _).set (Nat.le_succ _) 0 _).set (Nat.le_succ _) 1 _⟩
theorem field_room (a b : Int) (w : World) : (Instr.field 66 (.agg #[.int .i64 a, .int .u64 b]) 0).run Tryd.prog w = .ok (.int .i64 a) w := by kernel_rfl
set_option maxRecDepth 100000 in
theorem holds_any (r x : Int) (w : World) (h0 : -1208925819614629174706176 ≤ r) (h3 : r ≤ 1208925819614629174706176) (h1 : -9223372036854775808 ≤ x) (h2 : x ≤ 9223372036854775807) :
    Calls Tryd.prog 50 #[roomV r, .int .i64 x] w fun e w' => e = .returned (.bool (decide (x ≤ r))) ∧ Keeps w w' := by
  have LS := Lib.hid (fun W => less_any r x W h0 h3 h1 h2)
  have KA := Lib.hid (fun o => (Keeps.refl w).alloc o)
  unfold roomV at *
  have hd : decide (x ≤ r) = decide (0 ≤ (r - x) / 18446744073709551616) := by
    by_cases h : x ≤ r
    · rw [decide_eq_true h, decide_eq_true (by omega)]
    · rw [decide_eq_false h, decide_eq_false (by omega)]
  rw [hd]
  clear hd h0 h3
  generalize (r - x) / 18446744073709551616 = q at *
  generalize (r - x) % 18446744073709551616 = q2 at *
  generalize r / 18446744073709551616 = r1 at *
  generalize r % 18446744073709551616 = r2 at *
  have FD := field_room q q2
  go_enter Tryd.func50, Tryd.ntmps50
  go_wp2_with fail
  refine (LS.out _).mono ?_
  rintro e w1 ⟨rfl, k1⟩
  have K1 := (KA.out _).trans k1
  go_wp2_with fail
  go_ret
  exact ⟨rfl, K1⟩
/-- What is left, in one word. -/
def wordR (r : Int) : Int := if -9223372036854775808 ≤ r ∧ r ≤ 9223372036854775807 then r else -9223372036854775808
set_option maxRecDepth 100000 in
theorem wordr_any (r : Int) (w : World) (h0 : -1208925819614629174706176 ≤ r) (h3 : r ≤ 1208925819614629174706176) :
    Calls Tryd.prog 71 #[roomV r] w fun e w' => e = .returned (.int .i64 (wordR r)) ∧ Keeps w w' := by
  have hw : ∃ y, IntKind.i64.wrap (r % 18446744073709551616) = y ∧ -9223372036854775808 ≤ y ∧ y ≤ 9223372036854775807 ∧ y % 18446744073709551616 = r % 18446744073709551616 := by
    refine ⟨_, rfl, ?_⟩
    rw [IntKind.wrap_i64]
    omega
  obtain ⟨y, hy, y0, y1, y2⟩ := hw
  have RO := Lib.hid (fun W => roomOf_any y W y0 y1)
  have KA := Lib.hid (fun o => (Keeps.refl w).alloc o)
  by_cases h : -9223372036854775808 ≤ r ∧ r ≤ 9223372036854775807
  · have e : y = r := by omega
    rw [show wordR r = r from if_pos h]
    subst e
    clear y2 h0 h3 h
    unfold roomV at *
    generalize hq : y / 18446744073709551616 = q at *
    generalize hq2 : y % 18446744073709551616 = q2 at *
    clear hq hq2
    go_enter Tryd.func71, Tryd.ntmps71
    go_wp2_with fail
    go_region_law (go_simp; go_at_call 28; (with_reducible refine (RO.out _).mono ?_); rintro e w1 ⟨rfl, k1⟩; have K1 := (KA.out _).drew.trans k1; have bs := ((Blk.new w 66 #[.int .i64 q, .int .u64 q2]).drew).keep k1; have s0 := bs.cell 0 (v := .int .i64 q) rfl; have s1 := bs.cell 1 (v := .int .u64 q2) rfl)
    all_goals
      go_wp2_with fail
      go_ret
      exact ⟨rfl, K1⟩
  · have e : y / 18446744073709551616 ≠ r / 18446744073709551616 := by omega
    rw [show wordR r = -9223372036854775808 from if_neg h]
    unfold roomV at *
    rw [y2] at RO
    clear h y2 h0 h3
    generalize r / 18446744073709551616 = q at *
    generalize r % 18446744073709551616 = q2 at *
    generalize y / 18446744073709551616 = qy at *
    have t1 : (q == qy) = false := beqF (fun x => e x.symm)
    have t2 : (qy == q) = false := beqF e
    have t3 : ¬ q = qy := fun x => e x.symm
    go_enter Tryd.func71, Tryd.ntmps71
    go_wp2_with fail
    go_region_law (go_simp; go_at_call 28; (with_reducible refine (RO.out _).mono ?_); rintro e w1 ⟨rfl, k1⟩; have K1 := (KA.out _).drew.trans k1; have bs := ((Blk.new w 66 #[.int .i64 q, .int .u64 q2]).drew).keep k1; have s0 := bs.cell 0 (v := .int .i64 q) rfl; have s1 := bs.cell 1 (v := .int .u64 q2) rfl)
    all_goals
      go_wp2_with fail
      go_ret
      exact ⟨rfl, K1⟩
end Go.Proofs.YtfnkokfkhjdkfaaDoor

