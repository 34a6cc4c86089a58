/-
  Contracts of To and From, of the package: they read the table.
-/
import Derived.Test.YtfaoacamgipljaaDoorCoda
import Derived.Lib.AppendIntMem
namespace Go.Proofs.YtfaoacamgipljaaDoor
open Go.RowKit Go.Lib

/-- The table of the package's is as the text lays it. -/
def Odd (w : World) : Prop := Lib.TabIs Tryd.prog w "compositor/code.oddRunes" .i32 oddTab
theorem gOdd : Tryd.prog.globalNamed "compositor/code.oddRunes" = some 0 := by kernel_rfl
theorem infoOdd : (Tryd.prog.info? 32).map (·.size) = some 32 := by kernel_rfl
theorem to_own (r : Int) (w : World) (h : ownC r = true) :
    Calls Tryd.prog 7 #[.int .i32 r] w fun e w' => e = .returned (.tuple #[.int .u8 (toN r).1, .bool (toN r).2]) ∧ w = w' := by
  have OW := Lib.hid (isOwn_any r)
  have hr := (own_iff r).1 h
  have hn : ((r.toNat : Nat) : Int) = r := by omega
  rw [toN_own h]
  rw [h] at OW
  clear h
  go_enter Tryd.func7, Tryd.ntmps7
  go_wp2_with fail
  refine (OW.out _).mono ?_
  rintro e w1 ⟨rfl, rfl⟩
  go_wp2_with fail
  go_ret2
  exact ⟨by dsimp only; rw [hn]; rfl, rfl⟩
/-- The table's block. -/
theorem Odd.heap {w : World} (h : Odd w) : ∃ t fr, w.heap[0]? = some (.cells (oddTab.map (Value.int .i32)).toArray t fr) := by
  unfold Odd Lib.TabIs World.var? at h
  rw [gOdd] at h
  simp only [Option.bind_some] at h
  split at h
  · next cs t fr he => exact ⟨t, fr, by rw [he, Option.some.inj h]⟩
  · cases h
theorem odd_index (k : Nat) (hk : k < 32) (w : World) : (Instr.index 32 (.agg (oddTab.map (Value.int .i32)).toArray) (.int .i64 k)).run Tryd.prog w = .ok (.int .i32 (oddTab.getD k 0)) w := by
  have hn : (0 : Int) ≤ (k : Int) ∧ (k : Int) < ((32 : Nat) : Int) := ⟨by omega, by omega⟩
  have ha : ∀ w, (isAgg 21).run Tryd.prog w = .ok false w := fun _ => by kernel_rfl
  have hs : ∀ w, (sizeOf 21).run Tryd.prog w = .ok 1 w := fun _ => by kernel_rfl
  have hc : (oddTab.map (Value.int .i32)).toArray[k]? = some (.int .i32 (oddTab.getD k 0)) := by
    have h2 : k < oddTab.length := hk
    rw [List.getElem?_toArray, List.getElem?_map, List.getElem?_eq_getElem h2, List.getD, List.getElem?_eq_getElem h2]; rfl
  generalize (oddTab.map (Value.int .i32)).toArray = T at *
  simp [Instr.index, run_underlying Tryd.underlying32, asIntOf, hn, hs, ha, part, hc, go_sem]
  intro h; omega
theorem to_odd (r : Int) (w : World) (h : ownC r = false) (hO : Odd w) :
    Calls Tryd.prog 7 #[.int .i32 r] w fun e w' => e = .returned (.tuple #[.int .u8 (toN r).1, .bool (toN r).2]) ∧ w = w' := by
  have OW := Lib.hid (isOwn_any r)
  rw [h] at OW
  have H0 := Lib.hid h
  clear h
  obtain ⟨t, fr, hb⟩ := hO.heap
  have hsz : (Tryd.prog.info? 32).map (·.size) = some (oddTab.map (Value.int .i32)).toArray.size := infoOdd
  have HB := Lib.hid hb
  have HZ := Lib.hid hsz
  clear hb hsz
  have IX := Lib.hid (odd_index)
  generalize (oddTab.map (Value.int .i32)).toArray = T at *
  go_enter Tryd.func7, Tryd.ntmps7
  go_wp2_with fail
  refine (OW.out _).mono ?_
  rintro e w1 ⟨rfl, rfl⟩
  go_wp2_with (refine wpList_load_row rfl 32 _ rfl 0 rfl t _ fr _ HB.out Tryd.underlying32 rfl HZ.out ?_)
  go_loop [11] (fun i => ∃ k : Nat, k ≤ 32 ∧ Hid (∀ j, j < k → oddTab.getD j 0 = r → r = 0) ∧ i = .int .i64 k) (fun i => 32 - (RowKit.intOf i).toNat)
  case atStart => exact ⟨0, by omega, Lib.hid (fun j hj => absurd hj (Nat.not_lt_zero _)), rfl⟩
  case round =>
    obtain ⟨k, hk, HN, rfl⟩ := hrel
    by_cases c : k < 32
    · have hix := IX.out k c w
      obtain ⟨z, hz⟩ : ∃ z, oddTab.getD k 0 = z := ⟨_, rfl⟩
      rw [hz] at hix
      have HZE := Lib.hid hz
      clear hz
      by_cases c1 : z = r
      · subst c1
        by_cases c2 : z = 0
        · subst c2
          go_wp2_with fail
          go_round
          case rel => exact ⟨k + 1, by omega, Lib.hid (fun _ _ _ => trivial), by go_num⟩
          case measure => simp [RowKit.intOf]; omega
        · have t2 : (z == 0) = false := beq_eq_false_iff_ne.2 c2
          have HE := Lib.hid (toN_odd c HZE.out c2)
          go_wp2_with fail
          go_ret2
          exact ⟨by rw [HE.out]; rfl, rfl⟩
      · have t1 : (z == r) = false := beq_eq_false_iff_ne.2 c1
        go_wp2_with fail
        go_round
        case rel => exact ⟨k + 1, by omega, Lib.hid (fun j hj e => by
          rcases Nat.lt_or_ge j k with h' | h'
          · exact HN.out j h' e
          · obtain rfl : j = k := by omega
            exact absurd (HZE.out.symm.trans e) c1), by go_num⟩
        case measure => simp [RowKit.intOf]; omega
    · have HE := Lib.hid (toN_none H0.out (fun j hj e => HN.out j (by omega) e))
      go_wp2_with fail
      go_ret2
      exact ⟨by rw [HE.out]; rfl, rfl⟩
theorem to_any (r : Int) (w : World) (hO : Odd w) :
    Calls Tryd.prog 7 #[.int .i32 r] w fun e w' => e = .returned (.tuple #[.int .u8 (toN r).1, .bool (toN r).2]) ∧ w = w' := by
  cases h : ownC r with
  | true => exact to_own r w h
  | false => exact to_odd r w h hO

/-- One of the table's numbers. -/
theorem Odd.cell {w : World} (h : Odd w) (k : Nat) (hk : k < 32) : w.cell? ⟨0, k, none⟩ = some (.int .i32 (oddTab.getD k 0)) :=
  Lib.TabIs.cell h gOdd k hk
theorem cfrom_own (x : Int) (w : World) (h : ownC x = true) :
    Calls Tryd.prog 9 #[.int .u8 x] w fun e w' => e = .returned (.tuple #[.int .i32 x, .bool true]) ∧ w = w' := by
  have OW := Lib.hid (isOwn_any x)
  have hr := (own_iff x).1 h
  rw [h] at OW
  clear h
  go_enter Tryd.func9, Tryd.ntmps9
  go_wp2_with fail
  refine (OW.out _).mono ?_
  rintro e w1 ⟨rfl, rfl⟩
  go_wp2_with fail
  go_ret2
  exact ⟨rfl, rfl⟩
theorem cfrom_none (x : Int) (w : World) (h : ownC x = false) (h0 : 0 ≤ x) (h1 : x ≤ 255) (h2 : x < 128 ∨ 160 ≤ x) :
    Calls Tryd.prog 9 #[.int .u8 x] w fun e w' => e = .returned (.tuple #[.int .i32 0, .bool false]) ∧ w = w' := by
  have OW := Lib.hid (isOwn_any x)
  rw [h] at OW
  clear h
  rcases h2 with h2 | h2
  · go_enter Tryd.func9, Tryd.ntmps9
    go_wp2_with fail
    refine (OW.out _).mono ?_
    rintro e w1 ⟨rfl, rfl⟩
    go_wp2_with fail
    go_ret2
    exact ⟨rfl, rfl⟩
  · go_enter Tryd.func9, Tryd.ntmps9
    go_wp2_with fail
    refine (OW.out _).mono ?_
    rintro e w1 ⟨rfl, rfl⟩
    go_wp2_with fail
    go_ret2
    exact ⟨rfl, rfl⟩
theorem cfrom_odd (x : Int) (k : Nat) (z : Int) (w : World) (h : ownC x = false) (h0 : 128 ≤ x) (h1 : x < 160) (hx : x - 128 = (k : Int)) (hz : w.cell? ⟨0, k, none⟩ = some (.int .i32 z)) :
    Calls Tryd.prog 9 #[.int .u8 x] w fun e w' => e = .returned (.tuple #[.int .i32 z, .bool (!decide (z = 0))]) ∧ w = w' := by
  have OW := Lib.hid (isOwn_any x)
  rw [h] at OW
  clear h
  by_cases c : z = 0
  · subst c
    go_enter Tryd.func9, Tryd.ntmps9
    go_wp2_with fail
    refine (OW.out _).mono ?_
    rintro e w1 ⟨rfl, rfl⟩
    go_wp2_with fail
    go_ret2
    exact ⟨rfl, rfl⟩
  · have t0 : (z == 0) = false := beq_eq_false_iff_ne.2 c
    rw [decide_eq_false c]
    clear c
    go_enter Tryd.func9, Tryd.ntmps9
    go_wp2_with fail
    refine (OW.out _).mono ?_
    rintro e w1 ⟨rfl, rfl⟩
    go_wp2_with fail
    go_ret2
    exact ⟨by show Ending.returned (.tuple #[.int .i32 z, .bool (z != 0)]) = _; rw [bne, t0], rfl⟩
theorem from_any (c : Nat) (hc : c < 256) (w : World) (hO : Odd w) :
    Calls Tryd.prog 9 #[.int .u8 c] w fun e w' => e = .returned (.tuple #[.int .i32 (fromR c).1, .bool (fromR c).2]) ∧ w = w' := by
  cases h : ownC c with
  | true => rw [from_own h]; exact cfrom_own c w h
  | false =>
    by_cases h2 : c < 128 ∨ 160 ≤ c
    · rw [from_none h h2]; exact cfrom_none c w h (by omega) (by omega) (by omega)
    · obtain ⟨k, rfl⟩ : ∃ k, c = 128 + k := ⟨c - 128, by omega⟩
      rw [from_odd (by omega)]
      exact cfrom_odd _ k _ w h (by omega) (by omega) (by omega) (hO.cell k (by omega))
end Go.Proofs.YtfaoacamgipljaaDoor
