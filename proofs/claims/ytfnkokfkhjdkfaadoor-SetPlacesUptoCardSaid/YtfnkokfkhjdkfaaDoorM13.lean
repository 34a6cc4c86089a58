/-
  Texts of the proof, one behind the other: Coda, Cbt.
-/
import Derived.Test.YtfnkokfkhjdkfaaDoorM3
import Derived.Test.YtfnkokfkhjdkfaaDoorChecked
import Derived.WalkKit
import Derived.WalkSpells
import Derived.WalkLawsBesides
import Derived.IntWalk
import Derived.Lib.Hide
import Derived.BigQuiet
import Derived.Deep.QuietTactic
import Derived.Deep.Draws
import Derived.Below
import Derived.Lib.LaidTab
import Derived.Deep.WholeRow
import Derived.LoopTactic
import Derived.Lib.AppendIntMem
/-
  Contracts of isOwnCode, of the package.
-/
namespace Go.Proofs.YtfnkokfkhjdkfaaDoor
open Go.RowKit Go.Lib

theorem ret_b {a b : Bool} (h : a = b) : Ending.returned (.bool a) = .returned (.bool b) := by rw [h]
theorem own_lo {r : Int} (h : r < 32) : ownC r = false := by rw [Bool.eq_false_iff]; intro e; rw [own_iff] at e; omega
theorem own_in1 {r : Int} (h : 32 ≤ r) (h2 : r ≤ 126) : ownC r = true := by rw [own_iff]; omega
theorem own_mid {r : Int} (h : 126 < r) (h2 : r < 160) : ownC r = false := by rw [Bool.eq_false_iff]; intro e; rw [own_iff] at e; omega
theorem own_in2 {r : Int} (h : 160 ≤ r) (h2 : r ≤ 255) : ownC r = true := by rw [own_iff]; omega
theorem own_hi {r : Int} (h : 255 < r) : ownC r = false := by rw [Bool.eq_false_iff]; intro e; rw [own_iff] at e; omega

theorem isOwn_any (r : Int) (w : World) :
    Calls Tryd.prog 98 #[.int .i32 r] w fun e w' => e = .returned (.bool (ownC r)) ∧ w = w' := by
  by_cases c1 : 32 ≤ r
  · by_cases c2 : r ≤ 126
    · rw [own_in1 c1 c2]
      go_enter Tryd.func98, Tryd.ntmps98
      go_wp2
      go_ret
      exact ⟨rfl, rfl⟩
    · by_cases c3 : 160 ≤ r
      · by_cases c4 : r ≤ 255
        · rw [own_in2 c3 c4]
          go_enter Tryd.func98, Tryd.ntmps98
          go_wp2
          go_ret
          exact ⟨rfl, rfl⟩
        · rw [own_hi (by omega)]
          go_enter Tryd.func98, Tryd.ntmps98
          go_wp2
          go_ret
          exact ⟨rfl, rfl⟩
      · rw [own_mid (by omega) (by omega)]
        go_enter Tryd.func98, Tryd.ntmps98
        go_wp2
        go_ret
        exact ⟨rfl, rfl⟩
  · rw [own_lo (by omega)]
    go_enter Tryd.func98, Tryd.ntmps98
    go_wp2
    go_ret
    exact ⟨rfl, rfl⟩
end Go.Proofs.YtfnkokfkhjdkfaaDoor

/-
  Contracts of To and From, of the package: they read the table.
-/
namespace Go.Proofs.YtfnkokfkhjdkfaaDoor
open Go.RowKit Go.Lib

/-- The table of the package's is as the text lays it. -/
def Odd (w : World) : Prop := Lib.TabIs Tryd.prog w "compositor/code.oddRunes" .i32 oddTab
theorem gOdd : Tryd.prog.globalNamed "compositor/code.oddRunes" = some 8 := by kernel_rfl
theorem infoOdd : (Tryd.prog.info? 131).map (·.size) = some 32 := by kernel_rfl
set_option maxRecDepth 100000 in
theorem to_own (r : Int) (w : World) (h : ownC r = true) :
    Calls Tryd.prog 92 #[.int .i32 r] w fun e w' => e = .returned (.tuple #[.int .u8 (toN r).1, .bool (toN r).2]) ∧ w = w' := by
  have OW := Lib.hid (isOwn_any r)
  have hr := (own_iff r).1 h
  have hn : ((r.toNat : Nat) : Int) = r := by omega
  rw [toN_own h]
  rw [h] at OW
  clear h
  go_enter Tryd.func92, Tryd.ntmps92
  go_wp2_with fail
  refine (OW.out _).mono ?_
  rintro e w1 ⟨rfl, rfl⟩
  go_wp2_with fail
  go_ret2
  exact ⟨by dsimp only; rw [hn]; rfl, rfl⟩
/-- The table's block. -/
theorem Odd.heap {w : World} (h : Odd w) : ∃ t fr, w.heap[8]? = some (.cells (oddTab.map (Value.int .i32)).toArray t fr) := by
  unfold Odd Lib.TabIs World.var? at h
  rw [gOdd] at h
  simp only [Option.bind_some] at h
  split at h
  · next cs t fr he => exact ⟨t, fr, by rw [he, Option.some.inj h]⟩
  · cases h
theorem odd_index (k : Nat) (hk : k < 32) (w : World) : (Instr.index 131 (.agg (oddTab.map (Value.int .i32)).toArray) (.int .i64 k)).run Tryd.prog w = .ok (.int .i32 (oddTab.getD k 0)) w := by
  have hn : (0 : Int) ≤ (k : Int) ∧ (k : Int) < ((32 : Nat) : Int) := ⟨by omega, by omega⟩
  have ha : ∀ w, (isAgg 21).run Tryd.prog w = .ok false w := fun _ => by kernel_rfl
  have hs : ∀ w, (sizeOf 21).run Tryd.prog w = .ok 1 w := fun _ => by kernel_rfl
  have hc : (oddTab.map (Value.int .i32)).toArray[k]? = some (.int .i32 (oddTab.getD k 0)) := by
    have h2 : k < oddTab.length := hk
    rw [List.getElem?_toArray, List.getElem?_map, List.getElem?_eq_getElem h2, List.getD, List.getElem?_eq_getElem h2]; rfl
  generalize (oddTab.map (Value.int .i32)).toArray = T at *
  simp [Instr.index, run_underlying Tryd.underlying131, asIntOf, hn, hs, ha, part, hc, go_sem]
  intro h; omega
set_option maxRecDepth 100000 in
theorem to_odd (r : Int) (w : World) (h : ownC r = false) (hO : Odd w) :
    Calls Tryd.prog 92 #[.int .i32 r] w fun e w' => e = .returned (.tuple #[.int .u8 (toN r).1, .bool (toN r).2]) ∧ w = w' := by
  have OW := Lib.hid (isOwn_any r)
  rw [h] at OW
  have H0 := Lib.hid h
  clear h
  obtain ⟨t, fr, hb⟩ := hO.heap
  have hsz : (Tryd.prog.info? 131).map (·.size) = some (oddTab.map (Value.int .i32)).toArray.size := infoOdd
  have HB := Lib.hid hb
  have HZ := Lib.hid hsz
  clear hb hsz
  have IX := Lib.hid (odd_index)
  generalize (oddTab.map (Value.int .i32)).toArray = T at *
  go_enter Tryd.func92, Tryd.ntmps92
  go_wp2_with fail
  refine (OW.out _).mono ?_
  rintro e w1 ⟨rfl, rfl⟩
  go_wp2_with (refine wpList_load_row rfl 131 _ rfl 8 rfl t _ fr _ HB.out Tryd.underlying131 rfl HZ.out ?_)
  go_loop [11] (fun i => ∃ k : Nat, k ≤ 32 ∧ Hid (∀ j, j < k → oddTab.getD j 0 = r → r = 0) ∧ i = .int .i64 k) (fun i => 32 - (RowKit.intOf i).toNat)
  case atStart => exact ⟨0, by omega, Lib.hid (fun j hj => absurd hj (Nat.not_lt_zero _)), rfl⟩
  case round =>
    obtain ⟨k, hk, HN, rfl⟩ := hrel
    by_cases c : k < 32
    · have hix := IX.out k c w
      obtain ⟨z, hz⟩ : ∃ z, oddTab.getD k 0 = z := ⟨_, rfl⟩
      rw [hz] at hix
      have HZE := Lib.hid hz
      clear hz
      by_cases c1 : z = r
      · subst c1
        by_cases c2 : z = 0
        · subst c2
          go_wp2_with fail
          go_round
          case rel => exact ⟨k + 1, by omega, Lib.hid (fun _ _ _ => trivial), by go_num⟩
          case measure => simp [RowKit.intOf]; omega
        · have t2 : (z == 0) = false := beq_eq_false_iff_ne.2 c2
          have HE := Lib.hid (toN_odd c HZE.out c2)
          go_wp2_with fail
          go_ret2
          exact ⟨by rw [HE.out]; rfl, rfl⟩
      · have t1 : (z == r) = false := beq_eq_false_iff_ne.2 c1
        go_wp2_with fail
        go_round
        case rel => exact ⟨k + 1, by omega, Lib.hid (fun j hj e => by
          rcases Nat.lt_or_ge j k with h' | h'
          · exact HN.out j h' e
          · obtain rfl : j = k := by omega
            exact absurd (HZE.out.symm.trans e) c1), by go_num⟩
        case measure => simp [RowKit.intOf]; omega
    · have HE := Lib.hid (toN_none H0.out (fun j hj e => HN.out j (by omega) e))
      go_wp2_with fail
      go_ret2
      exact ⟨by rw [HE.out]; rfl, rfl⟩
theorem to_any (r : Int) (w : World) (hO : Odd w) :
    Calls Tryd.prog 92 #[.int .i32 r] w fun e w' => e = .returned (.tuple #[.int .u8 (toN r).1, .bool (toN r).2]) ∧ w = w' := by
  cases h : ownC r with
  | true => exact to_own r w h
  | false => exact to_odd r w h hO

end Go.Proofs.YtfnkokfkhjdkfaaDoor

