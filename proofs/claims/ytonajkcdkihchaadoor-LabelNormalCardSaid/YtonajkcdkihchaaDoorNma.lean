/-
  Contracts of unlisted and Name, of the package: they read the table of names.
-/
import Derived.Test.YtonajkcdkihchaaDoorNmt
import Derived.Test.YtonajkcdkihchaaDoorTab
namespace Go.Proofs.YtonajkcdkihchaaDoor
open Go.RowKit Go.Lib

set_option maxRecDepth 100000 in
theorem un_any (s : ByteArray) (w : World) :
    Calls Tryd.prog 66 #[.string s] w fun e w' => e = .returned (.int .i32 (moreL s.data.toList)) ∧ w = w' := by
  rw [← Lib.toList_data]
  go_enter Tryd.func66, Tryd.ntmps66
  go_wp2
  all_goals
    go_ret
    refine ⟨ret_int ?_, rfl⟩
    simp only [moreL, moreNames, lookL, *, cond_true, cond_false]
    try rfl

/-- The table of the package's is as the text lays it. -/
def Lis (w : World) : Prop := StrIs Tryd.prog w "compositor/named.listed" latinNames
theorem Lis.keep {w w' : World} (h : Lis w) (k : Keeps w w') : Lis w' := str_keep h k
theorem gLis : Tryd.prog.globalNamed "compositor/named.listed" = some 1 := by kernel_rfl
def latinVals : List Value := latinNames.map fun z => Value.string ⟨z.toArray⟩
theorem infoLis : (Tryd.prog.info? 84).map (·.size) = some latinVals.toArray.size := by kernel_rfl
/-- The table's block. -/
theorem Lis.heap {w : World} (h : Lis w) : ∃ t fr, w.heap[1]? = some (.cells latinVals.toArray t fr) := by
  unfold Lis StrIs World.var? at h
  rw [gLis] at h
  simp only [Option.bind_some] at h
  split at h
  · next cs t fr he => exact ⟨t, fr, by rw [he, Option.some.inj h]; rfl⟩
  · cases h
theorem latin_get (k : Nat) (hk : k < 96) : latinVals[k]? = some (.string ⟨(latinNames.getD k []).toArray⟩) := by
  have h2 : k < latinNames.length := hk
  unfold latinVals
  rw [List.getElem?_map, List.getElem?_eq_getElem h2, List.getD, List.getElem?_eq_getElem h2]; rfl
theorem lis_index (k : Nat) (hk : k < 96) (w : World) : (Instr.index 84 (.agg latinVals.toArray) (.int .i64 k)).run Tryd.prog w = .ok (.string ⟨(latinNames.getD k []).toArray⟩) w := by
  have hn : (0 : Int) ≤ (k : Int) ∧ (k : Int) < ((96 : Nat) : Int) := ⟨by omega, by omega⟩
  have ha : ∀ w, (isAgg 9).run Tryd.prog w = .ok false w := fun _ => by kernel_rfl
  have hs : ∀ w, (sizeOf 9).run Tryd.prog w = .ok 1 w := fun _ => by kernel_rfl
  have hc : latinVals.toArray[k]? = some (.string ⟨(latinNames.getD k []).toArray⟩) := by rw [List.getElem?_toArray]; exact latin_get k hk
  generalize latinVals.toArray = T at *
  simp [Instr.index, run_underlying Tryd.underlying84, asIntOf, hn, hs, ha, part, hc, go_sem]
  intro h; omega
set_option maxRecDepth 100000 in
theorem name_more (s : ByteArray) (w : World) (h : moreL s.data.toList ≠ 0) :
    Calls Tryd.prog 64 #[.string s] w fun e w' => e = .returned (.tuple #[.int .i32 (namedL s.data.toList), .bool (!decide (namedL s.data.toList = 0))]) ∧ w = w' := by
  have UN := Lib.hid (fun W => un_any s W)
  rw [named_more h]
  rw [decide_eq_false h]
  have hz : ((moreL s.data.toList : Nat) : Int) ≠ 0 := by omega
  generalize ((moreL s.data.toList : Nat) : Int) = z at *
  have t0 : (z == 0) = false := beq_eq_false_iff_ne.2 hz
  have t1 : (z != 0) = true := by rw [bne, t0]; rfl
  clear h hz
  go_enter Tryd.func64, Tryd.ntmps64
  go_wp2_with fail
  refine (UN.out _).mono ?_
  rintro e w1 ⟨rfl, rfl⟩
  go_wp2_with fail
  go_ret2
  exact ⟨rfl, rfl⟩
set_option maxRecDepth 100000 in
theorem name_less (s : ByteArray) (w : World) (h : moreL s.data.toList = 0) (hO : Lis w) :
    Calls Tryd.prog 64 #[.string s] w fun e w' => e = .returned (.tuple #[.int .i32 (namedL s.data.toList), .bool (!decide (namedL s.data.toList = 0))]) ∧ w = w' := by
  have UN := Lib.hid (fun W => un_any s W)
  rw [h] at UN
  have H0 := Lib.hid h
  clear h
  obtain ⟨t, fr, hb⟩ := hO.heap
  have HB := Lib.hid hb
  have HZ := Lib.hid infoLis
  clear hb
  have IX := Lib.hid (lis_index)
  generalize latinVals.toArray = T at *
  go_enter Tryd.func64, Tryd.ntmps64
  go_wp2_with fail
  refine (UN.out _).mono ?_
  rintro e w1 ⟨rfl, rfl⟩
  go_wp2_with (refine wpList_load_row rfl 84 _ rfl 1 rfl t _ fr _ HB.out Tryd.underlying84 rfl HZ.out ?_)
  go_loop [13] (fun i => ∃ k : Nat, k ≤ 96 ∧ Hid (∀ j, j < k → latinNames.getD j [] ≠ s.data.toList) ∧ i = .int .i64 k) (fun i => 96 - (RowKit.intOf i).toNat)
  case atStart => exact ⟨0, by omega, Lib.hid (fun j hj => absurd hj (Nat.not_lt_zero _)), rfl⟩
  case round =>
    obtain ⟨k, hk, HN, rfl⟩ := hrel
    by_cases c : k < 96
    · have hix := IX.out k c w
      obtain ⟨z, hz⟩ : ∃ z : ByteArray, ⟨(latinNames.getD k []).toArray⟩ = z := ⟨_, rfl⟩
      rw [hz] at hix
      have HZE : Hid (latinNames.getD k [] = z.toList) := by
        rw [Lib.toList_data, ← hz]; exact Lib.hid rfl
      clear hz
      by_cases c1 : z.toList = s.toList
      · have t1 : (z.toList == s.toList) = true := beq_iff_eq.2 c1
        have HE := Lib.hid (named_latin c (HZE.out.trans (c1.trans (Lib.toList_data s))))
        go_wp2_with fail
        go_ret2
        exact ⟨by rw [HE.out, show decide (160 + k = 0) = false from decide_eq_false (by omega), show ((160 + k : Nat) : Int) = 160 + (k : Int) by omega]; rfl, rfl⟩
      · have t1 : (z.toList == s.toList) = false := beq_eq_false_iff_ne.2 c1
        go_wp2_with fail
        go_round
        case rel => exact ⟨k + 1, by omega, Lib.hid (fun j hj e => by
          rcases Nat.lt_or_ge j k with h' | h'
          · exact HN.out j h' e
          · obtain rfl : j = k := by omega
            exact absurd (HZE.out.symm.trans (e.trans (Lib.toList_data s).symm)) c1), by go_num⟩
        case measure => simp [RowKit.intOf]; omega
    · have HE := Lib.hid (named_none H0.out (fun j hj e => HN.out j (by omega) e))
      go_wp2_with fail
      go_ret2
      exact ⟨by rw [HE.out]; rfl, rfl⟩
theorem nmName_any (s : ByteArray) (w : World) (hO : Lis w) :
    Calls Tryd.prog 64 #[.string s] w fun e w' => e = .returned (.tuple #[.int .i32 (namedL s.data.toList), .bool (!decide (namedL s.data.toList = 0))]) ∧ w = w' := by
  by_cases h : moreL s.data.toList = 0
  · exact name_less s w h hO
  · exact name_more s w h
end Go.Proofs.YtonajkcdkihchaaDoor
