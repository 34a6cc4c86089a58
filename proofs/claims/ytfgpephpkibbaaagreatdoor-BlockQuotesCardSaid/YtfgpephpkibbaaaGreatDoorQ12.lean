/-
  Texts of the proof, one behind the other: Tab, Nma.
-/
import Derived.Test.YtfgpephpkibbaaaGreatDoorQ8
import Derived.Lib.LaidTab
import Derived.ChangeArms
import Derived.Test.YtfgpephpkibbaaaGreatDoorQ3
/-
  Tables that are package-level variables, of numbers or of texts: what a row's list gives, and that they stay. Of no layer.
-/
namespace Go.Proofs.YtfgpephpkibbaaaGreatDoor
open Go.RowKit Go.Lib

/-- A table of texts as a row lists it. -/
def strData {H : Type} (zs : List (List UInt8)) : DataW H := .agg (zs.map fun z => .lit (.string z))
/-- The variable NAME holds just these texts. -/
def StrIs (P : Program) (w : World) (name : String) (zs : List (List UInt8)) : Prop := w.var? P name = some (zs.map fun z => Value.string ⟨z.toArray⟩).toArray
theorem cells_of_strs {H : Type} {enc : TypeId × Value → H} {P : Program} {w : World} {base : Nat} {sp : Nat → Bool} {held : Bool} {fuel : Nat} {t e : TypeId} {n : Nat} {cs : List Value} {zs : List (List UInt8)} {p : List MemPlace}
    (ht : P.underlying t = some (.array n e)) (he : P.underlying e = some .string) (hce : P.cellsOf e = 1) (hct : P.cellsOf t = n)
    (h : DataW.trod enc P w base sp held fuel t cs = some (strData zs, p)) : cs = zs.map fun z => Value.string ⟨z.toArray⟩ := by
  cases fuel with
  | zero => simp [DataW.trod] at h
  | succ fuel =>
    simp only [DataW.trod, ht, hce, hct, Nat.mul_one] at h
    split at h
    · rename_i hl
      obtain ⟨xs, hm, hx⟩ := Option.map_eq_some_iff.1 h
      have hxs : xs.map (·.1) = zs.map fun z => (DataW.lit (.string z) : DataW H) := by
        have := congrArg Prod.fst hx
        simpa [strData] using this
      have hxl : xs.length = n := by simpa using mapM_length hm
      have hzl : zs.length = n := by
        have := congrArg List.length hxs
        simp at this
        omega
      apply List.ext_getElem?
      intro i
      by_cases hi : i < n
      · obtain ⟨b, hb, hf⟩ := mapM_at hm i i (by simp [hi])
        obtain ⟨z, hc, rfl, _⟩ := DataW.trod_string he hf
        have h1 : cs[i]? = some (.string z) := by
          have := congrArg (·[0]?) hc
          simpa [List.getElem?_take, List.getElem?_drop] using this
        have h2 : (xs.map (·.1))[i]? = some (DataW.lit (.string z.data.toList) : DataW H) := by simp [hb]
        rw [hxs] at h2
        simp only [List.getElem?_map, Option.map_eq_some_iff, DataW.lit.injEq, Lit.string.injEq] at h2
        obtain ⟨z', hz', rfl⟩ := h2
        simp only [List.getElem?_map, h1, hz', Option.map_some, bytes_mk]
      · rw [List.getElem?_eq_none (by omega), List.getElem?_eq_none (by simp; omega)]
    · cases h
/-- From the row's list: a table of texts that stands first on it. -/
theorem strIs_of_head {P : Program} {W : World} {name : String} {zs : List (List UInt8)} {rest : List (String × DataW Unit)} {g : Nat} {t e : TypeId} {n : Nat}
    (hg : P.globalNamed name = some g) (hty : (P.globals[g]?).map (·.type) = some t) (ht : P.underlying t = some (.array n e)) (he : P.underlying e = some .string) (hce : P.cellsOf e = 1) (hct : P.cellsOf t = n)
    (h : laidMet P ((name, strData zs) :: rest) W) : StrIs P W name zs := by
  obtain ⟨ps, ⟨g', t', cs, fuel, p, q, hg', ht', hvar, hd, _, _⟩, _⟩ := h
  obtain rfl := Option.some.inj (hg.symm.trans hg')
  obtain rfl := Option.some.inj (hty.symm.trans ht')
  unfold StrIs
  rw [hvar, ← cells_of_strs ht he hce hct hd]
theorem StrIs.cell {P : Program} {W : World} {name : String} {zs : List (List UInt8)} {g : Nat} (h : StrIs P W name zs) (hg : P.globalNamed name = some g) (i : Nat) (hi : i < zs.length) :
    W.cell? ⟨g, i, none⟩ = some (.string ⟨(zs.getD i []).toArray⟩) := by
  have := World.var?_cell hg h i
  simpa [List.getD, hi] using this
theorem var_keep {P : Program} {w w' : World} {n : String} {cs : Array Value} (h : w.var? P n = some cs) (k : Keeps w w') : w'.var? P n = some cs := by
  unfold World.var? at h ⊢
  cases hg : P.globalNamed n with
  | none => rw [hg] at h; cases h
  | some g =>
    rw [hg] at h
    simp only [Option.bind_some] at h ⊢
    have hlt : g < w.heap.size := by
      rcases Nat.lt_or_ge g w.heap.size with h' | h'
      · exact h'
      · rw [Array.getElem?_eq_none h'] at h; cases h
    rw [k.block g hlt]
    exact h
theorem tab_keep {P : Program} {w w' : World} {n : String} {k : IntKind} {zs : List Int} (h : Lib.TabIs P w n k zs) (K : Keeps w w') : Lib.TabIs P w' n k zs := var_keep h K
theorem str_keep {P : Program} {w w' : World} {n : String} {zs : List (List UInt8)} (h : StrIs P w n zs) (K : Keeps w w') : StrIs P w' n zs := var_keep h K
end Go.Proofs.YtfgpephpkibbaaaGreatDoor

/-
  Contracts of unlisted and Name, of the package: they read the table of names.
-/
namespace Go.Proofs.YtfgpephpkibbaaaGreatDoor
open Go.RowKit Go.Lib

set_option maxRecDepth 100000 in
theorem un_any (s : ByteArray) (w : World) :
    Calls Tryz.prog 213 #[.string s] w fun e w' => e = .returned (.int .i32 (moreL s.data.toList)) ∧ w = w' := by
  rw [← Lib.toList_data]
  go_enter Tryz.func213, Tryz.ntmps213
  go_wp2
  all_goals
    go_ret
    refine ⟨ret_int ?_, rfl⟩
    simp only [moreL, moreNames, lookL, *, cond_true, cond_false]
    try rfl

/-- The table of the package's is as the text lays it. -/
def Lis (w : World) : Prop := StrIs Tryz.prog w "compositor/named.listed" latinNames
theorem Lis.keep {w w' : World} (h : Lis w) (k : Keeps w w') : Lis w' := str_keep h k
theorem gLis : Tryz.prog.globalNamed "compositor/named.listed" = some 4 := by kernel_rfl
def latinVals : List Value := latinNames.map fun z => Value.string ⟨z.toArray⟩
theorem infoLis : (Tryz.prog.info? 182).map (·.size) = some latinVals.toArray.size := by kernel_rfl
/-- The table's block. -/
theorem Lis.heap {w : World} (h : Lis w) : ∃ t fr, w.heap[4]? = some (.cells latinVals.toArray t fr) := by
  unfold Lis StrIs World.var? at h
  rw [gLis] at h
  simp only [Option.bind_some] at h
  split at h
  · next cs t fr he => exact ⟨t, fr, by rw [he, Option.some.inj h]; rfl⟩
  · cases h
theorem latin_get (k : Nat) (hk : k < 96) : latinVals[k]? = some (.string ⟨(latinNames.getD k []).toArray⟩) := by
  have h2 : k < latinNames.length := hk
  unfold latinVals
  rw [List.getElem?_map, List.getElem?_eq_getElem h2, List.getD, List.getElem?_eq_getElem h2]; rfl
theorem lis_index (k : Nat) (hk : k < 96) (w : World) : (Instr.index 182 (.agg latinVals.toArray) (.int .i64 k)).run Tryz.prog w = .ok (.string ⟨(latinNames.getD k []).toArray⟩) w := by
  have hn : (0 : Int) ≤ (k : Int) ∧ (k : Int) < ((96 : Nat) : Int) := ⟨by omega, by omega⟩
  have ha : ∀ w, (isAgg 9).run Tryz.prog w = .ok false w := fun _ => by kernel_rfl
  have hs : ∀ w, (sizeOf 9).run Tryz.prog w = .ok 1 w := fun _ => by kernel_rfl
  have hc : latinVals.toArray[k]? = some (.string ⟨(latinNames.getD k []).toArray⟩) := by rw [List.getElem?_toArray]; exact latin_get k hk
  generalize latinVals.toArray = T at *
  simp [Instr.index, run_underlying Tryz.underlying182, asIntOf, hn, hs, ha, part, hc, go_sem]
  intro h; omega
set_option maxRecDepth 100000 in
theorem name_more (s : ByteArray) (w : World) (h : moreL s.data.toList ≠ 0) :
    Calls Tryz.prog 207 #[.string s] w fun e w' => e = .returned (.tuple #[.int .i32 (namedL s.data.toList), .bool (!decide (namedL s.data.toList = 0))]) ∧ w = w' := by
  have UN := Lib.hid (fun W => un_any s W)
  rw [named_more h]
  rw [decide_eq_false h]
  have hz : ((moreL s.data.toList : Nat) : Int) ≠ 0 := by omega
  generalize ((moreL s.data.toList : Nat) : Int) = z at *
  have t0 : (z == 0) = false := beq_eq_false_iff_ne.2 hz
  have t1 : (z != 0) = true := by rw [bne, t0]; rfl
  clear h hz
  go_enter Tryz.func207, Tryz.ntmps207
  go_wp2_with fail
  refine (UN.out _).mono ?_
  rintro e w1 ⟨rfl, rfl⟩
  go_wp2_with fail
  go_ret2
  exact ⟨rfl, rfl⟩
set_option maxRecDepth 100000 in
theorem name_less (s : ByteArray) (w : World) (h : moreL s.data.toList = 0) (hO : Lis w) :
    Calls Tryz.prog 207 #[.string s] w fun e w' => e = .returned (.tuple #[.int .i32 (namedL s.data.toList), .bool (!decide (namedL s.data.toList = 0))]) ∧ w = w' := by
  have UN := Lib.hid (fun W => un_any s W)
  rw [h] at UN
  have H0 := Lib.hid h
  clear h
  obtain ⟨t, fr, hb⟩ := hO.heap
  have HB := Lib.hid hb
  have HZ := Lib.hid infoLis
  clear hb
  have IX := Lib.hid (lis_index)
  generalize latinVals.toArray = T at *
  go_enter Tryz.func207, Tryz.ntmps207
  go_wp2_with fail
  refine (UN.out _).mono ?_
  rintro e w1 ⟨rfl, rfl⟩
  go_wp2_with (refine wpList_load_row rfl 182 _ rfl 4 rfl t _ fr _ HB.out Tryz.underlying182 rfl HZ.out ?_)
  go_loop [13] (fun i => ∃ k : Nat, k ≤ 96 ∧ Hid (∀ j, j < k → latinNames.getD j [] ≠ s.data.toList) ∧ i = .int .i64 k) (fun i => 96 - (RowKit.intOf i).toNat)
  case atStart => exact ⟨0, by omega, Lib.hid (fun j hj => absurd hj (Nat.not_lt_zero _)), rfl⟩
  case round =>
    obtain ⟨k, hk, HN, rfl⟩ := hrel
    by_cases c : k < 96
    · have hix := IX.out k c w
      obtain ⟨z, hz⟩ : ∃ z : ByteArray, ⟨(latinNames.getD k []).toArray⟩ = z := ⟨_, rfl⟩
      rw [hz] at hix
      have HZE : Hid (latinNames.getD k [] = z.toList) := by
        rw [Lib.toList_data, ← hz]; exact Lib.hid rfl
      clear hz
      by_cases c1 : z.toList = s.toList
      · have t1 : (z.toList == s.toList) = true := beq_iff_eq.2 c1
        have HE := Lib.hid (named_latin c (HZE.out.trans (c1.trans (Lib.toList_data s))))
        go_wp2_with fail
        go_ret2
        exact ⟨by rw [HE.out, show decide (160 + k = 0) = false from decide_eq_false (by omega), show ((160 + k : Nat) : Int) = 160 + (k : Int) by omega]; rfl, rfl⟩
      · have t1 : (z.toList == s.toList) = false := beq_eq_false_iff_ne.2 c1
        go_wp2_with fail
        go_round
        case rel => exact ⟨k + 1, by omega, Lib.hid (fun j hj e => by
          rcases Nat.lt_or_ge j k with h' | h'
          · exact HN.out j h' e
          · obtain rfl : j = k := by omega
            exact absurd (HZE.out.symm.trans (e.trans (Lib.toList_data s).symm)) c1), by go_num⟩
        case measure => simp [RowKit.intOf]; omega
    · have HE := Lib.hid (named_none H0.out (fun j hj e => HN.out j (by omega) e))
      go_wp2_with fail
      go_ret2
      exact ⟨by rw [HE.out]; rfl, rfl⟩
theorem nmName_any (s : ByteArray) (w : World) (hO : Lis w) :
    Calls Tryz.prog 207 #[.string s] w fun e w' => e = .returned (.tuple #[.int .i32 (namedL s.data.toList), .bool (!decide (namedL s.data.toList = 0))]) ∧ w = w' := by
  by_cases h : moreL s.data.toList = 0
  · exact name_less s w h hO
  · exact name_more s w h
end Go.Proofs.YtfgpephpkibbaaaGreatDoor

