/-
  ItemMakes, the statement of the row and its tied card: where what it reads is of no greater bulk than the row says, the law returns true, and each argument reads as it did.
  Conditions: the card's own (the listed package-level variables start as the program's text lays them).
-/
import Derived.Test.YtoanknepbjofjaaDoorM27
import Derived.ProofKit
import Derived.OpenShut
import Derived.ShutString
import Derived.ChangeMaps5
import Derived.Carry
import Derived.Lay
import Derived.LaidMore
import Derived.Deep.DeepHandedRow
import Derived.Lib.LaidTab
import Derived.Stop.Joined
import Derived.Stop.LaidErr
import Derived.Test.YtoanknepbjofjaaDoorM28
import Derived.Test.YtoanknepbjofjaaDoorM4
import Derived.Test.YtoanknepbjofjaaDoorCards
import Derived.Test.YtoanknepbjofjaaDoorTie
namespace Go.Proofs.YtoanknepbjofjaaDoor.lItemMakes
open Go.ChangeShapes Go.WideShapes Go.ChangeAt Go.RowKit Go.ChangeMaps

theorem own : ownKnob Tryd.prog.godebug = none := by kernel_rfl
theorem laidOut : laidOutB Tryd.prog = true := by kernel_rfl
theorem cells1 : Tryd.prog.cellsOf 23 = 2 := by kernel_rfl
theorem cellsE1 : Tryd.prog.cellsOf 3 = 1 := by kernel_rfl
theorem gTab0 : Tryd.prog.globalNamed "compositor/compositorref05.plain" = some 2 := by kernel_rfl
theorem tTab0 : (Tryd.prog.globals[2]?).map (·.type) = some 83 := by kernel_rfl
theorem aTab0 : Tryd.prog.cellsOf 83 = 95 := by kernel_rfl
theorem eTab0 : Tryd.prog.cellsOf 3 = 1 := by kernel_rfl
theorem dTab0 : (Rows.laid_compositor_compositorref05_plain : DataW Unit) = Lib.tabData .i64 plainTab := by kernel_rfl
theorem table0 {W : World} (h : laidMet Tryd.prog Rows.itemMakesUptoRow.laid W) : Lib.TabIs Tryd.prog W "compositor/compositorref05.plain" .i64 plainTab := by
  have h3 : laidMet Tryd.prog (("compositor/compositorref05.plain", Lib.tabData .i64 plainTab) :: (Rows.itemMakesUptoRow.laid.drop 1)) W := by
    rw [← dTab0]
    exact h
  exact Lib.tabIs_of_head gTab0 tTab0 Tryd.underlying83 Tryd.underlying3 eTab0 aTab0 h3
theorem gTab1 : Tryd.prog.globalNamed "compositor/compositorref05.bold" = some 1 := by kernel_rfl
theorem tTab1 : (Tryd.prog.globals[1]?).map (·.type) = some 83 := by kernel_rfl
theorem aTab1 : Tryd.prog.cellsOf 83 = 95 := by kernel_rfl
theorem eTab1 : Tryd.prog.cellsOf 3 = 1 := by kernel_rfl
theorem dTab1 : (Rows.laid_compositor_compositorref05_bold : DataW Unit) = Lib.tabData .i64 boldTab := by kernel_rfl
theorem table1 {W : World} (h : laidMet Tryd.prog Rows.itemMakesUptoRow.laid W) : Lib.TabIs Tryd.prog W "compositor/compositorref05.bold" .i64 boldTab := by
  have h3 : laidMet Tryd.prog (("compositor/compositorref05.bold", Lib.tabData .i64 boldTab) :: (Rows.itemMakesUptoRow.laid.drop 2)) W := by
    rw [← dTab1]
    exact laidMet.tail h
  exact Lib.tabIs_of_head gTab1 tTab1 Tryd.underlying83 Tryd.underlying3 eTab1 aTab1 h3
theorem gTab2 : Tryd.prog.globalNamed "compositor/compositorref05.latin" = some 0 := by kernel_rfl
theorem tTab2 : (Tryd.prog.globals[0]?).map (·.type) = some 82 := by kernel_rfl
theorem aTab2 : Tryd.prog.cellsOf 82 = 96 := by kernel_rfl
theorem eTab2 : Tryd.prog.cellsOf 3 = 1 := by kernel_rfl
theorem dTab2 : (Rows.laid_compositor_compositorref05_latin : DataW Unit) = Lib.tabData .i64 latinTab := by kernel_rfl
theorem table2 {W : World} (h : laidMet Tryd.prog Rows.itemMakesUptoRow.laid W) : Lib.TabIs Tryd.prog W "compositor/compositorref05.latin" .i64 latinTab := by
  have h3 : laidMet Tryd.prog (("compositor/compositorref05.latin", Lib.tabData .i64 latinTab) :: (Rows.itemMakesUptoRow.laid.drop 3)) W := by
    rw [← dTab2]
    exact laidMet.tail (laidMet.tail h)
  exact Lib.tabIs_of_head gTab2 tTab2 Tryd.underlying82 Tryd.underlying3 eTab2 aTab2 h3
theorem gTab3 : Tryd.prog.globalNamed "compositor/font.plainWidths" = some 5 := by kernel_rfl
theorem tTab3 : (Tryd.prog.globals[5]?).map (·.type) = some 96 := by kernel_rfl
theorem aTab3 : Tryd.prog.cellsOf 96 = 95 := by kernel_rfl
theorem eTab3 : Tryd.prog.cellsOf 85 = 1 := by kernel_rfl
theorem dTab3 : (Rows.laid_compositor_font_plainWidths : DataW Unit) = Lib.tabData .u16 plainTab := by kernel_rfl
theorem table3 {W : World} (h : laidMet Tryd.prog Rows.itemMakesUptoRow.laid W) : Lib.TabIs Tryd.prog W "compositor/font.plainWidths" .u16 plainTab := by
  have h3 : laidMet Tryd.prog (("compositor/font.plainWidths", Lib.tabData .u16 plainTab) :: (Rows.itemMakesUptoRow.laid.drop 4)) W := by
    rw [← dTab3]
    exact laidMet.tail (laidMet.tail (laidMet.tail h))
  exact Lib.tabIs_of_head gTab3 tTab3 Tryd.underlying96 Tryd.underlying85 eTab3 aTab3 h3
theorem gTab4 : Tryd.prog.globalNamed "compositor/font.boldWidths" = some 4 := by kernel_rfl
theorem tTab4 : (Tryd.prog.globals[4]?).map (·.type) = some 96 := by kernel_rfl
theorem aTab4 : Tryd.prog.cellsOf 96 = 95 := by kernel_rfl
theorem eTab4 : Tryd.prog.cellsOf 85 = 1 := by kernel_rfl
theorem dTab4 : (Rows.laid_compositor_font_boldWidths : DataW Unit) = Lib.tabData .u16 boldTab := by kernel_rfl
theorem table4 {W : World} (h : laidMet Tryd.prog Rows.itemMakesUptoRow.laid W) : Lib.TabIs Tryd.prog W "compositor/font.boldWidths" .u16 boldTab := by
  have h3 : laidMet Tryd.prog (("compositor/font.boldWidths", Lib.tabData .u16 boldTab) :: (Rows.itemMakesUptoRow.laid.drop 5)) W := by
    rw [← dTab4]
    exact laidMet.tail (laidMet.tail (laidMet.tail (laidMet.tail h)))
  exact Lib.tabIs_of_head gTab4 tTab4 Tryd.underlying96 Tryd.underlying85 eTab4 aTab4 h3
theorem gTab5 : Tryd.prog.globalNamed "compositor/font.highWidths" = some 3 := by kernel_rfl
theorem tTab5 : (Tryd.prog.globals[3]?).map (·.type) = some 86 := by kernel_rfl
theorem aTab5 : Tryd.prog.cellsOf 86 = 96 := by kernel_rfl
theorem eTab5 : Tryd.prog.cellsOf 85 = 1 := by kernel_rfl
theorem dTab5 : (Rows.laid_compositor_font_highWidths : DataW Unit) = Lib.tabData .u16 latinTab := by kernel_rfl
theorem table5 {W : World} (h : laidMet Tryd.prog Rows.itemMakesUptoRow.laid W) : Lib.TabIs Tryd.prog W "compositor/font.highWidths" .u16 latinTab := by
  have h3 : laidMet Tryd.prog (("compositor/font.highWidths", Lib.tabData .u16 latinTab) :: (Rows.itemMakesUptoRow.laid.drop 6)) W := by
    rw [← dTab5]
    exact laidMet.tail (laidMet.tail (laidMet.tail (laidMet.tail (laidMet.tail h))))
  exact Lib.tabIs_of_head gTab5 tTab5 Tryd.underlying86 Tryd.underlying85 eTab5 aTab5 h3
theorem gTab6 : Tryd.prog.globalNamed "compositor/code.oddRunes" = some 6 := by kernel_rfl
theorem tTab6 : (Tryd.prog.globals[6]?).map (·.type) = some 94 := by kernel_rfl
theorem aTab6 : Tryd.prog.cellsOf 94 = 32 := by kernel_rfl
theorem eTab6 : Tryd.prog.cellsOf 21 = 1 := by kernel_rfl
theorem dTab6 : (Rows.laid_compositor_code_oddRunes : DataW Unit) = Lib.tabData .i32 oddTab := by kernel_rfl
theorem table6 {W : World} (h : laidMet Tryd.prog Rows.itemMakesUptoRow.laid W) : Lib.TabIs Tryd.prog W "compositor/code.oddRunes" .i32 oddTab := by
  have h3 : laidMet Tryd.prog (("compositor/code.oddRunes", Lib.tabData .i32 oddTab) :: (Rows.itemMakesUptoRow.laid.drop 7)) W := by
    rw [← dTab6]
    exact laidMet.tail (laidMet.tail (laidMet.tail (laidMet.tail (laidMet.tail (laidMet.tail h)))))
  exact Lib.tabIs_of_head gTab6 tTab6 Tryd.underlying94 Tryd.underlying21 eTab6 aTab6 h3

set_option maxHeartbeats 800000 in
set_option maxRecDepth 100000 in
theorem contract (H : Type) (enc : TypeId × Value → H) (W : World) (base : Nat) (args : Array Value) (ds gs : List (DataW H)) (before : List MemPlace)
    (hval : ∀ (j : Nat) t v, Tryd.f3.params[j]? = some t → args[j]? = some v → Value.okWide Tryd.prog W .any base t v)
    (hW : DataW.Whole enc Tryd.prog Tryd.f3.params.toList Rows.itemMakesSpec.vars false W args.toList ds gs before) (hL0 : laidMetH Tryd.prog Rows.itemMakesUptoRow.laid W) (hk : Rows.uptoSmall H (ds ++ gs) = true) :
    Calls Tryd.prog 3 args W fun e W' => ∃ v, e = .returned v ∧ Rows.itemMakesSpec.post enc Tryd.prog Tryd.f3 false true false false W args v W' := by
  have hL : laidMet Tryd.prog Rows.itemMakesUptoRow.laid W := by
    rw [MakeChecks.laidMetH_plain _ _ _ (by kernel_rfl)] at hL0
    exact hL0
  have hW' := hW
  obtain ⟨p, q, hA0, hV, rfl, _, _⟩ := hW
  have hA : DataW.TrodAll enc Tryd.prog W 0 (fun _ => true) true Tryd.f3.params.toList args.toList ds p := hA0
  rw [Tryd.params3] at hA hval
  obtain ⟨v0, vs0, d0, ds0, p0, q0, hargs, rfl, rfl, h0, t0⟩ := trodAll_cons hA
  obtain ⟨v1, vs1, d1, ds1, p1, q1, rfl, rfl, rfl, h1, t1⟩ := trodAll_cons t0
  obtain ⟨v2, vs2, d2, ds2, p2, q2, rfl, rfl, rfl, h2, t2⟩ := trodAll_cons t1
  obtain ⟨rfl, rfl, rfl⟩ := trodAll_nil t2
  obtain rfl : args = #[v0, v1, v2] := by cases args; simp_all
  obtain ⟨rfl, rfl⟩ := trodVars_none hV
  obtain ⟨a0, n0, c0, rfl⟩ := okWide_slice Tryd.underlying22 (hval 0 22 v0 rfl rfl)
  obtain ⟨ls0, hs0, hb0⟩ := open_spansT h0
  have hw0 : wL ls0 ≤ 100000000 := by
    have h := of_decide_eq_true hk
    simp only [List.cons_append, List.nil_append, Rows.uptoBulkAll] at h
    omega
  obtain ⟨zs1, zl1, rfl, _, _, zw1⟩ := open_int_array Tryd.underlying23 Tryd.underlying3 cellsE1 cells1 (hval 1 23 v1 rfl rfl) h1
  obtain ⟨x1_0, x1_1, rfl⟩ := list_of2 zs1 zl1
  have wf1_0 := zw1 x1_0 (by simp)
  have r1_0 : -9223372036854775808 ≤ x1_0 ∧ x1_0 ≤ 9223372036854775807 := by simpa [Lit.wf, IntKind.min, IntKind.max, IntKind.signed, IntKind.bits] using wf1_0
  have wf1_1 := zw1 x1_1 (by simp)
  have r1_1 : -9223372036854775808 ≤ x1_1 ∧ x1_1 ≤ 9223372036854775807 := by simpa [Lit.wf, IntKind.min, IntKind.max, IntKind.signed, IntKind.bits] using wf1_1
  obtain ⟨y2, rfl, _, _, wf2⟩ := open_int Tryd.underlying5 (hval 2 5 v2 rfl rfl) h2
  have s2 : 0 ≤ y2 ∧ y2 ≤ 255 := by simpa [Lit.wf, IntKind.min, IntKind.max, IntKind.signed, IntKind.bits] using wf2
  obtain ⟨x2, rfl⟩ : ∃ x : Nat, y2 = (x : Int) := ⟨y2.toNat, by omega⟩
  have r2 : x2 < 256 := by omega
  clear hA0
  rw [List.append_nil (p0 ++ (p1 ++ (p2 ++ ([] : List MemPlace))))] at hW'
  have arg0 : ∀ (W' : World), Below W.heap.size W W' → DataW.Trod enc Tryd.prog W' 0 (fun b => decide (b < W.heap.size)) true 22 _ _ _ :=
    fun W' hn => Below.trod laidOut (by kernel_rfl) (of_decide_eq_true (by kernel_rfl)) h0 hn (fun x hx => by simpa using hW'.lt x (by simp [hx]))
  have arg1 : ∀ (W' : World), Below W.heap.size W W' → DataW.Trod enc Tryd.prog W' 0 (fun b => decide (b < W.heap.size)) true 23 _ _ _ :=
    fun W' hn => Below.trod laidOut (by kernel_rfl) (of_decide_eq_true (by kernel_rfl)) h1 hn (fun x hx => by simpa using hW'.lt x (by simp [hx]))
  have arg2 : ∀ (W' : World), Below W.heap.size W W' → DataW.Trod enc Tryd.prog W' 0 (fun b => decide (b < W.heap.size)) true 5 _ _ _ :=
    fun W' hn => Below.trod laidOut (by kernel_rfl) (of_decide_eq_true (by kernel_rfl)) h2 hn (fun x hx => by simpa using hW'.lt x (by simp [hx]))
  have tab0 := table0 hL
  have tab1 := table1 hL
  have tab2 := table2 hL
  have tab3 := table3 hL
  have tab4 := table4 hL
  have tab5 := table5 hL
  have tab6 := table6 hL
  refine (itmakes_any ls0 _ x1_0 x1_1 x2 r2 W hs0 hw0 ⟨tab0, tab1, tab2⟩ ⟨tab6, ⟨tab3, tab4, tab5⟩⟩).mono fun e W' ⟨he, hg⟩ => ?_
  subst he
  exact ⟨_, rfl, _, _, _, [], _, [], hW', trodAll_mk1 (shut_bool Tryd.underlying4 _), (trodAll_cons_mk (arg0 _ hg) (trodAll_cons_mk (arg1 _ hg) (trodAll_cons_mk (arg2 _ hg) trodAll_mk0))), rfl, Below.frame hg _, fun h => by cases h⟩

/-- A world for the witness: the listed tables laid. -/
noncomputable def laidWorld (os : Os) : World := World.laidAll Tryd.prog os Rows.itemMakesUptoRow.laid
theorem laid_met (os : Os) : laidMetH Tryd.prog Rows.itemMakesUptoRow.laid ((laidWorld os).forCall (fun _ _ => 0) ⟨#[], #[.slice none 0 0, .agg #[.int .i64 0, .int .i64 0], .int .u8 0], []⟩).memory := by
  rw [MakeChecks.laidMetH_plain _ _ _ (by kernel_rfl)]
  exact laidMet_laidAll _ (by kernel_rfl) (by kernel_rfl)
theorem reads (os : Os) {H : Type} (enc : TypeId × Value → H) : ∃ places, DataW.whole enc Tryd.prog ((laidWorld os).forCall (fun _ _ => 0) ⟨#[], #[.slice none 0 0, .agg #[.int .i64 0, .int .i64 0], .int .u8 0], []⟩).memory Tryd.f3.params.toList Rows.itemMakesSpec.vars false (#[.slice none 0 0, .agg #[.int .i64 0, .int .i64 0], .int .u8 0] : Array Value).toList 8 = some ([.nil, .agg [.lit (.int .i64 0), .lit (.int .i64 0)], .lit (.int .u8 0)], [], places) :=
  ⟨[], by kernel_rfl⟩

set_option maxRecDepth 100000 in
theorem lifted (os : Os) (started : os.Started) (H : Type) (enc : TypeId × Value → H) (F : Stop.Interp) :
    ReturnsInHanded {} Tryd.checked os 3 .any ((Rows.OpenSpec.upto Rows.itemMakesSpec).preRow enc Tryd.prog Tryd.f3 Rows.itemMakesUptoRow.domain false Rows.itemMakesUptoRow.laid) (((Rows.OpenSpec.upto Rows.itemMakesSpec).at F).post enc Tryd.prog Tryd.f3 false true false false) := by
  obtain ⟨places, hx⟩ := reads os enc
  refine returnsInHanded_of_row (C := Tryd.checked) (s := Rows.OpenSpec.upto Rows.itemMakesSpec) own started (by kernel_rfl) Tryd.func3
    (witness_row_at (enc := enc) (C := Tryd.checked) false (laidWorld os) #[.slice none 0 0, .agg #[.int .i64 0, .int .i64 0], .int .u8 0] (World.laidAll_os _ _ _) (by kernel_rfl) (by kernel_rfl) (by kernel_rfl)
      (OpenSpec.preRow_of_cond 8 hx (by kernel_rfl) (fun k hk => by cases hk; kernel_rfl) (by kernel_rfl) (laid_met os))) ?_
  intro W base args ds gs before hval hW _ hcond _ hL _ _
  exact contract H enc W base args ds gs before hval hW hL (hcond _ rfl)

theorem said : Rows.ItemMakesUptoSaid :=
  OpenClaim.holds_of_cond 3 Tryd.f3 rfl rfl rfl rfl rfl rfl rfl ⟨rfl, rfl, rfl, rfl, rfl⟩ rfl rfl rfl rfl rfl (by kernel_rfl) Tryd.func3 (by kernel_rfl)
    (of_decide_eq_true (by kernel_rfl)) (by unfold Func.isWrapper; first | (rw [if_pos (by decide +kernel)]; kernel_rfl) | (rw [if_neg (by decide +kernel)]; exact ⟨rfl, rfl⟩))
    (fun os started H enc _ F => by rw [OpenClaim.pre_eq_preRow]; exact lifted os started H enc F)

theorem plain (f : FuncId) (fn : Func) (hf : Tryd.pinned.checked.prog.funcNamed Rows.itemMakesUptoRow.func = some f) (hfn : Tryd.pinned.checked.prog.funcs[f]? = some fn) :
    false = Tryd.pinned.checked.prog.looks [] ∧ ∀ (j : Nat) t, fn.params[j]? = some t → Tryd.pinned.checked.prog.wantsStandIn t = false := by
  obtain rfl : f = 3 := Option.some.inj ((show Tryd.prog.funcNamed Rows.itemMakesUptoRow.func = some 3 by kernel_rfl).symm.trans hf) |>.symm
  obtain rfl : fn = Tryd.f3 := (Option.some.inj (Tryd.func3.symm.trans hfn)).symm
  refine ⟨by kernel_rfl, fun j t ht => ?_⟩
  rw [Tryd.params3] at ht
  have hm : t ∈ [22, 23, 5] := by simpa using Array.mem_of_getElem? ht
  have hall : ([22, 23, 5].all fun u => !Tryd.prog.wantsStandIn u) = true := by kernel_rfl
  exact (show Tryd.prog.wantsStandIn t = false by simpa using List.all_eq_true.1 hall t hm)

theorem card : Rows.ItemMakesUptoCardSaid :=
  Claim7.holds_tied_plain_at .later [] _ _ _ _ said (fun _ h => by cases h) (by kernel_rfl) (fun _ h => by cases h) itemMakesUpto_row_tie rfl ⟨rfl, rfl⟩ (by kernel_rfl) rfl plain (by kernel_rfl)
end Go.Proofs.YtoanknepbjofjaaDoor.lItemMakes
