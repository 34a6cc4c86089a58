/-
  FontFits, the statement of the row and its tied card: whatever the arguments, the law returns true, and each argument reads as it did.
  Conditions: the card's own (the listed package-level variables start as the program's text lays them).
-/
import Derived.Test.YtapffngcbbngiaaDoorFfits
import Derived.ProofKit
import Derived.OpenShut
import Derived.ShutString
import Derived.ChangeMaps5
import Derived.Carry
import Derived.Lay
import Derived.LaidMore
import Derived.Deep.DeepHandedRow
import Derived.Lib.LaidTab
import Derived.Stop.Joined
import Derived.Stop.LaidErr
import Derived.Lib.SmallJoins
import Derived.Test.YtapffngcbbngiaaDoorTab
import Derived.Test.YtapffngcbbngiaaDoorCards
import Derived.Test.YtapffngcbbngiaaDoorTie
namespace Go.Proofs.YtapffngcbbngiaaDoor.lFontFits
open Go.ChangeShapes Go.WideShapes Go.ChangeAt Go.RowKit Go.ChangeMaps Go.Joins

theorem own : ownKnob Tryd.prog.godebug = none := by kernel_rfl
theorem laidOut : laidOutB Tryd.prog = true := by kernel_rfl
theorem cells0 : Tryd.prog.cellsOf 32 = 4 := by kernel_rfl
theorem gTab0 : Tryd.prog.globalNamed "compositor/font.plainWidths" = some 6 := by kernel_rfl
theorem tTab0 : (Tryd.prog.globals[6]?).map (·.type) = some 43 := by kernel_rfl
theorem aTab0 : Tryd.prog.cellsOf 43 = 95 := by kernel_rfl
theorem eTab0 : Tryd.prog.cellsOf 35 = 1 := by kernel_rfl
theorem dTab0 : (Rows.laid_compositor_font_plainWidths : DataW Unit) = Lib.tabData .u16 plainTab := by kernel_rfl
theorem table0 {W : World} (h : laidMet Tryd.prog Rows.fontFitsRow.laid W) : Lib.TabIs Tryd.prog W "compositor/font.plainWidths" .u16 plainTab := by
  have h3 : laidMet Tryd.prog (("compositor/font.plainWidths", Lib.tabData .u16 plainTab) :: (Rows.fontFitsRow.laid.drop 1)) W := by
    rw [← dTab0]
    exact h
  exact Lib.tabIs_of_head gTab0 tTab0 Tryd.underlying43 Tryd.underlying35 eTab0 aTab0 h3
theorem gTab1 : Tryd.prog.globalNamed "compositor/font.boldWidths" = some 5 := by kernel_rfl
theorem tTab1 : (Tryd.prog.globals[5]?).map (·.type) = some 43 := by kernel_rfl
theorem aTab1 : Tryd.prog.cellsOf 43 = 95 := by kernel_rfl
theorem eTab1 : Tryd.prog.cellsOf 35 = 1 := by kernel_rfl
theorem dTab1 : (Rows.laid_compositor_font_boldWidths : DataW Unit) = Lib.tabData .u16 boldTab := by kernel_rfl
theorem table1 {W : World} (h : laidMet Tryd.prog Rows.fontFitsRow.laid W) : Lib.TabIs Tryd.prog W "compositor/font.boldWidths" .u16 boldTab := by
  have h3 : laidMet Tryd.prog (("compositor/font.boldWidths", Lib.tabData .u16 boldTab) :: (Rows.fontFitsRow.laid.drop 2)) W := by
    rw [← dTab1]
    exact laidMet.tail h
  exact Lib.tabIs_of_head gTab1 tTab1 Tryd.underlying43 Tryd.underlying35 eTab1 aTab1 h3
theorem gTab2 : Tryd.prog.globalNamed "compositor/font.highWidths" = some 0 := by kernel_rfl
theorem tTab2 : (Tryd.prog.globals[0]?).map (·.type) = some 39 := by kernel_rfl
theorem aTab2 : Tryd.prog.cellsOf 39 = 96 := by kernel_rfl
theorem eTab2 : Tryd.prog.cellsOf 35 = 1 := by kernel_rfl
theorem dTab2 : (Rows.laid_compositor_font_highWidths : DataW Unit) = Lib.tabData .u16 latinTab := by kernel_rfl
theorem table2 {W : World} (h : laidMet Tryd.prog Rows.fontFitsRow.laid W) : Lib.TabIs Tryd.prog W "compositor/font.highWidths" .u16 latinTab := by
  have h3 : laidMet Tryd.prog (("compositor/font.highWidths", Lib.tabData .u16 latinTab) :: (Rows.fontFitsRow.laid.drop 3)) W := by
    rw [← dTab2]
    exact laidMet.tail (laidMet.tail h)
  exact Lib.tabIs_of_head gTab2 tTab2 Tryd.underlying39 Tryd.underlying35 eTab2 aTab2 h3
theorem gTab3 : Tryd.prog.globalNamed "compositor/font.names" = some 4 := by kernel_rfl
theorem tTab3 : (Tryd.prog.globals[4]?).map (·.type) = some 42 := by kernel_rfl
theorem aTab3 : Tryd.prog.cellsOf 42 = 5 := by kernel_rfl
theorem eTab3 : Tryd.prog.cellsOf 9 = 1 := by kernel_rfl
theorem dTab3 : (Rows.laid_compositor_font_names : DataW Unit) = strData nameTab := by kernel_rfl
theorem table3 {W : World} (h : laidMet Tryd.prog Rows.fontFitsRow.laid W) : StrIs Tryd.prog W "compositor/font.names" nameTab := by
  have h3 : laidMet Tryd.prog (("compositor/font.names", strData nameTab) :: (Rows.fontFitsRow.laid.drop 4)) W := by
    rw [← dTab3]
    exact laidMet.tail (laidMet.tail (laidMet.tail h))
  exact strIs_of_head gTab3 tTab3 Tryd.underlying42 Tryd.underlying9 eTab3 aTab3 h3

set_option maxHeartbeats 800000 in
theorem contract (H : Type) (enc : TypeId × Value → H) (W : World) (base : Nat) (args : Array Value) (ds gs : List (DataW H)) (before : List MemPlace)
    (hval : ∀ (j : Nat) t v, Tryd.f5.params[j]? = some t → args[j]? = some v → Value.okWide Tryd.prog W .any base t v)
    (hW : DataW.Whole enc Tryd.prog Tryd.f5.params.toList Rows.fontFitsSpec.vars false W args.toList ds gs before) (hL0 : laidMetH Tryd.prog Rows.fontFitsRow.laid W) :
    Calls Tryd.prog 5 args W fun e W' => ∃ v, e = .returned v ∧ Rows.fontFitsSpec.post enc Tryd.prog Tryd.f5 false true false false W args v W' := by
  have hL : laidMet Tryd.prog Rows.fontFitsRow.laid W := by
    rw [MakeChecks.laidMetH_plain _ _ _ (by kernel_rfl)] at hL0
    exact hL0
  have hW' := hW
  obtain ⟨p, q, hA0, hV, rfl, _, _⟩ := hW
  have hA : DataW.TrodAll enc Tryd.prog W 0 (fun _ => true) true Tryd.f5.params.toList args.toList ds p := hA0
  rw [Tryd.params5] at hA hval
  obtain ⟨v0, vs0, d0, ds0, p0, q0, hargs, rfl, rfl, h0, t0⟩ := trodAll_cons hA
  obtain ⟨rfl, rfl, rfl⟩ := trodAll_nil t0
  obtain rfl : args = #[v0] := by cases args; simp_all
  obtain ⟨rfl, rfl⟩ := trodVars_none hV
  obtain ⟨u0_0, u0_1, u0_2, u0_3, y0_0, y0_1, y0_2, y0_3, m0, rfl, _, _, g0_0, g0_1, g0_2, g0_3⟩ := open_agg4 Tryd.underlying32 (by kernel_rfl) cells0 (hval 0 32 v0 rfl rfl) h0
  obtain ⟨x0_0, e0_0, _, wf0_0⟩ := DataW.trod_int Tryd.underlying3 g0_0
  have r0_0 : -9223372036854775808 ≤ x0_0 ∧ x0_0 ≤ 9223372036854775807 := by simpa [Lit.wf, IntKind.min, IntKind.max, IntKind.signed, IntKind.bits] using wf0_0
  obtain rfl := (List.cons.inj e0_0).1
  obtain ⟨x0_1, e0_1, _, wf0_1⟩ := DataW.trod_int Tryd.underlying3 g0_1
  have r0_1 : -9223372036854775808 ≤ x0_1 ∧ x0_1 ≤ 9223372036854775807 := by simpa [Lit.wf, IntKind.min, IntKind.max, IntKind.signed, IntKind.bits] using wf0_1
  obtain rfl := (List.cons.inj e0_1).1
  obtain ⟨x0_2, e0_2, _, wf0_2⟩ := DataW.trod_int Tryd.underlying3 g0_2
  have r0_2 : -9223372036854775808 ≤ x0_2 ∧ x0_2 ≤ 9223372036854775807 := by simpa [Lit.wf, IntKind.min, IntKind.max, IntKind.signed, IntKind.bits] using wf0_2
  obtain rfl := (List.cons.inj e0_2).1
  obtain ⟨x0_3, e0_3, _, ws0_3⟩ := DataW.trod_string Tryd.underlying9 g0_3
  obtain rfl := (List.cons.inj e0_3).1
  clear hA0
  rw [List.append_nil (p0 ++ ([] : List MemPlace))] at hW'
  have arg0 : ∀ (W' : World), Below W.heap.size W W' → DataW.Trod enc Tryd.prog W' 0 (fun b => decide (b < W.heap.size)) true 32 _ _ _ :=
    fun W' hn => Below.trod laidOut (by kernel_rfl) (of_decide_eq_true (by kernel_rfl)) h0 hn (fun x hx => by simpa using hW'.lt x (by simp [hx]))
  have tab0 := table0 hL
  have tab1 := table1 hL
  have tab2 := table2 hL
  have tab3 := table3 hL
  refine (ffits_any x0_0 x0_1 x0_2 x0_3 W ws0_3 ⟨tab0, tab1, tab2, tab3⟩).mono fun e W' ⟨he, hg⟩ => ?_
  subst he
  exact ⟨_, rfl, _, _, _, [], _, [], hW', trodAll_mk1 (shut_bool Tryd.underlying4 _), (trodAll_cons_mk (arg0 _ hg) trodAll_mk0), rfl, Below.frame hg _, fun h => by cases h⟩

/-- A world for the witness: the listed tables laid. -/
noncomputable def laidWorld (os : Os) : World := World.laidAll Tryd.prog os Rows.fontFitsRow.laid
theorem laid_met (os : Os) : laidMetH Tryd.prog Rows.fontFitsRow.laid ((laidWorld os).forCall (fun _ _ => 0) ⟨#[], #[.agg #[.int .i64 0, .int .i64 0, .int .i64 0, .string ⟨#[]⟩]], []⟩).memory := by
  rw [MakeChecks.laidMetH_plain _ _ _ (by kernel_rfl)]
  exact laidMet_laidAll _ (by kernel_rfl) (by kernel_rfl)
theorem reads (os : Os) {H : Type} (enc : TypeId × Value → H) : ∃ places, DataW.whole enc Tryd.prog ((laidWorld os).forCall (fun _ _ => 0) ⟨#[], #[.agg #[.int .i64 0, .int .i64 0, .int .i64 0, .string ⟨#[]⟩]], []⟩).memory Tryd.f5.params.toList Rows.fontFitsSpec.vars false (#[.agg #[.int .i64 0, .int .i64 0, .int .i64 0, .string ⟨#[]⟩]] : Array Value).toList 8 = some ([.agg [.lit (.int .i64 0), .lit (.int .i64 0), .lit (.int .i64 0), .lit (.string [])]], [], places) :=
  ⟨[], by kernel_rfl⟩

set_option maxRecDepth 100000 in
theorem lifted (os : Os) (started : os.Started) (H : Type) (enc : TypeId × Value → H) (F : Stop.Interp) :
    ReturnsInHanded {} Tryd.checked os 5 .any ((OpenSpec.ofChange Rows.fontFitsSpec).preRow enc Tryd.prog Tryd.f5 Rows.fontFitsRow.domain false Rows.fontFitsRow.laid) (((OpenSpec.ofChange Rows.fontFitsSpec).at F).post enc Tryd.prog Tryd.f5 false true false false) := by
  obtain ⟨places, hx⟩ := reads os enc
  refine returnsInHanded_of_row (C := Tryd.checked) (s := OpenSpec.ofChange Rows.fontFitsSpec) own started (by kernel_rfl) Tryd.func5
    (witness_row_at (enc := enc) (C := Tryd.checked) false (laidWorld os) #[.agg #[.int .i64 0, .int .i64 0, .int .i64 0, .string ⟨#[]⟩]] (World.laidAll_os _ _ _) (by kernel_rfl) (by kernel_rfl) (by kernel_rfl)
      (OpenSpec.preRow_of_cond 8 hx (by kernel_rfl) (fun k hk => by cases hk) (by kernel_rfl) (laid_met os))) ?_
  intro W base args ds gs before hval hW _ _ _ hL _ _
  exact contract H enc W base args ds gs before hval hW hL

theorem said : Rows.FontFitsSaid :=
  OpenClaim.holds_of_cond 5 Tryd.f5 rfl rfl rfl rfl rfl rfl rfl ⟨rfl, rfl, rfl, rfl, rfl⟩ rfl rfl rfl rfl rfl (by kernel_rfl) Tryd.func5 (by kernel_rfl)
    (of_decide_eq_true (by kernel_rfl)) (by unfold Func.isWrapper; first | (rw [if_pos (by decide +kernel)]; kernel_rfl) | (rw [if_neg (by decide +kernel)]; exact ⟨rfl, rfl⟩))
    (fun os started H enc _ F => by rw [OpenClaim.pre_eq_preRow]; exact lifted os started H enc F)

theorem plain (f : FuncId) (fn : Func) (hf : Tryd.pinned.checked.prog.funcNamed Rows.fontFitsRow.func = some f) (hfn : Tryd.pinned.checked.prog.funcs[f]? = some fn) :
    false = Tryd.pinned.checked.prog.looks [] ∧ ∀ (j : Nat) t, fn.params[j]? = some t → Tryd.pinned.checked.prog.wantsStandIn t = false := by
  obtain rfl : f = 5 := Option.some.inj ((show Tryd.prog.funcNamed Rows.fontFitsRow.func = some 5 by kernel_rfl).symm.trans hf) |>.symm
  obtain rfl : fn = Tryd.f5 := (Option.some.inj (Tryd.func5.symm.trans hfn)).symm
  refine ⟨by kernel_rfl, fun j t ht => ?_⟩
  rw [Tryd.params5] at ht
  have hm : t ∈ [32] := by simpa using Array.mem_of_getElem? ht
  have hall : ([32].all fun u => !Tryd.prog.wantsStandIn u) = true := by kernel_rfl
  exact (show Tryd.prog.wantsStandIn t = false by simpa using List.all_eq_true.1 hall t hm)

theorem card : Rows.FontFitsCardSaid :=
  Claim7.holds_tied_plain_at .later [] _ _ _ _ said (fun _ h => by cases h) (by kernel_rfl) (fun _ h => by cases h) fontFits_row_tie rfl ⟨rfl, rfl⟩ (by kernel_rfl) rfl plain (by kernel_rfl)
end Go.Proofs.YtapffngcbbngiaaDoor.lFontFits
