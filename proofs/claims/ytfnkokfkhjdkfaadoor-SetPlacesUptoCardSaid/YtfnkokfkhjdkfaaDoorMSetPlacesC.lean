/-
  SetPlaces, the statement of the row and its tied card: where what it reads is of no greater bulk than the row says, the law returns true, and each argument reads as it did.
  Conditions: the card's own (the listed package-level variables start as the program's text lays them).
-/
import Derived.Test.YtfnkokfkhjdkfaaDoorM43
import Derived.ProofKit
import Derived.OpenShut
import Derived.ShutString
import Derived.ChangeMaps5
import Derived.Carry
import Derived.Lay
import Derived.LaidMore
import Derived.Deep.DeepHandedRow
import Derived.Lib.LaidTab
import Derived.Stop.Joined
import Derived.Stop.LaidErr
import Derived.Test.YtfnkokfkhjdkfaaDoorM42
import Derived.Test.YtfnkokfkhjdkfaaDoorM6
import Derived.Test.YtfnkokfkhjdkfaaDoorCards
import Derived.Test.YtfnkokfkhjdkfaaDoorTie
namespace Go.Proofs.YtfnkokfkhjdkfaaDoor.lSetPlaces
open Go.ChangeShapes Go.WideShapes Go.ChangeAt Go.RowKit Go.ChangeMaps

theorem own : ownKnob Tryd.prog.godebug = none := by kernel_rfl
theorem laidOut : laidOutB Tryd.prog = true := by kernel_rfl
theorem cells2 : Tryd.prog.cellsOf 33 = 2 := by kernel_rfl
theorem cellsE2 : Tryd.prog.cellsOf 32 = 1 := by kernel_rfl
theorem gTab0 : Tryd.prog.globalNamed "compositor/compositorref05.plain" = some 4 := by kernel_rfl
theorem tTab0 : (Tryd.prog.globals[4]?).map (·.type) = some 120 := by kernel_rfl
theorem aTab0 : Tryd.prog.cellsOf 120 = 95 := by kernel_rfl
theorem eTab0 : Tryd.prog.cellsOf 3 = 1 := by kernel_rfl
theorem dTab0 : (Rows.laid_compositor_compositorref05_plain : DataW Unit) = Lib.tabData .i64 plainTab := by kernel_rfl
theorem table0 {W : World} (h : laidMet Tryd.prog Rows.setPlacesUptoRow.laid W) : Lib.TabIs Tryd.prog W "compositor/compositorref05.plain" .i64 plainTab := by
  have h3 : laidMet Tryd.prog (("compositor/compositorref05.plain", Lib.tabData .i64 plainTab) :: (Rows.setPlacesUptoRow.laid.drop 1)) W := by
    rw [← dTab0]
    exact h
  exact Lib.tabIs_of_head gTab0 tTab0 Tryd.underlying120 Tryd.underlying3 eTab0 aTab0 h3
theorem gTab1 : Tryd.prog.globalNamed "compositor/compositorref05.bold" = some 3 := by kernel_rfl
theorem tTab1 : (Tryd.prog.globals[3]?).map (·.type) = some 120 := by kernel_rfl
theorem aTab1 : Tryd.prog.cellsOf 120 = 95 := by kernel_rfl
theorem eTab1 : Tryd.prog.cellsOf 3 = 1 := by kernel_rfl
theorem dTab1 : (Rows.laid_compositor_compositorref05_bold : DataW Unit) = Lib.tabData .i64 boldTab := by kernel_rfl
theorem table1 {W : World} (h : laidMet Tryd.prog Rows.setPlacesUptoRow.laid W) : Lib.TabIs Tryd.prog W "compositor/compositorref05.bold" .i64 boldTab := by
  have h3 : laidMet Tryd.prog (("compositor/compositorref05.bold", Lib.tabData .i64 boldTab) :: (Rows.setPlacesUptoRow.laid.drop 2)) W := by
    rw [← dTab1]
    exact laidMet.tail h
  exact Lib.tabIs_of_head gTab1 tTab1 Tryd.underlying120 Tryd.underlying3 eTab1 aTab1 h3
theorem gTab2 : Tryd.prog.globalNamed "compositor/compositorref05.latin" = some 2 := by kernel_rfl
theorem tTab2 : (Tryd.prog.globals[2]?).map (·.type) = some 119 := by kernel_rfl
theorem aTab2 : Tryd.prog.cellsOf 119 = 96 := by kernel_rfl
theorem eTab2 : Tryd.prog.cellsOf 3 = 1 := by kernel_rfl
theorem dTab2 : (Rows.laid_compositor_compositorref05_latin : DataW Unit) = Lib.tabData .i64 latinTab := by kernel_rfl
theorem table2 {W : World} (h : laidMet Tryd.prog Rows.setPlacesUptoRow.laid W) : Lib.TabIs Tryd.prog W "compositor/compositorref05.latin" .i64 latinTab := by
  have h3 : laidMet Tryd.prog (("compositor/compositorref05.latin", Lib.tabData .i64 latinTab) :: (Rows.setPlacesUptoRow.laid.drop 3)) W := by
    rw [← dTab2]
    exact laidMet.tail (laidMet.tail h)
  exact Lib.tabIs_of_head gTab2 tTab2 Tryd.underlying119 Tryd.underlying3 eTab2 aTab2 h3

set_option maxHeartbeats 800000 in
set_option maxRecDepth 100000 in
theorem contract (H : Type) (enc : TypeId × Value → H) (W : World) (base : Nat) (args : Array Value) (ds gs : List (DataW H)) (before : List MemPlace)
    (hval : ∀ (j : Nat) t v, Tryd.f4.params[j]? = some t → args[j]? = some v → Value.okWide Tryd.prog W .any base t v)
    (hW : DataW.Whole enc Tryd.prog Tryd.f4.params.toList Rows.setPlacesSpec.vars false W args.toList ds gs before) (hL0 : laidMetH Tryd.prog Rows.setPlacesUptoRow.laid W) (hk : Rows.uptoSmall H (ds ++ gs) = true) :
    Calls Tryd.prog 4 args W fun e W' => ∃ v, e = .returned v ∧ Rows.setPlacesSpec.post enc Tryd.prog Tryd.f4 false true false false W args v W' := by
  have hL : laidMet Tryd.prog Rows.setPlacesUptoRow.laid W := by
    rw [MakeChecks.laidMetH_plain _ _ _ (by kernel_rfl)] at hL0
    exact hL0
  have hW' := hW
  obtain ⟨p, q, hA0, hV, rfl, _, _⟩ := hW
  have hA : DataW.TrodAll enc Tryd.prog W 0 (fun _ => true) true Tryd.f4.params.toList args.toList ds p := hA0
  rw [Tryd.params4] at hA hval
  obtain ⟨v0, vs0, d0, ds0, p0, q0, hargs, rfl, rfl, h0, t0⟩ := trodAll_cons hA
  obtain ⟨v1, vs1, d1, ds1, p1, q1, rfl, rfl, rfl, h1, t1⟩ := trodAll_cons t0
  obtain ⟨v2, vs2, d2, ds2, p2, q2, rfl, rfl, rfl, h2, t2⟩ := trodAll_cons t1
  obtain ⟨rfl, rfl, rfl⟩ := trodAll_nil t2
  obtain rfl : args = #[v0, v1, v2] := by cases args; simp_all
  obtain ⟨rfl, rfl⟩ := trodVars_none hV
  obtain ⟨a0, n0, c0, rfl⟩ := okWide_slice Tryd.underlying22 (hval 0 22 v0 rfl rfl)
  obtain ⟨ls0, hs0, hb0⟩ := open_spansT h0
  have hw0 : wL ls0 ≤ 100000000 := by
    have h := of_decide_eq_true hk
    simp only [List.cons_append, List.nil_append, Rows.uptoBulkAll] at h
    omega
  obtain ⟨y1, rfl, _, _, wf1⟩ := open_int Tryd.underlying5 (hval 1 5 v1 rfl rfl) h1
  have s1 : 0 ≤ y1 ∧ y1 ≤ 255 := by simpa [Lit.wf, IntKind.min, IntKind.max, IntKind.signed, IntKind.bits] using wf1
  obtain ⟨x1, rfl⟩ : ∃ x : Nat, y1 = (x : Int) := ⟨y1.toNat, by omega⟩
  have r1 : x1 < 256 := by omega
  obtain ⟨zs2, zl2, rfl, _, _, zw2⟩ := open_int_array Tryd.underlying33 Tryd.underlying32 cellsE2 cells2 (hval 2 33 v2 rfl rfl) h2
  obtain ⟨x2_0, x2_1, rfl⟩ := list_of2 zs2 zl2
  have wf2_0 := zw2 x2_0 (by simp)
  have r2_0 : 0 ≤ x2_0 ∧ x2_0 ≤ 65535 := by simpa [Lit.wf, IntKind.min, IntKind.max, IntKind.signed, IntKind.bits] using wf2_0
  have wf2_1 := zw2 x2_1 (by simp)
  have r2_1 : 0 ≤ x2_1 ∧ x2_1 ≤ 65535 := by simpa [Lit.wf, IntKind.min, IntKind.max, IntKind.signed, IntKind.bits] using wf2_1
  clear hA0
  rw [List.append_nil (p0 ++ (p1 ++ (p2 ++ ([] : List MemPlace))))] at hW'
  have arg0 : ∀ (W' : World), Below W.heap.size W W' → DataW.Trod enc Tryd.prog W' 0 (fun b => decide (b < W.heap.size)) true 22 _ _ _ :=
    fun W' hn => Below.trod laidOut (by kernel_rfl) (of_decide_eq_true (by kernel_rfl)) h0 hn (fun x hx => by simpa using hW'.lt x (by simp [hx]))
  have arg1 : ∀ (W' : World), Below W.heap.size W W' → DataW.Trod enc Tryd.prog W' 0 (fun b => decide (b < W.heap.size)) true 5 _ _ _ :=
    fun W' hn => Below.trod laidOut (by kernel_rfl) (of_decide_eq_true (by kernel_rfl)) h1 hn (fun x hx => by simpa using hW'.lt x (by simp [hx]))
  have arg2 : ∀ (W' : World), Below W.heap.size W W' → DataW.Trod enc Tryd.prog W' 0 (fun b => decide (b < W.heap.size)) true 33 _ _ _ :=
    fun W' hn => Below.trod laidOut (by kernel_rfl) (of_decide_eq_true (by kernel_rfl)) h2 hn (fun x hx => by simpa using hW'.lt x (by simp [hx]))
  have tab0 := table0 hL
  have tab1 := table1 hL
  have tab2 := table2 hL
  refine (splaces_all ls0 _ x1 x2_0 x2_1 r1 r2_0 r2_1 W hs0 hw0 ⟨tab0, tab1, tab2⟩).mono fun e W' ⟨he, hg⟩ => ?_
  subst he
  exact ⟨_, rfl, _, _, _, [], _, [], hW', trodAll_mk1 (shut_bool Tryd.underlying4 _), (trodAll_cons_mk (arg0 _ hg) (trodAll_cons_mk (arg1 _ hg) (trodAll_cons_mk (arg2 _ hg) trodAll_mk0))), rfl, Below.frame hg _, fun h => by cases h⟩

/-- A world for the witness: the listed tables laid. -/
noncomputable def laidWorld (os : Os) : World := World.laidAll Tryd.prog os Rows.setPlacesUptoRow.laid
theorem laid_met (os : Os) : laidMetH Tryd.prog Rows.setPlacesUptoRow.laid ((laidWorld os).forCall (fun _ _ => 0) ⟨#[], #[.slice none 0 0, .int .u8 0, .agg #[.int .u16 0, .int .u16 0]], []⟩).memory := by
  rw [MakeChecks.laidMetH_plain _ _ _ (by kernel_rfl)]
  exact laidMet_laidAll _ (by kernel_rfl) (by kernel_rfl)
theorem reads (os : Os) {H : Type} (enc : TypeId × Value → H) : ∃ places, DataW.whole enc Tryd.prog ((laidWorld os).forCall (fun _ _ => 0) ⟨#[], #[.slice none 0 0, .int .u8 0, .agg #[.int .u16 0, .int .u16 0]], []⟩).memory Tryd.f4.params.toList Rows.setPlacesSpec.vars false (#[.slice none 0 0, .int .u8 0, .agg #[.int .u16 0, .int .u16 0]] : Array Value).toList 8 = some ([.nil, .lit (.int .u8 0), .agg [.lit (.int .u16 0), .lit (.int .u16 0)]], [], places) :=
  ⟨[], by kernel_rfl⟩

set_option maxRecDepth 100000 in
theorem lifted (os : Os) (started : os.Started) (H : Type) (enc : TypeId × Value → H) (F : Stop.Interp) :
    ReturnsInHanded {} Tryd.checked os 4 .any ((Rows.OpenSpec.upto Rows.setPlacesSpec).preRow enc Tryd.prog Tryd.f4 Rows.setPlacesUptoRow.domain false Rows.setPlacesUptoRow.laid) (((Rows.OpenSpec.upto Rows.setPlacesSpec).at F).post enc Tryd.prog Tryd.f4 false true false false) := by
  obtain ⟨places, hx⟩ := reads os enc
  refine returnsInHanded_of_row (C := Tryd.checked) (s := Rows.OpenSpec.upto Rows.setPlacesSpec) own started (by kernel_rfl) Tryd.func4
    (witness_row_at (enc := enc) (C := Tryd.checked) false (laidWorld os) #[.slice none 0 0, .int .u8 0, .agg #[.int .u16 0, .int .u16 0]] (World.laidAll_os _ _ _) (by kernel_rfl) (by kernel_rfl) (by kernel_rfl)
      (OpenSpec.preRow_of_cond 8 hx (by kernel_rfl) (fun k hk => by cases hk; kernel_rfl) (by kernel_rfl) (laid_met os))) ?_
  intro W base args ds gs before hval hW _ hcond _ hL _ _
  exact contract H enc W base args ds gs before hval hW hL (hcond _ rfl)

theorem said : Rows.SetPlacesUptoSaid :=
  OpenClaim.holds_of_cond 4 Tryd.f4 rfl rfl rfl rfl rfl rfl rfl ⟨rfl, rfl, rfl, rfl, rfl⟩ rfl rfl rfl rfl rfl (by kernel_rfl) Tryd.func4 (by kernel_rfl)
    (of_decide_eq_true (by kernel_rfl)) (by unfold Func.isWrapper; first | (rw [if_pos (by decide +kernel)]; kernel_rfl) | (rw [if_neg (by decide +kernel)]; exact ⟨rfl, rfl⟩))
    (fun os started H enc _ F => by rw [OpenClaim.pre_eq_preRow]; exact lifted os started H enc F)

theorem plain (f : FuncId) (fn : Func) (hf : Tryd.pinned.checked.prog.funcNamed Rows.setPlacesUptoRow.func = some f) (hfn : Tryd.pinned.checked.prog.funcs[f]? = some fn) :
    false = Tryd.pinned.checked.prog.looks [] ∧ ∀ (j : Nat) t, fn.params[j]? = some t → Tryd.pinned.checked.prog.wantsStandIn t = false := by
  obtain rfl : f = 4 := Option.some.inj ((show Tryd.prog.funcNamed Rows.setPlacesUptoRow.func = some 4 by kernel_rfl).symm.trans hf) |>.symm
  obtain rfl : fn = Tryd.f4 := (Option.some.inj (Tryd.func4.symm.trans hfn)).symm
  refine ⟨by kernel_rfl, fun j t ht => ?_⟩
  rw [Tryd.params4] at ht
  have hm : t ∈ [22, 5, 33] := by simpa using Array.mem_of_getElem? ht
  have hall : ([22, 5, 33].all fun u => !Tryd.prog.wantsStandIn u) = true := by kernel_rfl
  exact (show Tryd.prog.wantsStandIn t = false by simpa using List.all_eq_true.1 hall t hm)

theorem card : Rows.SetPlacesUptoCardSaid :=
  Claim7.holds_tied_plain_at .later [] _ _ _ _ said (fun _ h => by cases h) (by kernel_rfl) (fun _ h => by cases h) setPlacesUpto_row_tie rfl ⟨rfl, rfl⟩ (by kernel_rfl) rfl plain (by kernel_rfl)
end Go.Proofs.YtfnkokfkhjdkfaaDoor.lSetPlaces
