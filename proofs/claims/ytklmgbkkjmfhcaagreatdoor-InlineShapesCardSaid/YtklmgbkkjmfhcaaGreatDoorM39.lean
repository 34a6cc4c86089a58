/-
  Texts of the proof, one behind the other: IqJ, IqK, IqL, IqM.
-/
import Derived.Test.YtklmgbkkjmfhcaaGreatDoorM38
import Derived.Test.YtklmgbkkjmfhcaaGreatDoorM34
import Derived.RangeFuncNested
import Derived.RangeFuncBound
import Derived.RangeFuncCalls
import Derived.RangeFuncLeaves
import Derived.Shelf.Abstract
import Derived.OwnWalkIn
import Derived.TacticsInMore
import Derived.LoopNIn
import Derived.LoopIn
import Derived.Maps.OwnIn
import Derived.Test.YtklmgbkkjmfhcaaGreatDoorM23
/-
  slices.Backward over definitions: whoever ranges over it is told each with its place, the last one first.
-/
namespace Go.Proofs.YtklmgbkkjmfhcaaGreatDoor
open Go.RowKit Go.Lib Go.Shelf Go.Maps

attribute [local go_sem] Oper.semAt_some

/-- The places, from behind; k of them. -/
def dnL (N k : Nat) : List Nat := (List.range k).map fun j => N - 1 - j
theorem dnL_succ (N k : Nat) : dnL N (k + 1) = dnL N k ++ [N - 1 - k] := by simp [dnL, List.range_succ]
theorem dnL_len (N k : Nat) : (dnL N k).length = k := by simp [dnL]
/-- What a round that goes on keeps: what lay below n, and block b. -/
def KpB (n b : Nat) (W W' : World) : Prop := ∀ i, i < n ∨ i = b → W'.heap[i]? = W.heap[i]?
theorem KpB.refl (n b : Nat) (W : World) : KpB n b W W := fun _ _ => rfl
theorem KpB.trans {n b : Nat} {A B C : World} (h : KpB n b A B) (k : KpB n b B C) : KpB n b A C := fun i hi => (k i hi).trans (h i hi)
def encR (rs : List Rf) (x : Fin rs.length) : Array Value := #[.int .i64 (x.1 : Nat), refV rs[x.1]]
set_option maxRecDepth 100000 in
set_option maxHeartbeats 4000000 in
theorem back1_in (n : Nat) (hn : 1 ≤ n) (l Bs n₀ : Nat) (rs : List Rf) (v : Value) (hl : rs.length ≤ 100000) (J Jx : List (Fin rs.length) → World → Prop)
    (hY : ∀ pre x W, J pre W → pre.length < rs.length → YieldAt Fence.wide (n - 1) Tryz.prog l (encR rs x) W fun e W' =>
      (e = .returned (.bool true) ∧ J (pre ++ [x]) W' ∧ KpB n₀ Bs W W') ∨ (e = .returned (.bool false) ∧ Jx (pre ++ [x]) W'))
    (W : World) (hBs : W.cell? ⟨Bs, 0, none⟩ = some v) (hR : RefV W v rs) (hg : ∀ g o m c, v = .slice (some ⟨g, o, none⟩) m c → 0 < rs.length → g < n₀) (h0 : J [] W) :
    CallsIn Fence.wide n Tryz.prog 156 #[.func (.yield l) #[] #[], .pointer (some ⟨Bs, 0, none⟩)] W fun e W' => (∃ v, e = .returned v) ∧
      ((∃ ys : List (Fin rs.length), ys.map Fin.val = dnL rs.length rs.length ∧ J ys W') ∨ (∃ pre, True ∧ Jx pre W')) := by
  obtain ⟨A, c, rfl, h1, h2, h4⟩ := hR
  unfold maxLen at h2
  have HG := Lib.hid hg
  have H4 := Lib.hid h4
  have HY := Lib.hid hY
  have H0 := Lib.hid h0
  obtain ⟨N, hN⟩ : ∃ N, rs.length = N := ⟨_, rfl⟩
  have HN := Lib.hid hN
  rw [hN] at hBs h1 hl
  have HBs := Lib.hid hBs
  have e1 : IntKind.i64.wrap ((N : Int) - 1) = (N : Int) - 1 := IntWalk.i64_in _ (by omega)
  clear hY h0 hN hg h4
  refine callsIn_of_wp Tryz.func156 rfl trivial ?_ rfl
  simp only [Tryz.ntmps156, List.size_toArray, List.length_cons, List.length_nil, Nat.reduceAdd, Nat.reduceSub, Array.replicate_succ, Array.replicate_zero, List.push_toArray, List.append_toArray, List.nil_append, List.cons_append]
  gi_wp2_with fail
  gi_loopw [3] (fun i wr => ∃ (k : Nat) (pre : List (Fin rs.length)), k ≤ N ∧ i = .int .i64 ((N : Int) - 1 - (k : Int)) ∧ Hid (pre.map Fin.val = dnL rs.length k) ∧ Hid (J pre wr) ∧ Hid (KpB n₀ Bs W wr)) (fun i _ => (RowKit.intOf i + 1).toNat)
  case atStart => exact ⟨0, [], Nat.zero_le _, by simp, Lib.hid rfl, H0, Lib.hid (KpB.refl _ _ _)⟩
  case round =>
    obtain ⟨k, pre, hk, rfl, HP, HJ, HK⟩ := hrel
    by_cases h : k < N
    · obtain ⟨j, hj⟩ : ∃ j, N = j + 1 + k := ⟨N - 1 - k, by omega⟩
      have hjr : j < rs.length := by rw [HN.out]; omega
      have HPL : Hid (pre.length < rs.length) := Lib.hid (by
        have := congrArg List.length HP.out
        rw [List.length_map, dnL_len] at this
        have := HN.out; omega)
      obtain ⟨fn, tmps, assign, body, hy, hR⟩ := HY.out pre ⟨j, hjr⟩ wr HJ.out HPL.out
      obtain ⟨g, o, rfl, hc⟩ := H4.out (by rw [HN.out]; omega)
      have hgb : g < n₀ := HG.out g o _ _ rfl (by rw [HN.out]; omega)
      have r := range_same (hc j hjr) (HK.out g (.inl hgb))
      have cB : wr.cell? ⟨Bs, 0, none⟩ = some (.slice (some ⟨g, o, none⟩) N c) := (World.cell?_of_block (HK.out Bs (.inr rfl))).trans (by rw [HBs.out])
      have HP2 : Hid ((pre ++ [(⟨j, hjr⟩ : Fin rs.length)]).map Fin.val = dnL rs.length (k + 1)) := Lib.hid (by
        rw [List.map_append, HP.out, dnL_succ, show rs.length - 1 - k = j by have := HN.out; omega]
        rfl)
      have c0 : wr.cell? ⟨g, o + j * 3, none⟩ = some (.string ⟨rs[j].1.toArray⟩) := r 0 _ rfl
      have c1 : wr.cell? ⟨g, o + j * 3 + 1, none⟩ = some (.string ⟨rs[j].2.1.toArray⟩) := r 1 _ rfl
      have c2 : wr.cell? ⟨g, o + j * 3 + 2, none⟩ = some (.string ⟨rs[j].2.2.toArray⟩) := r 2 _ rfl
      unfold encR refV at hy
      dsimp only at hy
      generalize rs[j] = x at *
      obtain ⟨x0, x1, x2⟩ := x
      dsimp only at hy c0 c1 c2
      have e2 : (N : Int) - 1 - (k : Int) = (j : Int) := by omega
      rw [e2]
      have i0 : (0 : Int) ≤ (j : Int) := by omega
      have i1 : (j : Int) < (N : Int) := by omega
      have e3 : (j : Int) - 1 = (N : Int) - 1 - ((k + 1 : Nat) : Int) := by omega
      have HE3 := Lib.hid e3
      clear e3 r hc hj e2
      gi_wp2_with fail
      refine hR.mono ?_
      rintro e W3 (⟨rfl, hJ3, hk3⟩ | ⟨rfl, hJx3⟩)
      · gi_wp2_with fail
        go_roundw
        case rel => exact ⟨k + 1, _, by omega, by rw [← HE3.out], HP2, Lib.hid hJ3, Lib.hid (HK.out.trans hk3)⟩
        case measure => simp [RowKit.intOf]
      · gi_wp2_with fail
        refine bodyPost_ret (results_none rfl _ _ _) rfl ?_
        exact ⟨⟨_, rfl⟩, .inr ⟨_, trivial, hJx3⟩⟩
    · have e2 : (N : Int) - 1 - (k : Int) = -1 := by omega
      rw [e2]
      have HE : Hid (pre.map Fin.val = dnL rs.length rs.length) := Lib.hid (by rw [HP.out]; congr 1; have := HN.out; omega)
      clear e2
      gi_wp2_with fail
      go_end0
      exact ⟨⟨_, rfl⟩, .inl ⟨_, HE.out, HJ.out⟩⟩
end Go.Proofs.YtklmgbkkjmfhcaaGreatDoor

/-
  Contract of placesOf.
-/
namespace Go.Proofs.YtklmgbkkjmfhcaaGreatDoor
open Go.RowKit Go.Lib Go.Shelf Go.Maps

attribute [local go_sem] Oper.semAt_some

/-- What the map is when these places have come. -/
def plD (rs : List Rf) (pre : List (Fin rs.length)) : DataW Unit := pre.foldl (fun D x => D.put (.string rs[x.1].1) (i64D (x.1 : Nat))) (.map [])
theorem plD_snoc (rs : List Rf) (pre : List (Fin rs.length)) (x : Fin rs.length) : plD rs (pre ++ [x]) = (plD rs pre).put (.string rs[x.1].1) (i64D (x.1 : Nat)) := by simp [plD]
theorem plD_rel (rs : List Rf) : ∀ (k : Nat) (pre : List (Fin rs.length)), k ≤ rs.length → pre.map Fin.val = dnL rs.length k → PlR rs (rs.length - k) (plD rs pre)
  | 0, pre, _, h => by
    have : pre = [] := by
      have := congrArg List.length h
      rw [List.length_map, dnL_len] at this
      exact List.length_eq_zero_iff.1 this
    subst this
    rw [Nat.sub_zero]
    exact PlR.none rs
  | k + 1, pre, hk, h => by
    rcases List.eq_nil_or_concat pre with e | ⟨p0, x, e⟩
    · subst e
      have := congrArg List.length h
      rw [dnL_len] at this
      simp at this
    · rw [List.concat_eq_append] at e
      subst e
      rw [dnL_succ, List.map_append] at h
      have h2 := List.append_inj' h rfl
      have hx : x.1 = rs.length - 1 - k := by have := h2.2; simpa using this
      have ih := plD_rel rs k p0 (by omega) h2.1
      rw [plD_snoc]
      have hx2 : x.1 = rs.length - (k + 1) := by omega
      have hs : rs.length - k = x.1 + 1 := by omega
      rw [hs] at ih
      rw [← hx2]
      exact ih.step x.2
/-- The box that holds the iterated slice. -/
theorem back_any (v : Value) (w : World) (h : ∃ A n c, v = .slice A n c) :
    Calls Tryz.prog 132 #[v] w fun e w' => e = .returned (.func (.func 156) #[] #[.pointer (some ⟨w.heap.size, 0, none⟩)]) ∧ w' = w.alloc (.cells #[v] 22) := by
  obtain ⟨A, n, c, rfl⟩ := h
  go_enter Tryz.func132, Tryz.ntmps132
  go_wp2_with fail
  go_ret
  exact ⟨rfl, rfl⟩
set_option maxRecDepth 100000 in
set_option maxHeartbeats 8000000 in
theorem placesOf_in (n : Nat) (hn : 6 ≤ n) (rs : List Rf) (v : Value) (w : World) (hR : RefV w v rs) (hl : rs.length ≤ 100000) (hz : ∀ r ∈ rs, r.1.length ≤ maxLen) :
    CallsIn Fence.wide n Tryz.prog 102 #[v] w fun e w' => e = .returned (.map (some w.heap.size)) ∧ w.heap.size < w'.heap.size ∧ Keeps w w' ∧ ∃ D, w'.ownsMap Tryz.prog 9 (plainElem Tryz.prog 3) w.heap.size rs.length D ∧ PlcF rs D := by
  have h1 : 1 ≤ n := by omega
  obtain ⟨A, c, rfl, hc1, hc2, h4⟩ := hR
  have hglt : ∀ g o m c', Value.slice A rs.length c = .slice (some ⟨g, o, none⟩) m c' → 0 < rs.length → g < w.heap.size := refV_lt ⟨A, c, rfl, hc1, hc2, h4⟩
  have HR := Lib.hid (show RefV w (.slice A rs.length c) rs from ⟨A, c, rfl, hc1, hc2, h4⟩)
  have hmk : ∀ (k : Int) (w : World), (Instr.makeMap 35 (some (.int .i64 k))).run Tryz.prog w = .ok (.map (some w.heap.size)) (w.alloc (.map #[] 0)) := fun k w => by
    simp [Instr.makeMap, run_underlying Tryz.underlying35, asInt, newObj]
    rfl
  have BK := Lib.hid (fun w => back_any (.slice A rs.length c) w ⟨_, _, _, rfl⟩)
  clear h4 hc1 hc2
  refine callsIn_of_wp_marks Tryz.func102 rfl trivial ?_ rfl
  simp only [Tryz.ntmps102, List.size_toArray, List.length_cons, List.length_nil, Nat.reduceAdd, Nat.reduceSub, Array.replicate_succ, Array.replicate_zero, List.push_toArray, List.append_toArray, List.nil_append, List.cons_append]
  gi_wp2_with fail
  refine ⟨trivial, (callsIn_wide.2 (BK.out _)).mono ?_⟩
  rintro e w3 ⟨rfl, rfl⟩
  have bS := (Boxed.new (w.alloc (.map #[] 0)) 35 (.map (some w.heap.size))).alloc (.cells #[.slice A rs.length c] 22)
  have bB := Boxed.new ((w.alloc (.map #[] 0)).alloc (.cells #[.map (some w.heap.size)] 35)) 22 (.slice A rs.length c)
  have bM : (((w.alloc (.map #[] 0)).alloc (.cells #[.map (some w.heap.size)] 35)).alloc (.cells #[.slice A rs.length c] 22)).ownsMap Tryz.prog 9 (plainElem (H := Unit) Tryz.prog 3) w.heap.size 0 (.map []) := ((World.ownsMap_made w _ _ _).alloc _).alloc _
  simp only [World.size_alloc] at bS bB
  have hB0 : Keeps w (((w.alloc (.map #[] 0)).alloc (.cells #[.map (some w.heap.size)] 35)).alloc (.cells #[.slice A rs.length c] 22)) := (((Keeps.refl w).alloc _).alloc _).alloc _
  have hsz : (((w.alloc (.map #[] 0)).alloc (.cells #[.map (some w.heap.size)] 35)).alloc (.cells #[.slice A rs.length c] 22)).heap.size = w.heap.size + 3 := by simp
  simp only [World.size_alloc]
  obtain ⟨W0, hW0⟩ : ∃ W0, ((w.alloc (.map #[] 0)).alloc (.cells #[.map (some w.heap.size)] 35)).alloc (.cells #[.slice A rs.length c] 22) = W0 := ⟨_, rfl⟩
  rw [hW0] at bS bB bM hB0 hsz ⊢
  clear hW0
  gi_wp2_with fail
  refine wpIn_rangeFunc_ownH (α := Fin rs.length) rfl h1 (gf := 156) (lb := #[.pointer (some ⟨w.heap.size + 1 + 1, 0, none⟩)]) rfl trivial (enters_of Tryz.func156 (by kernel_rfl) rfl)
    (encs := encR rs) (Kp := KpB w.heap.size (w.heap.size + 1 + 1)) (S := fun ys => ys.map Fin.val = dnL rs.length rs.length) (Sp := fun _ => True) (N := rs.length) (w0 := W0)
    (fun l J Jx W hW _ _ hY h0 => back1_in (n - 1) (by omega) l (w.heap.size + 1 + 1) w.heap.size rs (.slice A rs.length c) hl J Jx hY W ((Below.cell (p := ⟨w.heap.size + 1 + 1, 0, none⟩) hW (by show w.heap.size + 1 + 1 < _; omega)).trans bB.cell) (HR.out.keep (hB0.trans hW)) hglt h0)
    (fun h k => h.trans k)
    (fun W l o o' hl' ho _ _ i hi => World.putObj_heap_other (by omega))
    (Below.refl _ _) (fun _ => rfl)
    (fun pre W => ((Boxed W (w.heap.size + 1) 35 (.map (some w.heap.size)) ∧ W.ownsMap Tryz.prog 9 (plainElem Tryz.prog 3) w.heap.size pre.length (plD rs pre)) ∧ Below w.heap.size w W) ∧ w.heap.size + 3 ≤ W.heap.size)
    (fun _ _ _ => False)
    (OwnFrom.and (OwnFrom.and (OwnFrom.and (Own.from (boxed_own _ _ (fun _ => _)) _) (fun s X Y row hs hg hr => hs.kept hg (fun e => by have := (hr _ e.symm).1; omega))) (ownFrom_below (Nat.le_refl _) (by omega))) (fun s X Y row hs hg hr => Nat.le_trans hs hg.size))
    (fun _ _ _ _ _ hs _ _ => hs)
    ⟨⟨⟨bS, bM⟩, hB0⟩, by omega⟩
    (fun x a' W => ∃ Bx, Blk W Bx 29 #[.string ⟨rs[x.1].1.toArray⟩, .string ⟨rs[x.1].2.1.toArray⟩, .string ⟨rs[x.1].2.2.toArray⟩] ∧ a' = { tmps := #[.slice A rs.length c, undef, .map none, .pointer (some ⟨w.heap.size + 1, 0, none⟩), .int .i64 (x.1 : Nat), .pointer (some ⟨Bx, 0, none⟩), .slice A rs.length c, .int .i64 rs.length, .map (some w.heap.size), .slice A rs.length c, .func (.func 156) #[] #[.pointer (some ⟨w.heap.size + 1 + 1, 0, none⟩)], .int .i64 (x.1 : Nat), refV rs[x.1], undef, undef, undef, undef, undef], defers := [] })
    (fun x a' _ X Y row hs hg hr => by
      obtain ⟨Bx, h1, h2⟩ := hs
      refine ⟨Bx, ?_, h2⟩
      unfold Blk
      rw [hg.block Bx h1.lt (fun e => by
        obtain ⟨_, o, ho, hc⟩ := hr Bx e.symm
        rw [show X.heap[Bx]? = _ from h1] at ho
        cases ho
        cases hc)]
      exact h1)
    ?assign ?body ?done ?stop
  case assign =>
    rintro l pre x W K hI hK
    have HK := Lib.hid hK
    have HI := Lib.hid hI
    have HZ : Hid (∀ o : Obj, KpB w.heap.size (w.heap.size + 1 + 1) W (W.alloc o)) := Lib.hid fun o i hi => Below.heap_alloc W o i (by have := hI.2; omega)
    have HB : Hid (∀ cs, Blk (W.alloc (.cells cs 29)) W.heap.size 29 cs) := Lib.hid fun cs => Blk.new W _ cs
    have HJ : Hid (∀ o : Obj, ((Boxed (W.alloc o) (w.heap.size + 1) 35 (.map (some w.heap.size)) ∧ (W.alloc o).ownsMap Tryz.prog 9 (plainElem Tryz.prog 3) w.heap.size pre.length (plD rs pre)) ∧ Below w.heap.size w (W.alloc o)) ∧ w.heap.size + 3 ≤ (W.alloc o).heap.size) := Lib.hid fun o => ⟨⟨⟨hI.1.1.1.alloc _, hI.1.1.2.alloc _⟩, hI.1.2.alloc hI.1.2.size _⟩, by have := hI.2; rw [World.size_alloc]; omega⟩
    clear hK hI
    unfold encR refV at *
    dsimp only at *
    generalize rs[x.1] = r at *
    obtain ⟨r0, r1, r2⟩ := r
    dsimp only at *
    gi_wp2_with fail
    exact HK.out _ _ ((KeepsOthers.alloc _ _).from _) (HZ.out _) (HJ.out _) ⟨W.heap.size, HB.out _, rfl⟩
  case body =>
    rintro l pre x a' W hlw ⟨rec, hrec⟩ ⟨⟨⟨bS1, bM1⟩, hB1⟩, hsz1⟩ ⟨Bx, bX, rfl⟩ hlt
    have cS := bS1.cell
    have cX := bX.cell 0 (v := .string ⟨rs[x.1].1.toArray⟩) rfl
    have hkey : keyOf Tryz.prog 9 (.string ⟨rs[x.1].1.toArray⟩) = some (.string rs[x.1].1) := Go.WideMaps.keyOf_string_mk (s := ⟨rs[x.1].1.toArray⟩) Tryz.underlying9 (by show rs[x.1].1.toArray.size ≤ _; have := hz _ (List.getElem_mem x.2); simpa using this)
    have hval : plainElem (H := Unit) Tryz.prog 3 (.int .i64 (x.1 : Nat)) = some (.lit (.int .i64 (x.1 : Nat)), []) := plainElem_int Tryz.underlying3 (wf_nat (by have := x.2; omega))
    have hmx : pre.length < maxLen := by unfold maxLen; omega
    have hmB : w.heap.size < W0.heap.size := by omega
    gi_wp2_with (first | (gi_at_mapUpdate; refine wpListIn_mapUpdate_own _ rfl _ _ _ 35 rfl 9 3 keyStr Tryz.underlying35 _ w.heap.size pre.length _ rfl bM1 hmx _ _ _ rfl rfl hkey _ [] hval ?_; intro w1 hown1 hgrow1))
    refine ⟨KeepsFrom.of_grownBy hgrow1 (fun j e => by cases e; omega), fun i hi => hgrow1.block i (by omega) (fun e => by cases e; omega), ⟨⟨bS1.kept hgrow1 (fun e => by have := Option.some.inj e; omega), ?_⟩, Below.grown hB1 hgrow1 hB1.size (fun j e => by cases e; exact Nat.le_refl _)⟩, Nat.le_trans hsz1 hgrow1.size⟩
    rw [List.length_append, List.length_singleton, plD_snoc]
    exact hown1
  case done =>
    rintro D ys W hD hys ⟨⟨⟨bS1, bM1⟩, hB1⟩, hsz1⟩ hK
    have cS := bS1.cell
    have hlen : ys.length = rs.length := by
      have := congrArg List.length hys
      rwa [List.length_map, dnL_len] at this
    have hP := (plD_rel rs rs.length ys (Nat.le_refl _) hys)
    rw [Nat.sub_self] at hP
    rw [hlen] at bM1
    have HP := Lib.hid hP.all
    have HM := Lib.hid bM1
    have HB := Lib.hid hB1
    clear hP
    gi_wp2_with fail
    refine ⟨by simp, .inl ⟨_, _, rfl, run_takeDeferred hK, ?_⟩⟩
    have hDl := (Array.getElem?_eq_some_iff.1 hK).1
    exact ⟨_, results_tmp rfl _ _ _, rfl, by simp; omega, HB.out.trans (belowK_b (w := w) (Nat.le_refl _) W D _ _ (by omega) hK rfl rfl), _, HM.out.kept (grownBy_putObj' W D _) (fun e => by cases e; omega), HP.out⟩
  case stop =>
    rintro D c' pre W _ _ h _
    exact h.elim
theorem placesOf_any (rs : List Rf) (v : Value) (w : World) (hR : RefV w v rs) (hl : rs.length ≤ 100000) (hz : ∀ r ∈ rs, r.1.length ≤ maxLen) :
    Calls Tryz.prog 102 #[v] w fun e w' => e = .returned (.map (some w.heap.size)) ∧ w.heap.size < w'.heap.size ∧ Keeps w w' ∧ ∃ D, w'.ownsMap Tryz.prog 9 (plainElem Tryz.prog 3) w.heap.size rs.length D ∧ PlcF rs D :=
  callsIn_wide.1 (placesOf_in 6 (Nat.le_refl _) rs v w hR hl hz)
end Go.Proofs.YtklmgbkkjmfhcaaGreatDoor

/-
  Contract of find, of inline's parser.
-/
namespace Go.Proofs.YtklmgbkkjmfhcaaGreatDoor
open Go.RowKit Go.Lib Go.Maps

section
variable {W : World} {B : Nat} {O : Nat → Option Nat} {s : ByteArray} {rs : List Rf} {p : Ps} {lv bv rv : Value} {fi : Nat} {pm tm em : Value} {L : List (Pc × Value)}
/-- A result's own block, which nobody reads behind the call: it is held for the parser's. -/
theorem MemI.mark (h : MemI W B O s rs p lv bv rv fi pm tm em L) (o : Obj) : MemI (W.alloc o) B (upd O W.heap.size (some 9)) s rs p lv bv rv fi pm tm em L ∧ Chg W O (W.alloc o) (upd O W.heap.size (some 9)) := by
  have c : Chg W O (W.alloc o) (upd O W.heap.size (some 9)) := ⟨rfl, rfl, rfl, by simp, fun b hb => upd_ne _ _ (by omega), fun b hb _ => Below.heap_alloc W o b hb⟩
  have k := (Keeps.refl W).alloc o
  refine ⟨h.turn c (fun b hb => ?_) (fun b hb _ => Below.heap_alloc W o b hb) (h.box.alloc o) (h.plc.chg c h.lt fun b hb _ => Below.heap_alloc W o b hb) (h.tic.chg c h.lt fun b hb _ => Below.heap_alloc W o b hb) (h.ens.chg c h.lt fun b hb _ => Below.heap_alloc W o b hb) h.fin, c⟩
  by_cases e : b = W.heap.size
  · rw [e]; simp
  · rw [upd_ne _ _ e] at hb
    have := h.lt b hb
    simp; omega
theorem MemI.scratch {R : Nat} (h : MemI W B O s rs p lv bv rv fi pm tm em L) (hR : O R = some 9) (i : Nat) (v : Value) : MemI (W.setCell ⟨R, i, none⟩ v) B O s rs p lv bv rv fi pm tm em L ∧ Chg W O (W.setCell ⟨R, i, none⟩ v) O := by
  have same : ∀ b, O b ≠ some 9 → (W.setCell ⟨R, i, none⟩ v).heap[b]? = W.heap[b]? := fun b hb => heap_setCell_other _ ⟨R, i, none⟩ b _ (fun e => hb (by rw [e]; exact hR))
  have c : Chg W O (W.setCell ⟨R, i, none⟩ v) O := ⟨rfl, rfl, rfl, by rw [setCell_size]; exact Nat.le_refl _, fun _ _ => rfl, fun b _ e => same b (by rw [e]; simp)⟩
  refine ⟨h.turn c (fun b hb => by rw [setCell_size]; exact h.lt b hb) (fun b _ e => same b (by rcases e with e | e <;> rw [e] <;> simp)) ?_ (h.plc.chg c h.lt fun b _ e => same b (by rw [e]; simp)) (h.tic.chg c h.lt fun b _ e => same b (by rw [e]; simp)) (h.ens.chg c h.lt fun b _ e => same b (by rw [e]; simp)) h.fin, c⟩
  unfold Blk
  rw [same B (by rw [h.oB]; simp)]
  exact h.box
/-- One label more was looked for. -/
theorem MemI.found (h : MemI W B O s rs p lv bv rv fi pm tm em L) (hfi : fi + p.br.length + 1 ≤ p.pos) : MemI (W.setCell ⟨B, 6, none⟩ (.int .i64 ((fi : Int) + 1))) B O s rs p lv bv rv (fi + 1) pm tm em L ∧ Chg W O (W.setCell ⟨B, 6, none⟩ (.int .i64 ((fi : Int) + 1))) O := by
  have same : ∀ b, O b ≠ some 0 → (W.setCell ⟨B, 6, none⟩ (.int .i64 ((fi : Int) + 1))).heap[b]? = W.heap[b]? := fun b hb => heap_setCell_other _ ⟨B, 6, none⟩ b _ (fun e => hb (by rw [e]; exact h.oB))
  have c : Chg W O (W.setCell ⟨B, 6, none⟩ (.int .i64 ((fi : Int) + 1))) O := ⟨rfl, rfl, rfl, by rw [setCell_size]; exact Nat.le_refl _, fun _ _ => rfl, fun b _ e => same b (by rw [e]; simp)⟩
  have e1 : ((fi : Int) + 1) = ((fi + 1 : Nat) : Int) := by omega
  exact ⟨h.turn c (fun b hb => by rw [setCell_size]; exact h.lt b hb) (fun b _ e => same b (by rcases e with e | e <;> rw [e] <;> simp)) (h.box.set 6 _ (by rw [e1]; rfl)) (h.plc.chg c h.lt fun b _ e => same b (by rw [e]; simp)) (h.tic.chg c h.lt fun b _ e => same b (by rw [e]; simp)) (h.ens.chg c h.lt fun b _ e => same b (by rw [e]; simp)) (by omega), c⟩
/-- The map of the places has been made. -/
theorem MemI.placed {w1 : World} (h : MemI W B O s rs p lv bv rv fi pm tm em L) (q : Keeps W w1) {m n : Nat} {D : DataW Unit} (hm : W.heap.size ≤ m) (hm1 : m < w1.heap.size) (ho : w1.ownsMap Tryz.prog 9 (plainElem Tryz.prog 3) m n D) (hn : n ≤ 100000) (hT : PlcF rs D) :
    ∃ O', MemI (w1.setCell ⟨B, 7, none⟩ (.map (some m))) B O' s rs p lv bv rv fi (.map (some m)) tm em L ∧ Chg W O (w1.setCell ⟨B, 7, none⟩ (.map (some m))) O' := by
  have hBm : B ≠ m := fun e => by have := h.box.lt; omega
  obtain ⟨c, hlt, same⟩ := Chg.made (W' := w1.setCell ⟨B, 7, none⟩ (.map (some m))) m 5 q h.lt hm hm1 h.oB (setCell_size _ _ _) rfl rfl rfl (fun b hb => heap_setCell_other _ ⟨B, 7, none⟩ b _ hb)
  have nB : ∀ b x, O b = some (x + 1) → b ≠ B := fun b x e => h.ne (cls := x) e
  refine ⟨_, h.turn c hlt (fun b hb e => same b hb (by rcases e with e | e <;> exact nB b _ e)) ((h.keep q).box.set 7 (.map (some m)) rfl) ?_ (h.tic.chg c h.lt fun b hb e => same b hb (nB b 2 e)) (h.ens.chg c h.lt fun b hb e => same b hb (nB b 3 e)) h.fin, c⟩
  exact .inr ⟨m, n, D, rfl, upd_at _ _ _, ho.setCell hBm.symm _, hn, hT⟩
/-- What find tells. -/
def FnmV (rs : List Rf) (name : List UInt8) : Value := match fndM rs name with
  | some r => .tuple #[refV r, .bool true]
  | none => .tuple #[refV ([], [], []), .bool false]
theorem fnm_nil (rs : List Rf) : FnmV rs [] = .tuple #[refV ([], [], []), .bool false] := rfl
theorem fnm_some {rs : List Rf} {name : List UInt8} (h : name ≠ []) : FnmV rs name = FndV (nrmL name) rs := by
  unfold FnmV FndV fndM
  rw [if_neg h]
  cases fndL (nrmL name) rs <;> rfl
set_option maxRecDepth 100000 in
/-- What the look-up tells, in whatever world that keeps the map. -/
theorem look_all {wx : World} {m n : Nat} {D : DataW Unit} (ho : wx.ownsMap Tryz.prog 9 (plainElem Tryz.prog 3) m n D) {sx : ByteArray} {t : List UInt8} (hkey : keyOf Tryz.prog 9 (.string sx) = some (.string t)) :
    ∃ V : Int, D.atKey (.string t) (i64D 0) = i64D V ∧ ∀ w', Keeps wx w' → (Instr.lookup 35 (.map (some m)) (.string sx) true).run Tryz.prog w' = .ok (.tuple #[.int .i64 V, .bool (Maps.has D (.string t))]) w' := by
  have one : ∀ w', Keeps wx w' → ∃ c : Int, D.atKey (.string t) (i64D 0) = i64D c ∧ (Instr.lookup 35 (.map (some m)) (.string sx) true).run Tryz.prog w' = .ok (.tuple #[.int .i64 c, .bool (Maps.has D (.string t))]) w' := fun w' q => by
    have ho' : w'.ownsMap Tryz.prog 9 (plainElem Tryz.prog 3) m n D := ho.kept (keeps_grown q none) (by simp)
    obtain ⟨v, ps, hr, hv⟩ := ho'.look_ok keyStr Tryz.underlying35 (zeroInt _) (plainElem_int Tryz.underlying3 (by decide)) hkey
    obtain ⟨c, rfl, hc, _⟩ := plainElem_int_inv Tryz.underlying3 hv
    exact ⟨c, congrArg Prod.fst hc, hr⟩
  obtain ⟨V, hV, _⟩ := one wx (Keeps.refl wx)
  refine ⟨V, hV, fun w' q => ?_⟩
  obtain ⟨c, hc, hr⟩ := one w' q
  have e := hc.symm.trans hV
  unfold i64D at e
  injection e with e
  injection e with _ e
  rw [← e]; exact hr
set_option maxRecDepth 100000 in
set_option maxHeartbeats 8000000 in
theorem find_few (h : MemI W B O s rs p lv bv rv fi pm tm em L) (hfi : fi + p.br.length + 1 ≤ p.pos) (name : List UInt8) (hn : name.length ≤ 20000) (hne : name ≠ []) (h64 : fi + 1 ≤ 64) :
    Calls Tryz.prog 62 #[.pointer (some ⟨B, 0, none⟩), .string ⟨name.toArray⟩] W fun e w' => e = .returned (FnmV rs name) ∧ MidI W B O s rs p lv bv rv L w' := by
  have hsiz := h.siz
  obtain ⟨m1, c1⟩ := h.found hfi
  obtain ⟨m2, c2⟩ := m1.mark (.cells #[.string ⟨#[]⟩, .string ⟨#[]⟩, .string ⟨#[]⟩] 29)
  have hz1 : (W.setCell ⟨B, 6, none⟩ (.int .i64 ((fi : Int) + 1))).heap.size = W.heap.size := setCell_size _ _ _
  have hR9 := upd_at O (W.setCell ⟨B, 6, none⟩ (.int .i64 ((fi : Int) + 1))).heap.size (some 9)
  rw [hz1] at m2 c2 hR9
  have BR := Blk.new (W.setCell ⟨B, 6, none⟩ (.int .i64 ((fi : Int) + 1))) 29 #[.string ⟨#[]⟩, .string ⟨#[]⟩, .string ⟨#[]⟩]
  rw [hz1] at BR
  have b6 := h.box.cell 6 (v := .int .i64 fi) rfl
  have f6 := h.box.free 6
  have b5 := h.box.cell 5 (v := rv) rfl
  have LF := Lib.hid (fun w hh => find_ref rv rs ⟨name.toArray⟩ w hh h.rsz.1 (by show name.toArray.size ≤ _; simp; omega))
  rw [show (⟨name.toArray⟩ : ByteArray).data.toList = name from rfl, ← fnm_some hne] at LF
  have hrv : ∃ A n c, rv = .slice A n c := by obtain ⟨A, c, e, _⟩ := h.refs; exact ⟨A, _, c, e⟩
  have HV : ∃ r0 r1 r2 b, FnmV rs name = .tuple #[.agg #[.string r0, .string r1, .string r2], .bool b] := by
    unfold FnmV
    cases fndM rs name with
    | none => exact ⟨_, _, _, _, rfl⟩
    | some r => exact ⟨_, _, _, _, rfl⟩
  obtain ⟨r0, r1, r2, b, hV⟩ := HV
  rw [hV] at LF ⊢
  have LF2 := Lib.hid (LF.out _ m2.refs)
  have hpz : 0 < (⟨name.toArray⟩ : ByteArray).size := by
    show 0 < name.toArray.size
    have := List.length_pos_iff.2 hne
    simp; omega
  obtain ⟨sx, hsx⟩ : ∃ sx : ByteArray, (⟨name.toArray⟩ : ByteArray) = sx := ⟨_, rfl⟩
  rw [hsx] at LF2 hpz ⊢
  have u0 := tl_ne hpz
  have u1 := tl_empty hpz
  have q0 : decide ((fi : Int) + 1 ≤ 64) = true := decide_eq_true (by omega)
  obtain ⟨A, n, c, rfl⟩ := hrv
  have HM := Lib.hid m2
  have HC := Lib.hid (c1.trans c2)
  have HBR := Lib.hid BR
  have HR9 := Lib.hid hR9
  have hfn : fi ≤ 64 := by omega
  have hBs := h.box.lt
  clear m1 m2 c1 c2 BR h hV hsx LF hne hR9
  go_enter Tryz.func62, Tryz.ntmps62
  go_wp2_with fail
  refine LF2.out.mono ?_
  rintro e w2 ⟨rfl, k2⟩
  have R2 := HBR.out.keep k2
  have y0 := R2.cell 0 (v := .string ⟨#[]⟩) rfl
  have y1 := R2.cell 1 (v := .string ⟨#[]⟩) rfl
  have y2 := R2.cell 2 (v := .string ⟨#[]⟩) rfl
  have e0 := R2.free 0
  have e1 := R2.free 1
  have e2 := R2.free 2
  have HRB := Lib.hid (((R2.set 0 (.string r0) rfl).set 1 (.string r1) rfl).set 2 (.string r2) rfl)
  have FIN : Hid (MidI W B O s rs p lv bv (.slice A n c) L (((w2.setCell ⟨W.heap.size, 0, none⟩ (.string r0)).setCell ⟨W.heap.size, 1, none⟩ (.string r1)).setCell ⟨W.heap.size, 2, none⟩ (.string r2))) := Lib.hid (by
    obtain ⟨s1, d1⟩ := (HM.out.keep k2).scratch HR9.out 0 (.string r0)
    obtain ⟨s2, d2⟩ := s1.scratch HR9.out 1 (.string r1)
    obtain ⟨s3, d3⟩ := s2.scratch HR9.out 2 (.string r2)
    exact ⟨_, _, _, _, _, s3, HC.out.trans ((Chg.keeps _ k2).trans (d1.trans (d2.trans d3)))⟩)
  clear R2 k2
  go_wp2_with fail
  exact ret_blk2 rfl rfl rfl rfl HRB.out Tryz.underlying29 (by kernel_rfl) ⟨rfl, FIN.out⟩
set_option maxRecDepth 100000 in
set_option maxHeartbeats 4000000 in
theorem find_nil (h : MemI W B O s rs p lv bv rv fi pm tm em L) :
    Calls Tryz.prog 62 #[.pointer (some ⟨B, 0, none⟩), .string ⟨#[]⟩] W fun e w' => e = .returned (FnmV rs []) ∧ MidI W B O s rs p lv bv rv L w' := by
  have BR := Blk.new W 29 #[.string ⟨#[]⟩, .string ⟨#[]⟩, .string ⟨#[]⟩]
  have FIN := Lib.hid (h.midOf (Chg.refl W O) ((Keeps.refl W).alloc (.cells #[.string ⟨#[]⟩, .string ⟨#[]⟩, .string ⟨#[]⟩] 29)))
  have HBR := Lib.hid BR
  rw [fnm_nil]
  clear h BR
  go_enter Tryz.func62, Tryz.ntmps62
  go_wp2_with fail
  exact ret_blk2 rfl rfl rfl rfl HBR.out Tryz.underlying29 (by kernel_rfl) ⟨rfl, FIN.out⟩
set_option maxRecDepth 100000 in
set_option maxHeartbeats 8000000 in
theorem find_many (h : MemI W B O s rs p lv bv rv fi pm tm em L) (hfi : fi + p.br.length + 1 ≤ p.pos) (name : List UInt8) (hn : name.length ≤ 20000) (hne : name ≠ []) (h64 : ¬ fi + 1 ≤ 64) :
    Calls Tryz.prog 62 #[.pointer (some ⟨B, 0, none⟩), .string ⟨name.toArray⟩] W fun e w' => e = .returned (FnmV rs name) ∧ MidI W B O s rs p lv bv rv L w' := by
  have hsiz := h.siz
  have hpos := h.wf.pos
  rw [bytes_len] at hpos
  obtain ⟨m1, c1⟩ := h.found hfi
  obtain ⟨m2, c2⟩ := m1.mark (.cells #[.string ⟨#[]⟩, .string ⟨#[]⟩, .string ⟨#[]⟩] 29)
  have hz1 : (W.setCell ⟨B, 6, none⟩ (.int .i64 ((fi : Int) + 1))).heap.size = W.heap.size := setCell_size _ _ _
  have hR9 := upd_at O (W.setCell ⟨B, 6, none⟩ (.int .i64 ((fi : Int) + 1))).heap.size (some 9)
  rw [hz1] at m2 c2 hR9
  have BR := Blk.new (W.setCell ⟨B, 6, none⟩ (.int .i64 ((fi : Int) + 1))) 29 #[.string ⟨#[]⟩, .string ⟨#[]⟩, .string ⟨#[]⟩]
  rw [hz1] at BR
  have b6 := h.box.cell 6 (v := .int .i64 fi) rfl
  have f6 := h.box.free 6
  have b5 := h.box.cell 5 (v := rv) rfl
  have b7 := h.box.cell 7 (v := pm) rfl
  have hV := fnm_some (rs := rs) hne
  rw [hV]
  have hnl := nrm_len name
  have NR := Lib.hid (fun w => normal_any ⟨name.toArray⟩ w (by show name.toArray.size ≤ _; simp; omega))
  rw [show (⟨name.toArray⟩ : ByteArray).data.toList = name from rfl] at NR
  have hkey : keyOf Tryz.prog 9 (.string ⟨(nrmL name).toArray⟩) = some (.string (nrmL name)) := Go.WideMaps.keyOf_string_mk (s := ⟨(nrmL name).toArray⟩) Tryz.underlying9 (by show (nrmL name).toArray.size ≤ _; unfold maxLen; simp; omega)
  have hNl : (nrmL name).length ≤ 100000 := by omega
  generalize nrmL name = N at *
  have HKEY := Lib.hid hkey
  have hpz : 0 < (⟨name.toArray⟩ : ByteArray).size := by
    show 0 < name.toArray.size
    have := List.length_pos_iff.2 hne
    simp; omega
  obtain ⟨sx, hsx⟩ : ∃ sx : ByteArray, (⟨name.toArray⟩ : ByteArray) = sx := ⟨_, rfl⟩
  rw [hsx] at NR hpz ⊢
  obtain ⟨sn, hsn⟩ : ∃ sn : ByteArray, (⟨N.toArray⟩ : ByteArray) = sn := ⟨_, rfl⟩
  rw [hsn] at NR HKEY
  have u0 := tl_ne hpz
  have u1 := tl_empty hpz
  have q0 : decide ((fi : Int) + 1 ≤ 64) = false := decide_eq_false (by omega)
  have hrv : ∃ A n c, rv = .slice A n c := by obtain ⟨A, c, e, _⟩ := h.refs; exact ⟨A, _, c, e⟩
  obtain ⟨A, n, c, rfl⟩ := hrv
  have PO := Lib.hid (fun w hh => placesOf_any rs (.slice A n c) w hh h.rsz.1 h.rsz.2)
  have HM := Lib.hid m2
  have HC := Lib.hid (c1.trans c2)
  have HBR := Lib.hid BR
  have HR9 := Lib.hid hR9
  have hfn : fi ≤ 20000 := by have := h.fin; omega
  have hrl := h.rsz.1
  have hBs := h.box.lt
  have q1 : ∀ w : World, (binOp .eql 35 (.map none) (.map none)).run Tryz.prog w = .ok (.bool true) w := fun w => run_eql_map_nil w _ _ _ none Tryz.underlying35
  have q2 : ∀ (w : World) (m : Nat), (binOp .eql 35 (.map (some m)) (.map none)).run Tryz.prog w = .ok (.bool false) w := fun w m => run_eql_map_nil w _ _ _ (some m) Tryz.underlying35
  obtain ⟨b, hb⟩ : ∃ b : Bool, b = true ∧ pm = .map none ∨ b = false ∧ ∃ m, pm = .map (some m) := by
    rcases h.plc with e | ⟨m, n, D, e, _⟩
    · exact ⟨true, .inl ⟨rfl, e⟩⟩
    · exact ⟨false, .inr ⟨rfl, m, e⟩⟩
  obtain ⟨RV, hRV⟩ : ∃ RV, FndV N rs = RV := ⟨_, rfl⟩
  have HRV := Lib.hid hRV
  rw [hRV]
  clear m1 m2 c1 c2 BR h hV hsx hne hR9 hsn hkey hRV
  go_enter Tryz.func62, Tryz.ntmps62
  go_upto_region 6 with fail
  go_cut [35] (fun t wx => t = .bool b ∧ ((W.setCell ⟨B, 6, none⟩ (.int .i64 ((fi : Int) + 1))).alloc (.cells #[.string ⟨#[]⟩, .string ⟨#[]⟩, .string ⟨#[]⟩] 29)) = wx)
  case first =>
    rcases hb with ⟨rfl, rfl⟩ | ⟨rfl, m, rfl⟩
    all_goals
      go_wp2_with fail
      go_meet
      exact ⟨rfl, rfl⟩
  case rest =>
  obtain ⟨rfl, rfl⟩ := hcut
  go_upto_if 35 with fail
  go_cut [] (fun wx' => ∃ wx, wx = wx' ∧ ∃ O1 m, Hid (MemI wx B O1 s rs p lv bv (.slice A n c) (fi + 1) (.map (some m)) tm em L) ∧ Hid (Chg W O wx O1) ∧ Hid (O1 W.heap.size = some 9) ∧ Hid (Blk wx W.heap.size 29 #[.string ⟨#[]⟩, .string ⟨#[]⟩, .string ⟨#[]⟩]))
  case first =>
    rcases hb with ⟨rfl, rfl⟩ | ⟨rfl, m, rfl⟩
    · go_wp2_with (first | (go_at_call 102; (with_reducible refine (PO.out _ HM.out.refs).mono ?_); rintro e w1 ⟨rfl, hm1, k1, D, ho, hT⟩; have y8 := (HM.out.box.keep k1).free 7; have y9 := (HM.out.box.keep k1).cell 7 (v := .map none) rfl))
      go_meet
      case rel =>
        obtain ⟨O1, m1, c1⟩ := HM.out.placed k1 (Nat.le_refl _) hm1 ho hrl hT
        rw [World.size_alloc, hz1] at m1 c1
        refine ⟨_, rfl, O1, _, Lib.hid m1, Lib.hid (HC.out.trans c1), Lib.hid ?_, Lib.hid ((HBR.out.keep k1).other (fun e => by omega) 7 _)⟩
        have hl : W.heap.size < ((W.setCell ⟨B, 6, none⟩ (.int .i64 ((fi : Int) + 1))).alloc (.cells #[.string ⟨#[]⟩, .string ⟨#[]⟩, .string ⟨#[]⟩] 29)).heap.size := HBR.out.lt
        rw [c1.own _ hl]; exact HR9.out
    · go_wp2_with fail
      go_meet
      case rel => exact ⟨_, rfl, _, m, HM, HC, HR9, HBR⟩
  case rest =>
    obtain ⟨wx, rfl, O1, m, HM1, HC1, HO1, HB1⟩ := hcut
    clear b5 b6 b7 f6 hb HM HC HBR HR9 PO q0
    have hmap : ∃ n' D, wx.ownsMap Tryz.prog 9 (plainElem (H := Unit) Tryz.prog 3) m n' D ∧ PlcF rs D := by
      rcases HM1.out.plc with e | ⟨m', n', D, e, _, ho, _, hF⟩
      · cases e
      · cases e; exact ⟨n', D, ho, hF⟩
    obtain ⟨n', D, ho, hF⟩ := hmap
    obtain ⟨V, hV, hrun⟩ := look_all ho HKEY.out
    obtain ⟨hy, hno⟩ := hF N hNl
    have HRUN := Lib.hid hrun
    have NS : ∀ w', Keeps wx w' → Keeps wx w' ∧ w'.cell? ⟨B, 7, none⟩ = some (.map (some m)) ∧ (Instr.lookup 35 (.map (some m)) (.string sn) true).run Tryz.prog w' = .ok (.tuple #[.int .i64 V, .bool (Maps.has D (.string N))]) w' := fun w' q => ⟨q, (HM1.out.box.keep q).cell 7 rfl, HRUN.out w' q⟩
    have KD := (Keeps.refl wx).drew
    have HRF := Lib.hid HM1.out.refs
    clear ho hF hrun
    cases hHas : Maps.has D (.string N) with
    | false =>
      have HE : Hid (RV = .tuple #[.agg #[.string ⟨#[]⟩, .string ⟨#[]⟩, .string ⟨#[]⟩], .bool false]) := Lib.hid (by rw [← HRV.out]; unfold FndV; rw [hno hHas]; rfl)
      rw [hHas] at NS
      clear hy hno HRUN hHas HRF hV
      go_wp2_with fail
      go_region_held3 (fun w' => Keeps wx w' ∧ w'.cell? ⟨B, 7, none⟩ = some (.map (some m)) ∧ (Instr.lookup 35 (.map (some m)) (.string sn) true).run Tryz.prog w' = .ok (.tuple #[.int .i64 V, .bool false]) w')
        (first | (with_reducible assumption) | (with_reducible exact NS _ KD) | (with_reducible exact NS _ k1))
        (first | (go_at_call 103; go_loud ((with_reducible refine (NR.out _).mono ?_)); rintro e w1 ⟨rfl, k0⟩; have k1 := KD.trans k0))
      rename_i hHeld
      obtain ⟨KW, _, _⟩ := hHeld
      have R2 := HB1.out.keep k1
      have y0 := R2.cell 0 (v := .string ⟨#[]⟩) rfl
      have y1 := R2.cell 1 (v := .string ⟨#[]⟩) rfl
      have y2 := R2.cell 2 (v := .string ⟨#[]⟩) rfl
      have e0 := R2.free 0
      have e1 := R2.free 1
      have e2 := R2.free 2
      have HRB := Lib.hid (fun r0 r1 r2 => ((R2.set 0 (.string r0) rfl).set 1 (.string r1) rfl).set 2 (.string r2) rfl)
      have FIN : Hid (∀ r0 r1 r2 : ByteArray, MidI W B O s rs p lv bv (.slice A n c) L (((w1.setCell ⟨W.heap.size, 0, none⟩ (.string r0)).setCell ⟨W.heap.size, 1, none⟩ (.string r1)).setCell ⟨W.heap.size, 2, none⟩ (.string r2))) := Lib.hid (fun r0 r1 r2 => by
        obtain ⟨s1, d1⟩ := (HM1.out.keep k1).scratch HO1.out 0 (.string r0)
        obtain ⟨s2, d2⟩ := s1.scratch HO1.out 1 (.string r1)
        obtain ⟨s3, d3⟩ := s2.scratch HO1.out 2 (.string r2)
        exact ⟨_, _, _, _, _, s3, HC1.out.trans ((Chg.keeps _ k1).trans (d1.trans (d2.trans d3)))⟩)
      clear R2 KW
      go_wp2_with fail
      exact ret_blk2 rfl rfl rfl rfl (HRB.out _ _ _) Tryz.underlying29 (by kernel_rfl) ⟨congrArg Ending.returned HE.out.symm, FIN.out _ _ _⟩
    | true =>
      obtain ⟨i, hi, hVi, hfd⟩ := hy hHas
      obtain rfl : V = (i : Int) := by
        have := hV.symm.trans hVi
        unfold i64D at this
        injection this with this
        injection this
      obtain ⟨ao, cap, ev, hcap1, hcap2, hcells⟩ := refv_form HRF.out
      simp only [Value.slice.injEq] at ev
      obtain ⟨rfl, hnr, rfl⟩ := ev
      obtain ⟨g, o, rfl, hcl⟩ := hcells (by omega)
      have HCL := Lib.hid (fun w' q => hcl w' q i hi)
      have hin : i < n := by omega
      generalize rs[i] = r at *
      obtain ⟨r0, r1, r2⟩ := r
      dsimp only at HCL
      have HE : Hid (RV = .tuple #[.agg #[.string ⟨r0.toArray⟩, .string ⟨r1.toArray⟩, .string ⟨r2.toArray⟩], .bool true]) := Lib.hid (by rw [← HRV.out]; unfold FndV; rw [hfd]; rfl)
      rw [hHas] at NS
      have i0 : (0 : Int) ≤ (i : Int) := by omega
      have i1 : (i : Int) < (n : Int) := by omega
      have hn2 : n ≤ 100000 := by omega
      clear hy hno HRUN hHas HRF hV hVi hfd hcells hcl hnr
      go_wp2_with fail
      go_region_held3 (fun w' => Keeps wx w' ∧ w'.cell? ⟨B, 7, none⟩ = some (.map (some m)) ∧ (Instr.lookup 35 (.map (some m)) (.string sn) true).run Tryz.prog w' = .ok (.tuple #[.int .i64 (i : Int), .bool true]) w')
        (first | (with_reducible assumption) | (with_reducible exact NS _ KD) | (with_reducible exact NS _ k1))
        (first | (go_at_call 103; go_loud ((with_reducible refine (NR.out _).mono ?_)); rintro e w1 ⟨rfl, k0⟩; have k1 := KD.trans k0))
      rename_i hHeld
      obtain ⟨KW, _, _⟩ := hHeld
      have R2 := HB1.out.keep k1
      have y0 := R2.cell 0 (v := .string ⟨#[]⟩) rfl
      have y1 := R2.cell 1 (v := .string ⟨#[]⟩) rfl
      have y2 := R2.cell 2 (v := .string ⟨#[]⟩) rfl
      have e0 := R2.free 0
      have e1 := R2.free 1
      have e2 := R2.free 2
      have HRB := Lib.hid (fun r0 r1 r2 => ((R2.set 0 (.string r0) rfl).set 1 (.string r1) rfl).set 2 (.string r2) rfl)
      have FIN : Hid (∀ r0 r1 r2 : ByteArray, MidI W B O s rs p lv bv (.slice (some ⟨g, o, none⟩) n c) L (((w1.setCell ⟨W.heap.size, 0, none⟩ (.string r0)).setCell ⟨W.heap.size, 1, none⟩ (.string r1)).setCell ⟨W.heap.size, 2, none⟩ (.string r2))) := Lib.hid (fun r0 r1 r2 => by
        obtain ⟨s1, d1⟩ := (HM1.out.keep k1).scratch HO1.out 0 (.string r0)
        obtain ⟨s2, d2⟩ := s1.scratch HO1.out 1 (.string r1)
        obtain ⟨s3, d3⟩ := s2.scratch HO1.out 2 (.string r2)
        exact ⟨_, _, _, _, _, s3, HC1.out.trans ((Chg.keeps _ k1).trans (d1.trans (d2.trans d3)))⟩)
      obtain ⟨z0, z1, z2⟩ := HCL.out w1 k1
      have z5 := (HM1.out.box.keep k1).cell 5 (v := .slice (some ⟨g, o, none⟩) n c) rfl
      clear R2 KW
      go_wp2_with fail
      exact ret_blk2 rfl rfl rfl rfl (HRB.out _ _ _) Tryz.underlying29 (by kernel_rfl) ⟨congrArg Ending.returned HE.out.symm, FIN.out _ _ _⟩
theorem find_mid (h : MemI W B O s rs p lv bv rv fi pm tm em L) (hfi : fi + p.br.length + 1 ≤ p.pos) (name : List UInt8) (hn : name.length ≤ 20000) :
    Calls Tryz.prog 62 #[.pointer (some ⟨B, 0, none⟩), .string ⟨name.toArray⟩] W fun e w' => e = .returned (FnmV rs name) ∧ MidI W B O s rs p lv bv rv L w' := by
  by_cases hne : name = []
  · subst hne
    exact find_nil h
  · by_cases h64 : fi + 1 ≤ 64
    · exact find_few h hfi name hn hne h64
    · exact find_many h hfi name hn hne h64
end
end Go.Proofs.YtklmgbkkjmfhcaaGreatDoor

/-
  Contract of leads.
-/
namespace Go.Proofs.YtklmgbkkjmfhcaaGreatDoor
open Go.RowKit Go.Lib Go.Maps

def ldsV (x : List UInt8 × List UInt8 × Nat) : Value := .tuple #[.string ⟨x.1.toArray⟩, .string ⟨x.2.1.toArray⟩, .int .i64 (x.2.2 : Nat)]
theorem lds_inl {s : List UInt8} {rs : List Rf} {p : Ps} {b : Br} (h : inlN (s.drop (p.pos + 1)) ≠ 0) : ldsM s rs p b = (inlD (s.drop (p.pos + 1)), inlT (s.drop (p.pos + 1)), 1 + inlN (s.drop (p.pos + 1))) := by unfold ldsM; rw [if_pos h]
theorem lds_some {s : List UInt8} {rs : List Rf} {p : Ps} {b : Br} {r : Rf} (h : inlN (s.drop (p.pos + 1)) = 0) (hf : fndM rs (nmeL s p b) = some r) : ldsM s rs p b = (r.2.1, r.2.2, 1 + nmeN s p) := by unfold ldsM; rw [if_neg (fun x => x h), hf]
theorem lds_none {s : List UInt8} {rs : List Rf} {p : Ps} {b : Br} (h : inlN (s.drop (p.pos + 1)) = 0) (hf : fndM rs (nmeL s p b) = none) : ldsM s rs p b = ([], [], 0) := by unfold ldsM; rw [if_neg (fun x => x h), hf]
theorem trimPre_size (R : ByteArray) : ∃ sz : ByteArray, (⟨(trimPrefix R.data.toList [91, 93]).toArray⟩ : ByteArray) = sz ∧ sz.size + (if hasPrefix R.data.toList [91, 93] = true then 2 else 0) = R.size := by
  refine ⟨_, rfl, ?_⟩
  show (trimPrefix R.data.toList [91, 93]).toArray.size + _ = R.size
  rw [List.size_toArray, ← bytes_len R]
  unfold trimPrefix
  cases h : hasPrefix R.data.toList [91, 93] with
  | true =>
    have := pre_len h
    simp at this
    simp; omega
  | false => simp
section
variable {W : World} {B : Nat} {O : Nat → Option Nat} {s : ByteArray} {rs : List Rf} {p : Ps} {lv bv rv : Value} {fi : Nat} {pm tm em : Value} {L : List (Pc × Value)}
set_option maxRecDepth 100000 in
set_option maxHeartbeats 8000000 in
theorem leads_inl (h : MemI W B O s rs p lv bv rv fi pm tm em L) (hp : p.pos < s.size) (b : Br) (hi : inlN (s.data.toList.drop (p.pos + 1)) ≠ 0) :
    Calls Tryz.prog 35 #[.pointer (some ⟨B, 0, none⟩), brV b] W fun e w' => e = .returned (ldsV (ldsM s.data.toList rs p b)) ∧ MidI W B O s rs p lv bv rv L w' := by
  have hsiz := h.siz
  have hBs := h.box.lt
  have b0 := h.box.cell 0 (v := .string s) rfl
  have b1 := h.box.cell 1 (v := .int .i64 p.pos) rfl
  obtain ⟨R, hR⟩ : ∃ R, s.extract (p.pos + 1) s.size = R := ⟨_, rfl⟩
  have hRl : s.data.toList.drop (p.pos + 1) = R.data.toList := by rw [← hR, Lib.extract_to_end]
  have hRz : R.size = s.size - (p.pos + 1) := by rw [← hR, ByteArray.size_extract]; omega
  rw [lds_inl hi, hRl]
  rw [hRl] at hi
  obtain ⟨b1', b2', b3'⟩ := b
  have KA := (Keeps.refl W).alloc (.cells #[.int .i64 b1', .int .i64 b2', .bool b3'] 63)
  have IL := Lib.hid (inline_any R _ (by omega) (h.keep KA).env.lis)
  have hle := inl_len R.data.toList
  rw [bytes_len] at hle
  unfold InlV at IL
  unfold brV
  show Calls _ _ _ _ fun e w' => e = .returned (.tuple #[.string ⟨(inlD R.data.toList).toArray⟩, .string ⟨(inlT R.data.toList).toArray⟩, .int .i64 ((1 + inlN R.data.toList : Nat) : Int)]) ∧ _
  generalize inlD R.data.toList = d at *
  generalize inlT R.data.toList = t at *
  generalize inlN R.data.toList = n at *
  have q0 : decide ((0 : Int) < (n : Int)) = true := decide_eq_true (by omega)
  have HM := Lib.hid (fun w (q : Keeps W w) => h.midOf (Chg.refl W O) q)
  have hs0 : (0 : Int) ≤ (p.pos : Int) + 1 := by omega
  have hs1 : (p.pos : Int) + 1 ≤ (s.size : Int) := by omega
  have hs2 : ((p.pos : Int) + 1).toNat = p.pos + 1 := by omega
  have hn1 : ((1 + n : Nat) : Int) = 1 + (n : Int) := by omega
  rw [hn1]
  have hn2 : n ≤ 20000 := by omega
  have hpn : p.pos ≤ 20000 := by omega
  clear h hRl hle hn1
  go_enter Tryz.func35, Tryz.ntmps35
  go_wp2_with fail
  refine IL.out.mono ?_
  rintro e w1 ⟨rfl, k1⟩
  have K1 := KA.trans k1
  go_wp2_with fail
  go_ret3
  exact ⟨rfl, HM.out _ K1⟩
/-- What find tells of a name, and what leads makes of it. -/
theorem fnm_lds {s : List UInt8} {rs : List Rf} {p : Ps} {b : Br} (h : inlN (s.drop (p.pos + 1)) = 0) : ∃ (r0 r1 r2 : ByteArray) (ok : Bool), FnmV rs (nmeL s p b) = .tuple #[.agg #[.string r0, .string r1, .string r2], .bool ok] ∧
    (ok = true → ldsV (ldsM s rs p b) = .tuple #[.string r1, .string r2, .int .i64 ((1 + nmeN s p : Nat) : Int)]) ∧ (ok = false → ldsV (ldsM s rs p b) = .tuple #[.string ⟨#[]⟩, .string ⟨#[]⟩, .int .i64 0]) := by
  unfold FnmV
  cases hf : fndM rs (nmeL s p b) with
  | none => exact ⟨_, _, _, false, rfl, (fun e => by cases e), fun _ => by rw [lds_none h hf]; rfl⟩
  | some r => exact ⟨_, _, _, true, rfl, fun _ => by rw [lds_some h hf]; rfl, fun e => by cases e⟩
set_option maxRecDepth 100000 in
set_option maxHeartbeats 8000000 in
theorem leads_ref (h : MemI W B O s rs p lv bv rv fi pm tm em L) (hp : p.pos < s.size) (hfi : fi + p.br.length + 1 ≤ p.pos) (b : Br) (hb : b.pos ≤ s.size) (hi : inlN (s.data.toList.drop (p.pos + 1)) = 0) :
    Calls Tryz.prog 35 #[.pointer (some ⟨B, 0, none⟩), brV b] W fun e w' => e = .returned (ldsV (ldsM s.data.toList rs p b)) ∧ MidI W B O s rs p lv bv rv L w' := by
  have hsiz := h.siz
  have hBs := h.box.lt
  have b0 := h.box.cell 0 (v := .string s) rfl
  have b1 := h.box.cell 1 (v := .int .i64 p.pos) rfl
  obtain ⟨R, hR⟩ : ∃ R, s.extract (p.pos + 1) s.size = R := ⟨_, rfl⟩
  have hRl : s.data.toList.drop (p.pos + 1) = R.data.toList := by rw [← hR, Lib.extract_to_end]
  have hRz : R.size = s.size - (p.pos + 1) := by rw [← hR, ByteArray.size_extract]; omega
  obtain ⟨r0, r1, r2, ok, hF, hok, hno⟩ := fnm_lds (s := s.data.toList) (rs := rs) (p := p) (b := b) hi
  obtain ⟨LV, hLV⟩ : ∃ LV, ldsV (ldsM s.data.toList rs p b) = LV := ⟨_, rfl⟩
  rw [hLV] at hok hno ⊢
  have hnl : (nmeL s.data.toList p b).length ≤ 20000 := by
    unfold nmeL btwL
    have h1 := (lbl_le (s.data.toList.drop b.pos)).1
    have h2 := (lbl_le (s.data.toList.drop (p.pos + 1))).1
    rw [List.length_drop, bytes_len] at h1 h2
    split
    · split
      · omega
      · exact Nat.zero_le _
    · omega
  have KA := (Keeps.refl W).alloc (.cells #[.int .i64 b.place, .int .i64 b.pos, .bool b.image] 63)
  have IL := Lib.hid (inline_any R _ (by omega) (h.keep KA).env.lis)
  have LB := Lib.hid (fun w => label_any R w (by omega))
  have FD := Lib.hid (fun w (q : Keeps W w) => find_mid (h.keep q) hfi (nmeL s.data.toList p b) hnl)
  rw [hF] at FD
  have hBX := h.box
  have BT := Lib.hid (fun w (q : Keeps W w) => between_any (hBX.keep q) (s := s) rfl hsiz b.pos (p.pos + 1) hb)
  have hle := (lbl_le R.data.toList).2
  rw [bytes_len] at hle
  have HPR := Lib.hid (fun (w w1 w2 : World) (q : Keeps W w) (m : MidI w B O s rs p lv bv rv L w1) (q2 : Keeps w1 w2) => (MidI.pre q m).keep q2)
  have hNM : nmeL s.data.toList p b = if lblN R.data.toList = 0 then btwL s.data.toList b.pos (p.pos + 1) else lblT R.data.toList := by unfold nmeL; rw [hRl]
  have hNN : nmeN s.data.toList p = if lblN R.data.toList = 0 then (if hasPrefix R.data.toList [91, 93] = true then 2 else 0) else lblN R.data.toList := by unfold nmeN; rw [hRl]
  rw [hRl] at hi
  unfold InlV at IL
  rw [hi, show ((0 : Nat) : Int) = 0 from rfl] at IL
  unfold LblV at LB
  obtain ⟨sd, hsd⟩ : ∃ sd : ByteArray, (⟨(inlD R.data.toList).toArray⟩ : ByteArray) = sd := ⟨_, rfl⟩
  obtain ⟨st, hst⟩ : ∃ st : ByteArray, (⟨(inlT R.data.toList).toArray⟩ : ByteArray) = st := ⟨_, rfl⟩
  rw [hsd, hst] at IL
  have hs0 : (0 : Int) ≤ (p.pos : Int) + 1 := by omega
  have hs1 : (p.pos : Int) + 1 ≤ (s.size : Int) := by omega
  have hs2 : ((p.pos : Int) + 1).toNat = p.pos + 1 := by omega
  have hpn : p.pos ≤ 20000 := by omega
  have hpc : ((p.pos + 1 : Nat) : Int) = (p.pos : Int) + 1 := by omega
  rw [hpc] at BT
  obtain ⟨tz, htz1, htz2⟩ := trimPre_size R
  have TP := Lib.hid (fun w => (Tryz.strings_TrimPrefix R ⟨#[91, 93]⟩ w).mono (fun _ _ h => And.intro h.1 h.2.symm))
  rw [show (⟨#[91, 93]⟩ : ByteArray).data.toList = [91, 93] from rfl, htz1] at TP
  unfold brV
  obtain ⟨x0, x1, x2⟩ := b
  dsimp only at *
  have HOK := Lib.hid hok
  have HNO := Lib.hid hno
  clear h hBX hF hLV hi hRl hsd hst hpc htz1 hok hno
  by_cases hl0 : lblN R.data.toList = 0
  · rw [if_pos hl0] at hNM hNN
    rw [hl0, show ((0 : Nat) : Int) = 0 from rfl] at LB
    rw [hNM] at FD
    obtain ⟨sl, hsl⟩ : ∃ sl : ByteArray, (⟨(lblT R.data.toList).toArray⟩ : ByteArray) = sl := ⟨_, rfl⟩
    rw [hsl] at LB
    obtain ⟨sn, hsn⟩ : ∃ sn : ByteArray, (⟨(btwL s.data.toList x1 (p.pos + 1)).toArray⟩ : ByteArray) = sn := ⟨_, rfl⟩
    rw [hsn] at FD BT
    rw [← hNN] at htz2
    have hRb : R.size ≤ 20000 := by omega
    have htb : tz.size ≤ R.size := by omega
    have HSUB := Lib.hid (show 1 + ((R.size : Int) - (tz.size : Int)) = 1 + ((nmeN s.data.toList p : Nat) : Int) by omega)
    generalize nmeN s.data.toList p = nn at *
    clear hl0 hNM hNN hsl hsn hle htz2 hRz
    have hn1 : ((1 + nn : Nat) : Int) = 1 + (nn : Int) := by omega
    rw [hn1] at HOK
    clear hn1
    cases ok with
    | false =>
      have HE := Lib.hid (HNO.out rfl)
      go_enter Tryz.func35, Tryz.ntmps35
      go_wp2_with fail
      refine IL.out.mono ?_
      rintro e w1 ⟨rfl, k1⟩
      have K1 := KA.trans k1
      go_wp2_with fail
      refine (LB.out _).mono ?_
      rintro e w2 ⟨rfl, k2⟩
      have K2 := K1.trans k2
      have c1 : w2.cell? ⟨W.heap.size, 1, none⟩ = some (.int .i64 (x1 : Nat)) := ((Blk.new W 63 #[.int .i64 x0, .int .i64 x1, .bool x2]).keep (k1.trans k2)).cell 1 rfl
      go_wp2_with fail
      refine (BT.out _ K2).mono ?_
      rintro e w3 ⟨rfl, k3⟩
      have K3 := K2.trans k3
      go_wp2_with fail
      refine (TP.out _).mono ?_
      rintro e w4 ⟨rfl, rfl⟩
      go_wp2_with fail
      refine (FD.out _ K3).mono ?_
      rintro e w5 ⟨rfl, hm⟩
      have HMM := Lib.hid (fun w q => HPR.out _ _ w K3 hm q)
      clear hm
      go_wp2_with fail
      go_ret3
      exact ⟨congrArg Ending.returned HE.out.symm, HMM.out _ ((Keeps.refl w5).alloc _)⟩
    | true =>
      have HE := Lib.hid (HOK.out rfl)
      go_enter Tryz.func35, Tryz.ntmps35
      go_wp2_with fail
      refine IL.out.mono ?_
      rintro e w1 ⟨rfl, k1⟩
      have K1 := KA.trans k1
      go_wp2_with fail
      refine (LB.out _).mono ?_
      rintro e w2 ⟨rfl, k2⟩
      have K2 := K1.trans k2
      have c1 : w2.cell? ⟨W.heap.size, 1, none⟩ = some (.int .i64 (x1 : Nat)) := ((Blk.new W 63 #[.int .i64 x0, .int .i64 x1, .bool x2]).keep (k1.trans k2)).cell 1 rfl
      go_wp2_with fail
      refine (BT.out _ K2).mono ?_
      rintro e w3 ⟨rfl, k3⟩
      have K3 := K2.trans k3
      go_wp2_with fail
      refine (TP.out _).mono ?_
      rintro e w4 ⟨rfl, rfl⟩
      go_wp2_with fail
      refine (FD.out _ K3).mono ?_
      rintro e w5 ⟨rfl, hm⟩
      have HMM := Lib.hid (fun w q => HPR.out _ _ w K3 hm q)
      clear hm
      go_wp2_with fail
      go_region
      all_goals
        go_wp2_with fail
        go_ret3
        exact ⟨(congrArg (fun z : Int => Ending.returned (.tuple #[.string r1, .string r2, .int .i64 z])) HSUB.out).trans (congrArg Ending.returned HE.out.symm), HMM.out _ (((Keeps.refl w5).alloc _).drew)⟩
  · rw [if_neg hl0] at hNM hNN
    rw [hNM] at FD
    obtain ⟨sn, hsn⟩ : ∃ sn : ByteArray, (⟨(lblT R.data.toList).toArray⟩ : ByteArray) = sn := ⟨_, rfl⟩
    rw [hsn] at FD LB
    rw [hNN] at HOK
    have hn1 : ((1 + lblN R.data.toList : Nat) : Int) = 1 + ((lblN R.data.toList : Nat) : Int) := by omega
    rw [hn1] at HOK
    have hRb : R.size ≤ 20000 := by omega
    generalize lblN R.data.toList = nn at *
    have q0 := beqF (show ¬ (nn : Int) = 0 by omega)
    have hnb : nn ≤ 20000 := by omega
    clear hNM hNN hsn hle htz2 hRz hn1 hl0 BT TP
    cases ok with
    | false =>
      have HE := Lib.hid (HNO.out rfl)
      go_enter Tryz.func35, Tryz.ntmps35
      go_wp2_with fail
      refine IL.out.mono ?_
      rintro e w1 ⟨rfl, k1⟩
      have K1 := KA.trans k1
      go_wp2_with fail
      refine (LB.out _).mono ?_
      rintro e w2 ⟨rfl, k2⟩
      have K2 := K1.trans k2
      go_wp2_with fail
      refine (FD.out _ K2).mono ?_
      rintro e w5 ⟨rfl, hm⟩
      have HMM := Lib.hid (fun w q => HPR.out _ _ w K2 hm q)
      clear hm
      go_wp2_with fail
      go_ret3
      exact ⟨congrArg Ending.returned HE.out.symm, HMM.out _ ((Keeps.refl w5).alloc _)⟩
    | true =>
      have HE := Lib.hid (HOK.out rfl)
      go_enter Tryz.func35, Tryz.ntmps35
      go_wp2_with fail
      refine IL.out.mono ?_
      rintro e w1 ⟨rfl, k1⟩
      have K1 := KA.trans k1
      go_wp2_with fail
      refine (LB.out _).mono ?_
      rintro e w2 ⟨rfl, k2⟩
      have K2 := K1.trans k2
      go_wp2_with fail
      refine (FD.out _ K2).mono ?_
      rintro e w5 ⟨rfl, hm⟩
      have HMM := Lib.hid (fun w q => HPR.out _ _ w K2 hm q)
      clear hm
      go_wp2_with fail
      go_region
      all_goals
        go_wp2_with fail
        go_ret3
        exact ⟨congrArg Ending.returned HE.out.symm, HMM.out _ (((Keeps.refl w5).alloc _).drew)⟩
theorem leads_mid (h : MemI W B O s rs p lv bv rv fi pm tm em L) (hp : p.pos < s.size) (hfi : fi + p.br.length + 1 ≤ p.pos) (b : Br) (hb : b.pos ≤ s.size) :
    Calls Tryz.prog 35 #[.pointer (some ⟨B, 0, none⟩), brV b] W fun e w' => e = .returned (ldsV (ldsM s.data.toList rs p b)) ∧ MidI W B O s rs p lv bv rv L w' := by
  by_cases hi : inlN (s.data.toList.drop (p.pos + 1)) = 0
  · exact leads_ref h hp hfi b hb hi
  · exact leads_inl h hp b hi
end
end Go.Proofs.YtklmgbkkjmfhcaaGreatDoor

