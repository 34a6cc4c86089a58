/-
  Texts of the proof, one behind the other: IqD.
-/
import Derived.Test.YtklmgbkkjmfhcaaGreatDoorM35
import Derived.StringKeys
/-
  Contracts of htmlEnd, comes, html.
-/
namespace Go.Proofs.YtklmgbkkjmfhcaaGreatDoor
open Go.RowKit Go.Lib Go.Maps

set_option maxRecDepth 100000 in
set_option maxHeartbeats 2000000 in
theorem htmlEnd_any (s : ByteArray) (w : World) :
    Calls Tryz.prog 54 #[.string s] w fun e w' => e = .returned (.string ⟨(hteL s.data.toList).toArray⟩) ∧ w = w' := by
  have HX := fun (t : ByteArray) w => (Tryz.strings_HasPrefix s t w).mono (fun _ _ h => And.intro h.1 h.2.symm)
  have H1 := Lib.hid (HX ⟨#[60, 33, 45, 45]⟩)
  have H2 := Lib.hid (HX ⟨#[60, 63]⟩)
  have H3 := Lib.hid (HX ⟨#[60, 33, 91, 67, 68, 65, 84, 65, 91]⟩)
  have H4 := Lib.hid (HX ⟨#[60, 33]⟩)
  rw [show (⟨#[60, 33, 45, 45]⟩ : ByteArray).data.toList = [60, 33, 45, 45] from rfl] at H1
  rw [show (⟨#[60, 63]⟩ : ByteArray).data.toList = [60, 63] from rfl] at H2
  rw [show (⟨#[60, 33, 91, 67, 68, 65, 84, 65, 91]⟩ : ByteArray).data.toList = [60, 33, 91, 67, 68, 65, 84, 65, 91] from rfl] at H3
  rw [show (⟨#[60, 33]⟩ : ByteArray).data.toList = [60, 33] from rfl] at H4
  clear HX
  cases h1 : hasPrefix s.data.toList [60, 33, 45, 45] with
  | true =>
    have HE : Hid (hteL s.data.toList = [45, 45, 62]) := Lib.hid (by unfold hteL; rw [if_pos h1])
    rw [h1] at H1
    clear h1 H2 H3 H4
    go_enter Tryz.func54, Tryz.ntmps54
    go_wp2_with fail
    refine (H1.out _).mono ?_
    rintro e w1 ⟨rfl, rfl⟩
    go_wp2_with fail
    go_ret
    exact ⟨congrArg (fun (l : List UInt8) => Ending.returned (.string ⟨l.toArray⟩)) HE.out.symm, rfl⟩
  | false =>
    rw [h1] at H1
    cases h2 : hasPrefix s.data.toList [60, 63] with
    | true =>
      have HE : Hid (hteL s.data.toList = [63, 62]) := Lib.hid (by unfold hteL; rw [if_neg (by rw [h1]; decide), if_pos h2])
      rw [h2] at H2
      clear h1 h2 H3 H4
      go_enter Tryz.func54, Tryz.ntmps54
      go_wp2_with fail
      refine (H1.out _).mono ?_
      rintro e w1 ⟨rfl, rfl⟩
      go_wp2_with fail
      refine (H2.out _).mono ?_
      rintro e w1 ⟨rfl, rfl⟩
      go_wp2_with fail
      go_ret
      exact ⟨congrArg (fun (l : List UInt8) => Ending.returned (.string ⟨l.toArray⟩)) HE.out.symm, rfl⟩
    | false =>
      rw [h2] at H2
      cases h3 : hasPrefix s.data.toList [60, 33, 91, 67, 68, 65, 84, 65, 91] with
      | true =>
        have HE : Hid (hteL s.data.toList = [93, 93, 62]) := Lib.hid (by unfold hteL; rw [if_neg (by rw [h1]; decide), if_neg (by rw [h2]; decide), if_pos h3])
        rw [h3] at H3
        clear h1 h2 h3 H4
        go_enter Tryz.func54, Tryz.ntmps54
        go_wp2_with fail
        refine (H1.out _).mono ?_
        rintro e w1 ⟨rfl, rfl⟩
        go_wp2_with fail
        refine (H2.out _).mono ?_
        rintro e w1 ⟨rfl, rfl⟩
        go_wp2_with fail
        refine (H3.out _).mono ?_
        rintro e w1 ⟨rfl, rfl⟩
        go_wp2_with fail
        go_ret
        exact ⟨congrArg (fun (l : List UInt8) => Ending.returned (.string ⟨l.toArray⟩)) HE.out.symm, rfl⟩
      | false =>
        rw [h3] at H3
        cases h4 : hasPrefix s.data.toList [60, 33] with
        | true =>
          have HE : Hid (hteL s.data.toList = [62]) := Lib.hid (by unfold hteL; rw [if_neg (by rw [h1]; decide), if_neg (by rw [h2]; decide), if_neg (by rw [h3]; decide), if_pos h4])
          rw [h4] at H4
          clear h1 h2 h3 h4
          go_enter Tryz.func54, Tryz.ntmps54
          go_wp2_with fail
          refine (H1.out _).mono ?_
          rintro e w1 ⟨rfl, rfl⟩
          go_wp2_with fail
          refine (H2.out _).mono ?_
          rintro e w1 ⟨rfl, rfl⟩
          go_wp2_with fail
          refine (H3.out _).mono ?_
          rintro e w1 ⟨rfl, rfl⟩
          go_wp2_with fail
          refine (H4.out _).mono ?_
          rintro e w1 ⟨rfl, rfl⟩
          go_wp2_with fail
          go_ret
          exact ⟨congrArg (fun (l : List UInt8) => Ending.returned (.string ⟨l.toArray⟩)) HE.out.symm, rfl⟩
        | false =>
          have HE : Hid (hteL s.data.toList = []) := Lib.hid (by unfold hteL; rw [if_neg (by rw [h1]; decide), if_neg (by rw [h2]; decide), if_neg (by rw [h3]; decide), if_neg (by rw [h4]; decide)])
          rw [h4] at H4
          clear h1 h2 h3 h4
          go_enter Tryz.func54, Tryz.ntmps54
          go_wp2_with fail
          refine (H1.out _).mono ?_
          rintro e w1 ⟨rfl, rfl⟩
          go_wp2_with fail
          refine (H2.out _).mono ?_
          rintro e w1 ⟨rfl, rfl⟩
          go_wp2_with fail
          refine (H3.out _).mono ?_
          rintro e w1 ⟨rfl, rfl⟩
          go_wp2_with fail
          refine (H4.out _).mono ?_
          rintro e w1 ⟨rfl, rfl⟩
          go_wp2_with fail
          go_ret
          exact ⟨congrArg (fun (l : List UInt8) => Ending.returned (.string ⟨l.toArray⟩)) HE.out.symm, rfl⟩
section
variable {W : World} {B : Nat} {O : Nat → Option Nat} {s : ByteArray} {rs : List Rf} {p : Ps} {lv bv rv : Value} {fi : Nat} {pm tm em : Value} {L : List (Pc × Value)}
/-- The map of what ends raw HTML has been made: it is empty. -/
theorem MemI.ended (h : MemI W B O s rs p lv bv rv fi pm tm (.map none) L) :
    ∃ O', MemI ((W.alloc (.map #[] 0)).setCell ⟨B, 9, none⟩ (.map (some W.heap.size))) B O' s rs p lv bv rv fi pm tm (.map (some W.heap.size)) L ∧ Chg W O ((W.alloc (.map #[] 0)).setCell ⟨B, 9, none⟩ (.map (some W.heap.size))) O' ∧ O' W.heap.size = some 4 := by
  have q : Keeps W (W.alloc (.map #[] 0)) := (Keeps.refl W).alloc _
  have hBm : B ≠ W.heap.size := fun e => by have := h.box.lt; omega
  obtain ⟨c, hlt, same⟩ := Chg.made (W' := (W.alloc (.map #[] 0)).setCell ⟨B, 9, none⟩ (.map (some W.heap.size))) W.heap.size 4 q h.lt (Nat.le_refl _) (by simp) h.oB (setCell_size _ _ _) rfl rfl rfl (fun b hb => heap_setCell_other _ ⟨B, 9, none⟩ b _ hb)
  have nB : ∀ b x, O b = some (x + 1) → b ≠ B := fun b x e => h.ne (cls := x) e
  refine ⟨_, h.turn c hlt (fun b hb e => same b hb (by rcases e with e | e <;> exact nB b _ e)) ((h.keep q).box.set 9 (.map (some W.heap.size)) rfl) (h.plc.chg c h.lt fun b hb e => same b hb (nB b 4 e)) (h.tic.chg c h.lt fun b hb e => same b hb (nB b 2 e)) ?_ h.fin, c, upd_at _ _ _⟩
  exact .inr ⟨_, 0, .map [], rfl, upd_at _ _ _, (World.ownsMap_made W _ _ _).setCell hBm.symm _, Nat.zero_le _, EndF.zero _⟩
/-- One more entry. -/
theorem MemI.endPut {m n : Nat} {D : DataW Unit} {t : List UInt8} {w1 : World} (h : MemI W B O s rs p lv bv rv fi pm tm (.map (some m)) L) (hO : O m = some 4) (hD : EndF s.data.toList D) (ho : W.ownsMap Tryz.prog 9 (plainElem Tryz.prog 3) m n D) (ht : t ∈ fourE) (h0 : Maps.has D (.string t) = false)
    (ho1 : w1.ownsMap Tryz.prog 9 (plainElem Tryz.prog 3) m (n + 1) (D.put (.string t) (i64D (lastIndex s.data.toList t)))) (g : W.grownBy w1 (some m)) : MemI w1 B O s rs p lv bv rv fi pm tm (.map (some m)) L ∧ Chg W O w1 O := by
  have c : Chg W O w1 O := ⟨g.os, g.tape, g.output, g.size, fun _ _ => rfl, fun b hb e => g.block b hb (fun x => by cases x; rw [hO] at e; cases e)⟩
  have ne : ∀ b x, O b = some x → x ≠ 4 → b < W.heap.size → w1.heap[b]? = W.heap[b]? := fun b x e hx hb => g.block b hb (fun y => by cases y; rw [hO] at e; cases e; exact hx rfl)
  have hE := hD.put (ho.tidy keyStr) ht h0
  refine ⟨h.turn c (fun b hb => Nat.lt_of_lt_of_le (h.lt b hb) g.size) (fun b hb e => by rcases e with e | e <;> exact ne b _ e (by decide) hb) ?_ (h.plc.chg c h.lt fun b hb e => ne b 5 e (by decide) hb) (h.tic.chg c h.lt fun b hb e => ne b 3 e (by decide) hb) (.inr ⟨m, 4, _, rfl, hO, ownsMap_tight ho1 (Nat.le_trans hE.2 (cn4_le _)), by omega, hE⟩) h.fin, c⟩
  unfold Blk
  rw [ne B 0 h.oB (by decide) h.box.lt]
  exact h.box
theorem lidx_wf (s : ByteArray) (hs : s.size ≤ 20000) (t : List UInt8) : -1 ≤ lastIndex s.data.toList t ∧ lastIndex s.data.toList t ≤ 20001 := by
  unfold lastIndex
  split
  · rcases lastOcc_spec s.data.toList t (s.data.toList.length - t.length + 1) with ⟨h, _⟩ | ⟨i, hi, h, _⟩
    · rw [h]; omega
    · rw [h]
      rw [bytes_len] at hi
      omega
  · omega
set_option maxRecDepth 100000 in
set_option maxHeartbeats 8000000 in
theorem comes_mid (h : MemI W B O s rs p lv bv rv fi pm tm em L) (t : List UInt8) (ht : t ∈ fourE) :
    Calls Tryz.prog 55 #[.pointer (some ⟨B, 0, none⟩), .string ⟨t.toArray⟩] W fun e w' => e = .returned (.bool (decide ((p.pos : Int) < lastIndex s.data.toList t))) ∧ MidI W B O s rs p lv bv rv L w' := by
  have hmm := @run_makeMap Tryz.prog
  have q1 : ∀ w : World, (binOp .eql 35 (.map none) (.map none)).run Tryz.prog w = .ok (.bool true) w := fun w => run_eql_map_nil w _ _ _ none Tryz.underlying35
  have q2 : ∀ (w : World) (m : Nat), (binOp .eql 35 (.map (some m)) (.map none)).run Tryz.prog w = .ok (.bool false) w := fun w m => run_eql_map_nil w _ _ _ (some m) Tryz.underlying35
  have hsiz := h.siz
  have hlw := lidx_wf s hsiz t
  have htz : t.length ≤ 3 := by
    unfold fourE at ht
    simp only [List.mem_cons, List.not_mem_nil, or_false] at ht
    rcases ht with rfl | rfl | rfl | rfl <;> decide
  have hkey : keyOf Tryz.prog 9 (.string ⟨t.toArray⟩) = some (.string t) := Go.WideMaps.keyOf_string_mk (s := ⟨t.toArray⟩) Tryz.underlying9 (by show t.toArray.size ≤ _; unfold maxLen; simp; omega)
  have hval : plainElem (H := Unit) Tryz.prog 3 (.int .i64 (lastIndex s.data.toList t)) = some (.lit (.int .i64 (lastIndex s.data.toList t)), []) := plainElem_int Tryz.underlying3 (WalkArith.wf_i64 ⟨by omega, by omega⟩)
  have LI := Lib.hid (fun w => (Tryz.strings_LastIndex s ⟨t.toArray⟩ (by omega) w).mono (fun _ _ h => And.intro h.1 h.2.symm))
  rw [show (⟨t.toArray⟩ : ByteArray).data.toList = t from rfl] at LI
  have HLW := Lib.hid hlw
  obtain ⟨V, hV⟩ : ∃ V, lastIndex s.data.toList t = V := ⟨_, rfl⟩
  have HV := Lib.hid hV
  rw [hV] at hval LI hlw ⊢
  have HM := Lib.hid h
  have b0 := h.box.cell 0 (v := .string s) rfl
  have b9 := h.box.cell 9 (v := em) rfl
  have f9 := h.box.free 9
  obtain ⟨sx, hsx⟩ : ∃ sx : ByteArray, (⟨t.toArray⟩ : ByteArray) = sx := ⟨_, rfl⟩
  rw [hsx] at hkey LI ⊢
  -- what the look-up tells
  have hlook : ∃ (v : Int) (b : Bool), (Instr.lookup 35 em (.string sx) true).run Tryz.prog W = .ok (.tuple #[.int .i64 v, .bool b]) W ∧ (b = true → v = V) ∧
      (b = false → em = .map none ∨ ∃ m n D, em = .map (some m) ∧ O m = some 4 ∧ W.ownsMap Tryz.prog 9 (plainElem Tryz.prog 3) m n D ∧ n ≤ 100000 ∧ EndF s.data.toList D ∧ Maps.has D (.string t) = false) := by
    rcases h.ens with e | ⟨m, n, D, e, hO, ho, hn, hF⟩
    · refine ⟨0, false, ?_, (fun e => by cases e), fun _ => .inl e⟩
      rw [e]
      exact Maps.look_nil true keyStr Tryz.underlying35 (zeroInt _) hkey
    · obtain ⟨v, ps, hr, hv⟩ := ho.look_ok keyStr Tryz.underlying35 (zeroInt _) (plainElem_int Tryz.underlying3 (by decide)) hkey
      obtain ⟨c, rfl, hc, _⟩ := plainElem_int_inv Tryz.underlying3 hv
      refine ⟨c, Maps.has D (.string t), by rw [e]; exact hr, fun hb => ?_, fun hb => .inr ⟨m, n, D, e, hO, ho, hn, hF, hb⟩⟩
      have h1 := hF.1 t hb
      have h2 : D.atKey (.string t) (i64D 0) = i64D c := congrArg Prod.fst hc
      rw [h2] at h1
      unfold i64D at h1
      injection h1 with h1
      injection h1 with _ h1
      rw [h1, HV.out]
  obtain ⟨v, b, hrun, hb1, hb2⟩ := hlook
  clear h hV hsx htz
  go_enter Tryz.func55, Tryz.ntmps55
  go_upto_if 17 with fail
  go_cut [5] (fun u wx => u = .int .i64 V ∧ Hid (MidI W B O s rs p lv bv rv L wx))
  case first =>
    cases b with
    | true =>
      obtain rfl := hb1 rfl
      go_wp2_with fail
      go_meet
      case rel => exact ⟨rfl, Lib.hid HM.out.mid⟩
    | false =>
      rcases hb2 rfl with rfl | ⟨m, n, D, rfl, hO, ho, hn, hF, h0⟩
      · obtain ⟨O1, M1, C1, hO1⟩ := HM.out.ended
        have HM1 := Lib.hid M1
        have HC1 := Lib.hid C1
        have c9 := M1.box.cell 9 (v := .map (some W.heap.size)) rfl
        have ho1 : ((W.alloc (.map #[] 0)).setCell ⟨B, 9, none⟩ (.map (some W.heap.size))).ownsMap Tryz.prog 9 (plainElem (H := Unit) Tryz.prog 3) W.heap.size 0 (.map []) := (World.ownsMap_made W _ _ _).setCell (fun e => by have := HM.out.box.lt; change W.heap.size = B at e; omega) _
        have y9 := (HM.out.box.alloc (.map #[] 0)).free 9
        have y8 := (HM.out.box.alloc (.map #[] 0)).cell 9 (v := .map none) rfl
        clear M1 C1
        go_wp2_with (first
          | (go_at_call 91; (with_reducible refine (LI.out _).mono ?_); rintro e w1 ⟨rfl, rfl⟩)
          | (at_mapUpdate; refine wpList_mapUpdate_own _ rfl _ _ _ 35 rfl 9 3 keyStr Tryz.underlying35 _ W.heap.size 0 _ rfl ho1 (by unfold maxLen; omega) _ _ _ rfl rfl hkey _ [] hval ?_; intro w1 hown1 hgrow1)
          | fail)
        go_meet
        case rel =>
          have hh := HM1.out.endPut hO1 (EndF.zero _) ho1 ht rfl (by rw [HV.out]; exact hown1) hgrow1
          exact ⟨rfl, Lib.hid (hh.1.midOf (HC1.out.trans hh.2) (Keeps.refl _))⟩
      · have hmx : n < maxLen := by unfold maxLen; omega
        have HF := Lib.hid hF
        have HO := Lib.hid hO
        have H0 := Lib.hid h0
        clear hF h0 hn
        go_wp2_with (first
          | (go_at_call 91; (with_reducible refine (LI.out _).mono ?_); rintro e w1 ⟨rfl, rfl⟩)
          | (at_mapUpdate; refine wpList_mapUpdate_own _ rfl _ _ _ 35 rfl 9 3 keyStr Tryz.underlying35 _ m n _ rfl ho hmx _ _ _ rfl rfl hkey _ [] hval ?_; intro w1 hown1 hgrow1)
          | fail)
        go_meet
        case rel =>
          have hh := HM.out.endPut HO.out HF.out ho ht H0.out (by rw [HV.out]; exact hown1) hgrow1
          exact ⟨rfl, Lib.hid (hh.1.midOf hh.2 (Keeps.refl _))⟩
  case rest =>
    obtain ⟨rfl, HX⟩ := hcut
    obtain ⟨x0, x1⟩ := HX.out.cell (Keeps.refl _)
    go_wp2_with fail
    go_ret
    exact ⟨rfl, HX.out⟩
end
end Go.Proofs.YtklmgbkkjmfhcaaGreatDoor

