/-
  Texts of the proof, one behind the other: BkH, BkT.
-/
import Derived.Test.YtfgpephpkibbaaaGreatDoorQ41
import Derived.Test.YtfgpephpkibbaaaGreatDoorQ39
import Derived.Test.YtfgpephpkibbaaaGreatDoorQ42
/-
  Contract of block's rest. (Written by wip/tools/bkrest.py.)
-/
namespace Go.Proofs.YtfgpephpkibbaaaGreatDoor
open Go.RowKit Go.Lib

section
variable {W : World} {B : Nat} {O : Nat → Option Nat} {s : St} {rv : Value} {tv : Nat → Value} {xs : List Value} {sb : ByteArray} {k g n cap : Nat}
set_option maxRecDepth 100000 in
set_option maxHeartbeats 20000000 in
theorem rest_any' (h : Mem W B O s (.slice (some ⟨g, 0, none⟩) n cap) rv tv xs sb k) (hw : Wf s.list s.tip) {i : Nat} (ho : On s.list s.tip i) (what : Nat) (hp : phi s ≤ 70000) (hlen : s.list.length ≤ 80000) :
    Calls Tryz.prog 31 #[.pointer (some ⟨B, 0, none⟩), .int .i64 i, .int .i64 what] W fun e w' => e = .returned (.tuple #[]) ∧ Post W B O (restM s i what) w' := by
  have hn := h.num.1
  have HF : Hid (restM s i what = _) := Lib.hid (restM.eq_1 s i what)
  obtain ⟨E, hE⟩ : ∃ E, restM s i what = E := ⟨_, rfl⟩
  rw [hE] at HF ⊢
  clear hE
  by_cases w0 : what = 0
  · subst w0
    rw [if_pos rfl] at HF
    have hib := h.lw.bound.2
    have hsz := h.siz
    have SK := Lib.hid (fun W' (q : Keeps W W') => lskip_any (h.keep q) s.line.ind (by omega))
    have y7 := h.box.cell 7 (v := .int .i64 s.line.ind) rfl
    have HW := Lib.hid hw
    have HO := Lib.hid ho
    have HP := Lib.hid hp
    have HL := Lib.hid hlen
    obtain ⟨s1, hs1⟩ : ∃ s1, s.atL (skipBM s.line s.line.ind) = s1 := ⟨_, rfl⟩
    have e1 : s1.list = s.list ∧ s1.tip = s.tip ∧ s1.line.next = s.line.next ∧ phi s1 = phi s := by rw [← hs1]; exact ⟨rfl, rfl, rfl, rfl⟩
    have E1 := Lib.hid e1
    rw [hs1] at SK HF
    have HT := Lib.hid hw.tip
    clear h hw ho hp hlen hs1 e1
    go_enter Tryz.func31, Tryz.ntmps31
    go_wp2_with fail
    go_still_tail 8, (by kernel_rfl)
    change wpList _ _ _ _ _ W.drew
    have K1 := Lib.hid ((Keeps.refl W).drew)
    generalize W.drew = W1 at *
    go_wp2_with fail
    refine (SK.out _ K1.out).mono ?_
    rintro e w1 ⟨rfl, q1⟩
    obtain ⟨O1, rv1, tv1, xs1, sb1, k1, h1, c1⟩ := NPost.from K1.out q1
    have y1 : w1.cell? ⟨B, 1, none⟩ = some (.int .i64 s1.tip) := h1.box.cell 1 rfl
    have TI := Lib.hid (tipIs_any h1 (by rw [E1.out.1, E1.out.2.1]; exact HT.out) 5)
    have BL := Lib.hid (fun (m : Nat) => lblank_any (h1.keep ((Keeps.refl w1).drewN m)))
    have hkd : (s1.nd s1.tip).kind = (s.nd s.tip).kind := by unfold St.nd; rw [E1.out.1, E1.out.2.1]
    rw [hkd] at TI
    rw [E1.out.2.2.1] at BL
    clear q1 SK y7 K1
    by_cases kp : (s.nd s.tip).kind = 5
    · rw [decide_eq_true kp] at TI
      by_cases kb : s.line.next = []
      · rw [decide_eq_true kb] at BL
        have HE : Hid (fillM (endBlankM (cwM s1 i) i) i = E) := Lib.hid (by rw [HF.out, if_neg (fun q => q.2 kb)])
        clear HF kp kb hkd
        go_wp2_with fail
        refine TI.out.mono ?_
        rintro e w1' ⟨rfl, m, rfl⟩
        go_wp2_with fail
        refine (BL.out m).mono ?_
        rintro e w1' ⟨rfl, rfl⟩
        have h1 := h1.keep ((Keeps.refl w1).drewN m)
        have c1 := c1.trans (Chg.keeps O1 ((Keeps.refl w1).drewN m))
        clear y1
        generalize w1.drewN m = w1b at *
        have w1f : Wf s1.list s1.tip := by rw [E1.out.1, E1.out.2.1]; exact HW.out
        have o1n : On s1.list s1.tip i := by rw [E1.out.1, E1.out.2.1]; exact HO.out
        have p1 : phi s1 ≤ 100000 := by rw [E1.out.2.2.2]; have := HP.out; omega
        have p2 : phi s1 ≤ 70000 := by rw [E1.out.2.2.2]; exact HP.out
        have l1 : s1.list.length ≤ 80000 := by rw [E1.out.1]; exact HL.out
        have CW := Lib.hid (closeWithin_any h1 w1f o1n p1)
        have hcw := cw_ok w1f o1n
        have cpw := (Cap.cw (s := s1) (a := s1.list.length) (b := 70000) ⟨Nat.le_refl _, p2⟩ i).txt
        have eb := endBlank_keep (cw_wf w1f o1n) i
        have CK := Lib.hid hcw
        have HEB := Lib.hid eb
        have CPW := Lib.hid cpw
        have hil : i < (cwM s1 i).list.length := by have := hcw.1.tip; omega
        have cwf := Lib.hid (cw_wf w1f o1n)
        have C1 := Lib.hid c1
        have L1 := Lib.hid (show (cwM s1 i).list.length ≤ 80000 by rw [hcw.2.2.1.1]; exact l1)
        clear h1 w1f o1n p1 p2 l1 c1 hcw cpw eb
        go_wp2_with fail
        refine CW.out.mono ?_
        rintro e w2 ⟨rfl, O2, rv2, tv2, xs2, sb2, k2, h2, c2⟩
        have EB := Lib.hid (endBlank_any h2 cwf.out hil)
        have C2 := Lib.hid (C1.out.trans c2)
        clear h2 c2 CW C1
        go_wp2_with fail
        refine EB.out.mono ?_
        rintro e w3 ⟨rfl, O3, rv3, tv3, xs3, sb3, k3, h3, c3⟩
        have FI := Lib.hid (fill_any h3 (i := i) (by rw [HEB.out.2.2.2.2.1]; exact HEB.out.1) (by rw [HEB.out.2.1]; exact hil) (fun q => by
          rw [HEB.out.2.2.2.2.1, CK.out.2.1]
          intro e0
          rw [HEB.out.2.2.2.1, (fun z => by rw [e0] : ∀ z : St, z.nd i = z.nd 0)] at q
          have := CK.out.1.doc
          unfold St.nd at q
          omega) (by rw [HEB.out.2.2.1]; have := CPW.out; omega) (by rw [HEB.out.2.1]; have := L1.out; omega))
        have C3 := Lib.hid (C2.out.trans c3)
        clear h3 c3 EB C2
        go_wp2_with fail
        refine FI.out.mono ?_
        rintro e w4 ⟨rfl, q4⟩
        have R := Lib.hid (Post.trans C3.out q4)
        rw [HE.out] at R
        clear q4 FI C3
        go_wp2_with fail
        go_end0
        exact ⟨rfl, R.out⟩
      · rw [decide_eq_false kb] at BL
        have PU := Lib.hid (fun m => putB_any (h1.keep ((Keeps.refl w1).drewN m)) (i := s1.tip) (by rw [E1.out.1, E1.out.2.1]; exact HT.out) (by rw [E1.out.2.2.2]; have := HP.out; omega))
        have HE : Hid (putM s1 s1.tip = E) := Lib.hid (by rw [HF.out, if_pos ⟨kp, kb⟩, E1.out.2.1])
        have C1 := Lib.hid c1
        clear HF kp kb hkd h1 c1
        go_wp2_with fail
        refine TI.out.mono ?_
        rintro e w1' ⟨rfl, m, rfl⟩
        go_wp2_with fail
        refine (BL.out m).mono ?_
        rintro e w1' ⟨rfl, rfl⟩
        go_wp2_with fail
        refine (PU.out m).mono ?_
        rintro e w2 ⟨rfl, q2⟩
        have R := Lib.hid (NPost.trans (C1.out.trans (Chg.keeps O1 ((Keeps.refl w1).drewN m))) q2).post
        rw [HE.out] at R
        clear q2 PU
        go_wp2_with fail
        refine bodyPost_ret (results_none rfl _ _ _) rfl ?_
        exact ⟨rfl, R.out⟩
    · rw [decide_eq_false kp] at TI
      have HE : Hid (fillM (endBlankM (cwM s1 i) i) i = E) := Lib.hid (by rw [HF.out, if_neg (fun q => kp q.1)])
      clear HF kp hkd BL
      go_wp2_with fail
      refine TI.out.mono ?_
      rintro e w1' ⟨rfl, m, rfl⟩
      have h1 := h1.keep ((Keeps.refl w1).drewN m)
      have c1 := c1.trans (Chg.keeps O1 ((Keeps.refl w1).drewN m))
      clear y1
      generalize w1.drewN m = w1b at *
      have w1f : Wf s1.list s1.tip := by rw [E1.out.1, E1.out.2.1]; exact HW.out
      have o1n : On s1.list s1.tip i := by rw [E1.out.1, E1.out.2.1]; exact HO.out
      have p1 : phi s1 ≤ 100000 := by rw [E1.out.2.2.2]; have := HP.out; omega
      have p2 : phi s1 ≤ 70000 := by rw [E1.out.2.2.2]; exact HP.out
      have l1 : s1.list.length ≤ 80000 := by rw [E1.out.1]; exact HL.out
      have CW := Lib.hid (closeWithin_any h1 w1f o1n p1)
      have hcw := cw_ok w1f o1n
      have cpw := (Cap.cw (s := s1) (a := s1.list.length) (b := 70000) ⟨Nat.le_refl _, p2⟩ i).txt
      have eb := endBlank_keep (cw_wf w1f o1n) i
      have CK := Lib.hid hcw
      have HEB := Lib.hid eb
      have CPW := Lib.hid cpw
      have hil : i < (cwM s1 i).list.length := by have := hcw.1.tip; omega
      have cwf := Lib.hid (cw_wf w1f o1n)
      have C1 := Lib.hid c1
      have L1 := Lib.hid (show (cwM s1 i).list.length ≤ 80000 by rw [hcw.2.2.1.1]; exact l1)
      clear h1 w1f o1n p1 p2 l1 c1 hcw cpw eb
      go_wp2_with fail
      refine CW.out.mono ?_
      rintro e w2 ⟨rfl, O2, rv2, tv2, xs2, sb2, k2, h2, c2⟩
      have EB := Lib.hid (endBlank_any h2 cwf.out hil)
      have C2 := Lib.hid (C1.out.trans c2)
      clear h2 c2 CW C1
      go_wp2_with fail
      refine EB.out.mono ?_
      rintro e w3 ⟨rfl, O3, rv3, tv3, xs3, sb3, k3, h3, c3⟩
      have FI := Lib.hid (fill_any h3 (i := i) (by rw [HEB.out.2.2.2.2.1]; exact HEB.out.1) (by rw [HEB.out.2.1]; exact hil) (fun q => by
        rw [HEB.out.2.2.2.2.1, CK.out.2.1]
        intro e0
        rw [HEB.out.2.2.2.1, (fun z => by rw [e0] : ∀ z : St, z.nd i = z.nd 0)] at q
        have := CK.out.1.doc
        unfold St.nd at q
        omega) (by rw [HEB.out.2.2.1]; have := CPW.out; omega) (by rw [HEB.out.2.1]; have := L1.out; omega))
      have C3 := Lib.hid (C2.out.trans c3)
      clear h3 c3 EB C2
      go_wp2_with fail
      refine FI.out.mono ?_
      rintro e w4 ⟨rfl, q4⟩
      have R := Lib.hid (Post.trans C3.out q4)
      rw [HE.out] at R
      clear q4 FI C3
      go_wp2_with fail
      go_end0
      exact ⟨rfl, R.out⟩
  · rw [if_neg w0] at HF
    have t0 := beqF (show ¬ (what : Int) = 0 by omega)
    obtain ⟨s1, hs1⟩ : ∃ s1, s = s1 := ⟨_, rfl⟩
    subst hs1
    have h1 := h
    have w1f := hw
    have o1n := ho
    have p1 : phi s ≤ 100000 := by omega
    have p2 := hp
    have l1 := hlen
    have c1 := Chg.refl W O
    by_cases w3 : what = 3
    · have HE : Hid (endBlankM (cwM s i) i = E) := Lib.hid (by rw [HF.out, if_neg (fun q => q w3)])
      subst w3
      clear h hw ho hp hlen HF w0
      go_enter Tryz.func31, Tryz.ntmps31
      have CW := Lib.hid (closeWithin_any h1 w1f o1n p1)
      have hcw := cw_ok w1f o1n
      have cpw := (Cap.cw (s := s) (a := s.list.length) (b := 70000) ⟨Nat.le_refl _, p2⟩ i).txt
      have eb := endBlank_keep (cw_wf w1f o1n) i
      have CK := Lib.hid hcw
      have HEB := Lib.hid eb
      have CPW := Lib.hid cpw
      have hil : i < (cwM s i).list.length := by have := hcw.1.tip; omega
      have cwf := Lib.hid (cw_wf w1f o1n)
      have C1 := Lib.hid c1
      have L1 := Lib.hid (show (cwM s i).list.length ≤ 80000 by rw [hcw.2.2.1.1]; exact l1)
      clear h1 w1f o1n p1 p2 l1 c1 hcw cpw eb
      go_wp2_with fail
      refine CW.out.mono ?_
      rintro e w2 ⟨rfl, O2, rv2, tv2, xs2, sb2, k2, h2, c2⟩
      have EB := Lib.hid (endBlank_any h2 cwf.out hil)
      have C2 := Lib.hid (C1.out.trans c2)
      clear h2 c2 CW C1
      go_wp2_with fail
      refine EB.out.mono ?_
      rintro e w3 ⟨rfl, O3, rv3, tv3, xs3, sb3, k3, h3, c3⟩
      have R := Lib.hid (show Post W B O E w3 from Post.trans C2.out (by rw [← HE.out]; exact ⟨O3, ⟨_, _, _, _, _, _, h3⟩, c3⟩))
      clear h3 c3 EB C2
      go_wp2_with fail
      go_end0
      exact ⟨rfl, R.out⟩
    · have HE : Hid (fillM (endBlankM (cwM s i) i) i = E) := Lib.hid (by rw [HF.out, if_pos w3])
      have t3 := beqF (show ¬ (what : Int) = 3 by omega)
      have t3' : ((what : Int) != 3) = true := by rw [bne, t3]; rfl
      clear h hw ho hp hlen HF w0 w3
      go_enter Tryz.func31, Tryz.ntmps31
      have CW := Lib.hid (closeWithin_any h1 w1f o1n p1)
      have hcw := cw_ok w1f o1n
      have cpw := (Cap.cw (s := s) (a := s.list.length) (b := 70000) ⟨Nat.le_refl _, p2⟩ i).txt
      have eb := endBlank_keep (cw_wf w1f o1n) i
      have CK := Lib.hid hcw
      have HEB := Lib.hid eb
      have CPW := Lib.hid cpw
      have hil : i < (cwM s i).list.length := by have := hcw.1.tip; omega
      have cwf := Lib.hid (cw_wf w1f o1n)
      have C1 := Lib.hid c1
      have L1 := Lib.hid (show (cwM s i).list.length ≤ 80000 by rw [hcw.2.2.1.1]; exact l1)
      clear h1 w1f o1n p1 p2 l1 c1 hcw cpw eb
      go_wp2_with fail
      refine CW.out.mono ?_
      rintro e w2 ⟨rfl, O2, rv2, tv2, xs2, sb2, k2, h2, c2⟩
      have EB := Lib.hid (endBlank_any h2 cwf.out hil)
      have C2 := Lib.hid (C1.out.trans c2)
      clear h2 c2 CW C1
      go_wp2_with fail
      refine EB.out.mono ?_
      rintro e w3 ⟨rfl, O3, rv3, tv3, xs3, sb3, k3, h3, c3⟩
      have FI := Lib.hid (fill_any h3 (i := i) (by rw [HEB.out.2.2.2.2.1]; exact HEB.out.1) (by rw [HEB.out.2.1]; exact hil) (fun q => by
        rw [HEB.out.2.2.2.2.1, CK.out.2.1]
        intro e0
        rw [HEB.out.2.2.2.1, (fun z => by rw [e0] : ∀ z : St, z.nd i = z.nd 0)] at q
        have := CK.out.1.doc
        unfold St.nd at q
        omega) (by rw [HEB.out.2.2.1]; have := CPW.out; omega) (by rw [HEB.out.2.1]; have := L1.out; omega))
      have C3 := Lib.hid (C2.out.trans c3)
      clear h3 c3 EB C2
      go_wp2_with fail
      refine FI.out.mono ?_
      rintro e w4 ⟨rfl, q4⟩
      have R := Lib.hid (Post.trans C3.out q4)
      rw [HE.out] at R
      clear q4 FI C3
      go_wp2_with fail
      go_end0
      exact ⟨rfl, R.out⟩
end
end Go.Proofs.YtfgpephpkibbaaaGreatDoor

/-
  Contract of block's take.
-/
namespace Go.Proofs.YtfgpephpkibbaaaGreatDoor
open Go.RowKit Go.Lib

section
variable {W : World} {B : Nat} {O : Nat → Option Nat} {s : St}
theorem chg_set (h : O B ≠ none) (W : World) (i : Nat) (v : Value) : Chg W O (W.setCell ⟨B, i, none⟩ v) O :=
  ⟨rfl, rfl, rfl, by rw [setCell_size]; exact Nat.le_refl _, fun _ _ => rfl, fun b _ h0 => heap_setCell_other W ⟨B, i, none⟩ b v (fun e => h ((congrArg O e).symm.trans h0))⟩
theorem ln_box (lv rv : Value) (sb : ByteArray) (k : Nat) (s : St) (t : ByteArray) :
    (((((((boxC lv rv sb k s).setIfInBounds 3 (.string t)).setIfInBounds 4 (.int .i64 0)).setIfInBounds 5 (.int .i64 0)).setIfInBounds 6 (.int .i64 0)).setIfInBounds 7 (.int .i64 (indL 0 0 t.data.toList))).setIfInBounds 8 (.string ⟨(nextL t.data.toList).toArray⟩)) = boxC lv rv t 0 (s.atL (newLn t.data.toList)) := rfl
/-- A line is laid into the parser. -/
theorem Mem.lined {lv rv : Value} {tv : Nat → Value} {xs : List Value} {sb : ByteArray} {k : Nat} (h : Mem W B O s lv rv tv xs sb k) (t : ByteArray) (ht : t.size ≤ 10000) :
    Mem ((((((W.setCell ⟨B, 3, none⟩ (.string t)).setCell ⟨B, 4, none⟩ (.int .i64 0)).setCell ⟨B, 5, none⟩ (.int .i64 0)).setCell ⟨B, 6, none⟩ (.int .i64 0)).setCell ⟨B, 7, none⟩ (.int .i64 (indL 0 0 t.data.toList))).setCell ⟨B, 8, none⟩ (.string ⟨(nextL t.data.toList).toArray⟩)) B O (s.atL (newLn t.data.toList)) lv rv tv xs t 0 ∧
      Chg W O ((((((W.setCell ⟨B, 3, none⟩ (.string t)).setCell ⟨B, 4, none⟩ (.int .i64 0)).setCell ⟨B, 5, none⟩ (.int .i64 0)).setCell ⟨B, 6, none⟩ (.int .i64 0)).setCell ⟨B, 7, none⟩ (.int .i64 (indL 0 0 t.data.toList))).setCell ⟨B, 8, none⟩ (.string ⟨(nextL t.data.toList).toArray⟩)) O := by
  have hb := (((((h.box.set 3 (.string t) rfl).set 4 (.int .i64 0) rfl).set 5 (.int .i64 0) rfl).set 6 (.int .i64 0) rfl).set 7 (.int .i64 (indL 0 0 t.data.toList)) rfl).set 8 (.string ⟨(nextL t.data.toList).toArray⟩) (ln_box lv rv sb k s t)
  have hsz : ((((((W.setCell ⟨B, 3, none⟩ (.string t)).setCell ⟨B, 4, none⟩ (.int .i64 0)).setCell ⟨B, 5, none⟩ (.int .i64 0)).setCell ⟨B, 6, none⟩ (.int .i64 0)).setCell ⟨B, 7, none⟩ (.int .i64 (indL 0 0 t.data.toList))).setCell ⟨B, 8, none⟩ (.string ⟨(nextL t.data.toList).toArray⟩)).heap.size = W.heap.size := by
    simp only [setCell_size]
  have ho : ∀ b, b ≠ B → ((((((W.setCell ⟨B, 3, none⟩ (.string t)).setCell ⟨B, 4, none⟩ (.int .i64 0)).setCell ⟨B, 5, none⟩ (.int .i64 0)).setCell ⟨B, 6, none⟩ (.int .i64 0)).setCell ⟨B, 7, none⟩ (.int .i64 (indL 0 0 t.data.toList))).setCell ⟨B, 8, none⟩ (.string ⟨(nextL t.data.toList).toArray⟩)).heap[b]? = W.heap[b]? := fun b hb => by
    rw [heap_setCell_other _ ⟨B, 8, none⟩ b _ hb, heap_setCell_other _ ⟨B, 7, none⟩ b _ hb, heap_setCell_other _ ⟨B, 6, none⟩ b _ hb, heap_setCell_other _ ⟨B, 5, none⟩ b _ hb, heap_setCell_other _ ⟨B, 4, none⟩ b _ hb, heap_setCell_other _ ⟨B, 3, none⟩ b _ hb]
  have hB : O B ≠ none := by rw [h.oB]; simp
  have hc := (((((chg_set hB W 3 (.string t)).trans (chg_set hB _ 4 (.int .i64 0))).trans (chg_set hB _ 5 (.int .i64 0))).trans (chg_set hB _ 6 (.int .i64 0))).trans (chg_set hB _ 7 (.int .i64 (indL 0 0 t.data.toList)))).trans (chg_set hB _ 8 (.string ⟨(nextL t.data.toList).toArray⟩))
  have hl := Lw.start t.data.toList
  rw [bytes_len] at hl
  exact ⟨h.boxed (s' := s.atL (newLn t.data.toList)) rfl rfl hb hsz ho hc rfl (Nat.zero_le _) ht hl, hc⟩
set_option maxRecDepth 100000 in
set_option maxHeartbeats 8000000 in
theorem take_par (p : Par W B O s) (w : Wf s.list s.tip) (t : ByteArray) (ht : t.size ≤ 10000) (hl : s.list.length + 2 * t.size ≤ 70000) (hp : phi s + 2 * t.size ≤ 60000) :
    Calls Tryz.prog 20 #[.pointer (some ⟨B, 0, none⟩), .string t] W fun e w' => e = .returned (.tuple #[]) ∧ Post W B O (takeM s t.data.toList) w' := by
  obtain ⟨g, cap, rv, tv, xs, sb, k, m⟩ := p.form (Nat.lt_of_le_of_lt (Nat.zero_le _) w.tip)
  have NL := Lib.hid (newLine_any t W (by omega))
  unfold lnV at NL
  have M1 := Lib.hid (fun W' (q : Keeps W W') => (m.keep q).lined t ht)
  have Y := Lib.hid (fun W' (q : Keeps W W') => (m.keep q).box)
  have HW := Lib.hid w
  have HL := Lib.hid hl
  have HP := Lib.hid hp
  have htl := bytes_len t
  have hcp := m.num
  obtain ⟨E, hE⟩ : ∃ E, takeM s t.data.toList = E := ⟨_, rfl⟩
  rw [hE]
  have HE := Lib.hid (show lineM (startM s t.data.toList) = E from hE)
  have MM := Lib.hid (matched_mt (s := startM s t.data.toList) w (Lw.start t.data.toList))
  clear p w hl hp m hE
  generalize hI : indL 0 0 t.data.toList = I at *
  generalize hX : (⟨(nextL t.data.toList).toArray⟩ : ByteArray) = X at *
  clear hI hX
  go_enter Tryz.func20, Tryz.ntmps20
  go_wp2_with fail
  refine NL.out.mono ?_
  rintro e w1 ⟨rfl, q1⟩
  have y1 := Y.out w1 q1
  obtain ⟨m1, c1⟩ := M1.out w1 q1
  have z3 := y1.cell 3 (v := (.string sb)) rfl
  have f3 := y1.free 3
  have b1 := y1.set 3 (.string t) rfl
  have z4 := b1.cell 4 (v := (.int .i64 k)) rfl
  have f4 := b1.free 4
  have b2 := b1.set 4 (.int .i64 0) rfl
  have z5 := b2.cell 5 (v := (.int .i64 s.line.c)) rfl
  have f5 := b2.free 5
  have b3 := b2.set 5 (.int .i64 0) rfl
  have z6 := b3.cell 6 (v := (.int .i64 s.line.f)) rfl
  have f6 := b3.free 6
  have b4 := b3.set 6 (.int .i64 0) rfl
  have z7 := b4.cell 7 (v := (.int .i64 s.line.ind)) rfl
  have f7 := b4.free 7
  have b5 := b4.set 7 (.int .i64 (I : Nat)) rfl
  have z8 := b5.cell 8 (v := (.string ⟨s.line.next.toArray⟩)) rfl
  have f8 := b5.free 8
  have b6 := b5.set 8 (.string X) rfl
  have C1 := Lib.hid ((Chg.keeps O q1).trans c1)
  have H1 := Lib.hid m1
  have y0 : ((((((w1.setCell ⟨B, 3, none⟩ (.string t)).setCell ⟨B, 4, none⟩ (.int .i64 0)).setCell ⟨B, 5, none⟩ (.int .i64 0)).setCell ⟨B, 6, none⟩ (.int .i64 0)).setCell ⟨B, 7, none⟩ (.int .i64 (I : Nat))).setCell ⟨B, 8, none⟩ (.string X)).cell? ⟨B, 0, none⟩ = some (.slice (some ⟨g, 0, none⟩) s.list.length cap) := m1.box.cell 0 rfl
  have y9 := m1.box.cell 9 (v := .int .i64 s.known) rfl
  have f9 := m1.box.free 9
  have m2 := m1.set1 (s' := startM s t.data.toList) 9 (.int .i64 (s.list.length : Nat)) rfl rfl rfl rfl
  have c2 := m1.chg1 9 (.int .i64 (s.list.length : Nat))
  have C2 := Lib.hid (C1.out.trans c2)
  have H2 := Lib.hid m2
  have MA := Lib.hid (matched_any m2 HW.out (by show phi s ≤ _; have := HP.out; omega))
  clear m1 c1 b1 b2 b3 b4 b5 b6 q1 M1 Y NL m2 c2 y1 H1 C1 H2
  go_wp2_with fail
  refine MA.out.mono ?_
  rintro e w3 ⟨rfl, O3, rv3, tv3, xs3, sb3, k3, h3, c3⟩
  have C3 := Lib.hid (C2.out.trans c3)
  have H3 := Lib.hid h3
  clear h3 c3 C2 MA z3 z4 z5 z6 z7 z8 f3 f4 f5 f6 f7 f8 y0 y9 f9
  have HU : Hid (lineM (startM s t.data.toList) = _) := Lib.hid (lineM.eq_1 (startM s t.data.toList))
  rw [HE.out] at HU
  generalize hr : matchedM (startM s t.data.toList) = rr at *
  obtain ⟨r1, ra, rd⟩ := rr
  dsimp only at H3 HU
  clear hr HE
  cases rd with
  | true =>
    rw [if_pos rfl] at HU
    have R := Lib.hid (show Post W B O E w3 from ⟨O3, by rw [HU.out]; exact ⟨_, _, _, _, _, _, H3.out⟩, C3.out⟩)
    clear HU MM H3 C3
    go_wp2_with fail
    refine bodyPost_ret (results_none rfl _ _ _) rfl ?_
    exact ⟨rfl, R.out⟩
  | false =>
    rw [if_neg (by simp)] at HU
    obtain ⟨l, h1, h2, h4, h5⟩ := MM.out.no rfl
    dsimp only at h1 h2
    subst h1
    have hsz := HL.out
    have hph := HP.out
    have h6 := h4.rem
    have k : Ok ((startM s t.data.toList).atL l) ra := ⟨HW.out, h2, by show phi s ≤ _; omega, by show s.list.length ≤ _; omega⟩
    have BG := Lib.hid (begun_par (i := ra) ⟨_, _, _, _, _, _, H3.out⟩ k (by show s.list.length + 2 * l.rem.length ≤ _; omega))
    have bn := begun_bn k (a := s.list.length + 2 * t.size) (b := phi s) h4 (by omega) (by show s.list.length + 2 * l.rem.length ≤ _; omega) (Nat.le_refl _) (by omega) (by omega)
    generalize hb : begunM ((startM s t.data.toList).atL l) ra = r at *
    obtain ⟨s2, at2, what⟩ := r
    have w2 := bn.wf
    have o2 := bn.on
    have l2 := bn.cap.len
    have p2 := bn.cap.txt
    dsimp only at w2 o2 l2 p2 HU BG
    have W2 := Lib.hid w2
    have O2 := Lib.hid o2
    have L2 := Lib.hid (show s2.list.length ≤ 80000 by omega)
    have P2 := Lib.hid (show phi s2 ≤ 70000 by omega)
    clear H3 MM h2 h4 h5 h6 k bn hb w2 o2 l2 p2 hsz hph HW HL HP
    go_wp2_with fail
    refine BG.out.mono ?_
    rintro e w4 ⟨rfl, O4, p4, c4⟩
    obtain ⟨g4, cap4, rv4, tv4, xs4, sb4, k4, m4⟩ := p4.form (Nat.lt_of_le_of_lt (Nat.zero_le _) W2.out.tip)
    have C4 := Lib.hid (C3.out.trans c4)
    have RE := Lib.hid (rest_any' m4 W2.out O2.out what P2.out L2.out)
    clear p4 c4 m4 C3 BG
    go_wp2_with fail
    refine RE.out.mono ?_
    rintro e w5 ⟨rfl, q5⟩
    have R := Lib.hid (Post.trans C4.out q5)
    rw [← HU.out] at R
    clear q5 RE C4 HU
    go_wp2_with fail
    go_end0
    exact ⟨rfl, R.out⟩
end
end Go.Proofs.YtfgpephpkibbaaaGreatDoor

