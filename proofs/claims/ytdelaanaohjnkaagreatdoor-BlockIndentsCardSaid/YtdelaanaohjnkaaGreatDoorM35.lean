/-
  Texts of the proof, one behind the other: BkK, BkN.
-/
import Derived.Test.YtdelaanaohjnkaaGreatDoorM34
/-
  Contracts of block's beginHtml, beginUnder, beginFence. (Written by wip/tools/bkhtml.py.)
-/
namespace Go.Proofs.YtdelaanaohjnkaaGreatDoor
open Go.RowKit Go.Lib

section
variable {W : World} {B : Nat} {O : Nat → Option Nat} {s : St} {rv : Value} {tv : Nat → Value} {xs : List Value} {sb : ByteArray} {k g n cap : Nat}
set_option maxRecDepth 100000 in
set_option maxHeartbeats 4000000 in
theorem beginHtml_any (h : Mem W B O s (.slice (some ⟨g, 0, none⟩) n cap) rv tv xs sb k) (hw : Wf s.list s.tip) {i : Nat} (ho : On s.list s.tip i) (hp : phi s ≤ 100000) (hlen : s.list.length ≤ 100000) :
    Calls Tryz.prog 66 #[.pointer (some ⟨B, 0, none⟩), .int .i64 i] W fun e w' => e = .returned (.bool (!decide (htmKM s = 0))) ∧ Post W B O (if htmKM s ≠ 0 then bHtmlM s i else s) w' := by
  have hnl := h.lw.nextLen
  have hsz := h.siz
  have hzs : (⟨s.line.next.toArray⟩ : ByteArray).size = s.line.next.length := by simp [ByteArray.size]
  have HT := Lib.hid (fun W => html_any ⟨s.line.next.toArray⟩ W (by omega))
  have IE := Lib.hid (fun W (q : Mxl W) => isElement_any ⟨s.line.next.toArray⟩ W (by omega) q)
  rw [show (⟨s.line.next.toArray⟩ : ByteArray).data.toList = s.line.next by simp] at HT IE
  have Y8 := Lib.hid (fun W' (q : Keeps W W') => (h.keep q).box.cell 8 (v := .string ⟨s.line.next.toArray⟩) rfl)
  have y8 := Y8.out W (Keeps.refl W)
  have TI := Lib.hid (fun W' (q : Keeps W W') => tipIs_any (h.keep q) hw.tip 5)
  have MX := Lib.hid (fun W' (q : Keeps W W') => (h.keep q).env.mxl)
  have AD := Lib.hid (fun W' (q : Keeps W W') => addIn_any (h.keep q) hw ho (blkN 8) rfl (by decide) hp hlen)
  have ID := Lib.hid (fun W' (q : Keeps W W') => Par.post ⟨_, _, _, _, _, _, h⟩ q)
  have PT : Hid ((addInM s i (blkN 8)).put (addInM s i (blkN 8)).tip { (addInM s i (blkN 8)).nd (addInM s i (blkN 8)).tip with html := htmKM s } = bHtmlM s i) := Lib.hid (addIn_put s i (blkN 8) (fun n => { n with html := htmKM s }) (fun _ _ _ _ _ => rfl) rfl)
  have TP := Lib.hid (addIn_tip s i (blkN 8))
  have HK : Hid (htmKM s = _) := Lib.hid (htmKM.eq_1 s)
  unfold blkC at AD
  generalize addInM s i (blkN 8) = s1 at *
  dsimp only [blkN] at AD
  generalize bHtmlM s i = s2 at *
  generalize (⟨s.line.next.toArray⟩ : ByteArray) = z at *
  clear h hw ho hp hlen hzs hnl
  by_cases c0 : htmlL s.line.next = 0
  · rw [if_pos c0] at HK
    rw [c0] at HT
    by_cases cp : (s.nd s.tip).kind = 5
    · rw [decide_eq_true cp] at TI
      have e0 : htmKM s = 0 := by rw [HK.out, cp]; rfl
      rw [if_neg (by simp [e0]), decide_eq_true e0]
      clear HK cp c0 e0 PT AD
      go_enter Tryz.func66, Tryz.ntmps66
      go_wp2_with fail
      refine (HT.out _).mono ?_
      rintro e w1 ⟨rfl, q1⟩
      have K1 := Lib.hid q1
      have T1 := Lib.hid (TI.out _ q1)
      clear q1
      go_wp2_with fail
      refine T1.out.mono ?_
      rintro e w2 ⟨rfl, m, rfl⟩
      have R := Lib.hid (ID.out _ (K1.out.drewN m))
      go_wp2_with fail
      go_ret
      exact ⟨rfl, R.out⟩
    · rw [decide_eq_false cp] at TI
      cases ce : elemB s.line.next with
      | false =>
        rw [ce] at IE
        have e0 : htmKM s = 0 := by rw [HK.out, ce]; simp
        rw [if_neg (by simp [e0]), decide_eq_true e0]
        clear HK cp c0 e0 PT AD ce
        go_enter Tryz.func66, Tryz.ntmps66
        go_wp2_with fail
        refine (HT.out _).mono ?_
        rintro e w1 ⟨rfl, q1⟩
        have K1 := Lib.hid q1
        have T1 := Lib.hid (TI.out _ q1)
        clear q1
        go_wp2_with fail
        refine T1.out.mono ?_
        rintro e w2 ⟨rfl, m, rfl⟩
        have KM := Lib.hid (K1.out.drewN m)
        have y8b := Y8.out _ KM.out
        have I1 := Lib.hid (IE.out _ (MX.out _ KM.out))
        go_wp2_with fail
        refine I1.out.mono ?_
        rintro e w3 ⟨rfl, q3⟩
        have R := Lib.hid (ID.out _ (KM.out.trans q3))
        clear q3
        go_wp2_with fail
        go_ret
        exact ⟨rfl, R.out⟩
      | true =>
        rw [ce] at IE
        have e7 : htmKM s = 7 := by rw [HK.out, ce, decide_eq_false cp]; rfl
        rw [if_pos (by rw [e7]; decide), decide_eq_false (by rw [e7]; decide)]
        rw [e7] at PT
        clear HK cp c0 e7 ce ID
        go_enter Tryz.func66, Tryz.ntmps66
        go_wp2_with fail
        refine (HT.out _).mono ?_
        rintro e w1 ⟨rfl, q1⟩
        have K1 := Lib.hid q1
        have T1 := Lib.hid (TI.out _ q1)
        clear q1
        go_wp2_with fail
        refine T1.out.mono ?_
        rintro e w2 ⟨rfl, m, rfl⟩
        have KM := Lib.hid (K1.out.drewN m)
        have y8b := Y8.out _ KM.out
        have I1 := Lib.hid (IE.out _ (MX.out _ KM.out))
        go_wp2_with fail
        refine I1.out.mono ?_
        rintro e w3 ⟨rfl, q3⟩
        have KW := Lib.hid (KM.out.trans q3)
        clear q3
        have AD2 := Lib.hid (AD.out _ KW.out)
        go_wp2_with fail
        refine AD2.out.mono ?_
        rintro e w4 ⟨O2, g2, n2, cap2, rv2, tv2, xs2, sb2, k2, rfl, m2, c2⟩
        have z18 : w4.cell? ⟨g2, s1.tip * 20 + 18, none⟩ = some (.int .i64 ((s1.nd s1.tip).html : Nat)) := m2.at TP.out 18 (by decide)
        have f18 : w4.frozen? ⟨g2, s1.tip * 20 + 18, none⟩ = false := m2.free _
        obtain ⟨O4, m4, q4⟩ := m2.store TP.out { s1.nd s1.tip with html := 7 } 18 (by decide) _ (nd_html _ _ _) rfl
        have R := Lib.hid (show Post W B O s2 _ from ⟨O4, ⟨_, _, _, _, _, _, by rw [← PT.out]; exact m4⟩, (Chg.keeps O KW.out).trans (c2.trans q4)⟩)
        clear m4 q4 m2 c2 AD2 AD
        go_wp2_with fail
        go_ret
        exact ⟨rfl, R.out⟩
  · rw [if_neg c0] at HK
    rw [if_pos (by rw [HK.out]; exact c0), decide_eq_false (by rw [HK.out]; exact c0)]
    rw [HK.out] at PT
    have t1 := beqF (show ¬ (htmlL s.line.next : Int) = 0 by omega)
    clear HK c0 ID TI IE
    generalize htmlL s.line.next = kd at *
    go_enter Tryz.func66, Tryz.ntmps66
    go_wp2_with fail
    refine (HT.out _).mono ?_
    rintro e w1 ⟨rfl, q1⟩
    have K1 := Lib.hid q1
    clear q1
    have AD2 := Lib.hid (AD.out _ K1.out)
    go_wp2_with fail
    refine AD2.out.mono ?_
    rintro e w4 ⟨O2, g2, n2, cap2, rv2, tv2, xs2, sb2, k2, rfl, m2, c2⟩
    have z18 : w4.cell? ⟨g2, s1.tip * 20 + 18, none⟩ = some (.int .i64 ((s1.nd s1.tip).html : Nat)) := m2.at TP.out 18 (by decide)
    have f18 : w4.frozen? ⟨g2, s1.tip * 20 + 18, none⟩ = false := m2.free _
    obtain ⟨O4, m4, q4⟩ := m2.store TP.out { s1.nd s1.tip with html := kd } 18 (by decide) _ (nd_html _ _ _) rfl
    have R := Lib.hid (show Post W B O s2 _ from ⟨O4, ⟨_, _, _, _, _, _, by rw [← PT.out]; exact m4⟩, (Chg.keeps O K1.out).trans (c2.trans q4)⟩)
    clear m4 q4 m2 c2 AD2 AD
    go_wp2_with fail
    go_ret
    exact ⟨rfl, R.out⟩

set_option maxRecDepth 100000 in
set_option maxHeartbeats 4000000 in
theorem beginUnder_any (h : Mem W B O s (.slice (some ⟨g, 0, none⟩) n cap) rv tv xs sb k) {i : Nat} (hi : i < s.list.length) (hp : phi s ≤ 100000) :
    Calls Tryz.prog 67 #[.pointer (some ⟨B, 0, none⟩), .int .i64 i] W fun e w' => e = .returned (.bool (bUnderM s i).2) ∧ NPost W B O (bUnderM s i).1 (.slice (some ⟨g, 0, none⟩) n cap) w' := by
  obtain ⟨rfl, hc1, hc2⟩ := h.num
  have hnl := h.lw.nextLen
  have hsz := h.siz
  have UN := Lib.hid (fun W => under_any ⟨s.line.next.toArray⟩ W (by
    have e : (⟨s.line.next.toArray⟩ : ByteArray).size = s.line.next.length := by simp [ByteArray.size]
    simp only [maxLen]; omega))
  rw [show (⟨s.line.next.toArray⟩ : ByteArray).data.toList = s.line.next by simp] at UN
  have y8 := h.box.cell 8 (v := .string ⟨s.line.next.toArray⟩) rfl
  have y0 := h.box.cell 0 (v := .slice (some ⟨g, 0, none⟩) s.list.length cap) rfl
  have HM := Lib.hid h
  have Z0 : Hid (∀ W', Keeps W W' → W'.cell? ⟨g, i * 20, none⟩ = some (.int .i64 ((s.nd i).kind : Nat))) := Lib.hid fun W' q => (h.keep q).at hi 0 (by decide)
  have ID := Lib.hid (fun W' (q : Keeps W W') => (show NPost W B O s (.slice (some ⟨g, 0, none⟩) s.list.length cap) W' from ⟨O, rv, tv, xs, sb, k, h.keep q, Chg.keeps O q⟩))
  have DF := Lib.hid (fun W' (q : Keeps W W') => bdefine_any (h.keep q) hi hp)
  have hi2 : (i : Int) < (s.list.length : Int) := by omega
  have hdl := define_len s i
  generalize (⟨s.line.next.toArray⟩ : ByteArray) = z at *
  have HB : Hid (bUnderM s i = _) := Lib.hid (bUnderM.eq_1 s i)
  obtain ⟨E, hE⟩ : ∃ E, bUnderM s i = E := ⟨_, rfl⟩
  rw [hE] at HB ⊢
  clear h hp hnl hsz hE hc1 hc2
  by_cases u0 : underL s.line.next = 0
  · have e1 : E = (s, false) := by rw [HB.out, if_pos (.inl u0)]
    subst e1
    rw [u0] at UN
    clear HB u0 DF Z0
    go_enter Tryz.func67, Tryz.ntmps67
    go_wp2_with fail
    refine (UN.out _).mono ?_
    rintro e w1 ⟨rfl, q1⟩
    have R := Lib.hid (ID.out _ q1)
    clear q1
    go_wp2_with fail
    go_ret
    exact ⟨rfl, R.out⟩
  · have t1 := beqF (show ¬ (underL s.line.next : Int) = 0 by omega)
    by_cases k5 : (s.nd i).kind = 5
    · rw [k5] at Z0
      have HB2 : Hid (E = if ((defineM s i).nd i).text = [] then (defineM s i, false) else ((defineM s i).put i { (defineM s i).nd i with kind := 6, level := underL s.line.next }, true)) := Lib.hid (by rw [HB.out, if_neg (fun q => q.elim u0 (fun q => q k5))])
      generalize underL s.line.next = lv at *
      clear HB u0 k5 ID
      go_enter Tryz.func67, Tryz.ntmps67
      go_wp2_with fail
      refine (UN.out _).mono ?_
      rintro e w1 ⟨rfl, q1⟩
      have z0 := Z0.out _ q1
      have DF1 := Lib.hid (DF.out _ q1)
      have K1 := Lib.hid q1
      clear q1 DF
      go_wp2_with fail
      refine DF1.out.mono ?_
      rintro e w2 ⟨rfl, O2, rv2, tv2, xs2, sb2, k2, m2, c2⟩
      have hi2' : i < (defineM s i).list.length := by rw [hdl]; exact hi
      obtain ⟨ao, ca, e14, _, _⟩ := (m2.txt i hi2').form
      have z14 : w2.cell? ⟨g, i * 20 + 14, none⟩ = some (tv2 i) := m2.at hi2' 14 (by decide)
      rw [e14] at z14
      by_cases c : ((defineM s i).nd i).text = []
      · have e1 : E = (defineM s i, false) := by rw [HB2.out, if_pos c]
        subst e1
        rw [c] at z14
        have R := Lib.hid (show NPost W B O (defineM s i) (.slice (some ⟨g, 0, none⟩) s.list.length cap) w2 from ⟨O2, _, _, _, _, _, m2, (Chg.keeps O K1.out).trans c2⟩)
        clear m2 c2 c HB2 DF1
        go_wp2_with fail
        go_ret
        exact ⟨rfl, R.out⟩
      · have e1 : E = ((defineM s i).put i { (defineM s i).nd i with kind := 6, level := lv }, true) := by rw [HB2.out, if_neg c]
        subst e1
        have hl : ((defineM s i).nd i).text.length ≠ 0 := fun e => c (List.eq_nil_of_length_eq_zero e)
        have x0 : w2.cell? ⟨g, i * 20, none⟩ = some (.int .i64 (((defineM s i).nd i).kind : Nat)) := m2.at hi2' 0 (by decide)
        have g0 : w2.frozen? ⟨g, i * 20, none⟩ = false := m2.free _
        obtain ⟨O3, m3, q3⟩ := m2.store hi2' { (defineM s i).nd i with kind := 6 } 0 (by decide) _ (nd_kind _ _ _) rfl
        have hi3 : i < ((defineM s i).put i { (defineM s i).nd i with kind := 6 }).list.length := by unfold St.put; simpa using hi2'
        have x1 : (w2.setCell ⟨g, i * 20 + 0, none⟩ (.int .i64 (6 : Nat))).cell? ⟨g, i * 20 + 1, none⟩ = some (.int .i64 ((((defineM s i).put i { (defineM s i).nd i with kind := 6 }).nd i).level : Nat)) := m3.at hi3 1 (by decide)
        have g1 : (w2.setCell ⟨g, i * 20 + 0, none⟩ (.int .i64 (6 : Nat))).frozen? ⟨g, i * 20 + 1, none⟩ = false := m3.free _
        obtain ⟨O4, m4, q4⟩ := m3.store hi3 { (((defineM s i).put i { (defineM s i).nd i with kind := 6 }).nd i) with level := lv } 1 (by decide) _ (nd_level _ _ _) rfl
        have R := Lib.hid (show NPost W B O ((defineM s i).put i { (defineM s i).nd i with kind := 6, level := lv }) (.slice (some ⟨g, 0, none⟩) s.list.length cap) _ from ⟨O4, _, _, _, _, _, by
          rw [put_nd hi2', put_put] at m4
          exact m4, (Chg.keeps O K1.out).trans (c2.trans (q3.trans q4))⟩)
        rw [put_nd hi2'] at x1
        have x1' : (w2.setCell ⟨g, i * 20, none⟩ (.int .i64 (6 : Int))).cell? ⟨g, i * 20 + 1, none⟩ = some (.int .i64 (((defineM s i).nd i).level : Nat)) := x1
        have g1' : (w2.setCell ⟨g, i * 20, none⟩ (.int .i64 (6 : Int))).frozen? ⟨g, i * 20 + 1, none⟩ = false := g1
        generalize ((defineM s i).nd i).text.length = tl at *
        generalize ((defineM s i).nd i).level = l0 at *
        generalize ((defineM s i).nd i).kind = k0 at *
        have t2 := beqF (show ¬ (tl : Int) = 0 by omega)
        clear hl m2 c2 m3 q3 m4 q4 c HB2 DF1 x1 g1 hi3
        go_wp2_with fail
        go_ret
        exact ⟨rfl, R.out⟩
    · have e1 : E = (s, false) := by rw [HB.out, if_pos (.inr k5)]
      subst e1
      have t5 := beqF (show ¬ ((s.nd i).kind : Int) = 5 by omega)
      have t5' : (((s.nd i).kind : Int) != 5) = true := by rw [bne, t5]; rfl
      generalize (s.nd i).kind = q at *
      generalize underL s.line.next = lv at *
      clear HB u0 k5 DF
      go_enter Tryz.func67, Tryz.ntmps67
      go_wp2_with fail
      refine (UN.out _).mono ?_
      rintro e w1 ⟨rfl, q1⟩
      have R := Lib.hid (ID.out _ q1)
      have z0 := Z0.out _ q1
      clear q1
      go_wp2_with fail
      go_ret
      exact ⟨rfl, R.out⟩

theorem fenC_sign (l : List UInt8) : fenC l = (fenS l).toNat := by
  unfold fenC fenS
  split <;> rfl
set_option maxRecDepth 100000 in
set_option maxHeartbeats 4000000 in
theorem beginFence_any (h : Mem W B O s (.slice (some ⟨g, 0, none⟩) n cap) rv tv xs sb k) (hw : Wf s.list s.tip) {i : Nat} (ho : On s.list s.tip i) (hp : phi s ≤ 100000) (hlen : s.list.length ≤ 100000) :
    Calls Tryz.prog 65 #[.pointer (some ⟨B, 0, none⟩), .int .i64 i] W fun e w' => e = .returned (.bool (!decide (fenN s.line.next = 0))) ∧ Post W B O (if fenN s.line.next ≠ 0 then bFenceM s i else s) w' := by
  have hnl := h.lw.nextLen
  have hsz := h.siz
  have FE := Lib.hid (fence_any ⟨s.line.next.toArray⟩ W (by
    have e : (⟨s.line.next.toArray⟩ : ByteArray).size = s.line.next.length := by simp [ByteArray.size]
    omega) h.env.lis)
  rw [show (⟨s.line.next.toArray⟩ : ByteArray).data.toList = s.line.next by simp, fenC_sign] at FE
  have y8 := h.box.cell 8 (v := .string ⟨s.line.next.toArray⟩) rfl
  have AD := Lib.hid (fun W' (q : Keeps W W') => addIn_any (h.keep q) hw ho { blkN 7 with info := fenT s.line.next } rfl (show (7 : Nat) ≠ 4 by decide) hp hlen)
  have ID := Lib.hid (fun W' (q : Keeps W W') => Par.post ⟨_, _, _, _, _, _, h⟩ q)
  have PT : Hid ((addInM s i { blkN 7 with info := fenT s.line.next }).put (addInM s i { blkN 7 with info := fenT s.line.next }).tip { (addInM s i { blkN 7 with info := fenT s.line.next }).nd (addInM s i { blkN 7 with info := fenT s.line.next }).tip with fence := fenS s.line.next, count := fenN s.line.next, indent := s.line.ind } = bFenceM s i) := Lib.hid (addIn_put s i _ (fun n => { n with fence := fenS s.line.next, count := fenN s.line.next, indent := s.line.ind }) (fun _ _ _ _ _ => rfl) rfl)
  have TP := Lib.hid (addIn_tip s i { blkN 7 with info := fenT s.line.next })
  have LN : Hid ((addInM s i { blkN 7 with info := fenT s.line.next }).line = s.line) := Lib.hid (by
    unfold addInM addM
    show (addGo (cwM s i).tip (cwM s i) 7).line = s.line
    exact (addGo_ok _ _ 7 (Nat.le_refl _) (cw_wf hw ho) (.inl (by decide))).2.2.2.1.trans (cw_ok hw ho).2.2.2.1)
  unfold blkC at AD
  generalize (⟨s.line.next.toArray⟩ : ByteArray) = z at *
  generalize addInM s i { blkN 7 with info := fenT s.line.next } = s1 at *
  generalize bFenceM s i = s2 at *
  generalize fenS s.line.next = fs at *
  dsimp only [blkN] at AD
  generalize fenT s.line.next = ft at *
  generalize hil : s.line.ind = il at *
  have HIL := Lib.hid hil
  clear h hw ho hp hlen hnl hil
  by_cases c : fenN s.line.next = 0
  · rw [if_neg (by simp [c]), decide_eq_true c]
    rw [c] at FE
    generalize fs.toNat = fn at *
    clear c AD PT TP LN
    go_enter Tryz.func65, Tryz.ntmps65
    go_wp2_with fail
    refine FE.out.mono ?_
    rintro e w1 ⟨rfl, q1⟩
    have R := Lib.hid (ID.out _ q1)
    clear q1 ID
    go_wp2_with fail
    go_ret
    exact ⟨rfl, R.out⟩
  · rw [if_pos c, decide_eq_false c]
    have t1 := beqF (show ¬ (fenN s.line.next : Int) = 0 by omega)
    generalize fenN s.line.next = fc at *
    clear c ID
    go_enter Tryz.func65, Tryz.ntmps65
    go_wp2_with fail
    refine FE.out.mono ?_
    rintro e w1 ⟨rfl, q1⟩
    have AD2 := Lib.hid (AD.out _ q1)
    have K1 := Lib.hid q1
    clear q1 AD
    go_wp2_with fail
    refine AD2.out.mono ?_
    rintro e w2 ⟨O2, g2, n2, cap2, rv2, tv2, xs2, sb2, k2, rfl, m2, c2⟩
    have y7 : w2.cell? ⟨B, 7, none⟩ = some (.int .i64 (s1.line.ind : Nat)) := m2.box.cell 7 rfl
    rw [LN.out, HIL.out] at y7
    have z16 : w2.cell? ⟨g2, s1.tip * 20 + 16, none⟩ = some (.int .u8 ((s1.nd s1.tip).fence.toNat : Nat)) := m2.at TP.out 16 (by decide)
    have f16 : w2.frozen? ⟨g2, s1.tip * 20 + 16, none⟩ = false := m2.free _
    obtain ⟨O3, m3, q3⟩ := m2.store TP.out { s1.nd s1.tip with fence := fs } 16 (by decide) _ (nd_fence _ _ _) rfl
    have T3 : s1.tip < (s1.put s1.tip { s1.nd s1.tip with fence := fs }).list.length := by unfold St.put; simpa using TP.out
    have z17 : (w2.setCell ⟨g2, s1.tip * 20 + 16, none⟩ (.int .u8 (fs.toNat : Nat))).cell? ⟨g2, s1.tip * 20 + 17, none⟩ = some (.int .i64 (((s1.put s1.tip { s1.nd s1.tip with fence := fs }).nd s1.tip).count : Nat)) := m3.at T3 17 (by decide)
    have f17 : (w2.setCell ⟨g2, s1.tip * 20 + 16, none⟩ (.int .u8 (fs.toNat : Nat))).frozen? ⟨g2, s1.tip * 20 + 17, none⟩ = false := m3.free _
    obtain ⟨O4, m4, q4⟩ := m3.store T3 { (s1.put s1.tip { s1.nd s1.tip with fence := fs }).nd s1.tip with count := fc } 17 (by decide) _ (nd_count _ _ _) rfl
    rw [put_nd TP.out, put_put] at m4
    rw [put_nd TP.out] at z17
    have T4 : s1.tip < (s1.put s1.tip { s1.nd s1.tip with fence := fs, count := fc }).list.length := by unfold St.put; simpa using TP.out
    have z15 : ((w2.setCell ⟨g2, s1.tip * 20 + 16, none⟩ (.int .u8 (fs.toNat : Nat))).setCell ⟨g2, s1.tip * 20 + 17, none⟩ (.int .i64 (fc : Nat))).cell? ⟨g2, s1.tip * 20 + 15, none⟩ = some (.int .i64 (((s1.put s1.tip { s1.nd s1.tip with fence := fs, count := fc }).nd s1.tip).indent : Nat)) := m4.at T4 15 (by decide)
    have f15 : ((w2.setCell ⟨g2, s1.tip * 20 + 16, none⟩ (.int .u8 (fs.toNat : Nat))).setCell ⟨g2, s1.tip * 20 + 17, none⟩ (.int .i64 (fc : Nat))).frozen? ⟨g2, s1.tip * 20 + 15, none⟩ = false := m4.free _
    obtain ⟨O5, m5, q5⟩ := m4.store T4 { (s1.put s1.tip { s1.nd s1.tip with fence := fs, count := fc }).nd s1.tip with indent := il } 15 (by decide) _ (nd_indent _ _ _) rfl
    rw [put_nd TP.out, put_put] at m5
    rw [put_nd TP.out] at z15
    have R := Lib.hid (show Post W B O s2 _ from ⟨O5, ⟨_, _, _, _, _, _, by rw [← PT.out]; exact m5⟩, (Chg.keeps O K1.out).trans (c2.trans (q3.trans (q4.trans q5)))⟩)
    clear m3 q3 m4 q4 m5 q5 m2 c2 AD2 T3 T4
    generalize (s1.nd s1.tip).fence.toNat = v16 at *
    generalize (s1.nd s1.tip).count = v17 at *
    generalize (s1.nd s1.tip).indent = v15 at *
    generalize fs.toNat = fn at *
    go_wp2_with fail
    go_ret
    exact ⟨rfl, R.out⟩
end
end Go.Proofs.YtdelaanaohjnkaaGreatDoor

/-
  Contract of block's beginItem.
-/
namespace Go.Proofs.YtdelaanaohjnkaaGreatDoor
open Go.RowKit Go.Lib

theorem add_line {s : St} (hw : Wf s.list s.tip) (b : Nd) (hk : b.kind ≠ 4 ∨ holdsB (s.nd s.tip).kind b.kind = true) : (addM s b).line = s.line ∧ (addM s b).known = s.known :=
  ⟨(addGo_ok s.tip s b.kind (Nat.le_refl _) hw hk).2.2.2.1, (addGo_ok s.tip s b.kind (Nat.le_refl _) hw hk).2.2.2.2.1⟩
theorem holds_list {q : Nat} (h : q = 3) : holdsB q 4 = true := by subst h; rfl
/-- The list that an item comes to, as it stands there, or added. -/
theorem list_ok {s : St} (hw : Wf s.list s.tip) (x : Bool × Nat × Nat × Nat) {a b : Nat} (hc : Cap s a b) :
    Wf (listM s x).list (listM s x).tip ∧ Cap (listM s x) (a + 1) b ∧ holdsB ((listM s x).nd (listM s x).tip).kind 4 = true ∧ (listM s x).line = s.line ∧ (listM s x).known = s.known := by
  unfold listM
  split
  · next c =>
    refine ⟨hw, hc.more (by omega) (Nat.le_refl _), holds_list ?_, rfl, rfl⟩
    unfold takesB at c
    simp only [Bool.and_eq_true, decide_eq_true_eq] at c
    exact c.1.1
  · refine ⟨add_wf hw _ (.inl (show (3 : Nat) ≠ 4 by decide)) (Nat.zero_le _), hc.add hw _ (.inl (show (3 : Nat) ≠ 4 by decide)), holds_list (add_tip _ _), (add_line hw _ (.inl (show (3 : Nat) ≠ 4 by decide))).1, (add_line hw _ (.inl (show (3 : Nat) ≠ 4 by decide))).2⟩
theorem lst_wid (l : List UInt8) : (lstL l).2.2.2 ≤ l.length := by
  unfold lstL
  split
  · exact sgn_le l
  · exact Nat.zero_le _
theorem Chg.own0 {W W' : World} {O O' : Nat → Option Nat} (c : Chg W O W' O') {b : Nat} (h : O b = none) (hl : b < W.heap.size) : O' b = none := by rw [c.own b hl]; exact h
theorem keep7 {a b : World} {B g bb o : Nat} {v0 v1 v2 v3 v4 v5 v6 : Value} (kk : Keeps a b)
    (h : a.cell? ⟨B, 0, none⟩ = some v0 ∧ a.cell? ⟨g, o, none⟩ = some v1 ∧ a.cell? ⟨B, 8, none⟩ = some v2 ∧ a.cell? ⟨bb, 0, none⟩ = some v3 ∧ a.cell? ⟨bb, 1, none⟩ = some v4 ∧ a.cell? ⟨bb, 2, none⟩ = some v5 ∧ a.cell? ⟨bb, 3, none⟩ = some v6) :
    b.cell? ⟨B, 0, none⟩ = some v0 ∧ b.cell? ⟨g, o, none⟩ = some v1 ∧ b.cell? ⟨B, 8, none⟩ = some v2 ∧ b.cell? ⟨bb, 0, none⟩ = some v3 ∧ b.cell? ⟨bb, 1, none⟩ = some v4 ∧ b.cell? ⟨bb, 2, none⟩ = some v5 ∧ b.cell? ⟨bb, 3, none⟩ = some v6 := by
  obtain ⟨h0, h1, h2, h3, h4, h5, h6⟩ := h
  exact ⟨keep_cell h0 kk, keep_cell h1 kk, keep_cell h2 kk, keep_cell h3 kk, keep_cell h4 kk, keep_cell h5 kk, keep_cell h6 kk⟩
theorem set_two {w : World} {g j B bb : Nat} {x v0 v3 : Value} (h1 : g ≠ B) (h2 : g ≠ bb) (y : w.cell? ⟨B, 0, none⟩ = some v0) (z : w.cell? ⟨bb, 3, none⟩ = some v3) :
    (w.setCell ⟨g, j, none⟩ x).cell? ⟨B, 0, none⟩ = some v0 ∧ (w.setCell ⟨g, j, none⟩ x).cell? ⟨bb, 3, none⟩ = some v3 :=
  ⟨(World.cell?_of_block (a := ⟨B, 0, none⟩) (heap_setCell_other w ⟨g, j, none⟩ B x (fun e => h1 e.symm))).trans y, (World.cell?_of_block (a := ⟨bb, 3, none⟩) (heap_setCell_other w ⟨g, j, none⟩ bb x (fun e => h2 e.symm))).trans z⟩
theorem item_at {W W' : World} {B bb g n cap i : Nat} {O : Nat → Option Nat} {s : St} {l : Ln} {T : TypeId} {c0 c1 c2 c3 : Value} (q : NPost W B O (s.atL l) (.slice (some ⟨g, 0, none⟩) n cap) W') (hb : Blk W bb T #[c0, c1, c2, c3]) (h0 : O bb = none) (hi : i < s.list.length) :
    W'.cell? ⟨B, 0, none⟩ = some (.slice (some ⟨g, 0, none⟩) n cap) ∧ W'.cell? ⟨bb, 3, none⟩ = some c3 ∧ W'.cell? ⟨g, i * 20 + 15, none⟩ = some (.int .i64 ((s.nd i).indent : Nat)) ∧ W'.frozen? ⟨g, i * 20 + 15, none⟩ = false := by
  obtain ⟨O1, rv, tv, xs, sb, k, h, c⟩ := q
  exact ⟨h.box.cell 0 rfl, (c.blk hb h0).cell 3 rfl, h.at (i := i) hi 15 (by decide), h.free _⟩
section
variable {W : World} {B : Nat} {O : Nat → Option Nat} {s : St} {rv : Value} {tv : Nat → Value} {xs : List Value} {sb : ByteArray} {k g n cap : Nat}
set_option maxRecDepth 100000 in
set_option maxHeartbeats 8000000 in
theorem beginItem_any (h : Mem W B O s (.slice (some ⟨g, 0, none⟩) n cap) rv tv xs sb k) (hw : Wf s.list s.tip) {i : Nat} (ho : On s.list s.tip i) (hp : phi s ≤ 90000) (hlen : s.list.length ≤ 90000) :
    Calls Tryz.prog 69 #[.pointer (some ⟨B, 0, none⟩), .int .i64 i] W fun e w' => e = .returned (.bool (bItemM s i).2) ∧ Post W B O (bItemM s i).1 w' := by
  obtain ⟨rfl, hc1, hc2⟩ := h.num
  have hnl := h.lw.nextLen
  have hsz := h.siz
  have hzs : (⟨s.line.next.toArray⟩ : ByteArray).size = s.line.next.length := by simp [ByteArray.size]
  have LI := Lib.hid (mlist_any ⟨s.line.next.toArray⟩ W (by simp only [maxLen]; omega))
  have hi : i < s.list.length := by have := ho.le hw; have := hw.tip; omega
  have hi2 : (i : Int) < (s.list.length : Int) := by omega
  have Y0 := Lib.hid (fun W' (q : Keeps W W') => (h.keep q).box.cell 0 (v := .slice (some ⟨g, 0, none⟩) s.list.length cap) rfl)
  have Y8 := Lib.hid (fun W' (q : Keeps W W') => (h.keep q).box.cell 8 (v := .string ⟨s.line.next.toArray⟩) rfl)
  have Z0 : Hid (∀ W', Keeps W W' → W'.cell? ⟨g, i * 20, none⟩ = some (.int .i64 ((s.nd i).kind : Nat))) := Lib.hid (fun W' q => (h.keep q).at hi 0 (by decide))
  have y8 := Y8.out W (Keeps.refl W)
  have CW := Lib.hid (fun W' (q : Keeps W W') => closeWithin_any (h.keep q) hw ho (by omega))
  have IN := Lib.hid (fun x (t : ByteArray) W => interrupts_any x t W)
  have ID := Lib.hid (fun W' (q : Keeps W W') => Par.post ⟨_, _, _, _, _, _, h⟩ q)
  have hOn : Hid (∀ W', Keeps W W' → O W'.heap.size = none) := Lib.hid (fun W' q => by
    cases e : O W'.heap.size with
    | none => rfl
    | some x => have := (h.keep q).lt W'.heap.size (by rw [e]; simp); omega)
  have hcw := cw_ok hw ho
  have CP := Lib.hid (Cap.cw (s := s) (a := 90000) (b := 90000) ⟨hlen, hp⟩ i)
  have w1f : Wf (cwM s i).list (cwM s i).tip := by rw [hcw.2.1]; exact hcw.1
  have LO := Lib.hid (fun x => list_ok w1f x CP.out)
  have W1F := Lib.hid w1f
  rw [show (⟨s.line.next.toArray⟩ : ByteArray).data.toList = s.line.next by simp] at LI
  have HI : Hid (bItemM s i = if itemB s i then (inItemM (addM (listM (cwM s i) (lstL s.line.next)) (blkN 4)) (lstL s.line.next).2.2.2, true) else (s, false)) := Lib.hid rfl
  have HIB : Hid (itemB s i = (lstB s.line.next && !(decide ((s.nd i).kind = 5) && !mayB (lstL s.line.next) (s.line.next.drop (lstL s.line.next).2.2.2)))) := Lib.hid rfl
  have hwd := lst_wid s.line.next
  obtain ⟨N, hN⟩ : ∃ N : ByteArray, (⟨s.line.next.toArray⟩ : ByteArray) = N := ⟨_, rfl⟩
  have HN : Hid (s.line.next = N.data.toList) := Lib.hid (by rw [← hN])
  have hNs : N.size ≤ 10000 := by rw [← hN, hzs]; omega
  rw [hN] at LI Y8 y8 hzs
  rw [← hzs] at hwd
  obtain ⟨E, hE⟩ : ∃ E, bItemM s i = E := ⟨_, rfl⟩
  rw [hE] at HI ⊢
  generalize hx : lstL s.line.next = x at *
  obtain ⟨od, st, mk, wd⟩ := x
  dsimp only at HI HIB hwd
  have LO2 := Lib.hid (LO.out (od, st, mk, wd))
  have L1 : Hid ((cwM s i).tip < (cwM s i).list.length) := Lib.hid w1f.tip
  have hwd2 : (wd : Int) ≤ (N.size : Int) := by omega
  unfold sgnV at LI
  dsimp only at LI
  generalize cwM s i = s1 at *
  generalize hk : (s.nd i).kind = q at *
  clear h hw ho hp hlen hE hcw w1f hN LO hc1 hc2 hnl hsz hzs hk hx
  by_cases hb : itemB s i = true
  · have HE1 : Hid (E.1 = inItemM (addM (listM s1 (od, st, mk, wd)) (blkN 4)) wd) := Lib.hid (by rw [HI.out, if_pos hb])
    have HE1b : Hid (E.2 = true) := Lib.hid (by rw [HI.out, if_pos hb])
    have P1 : Hid (phi s1 ≤ 90000) := Lib.hid CP.out.txt
    have Q1 : Hid (s1.list.length ≤ 90000) := Lib.hid CP.out.len
    have hok : lstB s.line.next = true := by rw [HIB.out] at hb; revert hb; cases lstB s.line.next <;> simp
    rw [hok] at LI
    rw [HIB.out, hok, Bool.true_and] at hb
    clear HI ID HIB CP
    by_cases q5 : q = 5
    · have hm : mayB (od, st, mk, wd) (s.line.next.drop wd) = true := by revert hb; rw [decide_eq_true q5]; cases mayB (od, st, mk, wd) (s.line.next.drop wd) <;> simp
      subst q5
      clear hb hok
      go_enter Tryz.func69, Tryz.ntmps69
      go_wp2_with fail
      refine LI.out.mono ?_
      rintro e w1 ⟨rfl, k1⟩
      have KA := k1.alloc (.cells #[.bool od, .int .i64 (st : Nat), .int .u8 (mk : Nat), .int .i64 (wd : Nat)] 100)
      have BS := Lib.hid (Blk.new w1 100 #[.bool od, .int .i64 (st : Nat), .int .u8 (mk : Nat), .int .i64 (wd : Nat)])
      have ON := Lib.hid (hOn.out _ k1)
      go_wp2_with fail
      generalize w1.heap.size = bb at *
      generalize w1.alloc (.cells #[.bool od, .int .i64 (st : Nat), .int .u8 (mk : Nat), .int .i64 (wd : Nat)] 100) = w2 at *
      have y0 := Y0.out _ KA
      have y8' := Y8.out _ KA
      have z0 := Z0.out _ KA
      have x0 := BS.out.cell 0 (v := .bool od) rfl
      have x1 := BS.out.cell 1 (v := .int .i64 (st : Nat)) rfl
      have x2 := BS.out.cell 2 (v := .int .u8 (mk : Nat)) rfl
      have x3 := BS.out.cell 3 (v := .int .i64 (wd : Nat)) rfl
      have IX := Lib.hid (fun W => IN.out (od, st, mk, wd) (N.extract wd N.size) W)
      rw [Lib.extract_to_end, ← HN.out, hm] at IX
      unfold sgnV at IX
      dsimp only at IX
      clear hm IN
      go_region_held3 (fun w' => w'.cell? ⟨B, 0, none⟩ = some (.slice (some ⟨g, 0, none⟩) s.list.length cap) ∧ w'.cell? ⟨g, i * 20, none⟩ = some (.int .i64 5) ∧ w'.cell? ⟨B, 8, none⟩ = some (.string N) ∧ w'.cell? ⟨bb, 0, none⟩ = some (.bool od) ∧ w'.cell? ⟨bb, 1, none⟩ = some (.int .i64 (st : Nat)) ∧ w'.cell? ⟨bb, 2, none⟩ = some (.int .u8 (mk : Nat)) ∧ w'.cell? ⟨bb, 3, none⟩ = some (.int .i64 (wd : Nat)))
        (first | assumption | (exact ⟨y0, z0, y8', x0, x1, x2, x3⟩) | (refine keep7 kk ?_; assumption) | (exact keep7 kk ⟨y0, z0, y8', x0, x1, x2, x3⟩))
        (first
          | (go_at_call 93; (with_reducible refine (IX.out _).mono ?_); rintro e w3 ⟨rfl, kk⟩))
      all_goals
        have KV := Lib.hid (KA.drew.trans kk)
        have BV := Lib.hid (BS.out.drew.keep kk)
        clear kk IX y0 y8' z0 x0 x1 x2 x3 KA BS y8 Y0 Y8 Z0
        go_wp2_with fail
        refine (CW.out _ KV.out).mono ?_
        rintro e w4 ⟨rfl, O4, rv4, tv4, xs4, sb4, k4, h4, c4⟩
        have C4 := Lib.hid ((Chg.keeps O KV.out).trans c4)
        have B4 := Lib.hid (c4.blk BV.out ON.out)
        have ON4 := Lib.hid (c4.own0 ON.out BV.out.lt)
        have TT := Lib.hid (fun W' (q : Keeps w4 W') => tipTakes_any (h4.keep q) L1.out (od, st, mk, wd))
        have H4 := Lib.hid h4
        clear h4 c4 CW KV BV
        unfold sgnV at TT
        dsimp only at TT
        have x0 := B4.out.cell 0 (v := .bool od) rfl
        have x1 := B4.out.cell 1 (v := .int .i64 (st : Nat)) rfl
        have x2 := B4.out.cell 2 (v := .int .u8 (mk : Nat)) rfl
        have x3 := B4.out.cell 3 (v := .int .i64 (wd : Nat)) rfl
        have HL : Hid (listM s1 (od, st, mk, wd) = if takesB s1 (od, st, mk, wd) then s1 else addM s1 { blkN 3 with ord := od, start := st, mark := mk }) := Lib.hid rfl
        go_wp2_with fail
        refine (TT.out _ (Keeps.refl _)).mono ?_
        rintro e w5 ⟨rfl, k5⟩
        have H5 := Lib.hid (H4.out.keep k5)
        have C5 := Lib.hid (C4.out.trans (Chg.keeps O4 k5))
        have B5 := Lib.hid (B4.out.keep k5)
        clear x0 x1 x2 x3 TT k5 H4 C4 B4
        cases tk : takesB s1 (od, st, mk, wd)
        · rw [tk, if_neg (by simp)] at HL
          have AD := Lib.hid (add_any H5.out W1F.out { blkN 3 with ord := od, start := st, mark := mk } rfl (.inl (show (3 : Nat) ≠ 4 by decide)) (by have := P1.out; omega) (by have := Q1.out; omega))
          rw [← HL.out] at AD
          have x0 := B5.out.cell 0 (v := .bool od) rfl
          have x1 := B5.out.cell 1 (v := .int .i64 (st : Nat)) rfl
          have x2 := B5.out.cell 2 (v := .int .u8 (mk : Nat)) rfl
          unfold blkC at AD
          dsimp only [blkN] at AD
          clear tk HL H5
          go_wp2_with fail
          refine AD.out.mono ?_
          rintro e w6 ⟨rfl, O6, p6, c6⟩
          have C6 := Lib.hid (C5.out.trans c6)
          have B6 := Lib.hid (c6.blk B5.out ON4.out)
          have ON6 := Lib.hid (c6.own0 ON4.out B5.out.lt)
          obtain ⟨g6, cap6, rv6, tv6, xs6, sb6, k6, m6⟩ := p6.form (Nat.lt_of_le_of_lt (Nat.zero_le _) LO2.out.1.tip)
          have M6 := Lib.hid m6
          clear p6 c6 m6 AD x0 x1 x2 C5 B5
          have AI := Lib.hid (add_any M6.out LO2.out.1 (blkN 4) rfl (.inr LO2.out.2.2.1) (by have := LO2.out.2.1.txt; omega) (by have := LO2.out.2.1.len; omega))
          have AT := Lib.hid (add_tip_lt (listM s1 (od, st, mk, wd)) (blkN 4))
          generalize addM (listM s1 (od, st, mk, wd)) (blkN 4) = s3 at *
          unfold blkC at AI
          dsimp only [blkN] at AI
          clear M6 LO2
          go_wp2_with fail
          refine AI.out.mono ?_
          rintro e w7 ⟨rfl, O7, p7, c7⟩
          have C7 := Lib.hid (C6.out.trans c7)
          have B7 := Lib.hid (c7.blk B6.out ON6.out)
          have ON7 := Lib.hid (c7.own0 ON6.out B6.out.lt)
          obtain ⟨g7, cap7, rv7, tv7, xs7, sb7, k7, m7⟩ := p7.form (Nat.lt_of_le_of_lt (Nat.zero_le _) AT.out)
          have M7 := Lib.hid m7
          clear p7 c7 m7 AI C6 B6
          have hll := M7.out.num.2.2
          have PM := Lib.hid (lpastMark_any (M7.out.keep ((Keeps.refl w7).drew)) wd (by omega))
          have y0 := M7.out.box.cell 0 (v := .slice (some ⟨g7, 0, none⟩) s3.list.length cap7) rfl
          have b3 := B7.out.cell 3 (v := .int .i64 (wd : Nat)) rfl
          have B7d := Lib.hid (B7.out.drew)
          have hBg : g7 ≠ B := fun e => by have a := M7.out.oB; rw [← e, M7.out.oL g7 rfl] at a; cases a
          have hBb : g7 ≠ bb := fun e => by have a := ON7.out; rw [← e, M7.out.oL g7 rfl] at a; cases a
          have tl2 : (s3.tip : Int) < (s3.list.length : Int) := by have := AT.out; omega
          have C7d := Lib.hid (C7.out.trans (Chg.keeps O7 ((Keeps.refl w7).drew)))
          clear M7 C7 B7
          go_wp2_with fail
          go_region_held3 (fun w' => w'.cell? ⟨B, 0, none⟩ = some (.slice (some ⟨g7, 0, none⟩) s3.list.length cap7) ∧ w'.cell? ⟨bb, 3, none⟩ = some (.int .i64 (wd : Nat)))
            (first | assumption | (exact ⟨y0, b3⟩) | (exact ⟨ya, ba⟩) | (exact set_two hBg hBb ya ba))
            (first
              | (go_at_call 95; (with_reducible refine PM.out.mono ?_); rintro e w8 ⟨rfl, q8⟩; obtain ⟨ya, ba, za, fa⟩ := item_at q8 B7d.out ON7.out AT.out))
          all_goals
            obtain ⟨O8, rv8, tv8, xs8, sb8, k8, h8, c8⟩ := q8
            obtain ⟨O9, m9, q9⟩ := h8.store (i := s3.tip) AT.out { s3.nd s3.tip with indent := (pastMarkM s3.line wd).2 } 15 (by decide) _ (nd_indent _ _ _) rfl
            have R := Lib.hid (show Post W B O E.1 _ from ⟨O9, ⟨_, _, _, _, _, _, by rw [HE1.out]; exact m9⟩, C7d.out.trans (c8.trans q9)⟩)
            have HE2 := Lib.hid (congrArg (fun e => Ending.returned (Value.bool e)) HE1b.out)
            clear h8 c8 m9 q9
            go_wp2_with fail
            go_ret
            exact ⟨HE2.out.symm, R.out⟩
        · rw [tk, if_pos rfl] at HL
          have M6 := H5
          rw [← HL.out] at M6
          have C6 := C5
          have B6 := B5
          have ON6 := ON4
          clear tk HL H5 C5 B5
          have AI := Lib.hid (add_any M6.out LO2.out.1 (blkN 4) rfl (.inr LO2.out.2.2.1) (by have := LO2.out.2.1.txt; omega) (by have := LO2.out.2.1.len; omega))
          have AT := Lib.hid (add_tip_lt (listM s1 (od, st, mk, wd)) (blkN 4))
          generalize addM (listM s1 (od, st, mk, wd)) (blkN 4) = s3 at *
          unfold blkC at AI
          dsimp only [blkN] at AI
          clear M6 LO2
          go_wp2_with fail
          refine AI.out.mono ?_
          rintro e w7 ⟨rfl, O7, p7, c7⟩
          have C7 := Lib.hid (C6.out.trans c7)
          have B7 := Lib.hid (c7.blk B6.out ON6.out)
          have ON7 := Lib.hid (c7.own0 ON6.out B6.out.lt)
          obtain ⟨g7, cap7, rv7, tv7, xs7, sb7, k7, m7⟩ := p7.form (Nat.lt_of_le_of_lt (Nat.zero_le _) AT.out)
          have M7 := Lib.hid m7
          clear p7 c7 m7 AI C6 B6
          have hll := M7.out.num.2.2
          have PM := Lib.hid (lpastMark_any (M7.out.keep ((Keeps.refl w7).drew)) wd (by omega))
          have y0 := M7.out.box.cell 0 (v := .slice (some ⟨g7, 0, none⟩) s3.list.length cap7) rfl
          have b3 := B7.out.cell 3 (v := .int .i64 (wd : Nat)) rfl
          have B7d := Lib.hid (B7.out.drew)
          have hBg : g7 ≠ B := fun e => by have a := M7.out.oB; rw [← e, M7.out.oL g7 rfl] at a; cases a
          have hBb : g7 ≠ bb := fun e => by have a := ON7.out; rw [← e, M7.out.oL g7 rfl] at a; cases a
          have tl2 : (s3.tip : Int) < (s3.list.length : Int) := by have := AT.out; omega
          have C7d := Lib.hid (C7.out.trans (Chg.keeps O7 ((Keeps.refl w7).drew)))
          clear M7 C7 B7
          go_wp2_with fail
          go_region_held3 (fun w' => w'.cell? ⟨B, 0, none⟩ = some (.slice (some ⟨g7, 0, none⟩) s3.list.length cap7) ∧ w'.cell? ⟨bb, 3, none⟩ = some (.int .i64 (wd : Nat)))
            (first | assumption | (exact ⟨y0, b3⟩) | (exact ⟨ya, ba⟩) | (exact set_two hBg hBb ya ba))
            (first
              | (go_at_call 95; (with_reducible refine PM.out.mono ?_); rintro e w8 ⟨rfl, q8⟩; obtain ⟨ya, ba, za, fa⟩ := item_at q8 B7d.out ON7.out AT.out))
          all_goals
            obtain ⟨O8, rv8, tv8, xs8, sb8, k8, h8, c8⟩ := q8
            obtain ⟨O9, m9, q9⟩ := h8.store (i := s3.tip) AT.out { s3.nd s3.tip with indent := (pastMarkM s3.line wd).2 } 15 (by decide) _ (nd_indent _ _ _) rfl
            have R := Lib.hid (show Post W B O E.1 _ from ⟨O9, ⟨_, _, _, _, _, _, by rw [HE1.out]; exact m9⟩, C7d.out.trans (c8.trans q9)⟩)
            have HE2 := Lib.hid (congrArg (fun e => Ending.returned (Value.bool e)) HE1b.out)
            clear h8 c8 m9 q9
            go_wp2_with fail
            go_ret
            exact ⟨HE2.out.symm, R.out⟩
    · have t5 : ((q : Int) == 5) = false := beq_eq_false_iff_ne.2 (by omega)
      clear hb hok q5
      go_enter Tryz.func69, Tryz.ntmps69
      go_wp2_with fail
      refine LI.out.mono ?_
      rintro e w1 ⟨rfl, k1⟩
      have KA := k1.alloc (.cells #[.bool od, .int .i64 (st : Nat), .int .u8 (mk : Nat), .int .i64 (wd : Nat)] 100)
      have BS := Lib.hid (Blk.new w1 100 #[.bool od, .int .i64 (st : Nat), .int .u8 (mk : Nat), .int .i64 (wd : Nat)])
      have ON := Lib.hid (hOn.out _ k1)
      go_wp2_with fail
      generalize w1.heap.size = bb at *
      generalize w1.alloc (.cells #[.bool od, .int .i64 (st : Nat), .int .u8 (mk : Nat), .int .i64 (wd : Nat)] 100) = w2 at *
      have y0 := Y0.out _ KA
      have y8' := Y8.out _ KA
      have z0 := Z0.out _ KA
      go_quiet (fail)
      have KV := Lib.hid (KA.drewN nq)
      have BV := Lib.hid (BS.out.keep ((Keeps.refl w2).drewN nq))
      clear IN y0 y8' z0 KA BS y8 Y0 Y8 Z0
      go_wp2_with fail
      refine (CW.out _ KV.out).mono ?_
      rintro e w4 ⟨rfl, O4, rv4, tv4, xs4, sb4, k4, h4, c4⟩
      have C4 := Lib.hid ((Chg.keeps O KV.out).trans c4)
      have B4 := Lib.hid (c4.blk BV.out ON.out)
      have ON4 := Lib.hid (c4.own0 ON.out BV.out.lt)
      have TT := Lib.hid (fun W' (q : Keeps w4 W') => tipTakes_any (h4.keep q) L1.out (od, st, mk, wd))
      have H4 := Lib.hid h4
      clear h4 c4 CW KV BV
      unfold sgnV at TT
      dsimp only at TT
      have x0 := B4.out.cell 0 (v := .bool od) rfl
      have x1 := B4.out.cell 1 (v := .int .i64 (st : Nat)) rfl
      have x2 := B4.out.cell 2 (v := .int .u8 (mk : Nat)) rfl
      have x3 := B4.out.cell 3 (v := .int .i64 (wd : Nat)) rfl
      have HL : Hid (listM s1 (od, st, mk, wd) = if takesB s1 (od, st, mk, wd) then s1 else addM s1 { blkN 3 with ord := od, start := st, mark := mk }) := Lib.hid rfl
      go_wp2_with fail
      refine (TT.out _ (Keeps.refl _)).mono ?_
      rintro e w5 ⟨rfl, k5⟩
      have H5 := Lib.hid (H4.out.keep k5)
      have C5 := Lib.hid (C4.out.trans (Chg.keeps O4 k5))
      have B5 := Lib.hid (B4.out.keep k5)
      clear x0 x1 x2 x3 TT k5 H4 C4 B4
      cases tk : takesB s1 (od, st, mk, wd)
      · rw [tk, if_neg (by simp)] at HL
        have AD := Lib.hid (add_any H5.out W1F.out { blkN 3 with ord := od, start := st, mark := mk } rfl (.inl (show (3 : Nat) ≠ 4 by decide)) (by have := P1.out; omega) (by have := Q1.out; omega))
        rw [← HL.out] at AD
        have x0 := B5.out.cell 0 (v := .bool od) rfl
        have x1 := B5.out.cell 1 (v := .int .i64 (st : Nat)) rfl
        have x2 := B5.out.cell 2 (v := .int .u8 (mk : Nat)) rfl
        unfold blkC at AD
        dsimp only [blkN] at AD
        clear tk HL H5
        go_wp2_with fail
        refine AD.out.mono ?_
        rintro e w6 ⟨rfl, O6, p6, c6⟩
        have C6 := Lib.hid (C5.out.trans c6)
        have B6 := Lib.hid (c6.blk B5.out ON4.out)
        have ON6 := Lib.hid (c6.own0 ON4.out B5.out.lt)
        obtain ⟨g6, cap6, rv6, tv6, xs6, sb6, k6, m6⟩ := p6.form (Nat.lt_of_le_of_lt (Nat.zero_le _) LO2.out.1.tip)
        have M6 := Lib.hid m6
        clear p6 c6 m6 AD x0 x1 x2 C5 B5
        have AI := Lib.hid (add_any M6.out LO2.out.1 (blkN 4) rfl (.inr LO2.out.2.2.1) (by have := LO2.out.2.1.txt; omega) (by have := LO2.out.2.1.len; omega))
        have AT := Lib.hid (add_tip_lt (listM s1 (od, st, mk, wd)) (blkN 4))
        generalize addM (listM s1 (od, st, mk, wd)) (blkN 4) = s3 at *
        unfold blkC at AI
        dsimp only [blkN] at AI
        clear M6 LO2
        go_wp2_with fail
        refine AI.out.mono ?_
        rintro e w7 ⟨rfl, O7, p7, c7⟩
        have C7 := Lib.hid (C6.out.trans c7)
        have B7 := Lib.hid (c7.blk B6.out ON6.out)
        have ON7 := Lib.hid (c7.own0 ON6.out B6.out.lt)
        obtain ⟨g7, cap7, rv7, tv7, xs7, sb7, k7, m7⟩ := p7.form (Nat.lt_of_le_of_lt (Nat.zero_le _) AT.out)
        have M7 := Lib.hid m7
        clear p7 c7 m7 AI C6 B6
        have hll := M7.out.num.2.2
        have PM := Lib.hid (lpastMark_any (M7.out.keep ((Keeps.refl w7).drew)) wd (by omega))
        have y0 := M7.out.box.cell 0 (v := .slice (some ⟨g7, 0, none⟩) s3.list.length cap7) rfl
        have b3 := B7.out.cell 3 (v := .int .i64 (wd : Nat)) rfl
        have B7d := Lib.hid (B7.out.drew)
        have hBg : g7 ≠ B := fun e => by have a := M7.out.oB; rw [← e, M7.out.oL g7 rfl] at a; cases a
        have hBb : g7 ≠ bb := fun e => by have a := ON7.out; rw [← e, M7.out.oL g7 rfl] at a; cases a
        have tl2 : (s3.tip : Int) < (s3.list.length : Int) := by have := AT.out; omega
        have C7d := Lib.hid (C7.out.trans (Chg.keeps O7 ((Keeps.refl w7).drew)))
        clear M7 C7 B7
        go_wp2_with fail
        go_region_held3 (fun w' => w'.cell? ⟨B, 0, none⟩ = some (.slice (some ⟨g7, 0, none⟩) s3.list.length cap7) ∧ w'.cell? ⟨bb, 3, none⟩ = some (.int .i64 (wd : Nat)))
          (first | assumption | (exact ⟨y0, b3⟩) | (exact ⟨ya, ba⟩) | (exact set_two hBg hBb ya ba))
          (first
            | (go_at_call 95; (with_reducible refine PM.out.mono ?_); rintro e w8 ⟨rfl, q8⟩; obtain ⟨ya, ba, za, fa⟩ := item_at q8 B7d.out ON7.out AT.out))
        all_goals
          obtain ⟨O8, rv8, tv8, xs8, sb8, k8, h8, c8⟩ := q8
          obtain ⟨O9, m9, q9⟩ := h8.store (i := s3.tip) AT.out { s3.nd s3.tip with indent := (pastMarkM s3.line wd).2 } 15 (by decide) _ (nd_indent _ _ _) rfl
          have R := Lib.hid (show Post W B O E.1 _ from ⟨O9, ⟨_, _, _, _, _, _, by rw [HE1.out]; exact m9⟩, C7d.out.trans (c8.trans q9)⟩)
          have HE2 := Lib.hid (congrArg (fun e => Ending.returned (Value.bool e)) HE1b.out)
          clear h8 c8 m9 q9
          go_wp2_with fail
          go_ret
          exact ⟨HE2.out.symm, R.out⟩
      · rw [tk, if_pos rfl] at HL
        have M6 := H5
        rw [← HL.out] at M6
        have C6 := C5
        have B6 := B5
        have ON6 := ON4
        clear tk HL H5 C5 B5
        have AI := Lib.hid (add_any M6.out LO2.out.1 (blkN 4) rfl (.inr LO2.out.2.2.1) (by have := LO2.out.2.1.txt; omega) (by have := LO2.out.2.1.len; omega))
        have AT := Lib.hid (add_tip_lt (listM s1 (od, st, mk, wd)) (blkN 4))
        generalize addM (listM s1 (od, st, mk, wd)) (blkN 4) = s3 at *
        unfold blkC at AI
        dsimp only [blkN] at AI
        clear M6 LO2
        go_wp2_with fail
        refine AI.out.mono ?_
        rintro e w7 ⟨rfl, O7, p7, c7⟩
        have C7 := Lib.hid (C6.out.trans c7)
        have B7 := Lib.hid (c7.blk B6.out ON6.out)
        have ON7 := Lib.hid (c7.own0 ON6.out B6.out.lt)
        obtain ⟨g7, cap7, rv7, tv7, xs7, sb7, k7, m7⟩ := p7.form (Nat.lt_of_le_of_lt (Nat.zero_le _) AT.out)
        have M7 := Lib.hid m7
        clear p7 c7 m7 AI C6 B6
        have hll := M7.out.num.2.2
        have PM := Lib.hid (lpastMark_any (M7.out.keep ((Keeps.refl w7).drew)) wd (by omega))
        have y0 := M7.out.box.cell 0 (v := .slice (some ⟨g7, 0, none⟩) s3.list.length cap7) rfl
        have b3 := B7.out.cell 3 (v := .int .i64 (wd : Nat)) rfl
        have B7d := Lib.hid (B7.out.drew)
        have hBg : g7 ≠ B := fun e => by have a := M7.out.oB; rw [← e, M7.out.oL g7 rfl] at a; cases a
        have hBb : g7 ≠ bb := fun e => by have a := ON7.out; rw [← e, M7.out.oL g7 rfl] at a; cases a
        have tl2 : (s3.tip : Int) < (s3.list.length : Int) := by have := AT.out; omega
        have C7d := Lib.hid (C7.out.trans (Chg.keeps O7 ((Keeps.refl w7).drew)))
        clear M7 C7 B7
        go_wp2_with fail
        go_region_held3 (fun w' => w'.cell? ⟨B, 0, none⟩ = some (.slice (some ⟨g7, 0, none⟩) s3.list.length cap7) ∧ w'.cell? ⟨bb, 3, none⟩ = some (.int .i64 (wd : Nat)))
          (first | assumption | (exact ⟨y0, b3⟩) | (exact ⟨ya, ba⟩) | (exact set_two hBg hBb ya ba))
          (first
            | (go_at_call 95; (with_reducible refine PM.out.mono ?_); rintro e w8 ⟨rfl, q8⟩; obtain ⟨ya, ba, za, fa⟩ := item_at q8 B7d.out ON7.out AT.out))
        all_goals
          obtain ⟨O8, rv8, tv8, xs8, sb8, k8, h8, c8⟩ := q8
          obtain ⟨O9, m9, q9⟩ := h8.store (i := s3.tip) AT.out { s3.nd s3.tip with indent := (pastMarkM s3.line wd).2 } 15 (by decide) _ (nd_indent _ _ _) rfl
          have R := Lib.hid (show Post W B O E.1 _ from ⟨O9, ⟨_, _, _, _, _, _, by rw [HE1.out]; exact m9⟩, C7d.out.trans (c8.trans q9)⟩)
          have HE2 := Lib.hid (congrArg (fun e => Ending.returned (Value.bool e)) HE1b.out)
          clear h8 c8 m9 q9
          go_wp2_with fail
          go_ret
          exact ⟨HE2.out.symm, R.out⟩
  · have HE1 : Hid (E.1 = s) := Lib.hid (by rw [HI.out, if_neg hb])
    have HE1b : Hid (E.2 = false) := Lib.hid (by rw [HI.out, if_neg hb])
    rw [HIB.out] at hb
    clear HI HIB CP LO2
    cases hok : lstB s.line.next with
    | false =>
      rw [hok] at LI
      clear hb hok
      go_enter Tryz.func69, Tryz.ntmps69
      go_wp2_with fail
      refine LI.out.mono ?_
      rintro e w1 ⟨rfl, k1⟩
      have KA := k1.alloc (.cells #[.bool od, .int .i64 (st : Nat), .int .u8 (mk : Nat), .int .i64 (wd : Nat)] 100)
      have BS := Lib.hid (Blk.new w1 100 #[.bool od, .int .i64 (st : Nat), .int .u8 (mk : Nat), .int .i64 (wd : Nat)])
      have ON := Lib.hid (hOn.out _ k1)
      go_wp2_with fail
      generalize w1.heap.size = bb at *
      generalize w1.alloc (.cells #[.bool od, .int .i64 (st : Nat), .int .u8 (mk : Nat), .int .i64 (wd : Nat)] 100) = w2 at *
      go_quiet (fail)
      have EE := Lib.hid (show Ending.returned (Value.bool false) = .returned (.bool E.2) ∧ Post W B O E.1 _ from ⟨by rw [HE1b.out], by rw [HE1.out]; exact ID.out _ (KA.drewN nq)⟩)
      go_wp2_with fail
      go_ret
      exact EE.out
    | true =>
      rw [hok] at LI
      rw [hok, Bool.true_and] at hb
      have q5 : q = 5 := by refine Decidable.byContradiction fun e => hb ?_; rw [decide_eq_false e]; rfl
      have hm : mayB (od, st, mk, wd) (s.line.next.drop wd) = false := by
        cases hm : mayB (od, st, mk, wd) (s.line.next.drop wd) with
        | false => rfl
        | true => refine absurd ?_ hb; rw [hm]; simp
      subst q5
      clear hb hok
      go_enter Tryz.func69, Tryz.ntmps69
      go_wp2_with fail
      refine LI.out.mono ?_
      rintro e w1 ⟨rfl, k1⟩
      have KA := k1.alloc (.cells #[.bool od, .int .i64 (st : Nat), .int .u8 (mk : Nat), .int .i64 (wd : Nat)] 100)
      have BS := Lib.hid (Blk.new w1 100 #[.bool od, .int .i64 (st : Nat), .int .u8 (mk : Nat), .int .i64 (wd : Nat)])
      have ON := Lib.hid (hOn.out _ k1)
      go_wp2_with fail
      generalize w1.heap.size = bb at *
      generalize w1.alloc (.cells #[.bool od, .int .i64 (st : Nat), .int .u8 (mk : Nat), .int .i64 (wd : Nat)] 100) = w2 at *
      have y0 := Y0.out _ KA
      have y8' := Y8.out _ KA
      have z0 := Z0.out _ KA
      have x0 := BS.out.cell 0 (v := .bool od) rfl
      have x1 := BS.out.cell 1 (v := .int .i64 (st : Nat)) rfl
      have x2 := BS.out.cell 2 (v := .int .u8 (mk : Nat)) rfl
      have x3 := BS.out.cell 3 (v := .int .i64 (wd : Nat)) rfl
      have IX := Lib.hid (fun W => IN.out (od, st, mk, wd) (N.extract wd N.size) W)
      rw [Lib.extract_to_end, ← HN.out, hm] at IX
      unfold sgnV at IX
      dsimp only at IX
      clear hm IN
      go_region_held3 (fun w' => w'.cell? ⟨B, 0, none⟩ = some (.slice (some ⟨g, 0, none⟩) s.list.length cap) ∧ w'.cell? ⟨g, i * 20, none⟩ = some (.int .i64 5) ∧ w'.cell? ⟨B, 8, none⟩ = some (.string N) ∧ w'.cell? ⟨bb, 0, none⟩ = some (.bool od) ∧ w'.cell? ⟨bb, 1, none⟩ = some (.int .i64 (st : Nat)) ∧ w'.cell? ⟨bb, 2, none⟩ = some (.int .u8 (mk : Nat)) ∧ w'.cell? ⟨bb, 3, none⟩ = some (.int .i64 (wd : Nat)))
        (first | assumption | (exact ⟨y0, z0, y8', x0, x1, x2, x3⟩) | (refine keep7 kk ?_; assumption) | (exact keep7 kk ⟨y0, z0, y8', x0, x1, x2, x3⟩))
        (first
          | (go_at_call 93; (with_reducible refine (IX.out _).mono ?_); rintro e w3 ⟨rfl, kk⟩))
      all_goals
        have EE := Lib.hid (show Ending.returned (Value.bool false) = .returned (.bool E.2) ∧ Post W B O E.1 _ from ⟨by rw [HE1b.out], by rw [HE1.out]; exact ID.out _ (KA.drew.trans kk)⟩)
        clear kk IX y0 y8' z0 x0 x1 x2 x3 KA BS y8 Y0 Y8 Z0
        go_wp2_with fail
        go_ret
        exact EE.out
end
end Go.Proofs.YtdelaanaohjnkaaGreatDoor

