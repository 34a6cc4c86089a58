/-
  Texts of the proof, one behind the other: BkL, BkI, BkM, BkJ, BkK, BkD.
-/
import Derived.Test.YtfgpephpkibbaaaGreatDoorQ39
import Derived.Test.YtfgpephpkibbaaaGreatDoorQ13
import Derived.Test.YtfgpephpkibbaaaGreatDoorQ38
import Derived.Test.YtfgpephpkibbaaaGreatDoorQ29
import Derived.Test.YtfgpephpkibbaaaGreatDoorQ25
/-
  Contract of block's addIn.
-/
namespace Go.Proofs.YtfgpephpkibbaaaGreatDoor
open Go.RowKit Go.Lib

theorem add_tip_lt (s : St) (b : Nd) : (addM s b).tip < (addM s b).list.length := by
  unfold addM
  rw [push_len]
  exact Nat.lt_succ_self _
section
variable {W : World} {B : Nat} {O : Nat → Option Nat} {s : St} {rv : Value} {tv : Nat → Value} {xs : List Value} {sb : ByteArray} {k g n cap : Nat}
set_option maxRecDepth 100000 in
set_option maxHeartbeats 2000000 in
theorem addIn_any (h : Mem W B O s (.slice (some ⟨g, 0, none⟩) n cap) rv tv xs sb k) (hw : Wf s.list s.tip) {i : Nat} (ho : On s.list s.tip i) (b : Nd) (hb : PlainB b) (hk : b.kind ≠ 4) (hp : phi s ≤ 100000) (hlen : s.list.length ≤ 100000) :
    Calls Tryz.prog 79 #[.pointer (some ⟨B, 0, none⟩), .int .i64 i, .agg (blkC b)] W fun e w' => ∃ O' g' n' cap' rv' tv' xs' sb' k', e = .returned (.pointer (some ⟨g', (addInM s i b).tip * 20, none⟩)) ∧ Mem w' B O' (addInM s i b) (.slice (some ⟨g', 0, none⟩) n' cap') rv' tv' xs' sb' k' ∧ Chg W O w' O' := by
  have KA : Keeps W (W.alloc (.cells (blkC b) 26)) := (Keeps.refl W).alloc _
  have hBk := Lib.hid (Blk.new W 26 (blkC b))
  have hOn : Hid (O W.heap.size = none) := Lib.hid (by
    cases e : O W.heap.size with
    | none => rfl
    | some x => have := h.lt W.heap.size (by rw [e]; simp); omega)
  have CW := Lib.hid (closeWithin_any (h.keep KA) hw ho hp)
  have KA := Lib.hid (Chg.keeps O KA)
  have W1 := Lib.hid (cw_ok hw ho)
  have P1 : Hid (phi (cwM s i) ≤ 100000) := Lib.hid ((Cap.cw (s := s) (a := 100000) (b := 100000) ⟨hlen, hp⟩ i).txt)
  have L1 : Hid ((cwM s i).list.length ≤ 100000) := Lib.hid ((Cap.cw (s := s) (a := 100000) (b := 100000) ⟨hlen, hp⟩ i).len)
  have LA := Lib.hid (add_len (cwM s i) b)
  have TA := Lib.hid (add_tip_lt (cwM s i) b)
  have HB := Lib.hid hb
  have HK := Lib.hid hk
  obtain ⟨s2, hs2⟩ : ∃ s2, addM (cwM s i) b = s2 := ⟨_, rfl⟩
  have EA : addInM s i b = s2 := hs2
  rw [EA]
  rw [hs2] at LA TA
  have H2 := Lib.hid hs2
  generalize cwM s i = s1 at *
  clear h hw ho hp hlen hb hk EA hs2
  go_enter Tryz.func79, Tryz.ntmps79
  go_wp2_with fail
  generalize W.heap.size = bb at *
  refine CW.out.mono ?_
  rintro e w1 ⟨rfl, O1, rv1, tv1, xs1, sb1, k1, h1, c1⟩
  have C1 := Lib.hid (KA.out.trans c1)
  have B1 := Lib.hid (c1.blk hBk.out hOn.out)
  have AD := Lib.hid (fun W' (q : Keeps w1 W') => add_any (h1.keep q) (by rw [W1.out.2.1]; exact W1.out.1) b HB.out (.inl HK.out) P1.out L1.out)
  clear h1 c1 CW
  rw [H2.out] at AD
  unfold blkC at AD B1
  have x0 := B1.out.cell 0 (v := .int .i64 b.kind) rfl
  have x1 := B1.out.cell 1 (v := .int .i64 b.level) rfl
  have x2 := B1.out.cell 2 (v := .bool b.ord) rfl
  have x3 := B1.out.cell 3 (v := .int .i64 b.start) rfl
  have x4 := B1.out.cell 4 (v := .int .u8 b.mark) rfl
  have x5 := B1.out.cell 5 (v := .bool b.tight) rfl
  have x6 := B1.out.cell 6 (v := .string ⟨b.info.toArray⟩) rfl
  have x7 := B1.out.cell 7 (v := .string ⟨#[]⟩) rfl
  have x8 := B1.out.cell 8 (v := .slice none 0 0) rfl
  have x9 := B1.out.cell 9 (v := .slice none 0 0) rfl
  go_wp2_with fail
  refine (AD.out _ (Keeps.refl _)).mono ?_
  rintro e w2 ⟨rfl, O2, p2, c2⟩
  obtain ⟨g2, cap2, rv2, tv2, xs2, sb2, k2, m2⟩ := p2.form LA.out
  have y0 := m2.box.cell 0 (v := .slice (some ⟨g2, 0, none⟩) s2.list.length cap2) rfl
  have tl := TA.out
  have hll := m2.num.2.2
  have C2 := Lib.hid (C1.out.trans c2)
  have M2 := Lib.hid m2
  clear p2 c2 m2 AD x0 x1 x2 x3 x4 x5 x6 x7 x8 x9
  have tl2 : (s2.tip : Int) < (s2.list.length : Int) := by omega
  go_wp2_with fail
  go_ret
  exact ⟨O2, g2, _, cap2, rv2, tv2, xs2, sb2, k2, rfl, M2.out, C2.out⟩
end
end Go.Proofs.YtfgpephpkibbaaaGreatDoor

/-
  Contracts of block's beginCode, beginQuote, beginRule.
-/
namespace Go.Proofs.YtfgpephpkibbaaaGreatDoor
open Go.RowKit Go.Lib

theorem quote_no {l : Ln} (h : (pastQuoteM l).2 = false) : (pastQuoteM l).1 = l := by
  unfold pastQuoteM at *
  split at h
  · cases h
  · next c => rw [if_neg c]
section
variable {W : World} {B : Nat} {O : Nat → Option Nat} {s : St} {rv : Value} {tv : Nat → Value} {xs : List Value} {sb : ByteArray} {k g n cap : Nat}
/-- addIn's end, as the callers that let the block be want it. -/
theorem addIn_post (h : Mem W B O s (.slice (some ⟨g, 0, none⟩) n cap) rv tv xs sb k) (hw : Wf s.list s.tip) {i : Nat} (ho : On s.list s.tip i) (b : Nd) (hb : PlainB b) (hk : b.kind ≠ 4) (hp : phi s ≤ 100000) (hlen : s.list.length ≤ 100000) :
    Calls Tryz.prog 79 #[.pointer (some ⟨B, 0, none⟩), .int .i64 i, .agg (blkC b)] W fun e w' => ∃ v, e = .returned v ∧ Post W B O (addInM s i b) w' :=
  (addIn_any h hw ho b hb hk hp hlen).mono fun _ _ ⟨O', _, _, _, _, _, _, _, _, e, m, c⟩ => ⟨_, e, O', ⟨_, _, _, _, _, _, m⟩, c⟩
set_option maxRecDepth 100000 in
set_option maxHeartbeats 2000000 in
theorem beginCode_any (h : Mem W B O s (.slice (some ⟨g, 0, none⟩) n cap) rv tv xs sb k) (hw : Wf s.list s.tip) {i : Nat} (ho : On s.list s.tip i) (hp : phi s ≤ 100000) (hlen : s.list.length ≤ 100000) :
    Calls Tryz.prog 56 #[.pointer (some ⟨B, 0, none⟩), .int .i64 i] W fun e w' => e = .returned (.int .i64 ((bCodeM s i).2 : Nat)) ∧ Post W B O (bCodeM s i).1 w' := by
  have TI := Lib.hid (tipIs_any h hw.tip 5)
  unfold bCodeM
  by_cases c : (s.nd s.tip).kind = 5
  · rw [if_pos c]
    rw [decide_eq_true c] at TI
    have ID := Lib.hid (fun m => Par.post ⟨_, _, _, _, _, _, h⟩ ((Keeps.refl W).drewN m))
    clear h hw ho hp hlen c
    go_enter Tryz.func56, Tryz.ntmps56
    go_wp2_with fail
    refine TI.out.mono ?_
    rintro e w1 ⟨rfl, m, rfl⟩
    go_wp2_with fail
    go_ret
    exact ⟨rfl, ID.out m⟩
  · rw [if_neg c]
    rw [decide_eq_false c] at TI
    have SK := Lib.hid (fun m => lskip_any (h.keep ((Keeps.refl W).drewN m)) 4 (by omega))
    have AD : Hid (∀ {W' : World} {O' : Nat → Option Nat} {rv' : Value} {tv' : Nat → Value} {xs' : List Value} {sb' : ByteArray} {k' : Nat}, Mem W' B O' (s.atL (skipBM s.line 4)) (.slice (some ⟨g, 0, none⟩) n cap) rv' tv' xs' sb' k' → _) := Lib.hid fun h' => addIn_post h' (s := s.atL (skipBM s.line 4)) hw ho (blkN 7) rfl (by decide) hp hlen
    have K0 := Lib.hid (fun m => (Keeps.refl W).drewN m)
    clear h hw ho hp hlen c
    unfold blkC at AD
    go_enter Tryz.func56, Tryz.ntmps56
    go_wp2_with fail
    refine TI.out.mono ?_
    rintro e w1 ⟨rfl, m, rfl⟩
    go_wp2_with fail
    refine (SK.out m).mono ?_
    rintro e w2 ⟨rfl, O2, rv2, tv2, xs2, sb2, k2, h2, c2⟩
    have C2 := Lib.hid ((Chg.keeps O (K0.out m)).trans c2)
    have AD2 := Lib.hid (AD.out h2)
    clear h2 c2 SK AD
    go_wp2_with fail
    refine AD2.out.mono ?_
    rintro e w3 ⟨v, rfl, q3⟩
    have R := Lib.hid (Post.trans C2.out q3)
    clear q3 AD2
    go_wp2_with fail
    go_ret
    exact ⟨rfl, R.out⟩

set_option maxRecDepth 100000 in
set_option maxHeartbeats 2000000 in
theorem beginQuote_any (h : Mem W B O s (.slice (some ⟨g, 0, none⟩) n cap) rv tv xs sb k) (hw : Wf s.list s.tip) {i : Nat} (ho : On s.list s.tip i) (hp : phi s ≤ 100000) (hlen : s.list.length ≤ 100000) :
    Calls Tryz.prog 57 #[.pointer (some ⟨B, 0, none⟩), .int .i64 i] W fun e w' => e = .returned (.bool (pastQuoteM s.line).2) ∧ Post W B O (if (pastQuoteM s.line).2 = true then addInM (s.atL (pastQuoteM s.line).1) i (blkN 2) else s) w' := by
  have PQ := Lib.hid (lpastQuote_any h)
  have AD : Hid (∀ {W' : World} {O' : Nat → Option Nat} {rv' : Value} {tv' : Nat → Value} {xs' : List Value} {sb' : ByteArray} {k' : Nat}, Mem W' B O' (s.atL (pastQuoteM s.line).1) (.slice (some ⟨g, 0, none⟩) n cap) rv' tv' xs' sb' k' → _) := Lib.hid fun h' => addIn_post h' (s := s.atL (pastQuoteM s.line).1) hw ho (blkN 2) rfl (by decide) hp hlen
  unfold blkC at AD
  cases c : (pastQuoteM s.line).2 with
  | false =>
    rw [if_neg (by simp)]
    rw [c, quote_no c] at PQ
    clear h hw ho hp hlen c AD
    go_enter Tryz.func57, Tryz.ntmps57
    go_wp2_with fail
    refine PQ.out.mono ?_
    rintro e w1 ⟨rfl, q1⟩
    have R := Lib.hid q1.post
    clear q1 PQ
    go_wp2_with fail
    go_ret
    exact ⟨rfl, R.out⟩
  | true =>
    rw [if_pos rfl]
    rw [c] at PQ
    clear h hw ho hp hlen c
    go_enter Tryz.func57, Tryz.ntmps57
    go_wp2_with fail
    refine PQ.out.mono ?_
    rintro e w2 ⟨rfl, O2, rv2, tv2, xs2, sb2, k2, h2, c2⟩
    have C2 := Lib.hid c2
    have AD2 := Lib.hid (AD.out h2)
    clear h2 c2 PQ AD
    go_wp2_with fail
    refine AD2.out.mono ?_
    rintro e w3 ⟨v, rfl, q3⟩
    have R := Lib.hid (Post.trans C2.out q3)
    clear q3 AD2
    go_wp2_with fail
    go_ret
    exact ⟨rfl, R.out⟩

set_option maxRecDepth 100000 in
set_option maxHeartbeats 2000000 in
theorem beginRule_any (h : Mem W B O s (.slice (some ⟨g, 0, none⟩) n cap) rv tv xs sb k) (hw : Wf s.list s.tip) {i : Nat} (ho : On s.list s.tip i) (hp : phi s ≤ 100000) (hlen : s.list.length ≤ 100000) :
    Calls Tryz.prog 62 #[.pointer (some ⟨B, 0, none⟩), .int .i64 i] W fun e w' => e = .returned (.bool (ruleL s.line.next)) ∧ Post W B O (if ruleL s.line.next = true then addInM s i (blkN 9) else s) w' := by
  have hnl := h.lw.nextLen
  have hsz := h.siz
  have RU := Lib.hid (fun W => rule_any ⟨s.line.next.toArray⟩ W (by
    have e : (⟨s.line.next.toArray⟩ : ByteArray).size = s.line.next.length := by simp [ByteArray.size]
    simp only [maxLen]; omega))
  rw [show (⟨s.line.next.toArray⟩ : ByteArray).data.toList = s.line.next by simp] at RU
  have y8 := h.box.cell 8 (v := .string ⟨s.line.next.toArray⟩) rfl
  have AD := Lib.hid (addIn_post h hw ho (blkN 9) rfl (by decide) hp hlen)
  have ID := Lib.hid (Par.post ⟨_, _, _, _, _, _, h⟩ (Keeps.refl W))
  unfold blkC at AD
  generalize (⟨s.line.next.toArray⟩ : ByteArray) = z at *
  clear h hw ho hp hlen hnl hsz
  cases c : ruleL s.line.next with
  | false =>
    rw [if_neg (by simp)]
    rw [c] at RU
    clear c AD
    go_enter Tryz.func62, Tryz.ntmps62
    go_wp2_with fail
    refine (RU.out _).mono ?_
    rintro e w1 ⟨rfl, rfl⟩
    go_wp2_with fail
    go_ret
    exact ⟨rfl, ID.out⟩
  | true =>
    rw [if_pos rfl]
    rw [c] at RU
    clear c ID
    go_enter Tryz.func62, Tryz.ntmps62
    go_wp2_with fail
    refine (RU.out _).mono ?_
    rintro e w1 ⟨rfl, rfl⟩
    go_wp2_with fail
    refine AD.out.mono ?_
    rintro e w3 ⟨v, rfl, q3⟩
    have R := Lib.hid q3
    clear q3 AD
    go_wp2_with fail
    go_ret
    exact ⟨rfl, R.out⟩
end
end Go.Proofs.YtfgpephpkibbaaaGreatDoor

/-
  Contracts of block's tipTakes and beginItem.
-/
namespace Go.Proofs.YtfgpephpkibbaaaGreatDoor
open Go.RowKit Go.Lib

section
variable {W : World} {B : Nat} {O : Nat → Option Nat} {s : St} {rv : Value} {tv : Nat → Value} {xs : List Value} {sb : ByteArray} {k g n cap : Nat}
set_option maxRecDepth 100000 in
set_option maxHeartbeats 2000000 in
theorem tipTakes_any (h : Mem W B O s (.slice (some ⟨g, 0, none⟩) n cap) rv tv xs sb k) (ht : s.tip < s.list.length) (x : Bool × Nat × Nat × Nat) :
    Calls Tryz.prog 88 #[.pointer (some ⟨B, 0, none⟩), .agg (sgnV x)] W fun e w' => e = .returned (.bool (takesB s x)) ∧ Keeps W w' := by
  obtain ⟨rfl, hc1, hc2⟩ := h.num
  have KA : Keeps W (W.alloc (.cells (sgnV x) 97)) := (Keeps.refl W).alloc _
  have hB := Blk.new W 97 (sgnV x)
  have h1 := h.keep KA
  have KA2 := Lib.hid KA
  obtain ⟨o, st, mk, wd⟩ := x
  unfold takesB sgnV at *
  dsimp only at *
  have y0 := h1.box.cell 0 (v := .slice (some ⟨g, 0, none⟩) s.list.length cap) rfl
  have y1 := h1.box.cell 1 (v := .int .i64 s.tip) rfl
  have ht2 : (s.tip : Int) < (s.list.length : Int) := by omega
  have z0 := h1.at ht 0 (by decide)
  have z2 := h1.at ht 2 (by decide)
  have z4 := h1.at ht 4 (by decide)
  have b0 := hB.cell 0 (v := .bool o) rfl
  have b2 := hB.cell 2 (v := .int .u8 (mk : Nat)) rfl
  change _ = some (Value.int .i64 ((s.nd s.tip).kind : Nat)) at z0
  change _ = some (Value.bool (s.nd s.tip).ord) at z2
  change _ = some (Value.int .u8 ((s.nd s.tip).mark : Nat)) at z4
  rw [Nat.add_zero] at z0
  generalize (s.nd s.tip).kind = q at *
  generalize (s.nd s.tip).ord = r at *
  generalize (s.nd s.tip).mark = u at *
  clear h h1 KA hB
  by_cases q3 : q = 3
  · subst q3
    have e3 : decide ((3 : Nat) = 3) = true := rfl
    rw [e3, Bool.true_and]
    cases r
    · cases o
      · have t2 : ((u : Int) == (mk : Int)) = decide (u = mk) := by rw [Bool.eq_iff_iff]; simp; omega
        rw [show (decide (false = false)) = true from rfl, Bool.true_and]
        generalize decide (u = mk) = dd at *
        go_enter Tryz.func88, Tryz.ntmps88
        go_wp2_with fail
        generalize W.heap.size = bb at *
        generalize W.alloc (.cells #[.bool false, .int .i64 (st : Nat), .int .u8 (mk : Nat), .int .i64 (wd : Nat)] 97) = W1 at *
        go_quiet (fail)
        go_wp2_with fail
        go_quiet (fail)
        go_wp2_with fail
        go_ret
        exact ⟨rfl, (KA2.out.drewN _).drewN _⟩
      · rw [show (decide (false = true)) = false from rfl, Bool.false_and]
        go_enter Tryz.func88, Tryz.ntmps88
        go_wp2_with fail
        generalize W.heap.size = bb at *
        generalize W.alloc (.cells #[.bool true, .int .i64 (st : Nat), .int .u8 (mk : Nat), .int .i64 (wd : Nat)] 97) = W1 at *
        go_quiet (fail)
        go_wp2_with fail
        go_quiet (fail)
        go_wp2_with fail
        go_ret
        exact ⟨rfl, (KA2.out.drewN _).drewN _⟩
    · cases o
      · rw [show (decide (true = false)) = false from rfl, Bool.false_and]
        go_enter Tryz.func88, Tryz.ntmps88
        go_wp2_with fail
        generalize W.heap.size = bb at *
        generalize W.alloc (.cells #[.bool false, .int .i64 (st : Nat), .int .u8 (mk : Nat), .int .i64 (wd : Nat)] 97) = W1 at *
        go_quiet (fail)
        go_wp2_with fail
        go_quiet (fail)
        go_wp2_with fail
        go_ret
        exact ⟨rfl, (KA2.out.drewN _).drewN _⟩
      · have t2 : ((u : Int) == (mk : Int)) = decide (u = mk) := by rw [Bool.eq_iff_iff]; simp; omega
        rw [show (decide (true = true)) = true from rfl, Bool.true_and]
        generalize decide (u = mk) = dd at *
        go_enter Tryz.func88, Tryz.ntmps88
        go_wp2_with fail
        generalize W.heap.size = bb at *
        generalize W.alloc (.cells #[.bool true, .int .i64 (st : Nat), .int .u8 (mk : Nat), .int .i64 (wd : Nat)] 97) = W1 at *
        go_quiet (fail)
        go_wp2_with fail
        go_quiet (fail)
        go_wp2_with fail
        go_ret
        exact ⟨rfl, (KA2.out.drewN _).drewN _⟩
  · have e3 : decide (q = 3) = false := decide_eq_false q3
    have t3 : ((q : Int) == 3) = false := beq_eq_false_iff_ne.2 (by omega)
    rw [e3, Bool.false_and, Bool.false_and]
    clear q3 e3
    go_enter Tryz.func88, Tryz.ntmps88
    go_wp2_with fail
    generalize W.heap.size = bb at *
    generalize W.alloc (.cells #[.bool o, .int .i64 (st : Nat), .int .u8 (mk : Nat), .int .i64 (wd : Nat)] 97) = W1 at *
    go_quiet (fail)
    go_wp2_with fail
    go_quiet (fail)
    go_wp2_with fail
    go_ret
    exact ⟨rfl, (KA2.out.drewN _).drewN _⟩
end
end Go.Proofs.YtfgpephpkibbaaaGreatDoor

/-
  Contracts of block's beginHeading, beginHtml, beginUnder.
-/
namespace Go.Proofs.YtfgpephpkibbaaaGreatDoor
open Go.RowKit Go.Lib

theorem set_snoc {l : List Nd} (a x : Nd) (n : Nat) (h : n = l.length) : (l ++ [a]).set n x = l ++ [x] := by
  subst h
  simp
/-- What is set of a block that was added might have been set before. -/
theorem addIn_put (s : St) (i : Nat) (b : Nd) (f : Nd → Nd) (hf : ∀ (n : Nd) (u l a : Int) (d : Nat), f { n with up := u, last := l, ahead := a, depth := d } = { f n with up := u, last := l, ahead := a, depth := d }) (hk : (f b).kind = b.kind) :
    (addInM s i b).put (addInM s i b).tip (f ((addInM s i b).nd (addInM s i b).tip)) = addInM s i (f b) := by
  unfold addInM addM
  rw [hk]
  generalize addGo (cwM s i).tip (cwM s i) b.kind = s0
  have e1 : (pushM s0 b).tip = s0.list.length := rfl
  rw [e1, push_new, hf]
  unfold pushM St.put
  dsimp only
  congr 1
  exact set_snoc _ _ _ (by simp)
theorem addIn_tip (s : St) (i : Nat) (b : Nd) : (addInM s i b).tip < (addInM s i b).list.length := by
  unfold addInM addM
  rw [push_len]
  exact Nat.lt_succ_self _
section
variable {W : World} {B : Nat} {O : Nat → Option Nat} {s : St} {rv : Value} {tv : Nat → Value} {xs : List Value} {sb : ByteArray} {k g n cap : Nat}
set_option maxRecDepth 100000 in
set_option maxHeartbeats 2000000 in
theorem beginHeading_any (h : Mem W B O s (.slice (some ⟨g, 0, none⟩) n cap) rv tv xs sb k) (hw : Wf s.list s.tip) {i : Nat} (ho : On s.list s.tip i) (hp : phi s ≤ 100000) (hlen : s.list.length ≤ 100000) :
    Calls Tryz.prog 58 #[.pointer (some ⟨B, 0, none⟩), .int .i64 i] W fun e w' => e = .returned (.bool (!decide (headN s.line.next = 0))) ∧ Post W B O (if headN s.line.next ≠ 0 then bHeadM s i else s) w' := by
  have hnl := h.lw.nextLen
  have hsz := h.siz
  have HD := Lib.hid (fun W => heading_any ⟨s.line.next.toArray⟩ W (by
    have e : (⟨s.line.next.toArray⟩ : ByteArray).size = s.line.next.length := by simp [ByteArray.size]
    omega))
  rw [show (⟨s.line.next.toArray⟩ : ByteArray).data.toList = s.line.next by simp] at HD
  have y8 := h.box.cell 8 (v := .string ⟨s.line.next.toArray⟩) rfl
  have AD := Lib.hid (fun W' (q : Keeps W W') => addIn_any (h.keep q) hw ho { blkN 6 with level := headN s.line.next } rfl (show (6 : Nat) ≠ 4 by decide) hp hlen)
  have ID := Lib.hid (fun W' (q : Keeps W W') => Par.post ⟨_, _, _, _, _, _, h⟩ q)
  have hhl : (headL s.line.next).length ≤ s.line.next.length := by
    unfold headL
    split
    · simp
    · refine Nat.le_trans (headText_len _) ?_
      rw [List.length_drop]; omega
  have PT : Hid ((addInM s i { blkN 6 with level := headN s.line.next }).put (addInM s i { blkN 6 with level := headN s.line.next }).tip { (addInM s i { blkN 6 with level := headN s.line.next }).nd (addInM s i { blkN 6 with level := headN s.line.next }).tip with text := headL s.line.next } = bHeadM s i) := Lib.hid (addIn_put s i _ (fun n => { n with text := headL s.line.next }) (fun _ _ _ _ _ => rfl) rfl)
  have TP := Lib.hid (addIn_tip s i { blkN 6 with level := headN s.line.next })
  unfold blkC at AD
  generalize (⟨s.line.next.toArray⟩ : ByteArray) = z at *
  generalize headL s.line.next = T at *
  clear h hw ho hp hlen
  by_cases c : headN s.line.next = 0
  · rw [if_neg (by simp [c]), decide_eq_true c]
    rw [c] at HD
    clear c AD PT TP
    go_enter Tryz.func58, Tryz.ntmps58
    go_wp2_with fail
    refine (HD.out _).mono ?_
    rintro e w1 ⟨rfl, q1⟩
    have R := Lib.hid (ID.out _ q1)
    clear q1 ID
    go_wp2_with fail
    go_ret
    exact ⟨rfl, R.out⟩
  · rw [if_pos c, decide_eq_false c]
    have t1 := beqF (show ¬ (headN s.line.next : Int) = 0 by omega)
    generalize addInM s i { blkN 6 with level := headN s.line.next } = s1 at *
    generalize bHeadM s i = s2 at *
    dsimp only [blkN] at AD
    generalize headN s.line.next = lv at *
    clear c ID
    go_enter Tryz.func58, Tryz.ntmps58
    go_wp2_with fail
    refine (HD.out _).mono ?_
    rintro e w1 ⟨rfl, q1⟩
    have AD2 := Lib.hid (AD.out _ q1)
    have K1 := Lib.hid q1
    clear q1 AD
    go_wp2_with fail
    refine AD2.out.mono ?_
    rintro e w2 ⟨O2, g2, n2, cap2, rv2, tv2, xs2, sb2, k2, rfl, m2, c2⟩
    obtain ⟨ao, ca, e14, _, _⟩ := (m2.txt s1.tip TP.out).form
    obtain ⟨v4, o4, rc, ht4, ow4, c4, e4⟩ := Tx.made (P := Tryz.prog) w2 9 59 5 T (by omega) Tryz.underlying9 Tryz.underlying59 Tryz.underlying5
    subst e4
    have z14 : (w2.drew.alloc o4).cell? ⟨g2, s1.tip * 20 + 14, none⟩ = some (tv2 s1.tip) := (m2.keep (((Keeps.refl w2).drew).alloc o4)).at TP.out 14 (by decide)
    have f14 : (w2.drew.alloc o4).frozen? ⟨g2, s1.tip * 20 + 14, none⟩ = false := (m2.keep (((Keeps.refl w2).drew).alloc o4)).free _
    rw [e14] at z14
    obtain ⟨O4, m4, q4⟩ := m2.text TP.out (.slice (some ⟨w2.heap.size, 0, none⟩) T.length c4) { s1.nd s1.tip with text := T } 14 (by decide) _ (nd_text _ _ _ _) (grown_drew_alloc w2 o4 _) ht4 (.inr ow4)
    have R := Lib.hid (show Post W B O s2 _ from ⟨O4, ⟨_, _, _, _, _, _, by rw [← PT.out]; exact m4⟩, (Chg.keeps O K1.out).trans (c2.trans q4)⟩)
    clear m4 q4 m2 c2 ht4 AD2 HD
    generalize w2.drew.alloc o4 = w4 at *
    go_wp2_with fail
    go_ret
    exact ⟨rfl, R.out⟩
end
end Go.Proofs.YtfgpephpkibbaaaGreatDoor

/-
  Contracts of block's beginHtml, beginUnder, beginFence. (Written by wip/tools/bkhtml.py.)
-/
namespace Go.Proofs.YtfgpephpkibbaaaGreatDoor
open Go.RowKit Go.Lib

section
variable {W : World} {B : Nat} {O : Nat → Option Nat} {s : St} {rv : Value} {tv : Nat → Value} {xs : List Value} {sb : ByteArray} {k g n cap : Nat}
set_option maxRecDepth 100000 in
set_option maxHeartbeats 4000000 in
theorem beginHtml_any (h : Mem W B O s (.slice (some ⟨g, 0, none⟩) n cap) rv tv xs sb k) (hw : Wf s.list s.tip) {i : Nat} (ho : On s.list s.tip i) (hp : phi s ≤ 100000) (hlen : s.list.length ≤ 100000) :
    Calls Tryz.prog 60 #[.pointer (some ⟨B, 0, none⟩), .int .i64 i] W fun e w' => e = .returned (.bool (!decide (htmKM s = 0))) ∧ Post W B O (if htmKM s ≠ 0 then bHtmlM s i else s) w' := by
  have hnl := h.lw.nextLen
  have hsz := h.siz
  have hzs : (⟨s.line.next.toArray⟩ : ByteArray).size = s.line.next.length := by simp [ByteArray.size]
  have HT := Lib.hid (fun W => html_any ⟨s.line.next.toArray⟩ W (by omega))
  have IE := Lib.hid (fun W (q : Mxl W) => isElement_any ⟨s.line.next.toArray⟩ W (by omega) q)
  rw [show (⟨s.line.next.toArray⟩ : ByteArray).data.toList = s.line.next by simp] at HT IE
  have Y8 := Lib.hid (fun W' (q : Keeps W W') => (h.keep q).box.cell 8 (v := .string ⟨s.line.next.toArray⟩) rfl)
  have y8 := Y8.out W (Keeps.refl W)
  have TI := Lib.hid (fun W' (q : Keeps W W') => tipIs_any (h.keep q) hw.tip 5)
  have MX := Lib.hid (fun W' (q : Keeps W W') => (h.keep q).env.mxl)
  have AD := Lib.hid (fun W' (q : Keeps W W') => addIn_any (h.keep q) hw ho (blkN 8) rfl (by decide) hp hlen)
  have ID := Lib.hid (fun W' (q : Keeps W W') => Par.post ⟨_, _, _, _, _, _, h⟩ q)
  have PT : Hid ((addInM s i (blkN 8)).put (addInM s i (blkN 8)).tip { (addInM s i (blkN 8)).nd (addInM s i (blkN 8)).tip with html := htmKM s } = bHtmlM s i) := Lib.hid (addIn_put s i (blkN 8) (fun n => { n with html := htmKM s }) (fun _ _ _ _ _ => rfl) rfl)
  have TP := Lib.hid (addIn_tip s i (blkN 8))
  have HK : Hid (htmKM s = _) := Lib.hid (htmKM.eq_1 s)
  unfold blkC at AD
  generalize addInM s i (blkN 8) = s1 at *
  dsimp only [blkN] at AD
  generalize bHtmlM s i = s2 at *
  generalize (⟨s.line.next.toArray⟩ : ByteArray) = z at *
  clear h hw ho hp hlen hzs hnl
  by_cases c0 : htmlL s.line.next = 0
  · rw [if_pos c0] at HK
    rw [c0] at HT
    by_cases cp : (s.nd s.tip).kind = 5
    · rw [decide_eq_true cp] at TI
      have e0 : htmKM s = 0 := by rw [HK.out, cp]; rfl
      rw [if_neg (by simp [e0]), decide_eq_true e0]
      clear HK cp c0 e0 PT AD
      go_enter Tryz.func60, Tryz.ntmps60
      go_wp2_with fail
      refine (HT.out _).mono ?_
      rintro e w1 ⟨rfl, q1⟩
      have K1 := Lib.hid q1
      have T1 := Lib.hid (TI.out _ q1)
      clear q1
      go_wp2_with fail
      refine T1.out.mono ?_
      rintro e w2 ⟨rfl, m, rfl⟩
      have R := Lib.hid (ID.out _ (K1.out.drewN m))
      go_wp2_with fail
      go_ret
      exact ⟨rfl, R.out⟩
    · rw [decide_eq_false cp] at TI
      cases ce : elemB s.line.next with
      | false =>
        rw [ce] at IE
        have e0 : htmKM s = 0 := by rw [HK.out, ce]; simp
        rw [if_neg (by simp [e0]), decide_eq_true e0]
        clear HK cp c0 e0 PT AD ce
        go_enter Tryz.func60, Tryz.ntmps60
        go_wp2_with fail
        refine (HT.out _).mono ?_
        rintro e w1 ⟨rfl, q1⟩
        have K1 := Lib.hid q1
        have T1 := Lib.hid (TI.out _ q1)
        clear q1
        go_wp2_with fail
        refine T1.out.mono ?_
        rintro e w2 ⟨rfl, m, rfl⟩
        have KM := Lib.hid (K1.out.drewN m)
        have y8b := Y8.out _ KM.out
        have I1 := Lib.hid (IE.out _ (MX.out _ KM.out))
        go_wp2_with fail
        refine I1.out.mono ?_
        rintro e w3 ⟨rfl, q3⟩
        have R := Lib.hid (ID.out _ (KM.out.trans q3))
        clear q3
        go_wp2_with fail
        go_ret
        exact ⟨rfl, R.out⟩
      | true =>
        rw [ce] at IE
        have e7 : htmKM s = 7 := by rw [HK.out, ce, decide_eq_false cp]; rfl
        rw [if_pos (by rw [e7]; decide), decide_eq_false (by rw [e7]; decide)]
        rw [e7] at PT
        clear HK cp c0 e7 ce ID
        go_enter Tryz.func60, Tryz.ntmps60
        go_wp2_with fail
        refine (HT.out _).mono ?_
        rintro e w1 ⟨rfl, q1⟩
        have K1 := Lib.hid q1
        have T1 := Lib.hid (TI.out _ q1)
        clear q1
        go_wp2_with fail
        refine T1.out.mono ?_
        rintro e w2 ⟨rfl, m, rfl⟩
        have KM := Lib.hid (K1.out.drewN m)
        have y8b := Y8.out _ KM.out
        have I1 := Lib.hid (IE.out _ (MX.out _ KM.out))
        go_wp2_with fail
        refine I1.out.mono ?_
        rintro e w3 ⟨rfl, q3⟩
        have KW := Lib.hid (KM.out.trans q3)
        clear q3
        have AD2 := Lib.hid (AD.out _ KW.out)
        go_wp2_with fail
        refine AD2.out.mono ?_
        rintro e w4 ⟨O2, g2, n2, cap2, rv2, tv2, xs2, sb2, k2, rfl, m2, c2⟩
        have z18 : w4.cell? ⟨g2, s1.tip * 20 + 18, none⟩ = some (.int .i64 ((s1.nd s1.tip).html : Nat)) := m2.at TP.out 18 (by decide)
        have f18 : w4.frozen? ⟨g2, s1.tip * 20 + 18, none⟩ = false := m2.free _
        obtain ⟨O4, m4, q4⟩ := m2.store TP.out { s1.nd s1.tip with html := 7 } 18 (by decide) _ (nd_html _ _ _) rfl
        have R := Lib.hid (show Post W B O s2 _ from ⟨O4, ⟨_, _, _, _, _, _, by rw [← PT.out]; exact m4⟩, (Chg.keeps O KW.out).trans (c2.trans q4)⟩)
        clear m4 q4 m2 c2 AD2 AD
        go_wp2_with fail
        go_ret
        exact ⟨rfl, R.out⟩
  · rw [if_neg c0] at HK
    rw [if_pos (by rw [HK.out]; exact c0), decide_eq_false (by rw [HK.out]; exact c0)]
    rw [HK.out] at PT
    have t1 := beqF (show ¬ (htmlL s.line.next : Int) = 0 by omega)
    clear HK c0 ID TI IE
    generalize htmlL s.line.next = kd at *
    go_enter Tryz.func60, Tryz.ntmps60
    go_wp2_with fail
    refine (HT.out _).mono ?_
    rintro e w1 ⟨rfl, q1⟩
    have K1 := Lib.hid q1
    clear q1
    have AD2 := Lib.hid (AD.out _ K1.out)
    go_wp2_with fail
    refine AD2.out.mono ?_
    rintro e w4 ⟨O2, g2, n2, cap2, rv2, tv2, xs2, sb2, k2, rfl, m2, c2⟩
    have z18 : w4.cell? ⟨g2, s1.tip * 20 + 18, none⟩ = some (.int .i64 ((s1.nd s1.tip).html : Nat)) := m2.at TP.out 18 (by decide)
    have f18 : w4.frozen? ⟨g2, s1.tip * 20 + 18, none⟩ = false := m2.free _
    obtain ⟨O4, m4, q4⟩ := m2.store TP.out { s1.nd s1.tip with html := kd } 18 (by decide) _ (nd_html _ _ _) rfl
    have R := Lib.hid (show Post W B O s2 _ from ⟨O4, ⟨_, _, _, _, _, _, by rw [← PT.out]; exact m4⟩, (Chg.keeps O K1.out).trans (c2.trans q4)⟩)
    clear m4 q4 m2 c2 AD2 AD
    go_wp2_with fail
    go_ret
    exact ⟨rfl, R.out⟩

set_option maxRecDepth 100000 in
set_option maxHeartbeats 4000000 in
theorem beginUnder_any (h : Mem W B O s (.slice (some ⟨g, 0, none⟩) n cap) rv tv xs sb k) {i : Nat} (hi : i < s.list.length) (hp : phi s ≤ 100000) :
    Calls Tryz.prog 61 #[.pointer (some ⟨B, 0, none⟩), .int .i64 i] W fun e w' => e = .returned (.bool (bUnderM s i).2) ∧ NPost W B O (bUnderM s i).1 (.slice (some ⟨g, 0, none⟩) n cap) w' := by
  obtain ⟨rfl, hc1, hc2⟩ := h.num
  have hnl := h.lw.nextLen
  have hsz := h.siz
  have UN := Lib.hid (fun W => under_any ⟨s.line.next.toArray⟩ W (by
    have e : (⟨s.line.next.toArray⟩ : ByteArray).size = s.line.next.length := by simp [ByteArray.size]
    simp only [maxLen]; omega))
  rw [show (⟨s.line.next.toArray⟩ : ByteArray).data.toList = s.line.next by simp] at UN
  have y8 := h.box.cell 8 (v := .string ⟨s.line.next.toArray⟩) rfl
  have y0 := h.box.cell 0 (v := .slice (some ⟨g, 0, none⟩) s.list.length cap) rfl
  have HM := Lib.hid h
  have Z0 : Hid (∀ W', Keeps W W' → W'.cell? ⟨g, i * 20, none⟩ = some (.int .i64 ((s.nd i).kind : Nat))) := Lib.hid fun W' q => (h.keep q).at hi 0 (by decide)
  have ID := Lib.hid (fun W' (q : Keeps W W') => (show NPost W B O s (.slice (some ⟨g, 0, none⟩) s.list.length cap) W' from ⟨O, rv, tv, xs, sb, k, h.keep q, Chg.keeps O q⟩))
  have DF := Lib.hid (fun W' (q : Keeps W W') => bdefine_any (h.keep q) hi hp)
  have hi2 : (i : Int) < (s.list.length : Int) := by omega
  have hdl := define_len s i
  generalize (⟨s.line.next.toArray⟩ : ByteArray) = z at *
  have HB : Hid (bUnderM s i = _) := Lib.hid (bUnderM.eq_1 s i)
  obtain ⟨E, hE⟩ : ∃ E, bUnderM s i = E := ⟨_, rfl⟩
  rw [hE] at HB ⊢
  clear h hp hnl hsz hE hc1 hc2
  by_cases u0 : underL s.line.next = 0
  · have e1 : E = (s, false) := by rw [HB.out, if_pos (.inl u0)]
    subst e1
    rw [u0] at UN
    clear HB u0 DF Z0
    go_enter Tryz.func61, Tryz.ntmps61
    go_wp2_with fail
    refine (UN.out _).mono ?_
    rintro e w1 ⟨rfl, q1⟩
    have R := Lib.hid (ID.out _ q1)
    clear q1
    go_wp2_with fail
    go_ret
    exact ⟨rfl, R.out⟩
  · have t1 := beqF (show ¬ (underL s.line.next : Int) = 0 by omega)
    by_cases k5 : (s.nd i).kind = 5
    · rw [k5] at Z0
      have HB2 : Hid (E = if ((defineM s i).nd i).text = [] then (defineM s i, false) else ((defineM s i).put i { (defineM s i).nd i with kind := 6, level := underL s.line.next }, true)) := Lib.hid (by rw [HB.out, if_neg (fun q => q.elim u0 (fun q => q k5))])
      generalize underL s.line.next = lv at *
      clear HB u0 k5 ID
      go_enter Tryz.func61, Tryz.ntmps61
      go_wp2_with fail
      refine (UN.out _).mono ?_
      rintro e w1 ⟨rfl, q1⟩
      have z0 := Z0.out _ q1
      have DF1 := Lib.hid (DF.out _ q1)
      have K1 := Lib.hid q1
      clear q1 DF
      go_wp2_with fail
      refine DF1.out.mono ?_
      rintro e w2 ⟨rfl, O2, rv2, tv2, xs2, sb2, k2, m2, c2⟩
      have hi2' : i < (defineM s i).list.length := by rw [hdl]; exact hi
      obtain ⟨ao, ca, e14, _, _⟩ := (m2.txt i hi2').form
      have z14 : w2.cell? ⟨g, i * 20 + 14, none⟩ = some (tv2 i) := m2.at hi2' 14 (by decide)
      rw [e14] at z14
      by_cases c : ((defineM s i).nd i).text = []
      · have e1 : E = (defineM s i, false) := by rw [HB2.out, if_pos c]
        subst e1
        rw [c] at z14
        have R := Lib.hid (show NPost W B O (defineM s i) (.slice (some ⟨g, 0, none⟩) s.list.length cap) w2 from ⟨O2, _, _, _, _, _, m2, (Chg.keeps O K1.out).trans c2⟩)
        clear m2 c2 c HB2 DF1
        go_wp2_with fail
        go_ret
        exact ⟨rfl, R.out⟩
      · have e1 : E = ((defineM s i).put i { (defineM s i).nd i with kind := 6, level := lv }, true) := by rw [HB2.out, if_neg c]
        subst e1
        have hl : ((defineM s i).nd i).text.length ≠ 0 := fun e => c (List.eq_nil_of_length_eq_zero e)
        have x0 : w2.cell? ⟨g, i * 20, none⟩ = some (.int .i64 (((defineM s i).nd i).kind : Nat)) := m2.at hi2' 0 (by decide)
        have g0 : w2.frozen? ⟨g, i * 20, none⟩ = false := m2.free _
        obtain ⟨O3, m3, q3⟩ := m2.store hi2' { (defineM s i).nd i with kind := 6 } 0 (by decide) _ (nd_kind _ _ _) rfl
        have hi3 : i < ((defineM s i).put i { (defineM s i).nd i with kind := 6 }).list.length := by unfold St.put; simpa using hi2'
        have x1 : (w2.setCell ⟨g, i * 20 + 0, none⟩ (.int .i64 (6 : Nat))).cell? ⟨g, i * 20 + 1, none⟩ = some (.int .i64 ((((defineM s i).put i { (defineM s i).nd i with kind := 6 }).nd i).level : Nat)) := m3.at hi3 1 (by decide)
        have g1 : (w2.setCell ⟨g, i * 20 + 0, none⟩ (.int .i64 (6 : Nat))).frozen? ⟨g, i * 20 + 1, none⟩ = false := m3.free _
        obtain ⟨O4, m4, q4⟩ := m3.store hi3 { (((defineM s i).put i { (defineM s i).nd i with kind := 6 }).nd i) with level := lv } 1 (by decide) _ (nd_level _ _ _) rfl
        have R := Lib.hid (show NPost W B O ((defineM s i).put i { (defineM s i).nd i with kind := 6, level := lv }) (.slice (some ⟨g, 0, none⟩) s.list.length cap) _ from ⟨O4, _, _, _, _, _, by
          rw [put_nd hi2', put_put] at m4
          exact m4, (Chg.keeps O K1.out).trans (c2.trans (q3.trans q4))⟩)
        rw [put_nd hi2'] at x1
        have x1' : (w2.setCell ⟨g, i * 20, none⟩ (.int .i64 (6 : Int))).cell? ⟨g, i * 20 + 1, none⟩ = some (.int .i64 (((defineM s i).nd i).level : Nat)) := x1
        have g1' : (w2.setCell ⟨g, i * 20, none⟩ (.int .i64 (6 : Int))).frozen? ⟨g, i * 20 + 1, none⟩ = false := g1
        generalize ((defineM s i).nd i).text.length = tl at *
        generalize ((defineM s i).nd i).level = l0 at *
        generalize ((defineM s i).nd i).kind = k0 at *
        have t2 := beqF (show ¬ (tl : Int) = 0 by omega)
        clear hl m2 c2 m3 q3 m4 q4 c HB2 DF1 x1 g1 hi3
        go_wp2_with fail
        go_ret
        exact ⟨rfl, R.out⟩
    · have e1 : E = (s, false) := by rw [HB.out, if_pos (.inr k5)]
      subst e1
      have t5 := beqF (show ¬ ((s.nd i).kind : Int) = 5 by omega)
      have t5' : (((s.nd i).kind : Int) != 5) = true := by rw [bne, t5]; rfl
      generalize (s.nd i).kind = q at *
      generalize underL s.line.next = lv at *
      clear HB u0 k5 DF
      go_enter Tryz.func61, Tryz.ntmps61
      go_wp2_with fail
      refine (UN.out _).mono ?_
      rintro e w1 ⟨rfl, q1⟩
      have R := Lib.hid (ID.out _ q1)
      have z0 := Z0.out _ q1
      clear q1
      go_wp2_with fail
      go_ret
      exact ⟨rfl, R.out⟩

theorem fenC_sign (l : List UInt8) : fenC l = (fenS l).toNat := by
  unfold fenC fenS
  split <;> rfl
set_option maxRecDepth 100000 in
set_option maxHeartbeats 4000000 in
theorem beginFence_any (h : Mem W B O s (.slice (some ⟨g, 0, none⟩) n cap) rv tv xs sb k) (hw : Wf s.list s.tip) {i : Nat} (ho : On s.list s.tip i) (hp : phi s ≤ 100000) (hlen : s.list.length ≤ 100000) :
    Calls Tryz.prog 59 #[.pointer (some ⟨B, 0, none⟩), .int .i64 i] W fun e w' => e = .returned (.bool (!decide (fenN s.line.next = 0))) ∧ Post W B O (if fenN s.line.next ≠ 0 then bFenceM s i else s) w' := by
  have hnl := h.lw.nextLen
  have hsz := h.siz
  have FE := Lib.hid (fence_any ⟨s.line.next.toArray⟩ W (by
    have e : (⟨s.line.next.toArray⟩ : ByteArray).size = s.line.next.length := by simp [ByteArray.size]
    omega) h.env.lis)
  rw [show (⟨s.line.next.toArray⟩ : ByteArray).data.toList = s.line.next by simp, fenC_sign] at FE
  have y8 := h.box.cell 8 (v := .string ⟨s.line.next.toArray⟩) rfl
  have AD := Lib.hid (fun W' (q : Keeps W W') => addIn_any (h.keep q) hw ho { blkN 7 with info := fenT s.line.next } rfl (show (7 : Nat) ≠ 4 by decide) hp hlen)
  have ID := Lib.hid (fun W' (q : Keeps W W') => Par.post ⟨_, _, _, _, _, _, h⟩ q)
  have PT : Hid ((addInM s i { blkN 7 with info := fenT s.line.next }).put (addInM s i { blkN 7 with info := fenT s.line.next }).tip { (addInM s i { blkN 7 with info := fenT s.line.next }).nd (addInM s i { blkN 7 with info := fenT s.line.next }).tip with fence := fenS s.line.next, count := fenN s.line.next, indent := s.line.ind } = bFenceM s i) := Lib.hid (addIn_put s i _ (fun n => { n with fence := fenS s.line.next, count := fenN s.line.next, indent := s.line.ind }) (fun _ _ _ _ _ => rfl) rfl)
  have TP := Lib.hid (addIn_tip s i { blkN 7 with info := fenT s.line.next })
  have LN : Hid ((addInM s i { blkN 7 with info := fenT s.line.next }).line = s.line) := Lib.hid (by
    unfold addInM addM
    show (addGo (cwM s i).tip (cwM s i) 7).line = s.line
    exact (addGo_ok _ _ 7 (Nat.le_refl _) (cw_wf hw ho) (.inl (by decide))).2.2.2.1.trans (cw_ok hw ho).2.2.2.1)
  unfold blkC at AD
  generalize (⟨s.line.next.toArray⟩ : ByteArray) = z at *
  generalize addInM s i { blkN 7 with info := fenT s.line.next } = s1 at *
  generalize bFenceM s i = s2 at *
  generalize fenS s.line.next = fs at *
  dsimp only [blkN] at AD
  generalize fenT s.line.next = ft at *
  generalize hil : s.line.ind = il at *
  have HIL := Lib.hid hil
  clear h hw ho hp hlen hnl hil
  by_cases c : fenN s.line.next = 0
  · rw [if_neg (by simp [c]), decide_eq_true c]
    rw [c] at FE
    generalize fs.toNat = fn at *
    clear c AD PT TP LN
    go_enter Tryz.func59, Tryz.ntmps59
    go_wp2_with fail
    refine FE.out.mono ?_
    rintro e w1 ⟨rfl, q1⟩
    have R := Lib.hid (ID.out _ q1)
    clear q1 ID
    go_wp2_with fail
    go_ret
    exact ⟨rfl, R.out⟩
  · rw [if_pos c, decide_eq_false c]
    have t1 := beqF (show ¬ (fenN s.line.next : Int) = 0 by omega)
    generalize fenN s.line.next = fc at *
    clear c ID
    go_enter Tryz.func59, Tryz.ntmps59
    go_wp2_with fail
    refine FE.out.mono ?_
    rintro e w1 ⟨rfl, q1⟩
    have AD2 := Lib.hid (AD.out _ q1)
    have K1 := Lib.hid q1
    clear q1 AD
    go_wp2_with fail
    refine AD2.out.mono ?_
    rintro e w2 ⟨O2, g2, n2, cap2, rv2, tv2, xs2, sb2, k2, rfl, m2, c2⟩
    have y7 : w2.cell? ⟨B, 7, none⟩ = some (.int .i64 (s1.line.ind : Nat)) := m2.box.cell 7 rfl
    rw [LN.out, HIL.out] at y7
    have z16 : w2.cell? ⟨g2, s1.tip * 20 + 16, none⟩ = some (.int .u8 ((s1.nd s1.tip).fence.toNat : Nat)) := m2.at TP.out 16 (by decide)
    have f16 : w2.frozen? ⟨g2, s1.tip * 20 + 16, none⟩ = false := m2.free _
    obtain ⟨O3, m3, q3⟩ := m2.store TP.out { s1.nd s1.tip with fence := fs } 16 (by decide) _ (nd_fence _ _ _) rfl
    have T3 : s1.tip < (s1.put s1.tip { s1.nd s1.tip with fence := fs }).list.length := by unfold St.put; simpa using TP.out
    have z17 : (w2.setCell ⟨g2, s1.tip * 20 + 16, none⟩ (.int .u8 (fs.toNat : Nat))).cell? ⟨g2, s1.tip * 20 + 17, none⟩ = some (.int .i64 (((s1.put s1.tip { s1.nd s1.tip with fence := fs }).nd s1.tip).count : Nat)) := m3.at T3 17 (by decide)
    have f17 : (w2.setCell ⟨g2, s1.tip * 20 + 16, none⟩ (.int .u8 (fs.toNat : Nat))).frozen? ⟨g2, s1.tip * 20 + 17, none⟩ = false := m3.free _
    obtain ⟨O4, m4, q4⟩ := m3.store T3 { (s1.put s1.tip { s1.nd s1.tip with fence := fs }).nd s1.tip with count := fc } 17 (by decide) _ (nd_count _ _ _) rfl
    rw [put_nd TP.out, put_put] at m4
    rw [put_nd TP.out] at z17
    have T4 : s1.tip < (s1.put s1.tip { s1.nd s1.tip with fence := fs, count := fc }).list.length := by unfold St.put; simpa using TP.out
    have z15 : ((w2.setCell ⟨g2, s1.tip * 20 + 16, none⟩ (.int .u8 (fs.toNat : Nat))).setCell ⟨g2, s1.tip * 20 + 17, none⟩ (.int .i64 (fc : Nat))).cell? ⟨g2, s1.tip * 20 + 15, none⟩ = some (.int .i64 (((s1.put s1.tip { s1.nd s1.tip with fence := fs, count := fc }).nd s1.tip).indent : Nat)) := m4.at T4 15 (by decide)
    have f15 : ((w2.setCell ⟨g2, s1.tip * 20 + 16, none⟩ (.int .u8 (fs.toNat : Nat))).setCell ⟨g2, s1.tip * 20 + 17, none⟩ (.int .i64 (fc : Nat))).frozen? ⟨g2, s1.tip * 20 + 15, none⟩ = false := m4.free _
    obtain ⟨O5, m5, q5⟩ := m4.store T4 { (s1.put s1.tip { s1.nd s1.tip with fence := fs, count := fc }).nd s1.tip with indent := il } 15 (by decide) _ (nd_indent _ _ _) rfl
    rw [put_nd TP.out, put_put] at m5
    rw [put_nd TP.out] at z15
    have R := Lib.hid (show Post W B O s2 _ from ⟨O5, ⟨_, _, _, _, _, _, by rw [← PT.out]; exact m5⟩, (Chg.keeps O K1.out).trans (c2.trans (q3.trans (q4.trans q5)))⟩)
    clear m3 q3 m4 q4 m5 q5 m2 c2 AD2 T3 T4
    generalize (s1.nd s1.tip).fence.toNat = v16 at *
    generalize (s1.nd s1.tip).count = v17 at *
    generalize (s1.nd s1.tip).indent = v15 at *
    generalize fs.toNat = fn at *
    go_wp2_with fail
    go_ret
    exact ⟨rfl, R.out⟩
end
end Go.Proofs.YtfgpephpkibbaaaGreatDoor

/-
  Contract of block's endBlank.
-/
namespace Go.Proofs.YtfgpephpkibbaaaGreatDoor
open Go.RowKit Go.Lib

theorem eb_none (n : Nat) (l : List Nd) (b : Bool) : ebGo n l (-1) b = l := by
  cases n with
  | zero => rfl
  | succ n => unfold ebGo; rw [if_pos rfl]
theorem Wf.be {l : List Nd} {t : Nat} (h : Wf l t) (i : Nat) (b : Bool) : Wf (l.set i { gN l i with be := b }) t :=
  h.set i _ ⟨rfl, rfl, rfl, rfl⟩ (fun e => by rw [e]; exact h.doc) (h.ind i)
theorem Wf.upQ {l : List Nd} {t : Nat} (h : Wf l t) {i : Nat} (hi : i < l.length) : Plq l (gN l i).up ∧ (gN l i).up < (i : Int) := by
  rcases Nat.eq_zero_or_pos i with h0 | h0
  · subst h0; rw [h.up0]; exact ⟨.inl rfl, by omega⟩
  · have := h.up i h0 hi; exact ⟨.inr (by omega), this.2⟩
theorem eb_fuel {t : Nat} {b : Bool} : ∀ (n m : Nat) (l : List Nd) (j : Int), Wf l t → Plq l j → j < n → j < m → ebGo n l j b = ebGo m l j b
  | 0, m, l, j, _, hq, hn, _ => by
    rcases hq with e | e
    · rw [e, eb_none, eb_none]
    · omega
  | n + 1, 0, l, j, _, hq, _, hm => by
    rcases hq with e | e
    · rw [e, eb_none, eb_none]
    · omega
  | n + 1, m + 1, l, j, h, hq, hn, hm => by
    rcases hq with e | e
    · rw [e, eb_none, eb_none]
    · have u : ∀ k, ebGo (k + 1) l j b = ebGo k (l.set j.toNat { gN l j.toNat with be := b }) (gN l j.toNat).up b := fun k => by rw [ebGo, if_neg (by omega)]
      rw [u, u]
      have hu := h.upQ (i := j.toNat) (by omega)
      exact eb_fuel n m _ _ (h.be _ b) (by unfold Plq at *; rw [List.length_set]; exact hu.1) (by omega) (by omega)
theorem eb_step {l : List Nd} {t : Nat} (h : Wf l t) {j : Nat} (hj : j < l.length) (b : Bool) : ebGo l.length l j b = ebGo (l.set j { gN l j with be := b }).length (l.set j { gN l j with be := b }) (gN l j).up b := by
  obtain ⟨m, hm⟩ : ∃ m, l.length = m + 1 := ⟨l.length - 1, by omega⟩
  have e : ebGo l.length l j b = ebGo (m + 1) l j b := by rw [hm]
  have u : ebGo (m + 1) l j b = ebGo m (l.set (j : Int).toNat { gN l (j : Int).toNat with be := b }) (gN l (j : Int).toNat).up b := by rw [ebGo, if_neg (by omega)]
  rw [e, u, Int.toNat_natCast]
  have hu := h.upQ hj
  exact eb_fuel _ _ _ _ (h.be _ b) (by unfold Plq at *; rw [List.length_set]; exact hu.1) (by omega) (by rw [List.length_set]; omega)
theorem full_be {s : St} {i j : Nat} (b : Bool) : fullB { s with list := s.list.set j { s.nd j with be := b } } i = fullB s i := by
  unfold fullB St.nd
  dsimp only
  rw [gN_set]
  split
  · next e => rw [e.1]
  · rfl

section
variable {W : World} {B : Nat} {O : Nat → Option Nat} {s : St} {rv : Value} {tv : Nat → Value} {xs : List Value} {sb : ByteArray} {k g n cap : Nat}
/-- The loop of endBlank, from a list l on. -/
def EbAt (W : World) (B : Nat) (O : Nat → Option Nat) (s : St) (lv : Value) (wr : World) (l : List Nd) : Prop := ∃ O1 rv1 tv1 xs1 sb1 k1, Mem wr B O1 { s with list := l } lv rv1 tv1 xs1 sb1 k1 ∧ Chg W O wr O1
set_option maxRecDepth 100000 in
set_option maxHeartbeats 4000000 in
theorem endBlank_any (h : Mem W B O s (.slice (some ⟨g, 0, none⟩) n cap) rv tv xs sb k) (hw : Wf s.list s.tip) {i : Nat} (hi : i < s.list.length) :
    Calls Tryz.prog 44 #[.pointer (some ⟨B, 0, none⟩), .int .i64 i] W fun e w' => e = .returned (.tuple #[]) ∧ NPost W B O (endBlankM s i) (.slice (some ⟨g, 0, none⟩) n cap) w' := by
  have hn := h.num.1
  have BL := Lib.hid (lblank_any h)
  have y0 := h.box.cell 0 (v := .slice (some ⟨g, 0, none⟩) n cap) rfl
  have z11 : W.cell? ⟨g, i * 20 + 11, none⟩ = some (.int .i64 (s.nd i).last) := h.at hi 11 (by decide)
  have hi2 : (i : Int) < (n : Int) := by omega
  obtain ⟨E, hE⟩ : ∃ E, endBlankM s i = E := ⟨_, rfl⟩
  have HE := Lib.hid hE
  rw [hE]
  have HM := Lib.hid h
  have HW := Lib.hid hw
  have HI := Lib.hid hi
  have LQ := Lib.hid (hw.lastQ hi)
  have LL := Lib.hid (hw.last i hi)
  have HN := Lib.hid hn
  have H0 := Lib.hid (show EbAt W B O s (.slice (some ⟨g, 0, none⟩) n cap) W s.list from ⟨O, _, _, _, _, _, h, Chg.refl _ _⟩)
  obtain ⟨la, hla⟩ : ∃ la, (s.nd i).last = la := ⟨_, rfl⟩
  have LQ' : Hid (Plq s.list la) := Lib.hid (by rw [← hla]; exact LQ.out)
  have HLA := Lib.hid hla
  rw [hla] at z11
  by_cases c : s.line.next = []
  · rw [decide_eq_true c] at BL
    obtain ⟨fb, hfb⟩ : ∃ fb, fullB s i = fb := ⟨_, rfl⟩
    by_cases l1 : la = -1
    · have FU := Lib.hid (isFull_any h hi)
      rw [hfb] at FU
      have E0 : Hid ({ s with list := ebGo s.list.length s.list i (!fb) } = E) := Lib.hid (by rw [← HE.out, ← hfb]; unfold endBlankM ebLast; rw [if_neg (by rw [hla]; simp [l1]), decide_eq_true c]; rfl)
      subst l1
      clear h hw hi c hE hfb hla LQ LL hn
      go_enter Tryz.func44, Tryz.ntmps44
      go_wp2_with fail
      refine BL.out.mono ?_
      rintro e w1 ⟨rfl, rfl⟩
      go_wp2_with fail
      refine FU.out.mono ?_
      rintro e w1 ⟨rfl, rfl⟩
      go_wp2_with fail
      go_loopw [1] (fun v wr => ∃ (j : Int) (l : List Nd), v = .int .i64 j ∧ Hid (EbAt W B O s (.slice (some ⟨g, 0, none⟩) n cap) wr l) ∧ Hid (Wf l s.tip) ∧ l.length = n ∧ Hid (Plq l j) ∧ Hid ({ s with list := ebGo l.length l j (!fb) } = E)) (fun v _ => lep (RowKit.intOf v))
      case atStart => exact ⟨(i : Int), s.list, rfl, H0, HW, HN.out.symm, Lib.hid (.inr (by have := HI.out; omega)), E0⟩
      case round =>
        obtain ⟨j, l, rfl, HA, HWl, hln, HQ, HEq⟩ := hrel
        obtain ⟨O1, rv1, tv1, xs1, sb1, k1, h1, c1⟩ := HA.out
        by_cases jn : j = -1
        · subst jn
          have R := Lib.hid (show NPost W B O E (.slice (some ⟨g, 0, none⟩) n cap) wr from ⟨O1, _, _, _, _, _, by rw [← HEq.out, eb_none]; exact h1, c1⟩)
          clear h1 c1
          go_wp2_with fail
          go_end0
          exact ⟨rfl, R.out⟩
        · obtain ⟨j, rfl⟩ : ∃ m : Nat, j = (m : Int) := ⟨j.toNat, by have := HQ.out; unfold Plq at this; omega⟩
          have hj : j < l.length := by have := HQ.out; unfold Plq at this; omega
          have hj2 : (j : Int) < (n : Int) := by omega
          have t1 : ((j : Int) != -1) = true := by rw [bne, beqF (show ¬ (j : Int) = -1 by omega)]; rfl
          have y0' : wr.cell? ⟨B, 0, none⟩ = some (.slice (some ⟨g, 0, none⟩) n cap) := h1.box.cell 0 rfl
          have z19 : wr.cell? ⟨g, j * 20 + 19, none⟩ = some (.bool (gN l j).be) := h1.at hj 19 (by decide)
          have f19 : wr.frozen? ⟨g, j * 20 + 19, none⟩ = false := h1.free _
          obtain ⟨O2, m2, q2⟩ := h1.store (i := j) hj { gN l j with be := (!fb) } 19 (by decide) _ (nd_be _ _ _) rfl
          have z10 : (wr.setCell ⟨g, j * 20 + 19, none⟩ (.bool ((!fb)))).cell? ⟨g, j * 20 + 10, none⟩ = some (.int .i64 (gN l j).up) := by
            have q : (wr.setCell ⟨g, j * 20 + 19, none⟩ (.bool ((!fb)))).cell? ⟨g, j * 20 + 10, none⟩ = some (.int .i64 (gN (l.set j { gN l j with be := (!fb) }) j).up) := m2.at (i := j) (show j < (l.set j { gN l j with be := (!fb) }).length by simpa using hj) 10 (by decide)
            rw [gN_at hj] at q
            exact q
          have y0'' : (wr.setCell ⟨g, j * 20 + 19, none⟩ (.bool ((!fb)))).cell? ⟨B, 0, none⟩ = some (.slice (some ⟨g, 0, none⟩) n cap) := m2.box.cell 0 rfl
          have HA2 := Lib.hid (show EbAt W B O s (.slice (some ⟨g, 0, none⟩) n cap) _ (l.set j { gN l j with be := (!fb) }) from ⟨O2, _, _, _, _, _, m2, c1.trans q2⟩)
          have HW2 := Lib.hid (HWl.out.be j ((!fb)))
          have hu := HWl.out.upQ hj
          have HQ2 : Hid (Plq (l.set j { gN l j with be := (!fb) }) (gN l j).up) := Lib.hid (by have := hu.1; unfold Plq at *; rw [List.length_set]; exact this)
          have HU := Lib.hid hu.2
          have HE2 : Hid ({ s with list := ebGo (l.set j { gN l j with be := (!fb) }).length (l.set j { gN l j with be := (!fb) }) (gN l j).up ((!fb)) } = E) := Lib.hid (by rw [← HEq.out, eb_step HWl.out hj])
          have hl2 : (l.set j { gN l j with be := (!fb) }).length = n := by rw [List.length_set]; exact hln
          clear h1 c1 m2 q2 hu jn HEq HQ HA
          generalize l.set j { gN l j with be := (!fb) } = l2 at *
          generalize (gN l j).up = up at *
          generalize (gN l j).be = be0 at *
          go_wp2_with fail
          go_roundw
          case rel => exact ⟨up, l2, rfl, HA2, HW2, hl2, HQ2, HE2⟩
          case measure => exact lep_lt HU.out
    · obtain ⟨la, rfl⟩ : ∃ m : Nat, la = (m : Int) := ⟨la.toNat, by have := LQ'.out; unfold Plq at this; omega⟩
      have hl : la < s.list.length := by have := LQ'.out; unfold Plq at this; omega
      have hl2 : (la : Int) < (n : Int) := by omega
      have t0 : ((la : Int) != -1) = true := by rw [bne, beqF (show ¬ (la : Int) = -1 by omega)]; rfl
      have z19 : W.cell? ⟨g, la * 20 + 19, none⟩ = some (.bool (s.nd la).be) := h.at hl 19 (by decide)
      have f19 : W.frozen? ⟨g, la * 20 + 19, none⟩ = false := h.free _
      obtain ⟨O2, m2, q2⟩ := h.store (i := la) hl { s.nd la with be := true } 19 (by decide) _ (nd_be _ _ _) rfl
      have FU := Lib.hid (isFull_any m2 (i := i) (by unfold St.put; simpa using hi))
      rw [show fullB (s.put la { s.nd la with be := true }) i = fb from (full_be true).trans hfb] at FU
      have H2 := Lib.hid (show EbAt W B O s (.slice (some ⟨g, 0, none⟩) n cap) _ (s.list.set la { gN s.list la with be := true }) from ⟨O2, _, _, _, _, _, m2, q2⟩)
      have W2 := Lib.hid (HW.out.be la true)
      have hln2 : (s.list.set la { gN s.list la with be := true }).length = n := by rw [List.length_set]; exact hn.symm
      have E0 : Hid ({ s with list := ebGo (s.list.set la { gN s.list la with be := true }).length (s.list.set la { gN s.list la with be := true }) i (!fb) } = E) := Lib.hid (by
        rw [← HE.out, ← hfb]
        unfold endBlankM ebLast
        rw [if_pos ⟨c, by rw [hla]; omega⟩, decide_eq_true c, hla, Int.toNat_natCast, List.length_set]
        rfl)
      have hi3 : i < n := by omega
      clear h hw hi c hE hfb hla LQ LL m2 q2 l1 hl HLA
      generalize (s.nd la).be = be0 at *
      generalize s.list.set la { gN s.list la with be := true } = l0 at *
      go_enter Tryz.func44, Tryz.ntmps44
      go_wp2_with fail
      refine BL.out.mono ?_
      rintro e w1 ⟨rfl, rfl⟩
      go_wp2_with fail
      refine FU.out.mono ?_
      rintro e w1 ⟨rfl, rfl⟩
      go_wp2_with fail
      go_loopw [1] (fun v wr => ∃ (j : Int) (l : List Nd), v = .int .i64 j ∧ Hid (EbAt W B O s (.slice (some ⟨g, 0, none⟩) n cap) wr l) ∧ Hid (Wf l s.tip) ∧ l.length = n ∧ Hid (Plq l j) ∧ Hid ({ s with list := ebGo l.length l j (!fb) } = E)) (fun v _ => lep (RowKit.intOf v))
      case atStart => exact ⟨(i : Int), l0, rfl, H2, W2, hln2, Lib.hid (.inr (by omega)), E0⟩
      case round =>
        obtain ⟨j, l, rfl, HA, HWl, hln, HQ, HEq⟩ := hrel
        obtain ⟨O1, rv1, tv1, xs1, sb1, k1, h1, c1⟩ := HA.out
        by_cases jn : j = -1
        · subst jn
          have R := Lib.hid (show NPost W B O E (.slice (some ⟨g, 0, none⟩) n cap) wr from ⟨O1, _, _, _, _, _, by rw [← HEq.out, eb_none]; exact h1, c1⟩)
          clear h1 c1
          go_wp2_with fail
          go_end0
          exact ⟨rfl, R.out⟩
        · obtain ⟨j, rfl⟩ : ∃ m : Nat, j = (m : Int) := ⟨j.toNat, by have := HQ.out; unfold Plq at this; omega⟩
          have hj : j < l.length := by have := HQ.out; unfold Plq at this; omega
          have hj2 : (j : Int) < (n : Int) := by omega
          have t1 : ((j : Int) != -1) = true := by rw [bne, beqF (show ¬ (j : Int) = -1 by omega)]; rfl
          have y0' : wr.cell? ⟨B, 0, none⟩ = some (.slice (some ⟨g, 0, none⟩) n cap) := h1.box.cell 0 rfl
          have z19 : wr.cell? ⟨g, j * 20 + 19, none⟩ = some (.bool (gN l j).be) := h1.at hj 19 (by decide)
          have f19 : wr.frozen? ⟨g, j * 20 + 19, none⟩ = false := h1.free _
          obtain ⟨O2, m2, q2⟩ := h1.store (i := j) hj { gN l j with be := (!fb) } 19 (by decide) _ (nd_be _ _ _) rfl
          have z10 : (wr.setCell ⟨g, j * 20 + 19, none⟩ (.bool ((!fb)))).cell? ⟨g, j * 20 + 10, none⟩ = some (.int .i64 (gN l j).up) := by
            have q : (wr.setCell ⟨g, j * 20 + 19, none⟩ (.bool ((!fb)))).cell? ⟨g, j * 20 + 10, none⟩ = some (.int .i64 (gN (l.set j { gN l j with be := (!fb) }) j).up) := m2.at (i := j) (show j < (l.set j { gN l j with be := (!fb) }).length by simpa using hj) 10 (by decide)
            rw [gN_at hj] at q
            exact q
          have y0'' : (wr.setCell ⟨g, j * 20 + 19, none⟩ (.bool ((!fb)))).cell? ⟨B, 0, none⟩ = some (.slice (some ⟨g, 0, none⟩) n cap) := m2.box.cell 0 rfl
          have HA2 := Lib.hid (show EbAt W B O s (.slice (some ⟨g, 0, none⟩) n cap) _ (l.set j { gN l j with be := (!fb) }) from ⟨O2, _, _, _, _, _, m2, c1.trans q2⟩)
          have HW2 := Lib.hid (HWl.out.be j ((!fb)))
          have hu := HWl.out.upQ hj
          have HQ2 : Hid (Plq (l.set j { gN l j with be := (!fb) }) (gN l j).up) := Lib.hid (by have := hu.1; unfold Plq at *; rw [List.length_set]; exact this)
          have HU := Lib.hid hu.2
          have HE2 : Hid ({ s with list := ebGo (l.set j { gN l j with be := (!fb) }).length (l.set j { gN l j with be := (!fb) }) (gN l j).up ((!fb)) } = E) := Lib.hid (by rw [← HEq.out, eb_step HWl.out hj])
          have hl2 : (l.set j { gN l j with be := (!fb) }).length = n := by rw [List.length_set]; exact hln
          clear h1 c1 m2 q2 hu jn HEq HQ HA
          generalize l.set j { gN l j with be := (!fb) } = l2 at *
          generalize (gN l j).up = up at *
          generalize (gN l j).be = be0 at *
          go_wp2_with fail
          go_roundw
          case rel => exact ⟨up, l2, rfl, HA2, HW2, hl2, HQ2, HE2⟩
          case measure => exact lep_lt HU.out
  · rw [decide_eq_false c] at BL
    have E0 : Hid ({ s with list := ebGo s.list.length s.list i (false) } = E) := Lib.hid (by rw [← HE.out]; unfold endBlankM ebLast; rw [if_neg (fun q => c q.1), decide_eq_false c]; rfl)
    clear h hw hi c hE hla LQ LL hn
    go_enter Tryz.func44, Tryz.ntmps44
    go_wp2_with fail
    refine BL.out.mono ?_
    rintro e w1 ⟨rfl, rfl⟩
    go_wp2_with fail
    go_loopw [1] (fun v wr => ∃ (j : Int) (l : List Nd), v = .int .i64 j ∧ Hid (EbAt W B O s (.slice (some ⟨g, 0, none⟩) n cap) wr l) ∧ Hid (Wf l s.tip) ∧ l.length = n ∧ Hid (Plq l j) ∧ Hid ({ s with list := ebGo l.length l j (false) } = E)) (fun v _ => lep (RowKit.intOf v))
    case atStart => exact ⟨(i : Int), s.list, rfl, H0, HW, HN.out.symm, Lib.hid (.inr (by have := HI.out; omega)), E0⟩
    case round =>
      obtain ⟨j, l, rfl, HA, HWl, hln, HQ, HEq⟩ := hrel
      obtain ⟨O1, rv1, tv1, xs1, sb1, k1, h1, c1⟩ := HA.out
      by_cases jn : j = -1
      · subst jn
        have R := Lib.hid (show NPost W B O E (.slice (some ⟨g, 0, none⟩) n cap) wr from ⟨O1, _, _, _, _, _, by rw [← HEq.out, eb_none]; exact h1, c1⟩)
        clear h1 c1
        go_wp2_with fail
        go_end0
        exact ⟨rfl, R.out⟩
      · obtain ⟨j, rfl⟩ : ∃ m : Nat, j = (m : Int) := ⟨j.toNat, by have := HQ.out; unfold Plq at this; omega⟩
        have hj : j < l.length := by have := HQ.out; unfold Plq at this; omega
        have hj2 : (j : Int) < (n : Int) := by omega
        have t1 : ((j : Int) != -1) = true := by rw [bne, beqF (show ¬ (j : Int) = -1 by omega)]; rfl
        have y0' : wr.cell? ⟨B, 0, none⟩ = some (.slice (some ⟨g, 0, none⟩) n cap) := h1.box.cell 0 rfl
        have z19 : wr.cell? ⟨g, j * 20 + 19, none⟩ = some (.bool (gN l j).be) := h1.at hj 19 (by decide)
        have f19 : wr.frozen? ⟨g, j * 20 + 19, none⟩ = false := h1.free _
        obtain ⟨O2, m2, q2⟩ := h1.store (i := j) hj { gN l j with be := (false) } 19 (by decide) _ (nd_be _ _ _) rfl
        have z10 : (wr.setCell ⟨g, j * 20 + 19, none⟩ (.bool ((false)))).cell? ⟨g, j * 20 + 10, none⟩ = some (.int .i64 (gN l j).up) := by
          have q : (wr.setCell ⟨g, j * 20 + 19, none⟩ (.bool ((false)))).cell? ⟨g, j * 20 + 10, none⟩ = some (.int .i64 (gN (l.set j { gN l j with be := (false) }) j).up) := m2.at (i := j) (show j < (l.set j { gN l j with be := (false) }).length by simpa using hj) 10 (by decide)
          rw [gN_at hj] at q
          exact q
        have y0'' : (wr.setCell ⟨g, j * 20 + 19, none⟩ (.bool ((false)))).cell? ⟨B, 0, none⟩ = some (.slice (some ⟨g, 0, none⟩) n cap) := m2.box.cell 0 rfl
        have HA2 := Lib.hid (show EbAt W B O s (.slice (some ⟨g, 0, none⟩) n cap) _ (l.set j { gN l j with be := (false) }) from ⟨O2, _, _, _, _, _, m2, c1.trans q2⟩)
        have HW2 := Lib.hid (HWl.out.be j ((false)))
        have hu := HWl.out.upQ hj
        have HQ2 : Hid (Plq (l.set j { gN l j with be := (false) }) (gN l j).up) := Lib.hid (by have := hu.1; unfold Plq at *; rw [List.length_set]; exact this)
        have HU := Lib.hid hu.2
        have HE2 : Hid ({ s with list := ebGo (l.set j { gN l j with be := (false) }).length (l.set j { gN l j with be := (false) }) (gN l j).up ((false)) } = E) := Lib.hid (by rw [← HEq.out, eb_step HWl.out hj])
        have hl2 : (l.set j { gN l j with be := (false) }).length = n := by rw [List.length_set]; exact hln
        clear h1 c1 m2 q2 hu jn HEq HQ HA
        generalize l.set j { gN l j with be := (false) } = l2 at *
        generalize (gN l j).up = up at *
        generalize (gN l j).be = be0 at *
        go_wp2_with fail
        go_roundw
        case rel => exact ⟨up, l2, rfl, HA2, HW2, hl2, HQ2, HE2⟩
        case measure => exact lep_lt HU.out
end
end Go.Proofs.YtfgpephpkibbaaaGreatDoor

