/-
  Texts of the proof, one behind the other: BkP, BkE, BkS, BkU, BkR, Blp.
-/
import Derived.Test.YtfgpephpkibbaaaGreatDoorQ41
import Derived.Test.YtfgpephpkibbaaaGreatDoorQ40
import Derived.KernelRfl
/-
  What beginning leaves, plainly: where blocks are, how much there is, what is left of the line.
-/
namespace Go.Proofs.YtfgpephpkibbaaaGreatDoor
open Go Go.Lib

/-! ### Lines that are gone along -/
theorem next_wide {c f : Nat} {l : List UInt8} (h : okP f l) (e : indL c f l = 0) : nextL l = l ∧ f = 0 := by
  cases l with
  | nil =>
    refine ⟨rfl, Decidable.byContradiction fun k => ?_⟩
    obtain ⟨t, e⟩ := h.2 k
    cases e
  | cons b t =>
    rw [ind_cons] at e
    have hw : wideB c f b = 0 := by
      split at e
      · assumption
      · omega
    refine ⟨?_, ?_⟩
    · rw [next_cons, if_neg]
      intro q
      have := blank_wide q c f
      omega
    · refine Decidable.byContradiction fun k => ?_
      rw [wide_left k] at hw
      exact k hw
theorem skip_all {c f : Nat} {l : List UInt8} (h : okP f l) : l.drop (skipL (indL c f l) c f l).1 = nextL l ∧ (skipL (indL c f l) c f l).2.2 = 0 := by
  have h1 := skip_ind (indL c f l) c f l
  rw [Nat.sub_self] at h1
  have h2 := skip_ok (indL c f l) c f l h
  have h3 := skip_next (indL c f l) c f l h
  obtain ⟨h4, h5⟩ := next_wide h2 h1
  exact ⟨h4.symm.trans h3, h5⟩
theorem next_head {l t : List UInt8} {b : UInt8} (h : nextL l = b :: t) : b ≠ 32 ∧ b ≠ 9 := by
  induction l with
  | nil => cases h
  | cons x l ih =>
    rw [next_cons] at h
    split at h
    · exact ih h
    · next c =>
      cases h
      refine ⟨fun e => c ?_, fun e => c ?_⟩ <;> (rw [e]; rfl)
theorem Lw.ahead {z : Nat} {l : Ln} (h : Lw z l) : (skipBM l l.ind).rem = l.next ∧ (skipBM l l.ind).f = 0 := by
  have := skip_all (c := l.c) h.ok
  rw [← h.ind] at this
  exact ⟨this.1.trans h.next.symm, this.2⟩
theorem Lw.move_rem {z : Nat} {l : Ln} (h : Lw z l) (n : Nat) : (moveM l n).rem = l.next.drop (movL n l.next).length := by
  show ((skipBM l l.ind).rem.drop (movL n (skipBM l l.ind).rem).length) = _
  rw [h.ahead.1]
theorem Lw.next_le {z : Nat} {l : Ln} (h : Lw z l) : l.next.length ≤ l.rem.length := by
  rw [h.next]
  unfold nextL Lib.trimLeftS
  exact (List.dropWhile_sublist _).length_le
theorem mov_pos {n : Nat} {b : UInt8} {t : List UInt8} (hn : 1 ≤ n) (hb : b ≠ 9) : 1 ≤ (movL n (b :: t)).length := by
  unfold movL headTo
  obtain ⟨m, rfl⟩ : ∃ m, n = m + 1 := ⟨n - 1, by omega⟩
  rw [List.take_succ_cons, List.takeWhile_cons, if_pos (by simpa using hb)]
  simp
theorem Lw.move_less {z : Nat} {l : Ln} (h : Lw z l) {n : Nat} (hn : 1 ≤ n) (hx : l.next ≠ []) : (moveM l n).rem.length < l.rem.length := by
  rw [h.move_rem]
  have h1 := h.next_le
  cases e : l.next with
  | nil => exact absurd e hx
  | cons b t =>
    have hb := next_head (h.next.symm.trans e)
    have := mov_pos (t := t) hn hb.2
    rw [e] at h1
    rw [List.length_drop]
    simp only [List.length_cons] at *
    omega
theorem skip_rem (l : Ln) (n : Nat) : (skipBM l n).rem.length ≤ l.rem.length := by
  show (l.rem.drop _).length ≤ _
  rw [List.length_drop]; omega
theorem Lw.quote_less {z : Nat} {l : Ln} (h : Lw z l) (hq : (pastQuoteM l).2 = true) : (pastQuoteM l).1.rem.length < l.rem.length := by
  unfold pastQuoteM at *
  split
  · next c =>
    have hx : l.next ≠ [] := fun e => by
      unfold quoteB at c
      rw [e] at c
      simp [Lib.hasPrefix] at c
    exact Nat.lt_of_le_of_lt (skip_rem _ _) (h.move_less (Nat.le_refl 1) hx)
  · next c => rw [if_neg c] at hq; cases hq
theorem quote_rem (l : Ln) : (pastQuoteM l).1.rem.length ≤ l.rem.length := by
  unfold pastQuoteM
  split
  · refine Nat.le_trans (skip_rem _ _) ?_
    show (List.drop _ _).length ≤ _
    rw [List.length_drop]
    exact Nat.le_trans (Nat.sub_le _ _) (skip_rem l l.ind)
  · exact Nat.le_refl _
theorem mark_rem (l : Ln) (n : Nat) : (pastMarkM l n).1.rem.length ≤ l.rem.length := by
  refine Nat.le_trans (skip_rem _ _) ?_
  show (List.drop _ _).length ≤ _
  rw [List.length_drop]
  exact Nat.le_trans (Nat.sub_le _ _) (skip_rem l l.ind)
theorem Lw.mark_less {z : Nat} {l : Ln} (h : Lw z l) {n : Nat} (hn : 1 ≤ n) (hx : l.next ≠ []) : (pastMarkM l n).1.rem.length < l.rem.length :=
  Nat.lt_of_le_of_lt (skip_rem _ _) (h.move_less hn hx)
theorem lst_one {l : List UInt8} (h : lstB l = true) : 1 ≤ (lstL l).2.2.2 ∧ l ≠ [] := by
  unfold lstL
  rw [if_pos h]
  unfold lstB at h
  simp only [Bool.and_eq_true, decide_eq_true_eq] at h
  refine ⟨by omega, fun e => ?_⟩
  subst e
  exact absurd rfl h.1

/-! ### What begins -/
theorem addIn_line {s : St} {i : Nat} (k : Ok s i) (b : Nd) (hk : b.kind ≠ 4) : (addInM s i b).line = s.line ∧ (addInM s i b).known = s.known := by
  have h := cw_ok k.wf k.on
  have q := add_line (cw_wf k.wf k.on) b (.inl hk)
  exact ⟨q.1.trans h.2.2.2.1, q.2.trans h.2.2.2.2.1⟩
/-- r: what begins in s at i. -/
structure Bg (s : St) (i : Nat) (r : St × Nat) (a b : Nat) : Prop where
  wf : Wf r.1.list r.1.tip
  cap : Cap r.1 (a + 2) (b + s.line.next.length)
  none : r.2 = 0 → On r.1.list r.1.tip i ∧ Cap r.1 a b
  one : r.2 = 1 → (∀ z, Lw z s.line → r.1.line.rem.length < s.line.rem.length) ∧ Cap r.1 (a + 2) b
  rem : r.1.line.rem.length ≤ s.line.rem.length
  known : r.1.known = s.known
  lw : ∀ z, Lw z s.line → Lw z r.1.line
  le : r.2 ≤ 3
theorem Bg.added {s : St} {i : Nat} (k : Ok s i) {a b : Nat} (c : Cap s a b) (x : Nd) (hk : x.kind ≠ 4) (hx : x.indent ≤ 1000000) (hl : x.text.length ≤ s.line.next.length) {w : Nat} (h0 : w ≠ 0) (h1 : w ≠ 1) (h3 : w ≤ 3) : Bg s i (addInM s i x, w) a b := by
  have h := addIn_line k x hk
  refine ⟨addIn_wf k.wf k.on x hk hx, (c.addIn k.wf k.on x hk).more (by omega) (by omega), fun e => absurd e h0, fun e => absurd e h1, ?_, h.2, fun z hz => ?_, h3⟩
  · show (addInM s i x).line.rem.length ≤ _
    rw [h.1]; exact Nat.le_refl _
  · show Lw z (addInM s i x).line
    rw [h.1]; exact hz
theorem Bg.same {s : St} {i : Nat} (k : Ok s i) {a b : Nat} (c : Cap s a b) : Bg s i (s, 0) a b :=
  ⟨k.wf, c.more (by omega) (by omega), fun _ => ⟨k.on, c⟩, fun e => (by cases e), Nat.le_refl _, rfl, fun _ h => h, Nat.zero_le _⟩
theorem Ok.atL {s : St} {i : Nat} (k : Ok s i) (l : Ln) : Ok (s.atL l) i := ⟨k.wf, k.on, k.phi, k.len⟩
theorem Bg.code {s : St} {i : Nat} (k : Ok s i) {a b : Nat} (c : Cap s a b) : Bg s i (bCodeM s i) a b := by
  unfold bCodeM
  split
  · exact .same k c
  · have q := Bg.added (k.atL (skipBM s.line 4)) (c.atL (skipBM s.line 4)) (blkN 7) (show (7 : Nat) ≠ 4 by decide) (Nat.zero_le _) (Nat.zero_le _) (w := 2) (by decide) (by decide) (by decide)
    exact ⟨q.wf, q.cap, q.none, (fun e => by cases e), Nat.le_trans q.rem (skip_rem _ _), q.known, fun z hz => q.lw z (hz.skip 4), q.le⟩
theorem Bg.quote {s : St} {i : Nat} (k : Ok s i) {a b : Nat} (c : Cap s a b) (hq : (pastQuoteM s.line).2 = true) : Bg s i (addInM (s.atL (pastQuoteM s.line).1) i (blkN 2), 1) a b := by
  have h := addIn_line (k.atL (pastQuoteM s.line).1) (blkN 2) (show (2 : Nat) ≠ 4 by decide)
  have hc := (c.atL (pastQuoteM s.line).1).addIn (s := s.atL (pastQuoteM s.line).1) (i := i) k.wf k.on (blkN 2) (show (2 : Nat) ≠ 4 by decide)
  refine ⟨addIn_wf (s := s.atL (pastQuoteM s.line).1) k.wf k.on (blkN 2) (show (2 : Nat) ≠ 4 by decide) (Nat.zero_le _), hc.more (by omega) (by show b + 0 ≤ _; omega), (fun e => by cases e), fun _ => ⟨fun z hz => ?_, hc.more (by omega) (Nat.le_refl _)⟩, ?_, h.2, fun z hz => ?_, (show (1 : Nat) ≤ 3 by decide)⟩
  · show (addInM _ _ _).line.rem.length < _
    rw [h.1]; exact hz.quote_less hq
  · show (addInM _ _ _).line.rem.length ≤ _
    rw [h.1]; exact quote_rem _
  · show Lw z (addInM _ _ _).line
    rw [h.1]; exact hz.quote
theorem Bg.of_same {s s1 : St} {i : Nat} {r : St × Nat} {a b : Nat} (e : s1.line = s.line) (ek : s1.known = s.known) (h : Bg s1 i r a b) : Bg s i r a b :=
  ⟨h.wf, by rw [← e]; exact h.cap, h.none, by rw [← e]; exact h.one, by rw [← e]; exact h.rem, by rw [← ek]; exact h.known, by rw [← e]; exact h.lw, h.le⟩
theorem Bg.item {s : St} {i : Nat} (k : Ok s i) {a b : Nat} (c : Cap s a b) (hq : (bItemM s i).2 = true) {z : Nat} (hz : Lw z s.line) (hz2 : z ≤ 10000) : Bg s i ((bItemM s i).1, 1) a b := by
  unfold bItemM at *
  split
  · next hb =>
    have hl : lstB s.line.next = true := by
      unfold itemB at hb
      simp only [Bool.and_eq_true] at hb
      exact hb.1
    have h0 := cw_ok k.wf k.on
    obtain ⟨w1, c1, o1, l1, k1⟩ := list_ok (cw_wf k.wf k.on) (lstL s.line.next) (Cap.cw c i)
    have w2 := add_wf w1 (blkN 4) (.inr o1) (Nat.zero_le _)
    have c2 := c1.add w1 (blkN 4) (.inr o1)
    have l2 := add_line w1 (blkN 4) (.inr o1)
    have t2 := add_tip (listM (cwM s i) (lstL s.line.next)) (blkN 4)
    obtain ⟨h1, h2⟩ := lst_one hl
    have hwl := lst_wid s.line.next
    generalize addM (listM (cwM s i) (lstL s.line.next)) (blkN 4) = s2 at *
    have el : s2.line = s.line := l2.1.trans (l1.trans h0.2.2.2.1)
    have ek : s2.known = s.known := l2.2.trans (k1.trans h0.2.2.2.2.1)
    generalize (lstL s.line.next).2.2.2 = wd at *
    have hnl := hz.nextLen
    have hn : (pastMarkM s2.line wd).2 ≤ 1000000 := by
      rw [el]
      have := hz.markN wd
      omega
    have c3 : Cap (inItemM s2 wd) (a + 2) b := by
      refine ⟨?_, ?_⟩
      · show (s2.list.set _ _).length ≤ _
        rw [List.length_set]; exact c2.len
      · exact (c2.put s2.tip { s2.nd s2.tip with indent := (pastMarkM s2.line wd).2 } (d := 0) (Nat.le_refl _)).txt
    have w3 : Wf (inItemM s2 wd).list (inItemM s2 wd).tip := w2.set s2.tip { s2.nd s2.tip with indent := (pastMarkM s2.line wd).2 } ⟨rfl, rfl, rfl, rfl⟩ (fun e => by
      have hd := w2.doc
      rw [e] at t2
      unfold St.nd at t2
      rw [t2] at hd
      cases hd) hn
    have e3 : (inItemM s2 wd).line = (pastMarkM s.line wd).1 := by show (pastMarkM s2.line wd).1 = _; rw [el]
    refine ⟨w3, c3.more (Nat.le_refl _) (by omega), (fun e => by cases e), fun _ => ⟨fun z' hz' => ?_, c3⟩, ?_, ek, fun z' hz' => ?_, (show (1 : Nat) ≤ 3 by decide)⟩
    · show (inItemM s2 wd).line.rem.length < _
      rw [e3]; exact hz'.mark_less h1 h2
    · show (inItemM s2 wd).line.rem.length ≤ _
      rw [e3]; exact mark_rem _ _
    · show Lw z' (inItemM s2 wd).line
      rw [e3]; exact hz'.markd wd
  · next hb => rw [if_neg hb] at hq; cases hq
theorem Bg.under {s : St} {i : Nat} (k : Ok s i) {a b : Nat} (c : Cap s a b) (hq : (bUnderM s i).2 = true) : Bg s i ((bUnderM s i).1, 3) a b := by
  have hd := c.define i
  have kd := k.define
  unfold bUnderM at *
  split at hq
  · cases hq
  · next c1 =>
    rw [if_neg c1]
    split at hq
    · cases hq
    · next c2 =>
      rw [if_neg c2]
      have hl : i < (defineM s i).list.length := by rw [define_len]; exact k.lt
      have hi0 : i ≠ 0 := fun e => c1 (.inr (by
        rw [e]
        intro q
        have := k.wf.doc
        unfold St.nd at q
        rw [this] at q
        cases q))
      have c3 : Cap ((defineM s i).put i { (defineM s i).nd i with kind := 6, level := underL s.line.next }) a b := hd.put i _ (d := 0) (Nat.le_refl _)
      have w3 : Wf ((defineM s i).put i { (defineM s i).nd i with kind := 6, level := underL s.line.next }).list (defineM s i).tip := kd.wf.set i _ ⟨rfl, rfl, rfl, rfl⟩ (fun e => absurd e hi0) (kd.wf.ind i)
      exact ⟨w3, c3.more (by omega) (by omega), (fun e => by cases e), (fun e => by cases e), Nat.le_refl _, rfl, fun _ h => h, Nat.le_refl _⟩
theorem headL_len (l : List UInt8) : (headL l).length ≤ l.length := by
  unfold headL
  split
  · simp
  · refine Nat.le_trans (headText_len _) ?_
    rw [List.length_drop]; omega
/-- WHAT BEGINNING LEAVES. -/
theorem begin_bg {s : St} {i : Nat} (k : Ok s i) {a b : Nat} (c : Cap s a b) {z : Nat} (hz : Lw z s.line) (hz2 : z ≤ 10000) : Bg s i (beginM s i) a b := by
  unfold beginM
  split
  · exact .same k c
  split
  · exact .code k c
  split
  · next hq => exact .quote k c hq
  split
  · exact .added k c _ (show (6 : Nat) ≠ 4 by decide) (Nat.zero_le _) (headL_len _) (by decide) (by decide) (by decide)
  split
  · have hb := hz.bound.2
    exact .added k c _ (show (7 : Nat) ≠ 4 by decide) (show s.line.ind ≤ 1000000 by omega) (Nat.zero_le _) (by decide) (by decide) (by decide)
  split
  · exact .added k c _ (show (8 : Nat) ≠ 4 by decide) (Nat.zero_le _) (Nat.zero_le _) (by decide) (by decide) (by decide)
  split
  · next hq => exact .under k c hq
  · next hq =>
    have hq' : (bUnderM s i).2 = false := by revert hq; cases (bUnderM s i).2 <;> simp
    obtain ⟨k1, e1, e2, e3, e4⟩ := k.under hq'
    have c1 : Cap (bUnderM s i).1 a b := by
      unfold bUnderM
      split
      · exact c
      · split
        · exact c.define i
        · next c1 c2 => unfold bUnderM at hq'; rw [if_neg c1, if_neg c2] at hq'; cases hq'
    refine .of_same e1 e2 ?_
    unfold bRestM
    split
    · exact .added k1 c1 _ (show (9 : Nat) ≠ 4 by decide) (Nat.zero_le _) (Nat.zero_le _) (by decide) (by decide) (by decide)
    split
    · next hi => exact .item k1 c1 hi (by rw [e1]; exact hz) hz2
    · exact .same k1 c1

/-- r: what all begins, from i on. -/
structure Bn (s : St) (r : St × Nat × Nat) (a b z : Nat) : Prop where
  wf : Wf r.1.list r.1.tip
  on : On r.1.list r.1.tip r.2.1
  cap : Cap r.1 (a + 2) (b + z)
  known : r.1.known = s.known
  lw : Lw z r.1.line
  le : r.2.2 ≤ 3
theorem begunGo_bn : ∀ (f : Nat) (s : St) (i : Nat) {a b z : Nat}, Ok s i → Lw z s.line → z ≤ 10000 → s.list.length + 2 * s.line.rem.length ≤ a → phi s ≤ b → a ≤ 79000 → b ≤ 80000 → s.line.rem.length < f → Bn s (begunGo f s i) a b z
  | 0, _, _, _, _, _, _, _, _, _, _, _, _, h => by omega
  | f + 1, s, i, a, b, z, k, hz, hz2, ha, hb, ha2, hb2, hf => by
    have g := begin_bg k (a := s.list.length) (b := b) ⟨Nat.le_refl _, hb⟩ hz hz2
    have hn := hz.nextLen
    unfold begunGo
    split
    · next h0 =>
      obtain ⟨o, c⟩ := g.none h0
      exact ⟨g.wf, o, c.more (by omega) (by omega), g.known, g.lw z hz, Nat.zero_le _⟩
    split
    · exact ⟨g.wf, .refl _, g.cap.more (by omega) (by omega), g.known, g.lw z hz, g.le⟩
    · next h0 h1 =>
      have e1 : (beginM s i).2 = 1 := Decidable.byContradiction fun q => h1 (.inl q)
      obtain ⟨h2, h3⟩ := g.one e1
      have h4 := h2 z hz
      have h5 := h3.len
      have h6 := h3.txt
      have q := begunGo_bn f (beginM s i).1 (beginM s i).1.tip (a := a) (b := b) (z := z) ⟨g.wf, .refl _, by omega, by omega⟩ (g.lw z hz) hz2 (by omega) (by omega) ha2 hb2 (by omega)
      exact ⟨q.wf, q.on, q.cap, q.known.trans g.known, q.lw, q.le⟩
theorem begun_bn {s : St} {i : Nat} {a b z : Nat} (k : Ok s i) (hz : Lw z s.line) (hz2 : z ≤ 10000) (ha : s.list.length + 2 * s.line.rem.length ≤ a) (hb : phi s ≤ b) (ha2 : a ≤ 79000) (hb2 : b ≤ 80000) : Bn s (begunM s i) a b z := by
  unfold begunM
  split
  · exact ⟨k.wf, k.on, ⟨by show s.list.length ≤ _; omega, by show phi s ≤ _; omega⟩, rfl, hz, (show (2 : Nat) ≤ 3 by decide)⟩
  · exact begunGo_bn _ s i k hz hz2 ha hb ha2 hb2 (by omega)
end Go.Proofs.YtfgpephpkibbaaaGreatDoor

/-
  Contract of block's matched.
-/
namespace Go.Proofs.YtfgpephpkibbaaaGreatDoor
open Go.RowKit Go.Lib

/-- The document is always open. -/
theorem on_doc {l : List Nd} : ∀ {t : Nat}, Wf l t → On l t 0 := by
  intro t
  induction t using Nat.strongRecOn with
  | ind t ih =>
    intro h
    rcases Nat.eq_zero_or_pos t with h0 | h0
    · subst h0; exact .refl 0
    · have hu := h.up t h0 h.tip
      exact .step h0 (ih _ (by omega) (h.fewer (by omega)))
theorem match_tip (f : Nat) (s : St) : matchGo f s s.tip = (s, s.tip, false) := by
  cases f with
  | zero => rfl
  | succ f => unfold matchGo; rw [if_pos rfl]
theorem match_end {f : Nat} {s : St} {i : Nat} (h : i ≠ s.tip) (e : endsFenceM s (s.nd i).last.toNat = true) : matchGo (f + 1) s i = (closeM s, i, true) := by
  unfold matchGo
  rw [if_neg h, if_pos e]
theorem match_stop {f : Nat} {s : St} {i : Nat} (h : i ≠ s.tip) (e : endsFenceM s (s.nd i).last.toNat = false) (q : (goesOnM s (s.nd i).last.toNat).2 = false) : matchGo (f + 1) s i = (s.atL (goesOnM s (s.nd i).last.toNat).1, i, false) := by
  unfold matchGo
  rw [if_neg h, if_neg (by rw [e]; simp), if_neg (by rw [q]; simp)]
theorem match_go {f : Nat} {s : St} {i : Nat} (h : i ≠ s.tip) (e : endsFenceM s (s.nd i).last.toNat = false) (q : (goesOnM s (s.nd i).last.toNat).2 = true) : matchGo (f + 1) s i = matchGo f (s.atL (goesOnM s (s.nd i).last.toNat).1) (s.nd i).last.toNat := by
  rw [matchGo, if_neg h, if_neg (by rw [e]; simp), if_pos q]
theorem ret_intb {a b : Nat} {c d : Bool} (h : a = b) (k : c = d) : Ending.returned (.tuple #[.int .i64 (a : Nat), .bool c]) = .returned (.tuple #[.int .i64 (b : Nat), .bool d]) := by rw [h, k]
section
variable {W : World} {B : Nat} {O : Nat → Option Nat} {s : St} {rv : Value} {tv : Nat → Value} {xs : List Value} {sb : ByteArray} {k g n cap : Nat}
set_option maxRecDepth 100000 in
set_option maxHeartbeats 4000000 in
theorem matched_any (h : Mem W B O s (.slice (some ⟨g, 0, none⟩) n cap) rv tv xs sb k) (hw : Wf s.list s.tip) (hp : phi s ≤ 100000) :
    Calls Tryz.prog 29 #[.pointer (some ⟨B, 0, none⟩)] W fun e w' => e = .returned (.tuple #[.int .i64 ((matchedM s).2.1 : Nat), .bool (matchedM s).2.2]) ∧ NPost W B O (matchedM s).1 (.slice (some ⟨g, 0, none⟩) n cap) w' := by
  have hn := h.num.1
  have HW := Lib.hid hw
  have HP := Lib.hid hp
  have H0 := Lib.hid (show ∃ O1 rv1 tv1 xs1 sb1 k1, Mem W B O1 (s.atL s.line) (.slice (some ⟨g, 0, none⟩) n cap) rv1 tv1 xs1 sb1 k1 ∧ Chg W O W O1 from ⟨O, rv, tv, xs, sb, k, h, Chg.refl _ _⟩)
  have HO := Lib.hid (show On s.list s.tip 0 from on_doc hw)
  obtain ⟨E, hE⟩ : ∃ E, matchedM s = E := ⟨_, rfl⟩
  have HE : Hid (matchGo s.list.length (s.atL s.line) 0 = E) := Lib.hid hE
  have ht : s.tip < s.list.length := hw.tip
  rw [hE]
  clear h hw hp hE
  go_enter Tryz.func29, Tryz.ntmps29
  go_wp2_with fail
  go_loopw [4] (fun v wr => ∃ (j f : Nat) (L : Ln), v = .int .i64 (j : Nat) ∧ Hid (∃ O1 rv1 tv1 xs1 sb1 k1, Mem wr B O1 (s.atL L) (.slice (some ⟨g, 0, none⟩) n cap) rv1 tv1 xs1 sb1 k1 ∧ Chg W O wr O1) ∧ Hid (On s.list s.tip j) ∧ s.tip ≤ j + f ∧ Hid (matchGo f (s.atL L) j = E)) (fun v _ => n - (RowKit.intOf v).toNat)
  case atStart => exact ⟨0, s.list.length, s.line, rfl, H0, HO, by omega, HE⟩
  case round =>
    obtain ⟨j, f, L, rfl, HA, HOj, hf, HEj⟩ := hrel
    obtain ⟨O1, rv1, tv1, xs1, sb1, k1, h1, c1⟩ := HA.out
    have y1 : wr.cell? ⟨B, 1, none⟩ = some (.int .i64 s.tip) := h1.box.cell 1 rfl
    have y0 : wr.cell? ⟨B, 0, none⟩ = some (.slice (some ⟨g, 0, none⟩) n cap) := h1.box.cell 0 rfl
    have C1 := Lib.hid c1
    by_cases jt : j = s.tip
    · have t1 : ((j : Int) != (s.tip : Int)) = false := by rw [jt, bne, beq_self_eq_true]; rfl
      have eE : (s.atL L, j, false) = E := by rw [← HEj.out, jt]; exact (match_tip f (s.atL L)).symm
      have R := Lib.hid (show NPost W B O E.1 (.slice (some ⟨g, 0, none⟩) n cap) wr from ⟨O1, _, _, _, _, _, by rw [← eE]; exact h1, c1⟩)
      have e1 : j = E.2.1 := by rw [← eE]
      have e2 : false = E.2.2 := by rw [← eE]
      have HEE := Lib.hid (ret_intb e1 e2)
      clear eE e1 e2 jt h1 c1
      go_wp2_with fail
      go_ret2
      exact ⟨HEE.out, R.out⟩
    · have t1 : ((j : Int) != (s.tip : Int)) = true := by rw [bne, beq_eq_false_iff_ne.2 (by omega)]; rfl
      obtain ⟨y, ey, hy1, hy2, hy3⟩ := HW.out.child HOj.out jt
      have hyt := hy1.le HW.out
      obtain ⟨f, rfl⟩ : ∃ q, f = q + 1 := ⟨f - 1, by omega⟩
      have hjl : j < s.list.length := by omega
      have z11 : wr.cell? ⟨g, j * 20 + 11, none⟩ = some (.int .i64 (y : Int)) := by
        have q : wr.cell? ⟨g, j * 20 + 11, none⟩ = some (.int .i64 (gN s.list j).last) := h1.at (i := j) hjl 11 (by decide)
        rw [ey] at q
        exact q
      have hj2 : (j : Int) < (n : Int) := by omega
      have ely : ((s.atL L).nd j).last.toNat = y := by
        show (gN s.list j).last.toNat = y
        rw [ey, Int.toNat_natCast]
      have EF := Lib.hid (endsFence_any h1 (i := y) hy3)
      have jt' : j ≠ (s.atL L).tip := jt
      cases ce : endsFenceM (s.atL L) y with
      | true =>
        rw [ce] at EF
        have eE : (closeM (s.atL L), j, true) = E := by rw [← HEj.out]; exact (match_end jt' (by rw [ely]; exact ce)).symm
        have CL := Lib.hid (fun W' (q : Keeps wr W') => close_any (h1.keep q) HW.out (show s.tip ≠ 0 by omega) HP.out)
        have e1 : j = E.2.1 := by rw [← eE]
        have e2 : true = E.2.2 := by rw [← eE]
        have e3 : closeM (s.atL L) = E.1 := by rw [← eE]
        have HEE := Lib.hid (ret_intb e1 e2)
        rw [e3] at CL
        clear eE e1 e2 e3 jt jt' h1 c1 ce ely ey hy1
        go_wp2_with fail
        refine EF.out.mono ?_
        rintro e w2 ⟨rfl, q2⟩
        have K2 := Lib.hid q2
        have CC := Lib.hid (CL.out _ q2)
        clear q2 CL
        go_wp2_with fail
        refine CC.out.mono ?_
        rintro e w3 ⟨rfl, q3⟩
        have R := Lib.hid (NPost.trans (C1.out.trans (Chg.keeps O1 K2.out)) q3)
        clear q3 CC
        go_wp2_with fail
        go_ret2
        exact ⟨HEE.out, R.out⟩
      | false =>
        rw [ce] at EF
        have GO := Lib.hid (fun W' (q : Keeps wr W') => goesOn_any (h1.keep q) (i := y) hy3 (HW.out.ind y))
        cases cg : (goesOnM (s.atL L) y).2 with
        | false =>
          have eE : ((s.atL L).atL (goesOnM (s.atL L) y).1, j, false) = E := by rw [← HEj.out]; exact (by have q := match_stop (f := f) jt' (by rw [ely]; exact ce) (by rw [ely]; exact cg); rw [ely] at q; exact q.symm)
          rw [cg] at GO
          have e1 : j = E.2.1 := by rw [← eE]
          have e2 : false = E.2.2 := by rw [← eE]
          have e3 : (s.atL L).atL (goesOnM (s.atL L) y).1 = E.1 := by rw [← eE]
          have HEE := Lib.hid (ret_intb e1 e2)
          rw [e3] at GO
          clear eE e1 e2 e3 jt jt' h1 c1 ce cg ely ey hy1
          go_wp2_with fail
          refine EF.out.mono ?_
          rintro e w2 ⟨rfl, q2⟩
          have K2 := Lib.hid q2
          have CC := Lib.hid (GO.out _ q2)
          clear q2 GO
          go_wp2_with fail
          refine CC.out.mono ?_
          rintro e w3 ⟨rfl, q3⟩
          have R := Lib.hid (NPost.trans (C1.out.trans (Chg.keeps O1 K2.out)) q3)
          clear q3 CC
          go_wp2_with fail
          go_ret2
          exact ⟨HEE.out, R.out⟩
        | true =>
          have eE : matchGo f (s.atL (goesOnM (s.atL L) y).1) y = E := by
            rw [← HEj.out]
            have q := match_go (f := f) jt' (by rw [ely]; exact ce) (by rw [ely]; exact cg)
            rw [ely] at q
            exact q.symm
          have HE2 := Lib.hid eE
          rw [cg] at GO
          have HO2 := Lib.hid hy1
          clear eE jt jt' h1 c1 ce cg ely ey hy1
          generalize (goesOnM (s.atL L) y).1 = L2 at *
          go_wp2_with fail
          refine EF.out.mono ?_
          rintro e w2 ⟨rfl, q2⟩
          have K2 := Lib.hid q2
          have CC := Lib.hid (GO.out _ q2)
          clear q2 GO
          go_wp2_with fail
          refine CC.out.mono ?_
          rintro e w3 ⟨rfl, O3, rv3, tv3, xs3, sb3, k3, h3, c3⟩
          have H3 := Lib.hid (show ∃ O1 rv1 tv1 xs1 sb1 k1, Mem w3 B O1 (s.atL L2) (.slice (some ⟨g, 0, none⟩) n cap) rv1 tv1 xs1 sb1 k1 ∧ Chg W O w3 O1 from ⟨O3, rv3, tv3, xs3, sb3, k3, h3, (C1.out.trans (Chg.keeps O1 K2.out)).trans c3⟩)
          clear h3 c3 CC
          go_wp2_with fail
          go_roundw
          case rel => exact ⟨y, f, L2, by go_num, H3, HO2, by omega, HE2⟩
          case measure => simp [RowKit.intOf]; omega
end
end Go.Proofs.YtfgpephpkibbaaaGreatDoor

/-
  What a line leaves, plainly: where blocks are, and how much there is.
-/
namespace Go.Proofs.YtfgpephpkibbaaaGreatDoor
open Go Go.Lib

theorem inds_rem (l : Ln) (n : Nat) : (pastIndM l n).1.rem.length ≤ l.rem.length := by
  unfold pastIndM
  split
  · exact Nat.le_refl _
  · exact skip_rem _ _
theorem goes_line {z : Nat} {s : St} (h : Lw z s.line) (i : Nat) : Lw z (goesOnM s i).1 ∧ (goesOnM s i).1.rem.length ≤ s.line.rem.length := by
  unfold goesOnM
  split
  · exact ⟨h.quote, quote_rem _⟩
  split
  · exact ⟨h, Nat.le_refl _⟩
  split
  · unfold itemOnM
    split
    · exact ⟨h.skip _, skip_rem _ _⟩
    · exact ⟨h.inds _, inds_rem _ _⟩
  split
  · unfold codeOnM
    split
    · exact ⟨h.skip _, skip_rem _ _⟩
    split
    · exact ⟨h.skip _, skip_rem _ _⟩
    · exact ⟨h.inds _, inds_rem _ _⟩
  split
  · exact ⟨h, Nat.le_refl _⟩
  split
  · exact ⟨h, Nat.le_refl _⟩
  · exact ⟨h, Nat.le_refl _⟩
/-- How far a line goes on. -/
structure Mt (z : Nat) (s : St) (r : St × Nat × Bool) : Prop where
  no : r.2.2 = false → ∃ l, r.1 = s.atL l ∧ On s.list s.tip r.2.1 ∧ Lw z l ∧ l.rem.length ≤ s.line.rem.length
  yes : r.2.2 = true → ∃ l, r.1 = closeM (s.atL l) ∧ s.tip ≠ 0 ∧ Lw z l
theorem match_mt {z : Nat} : ∀ (f : Nat) (s : St) (i : Nat), Wf s.list s.tip → On s.list s.tip i → Lw z s.line → Mt z s (matchGo f s i)
  | 0, s, i, _, o, h => ⟨fun _ => ⟨s.line, rfl, o, h, Nat.le_refl _⟩, (fun e => by cases e)⟩
  | f + 1, s, i, w, o, h => by
    unfold matchGo
    split
    · exact ⟨fun _ => ⟨s.line, rfl, o, h, Nat.le_refl _⟩, (fun e => by cases e)⟩
    next hi =>
    split
    · exact ⟨(fun e => by cases e), fun _ => ⟨s.line, rfl, by have := o.le w; omega, h⟩⟩
    split
    · obtain ⟨y, e1, o2, _, _⟩ := w.child o hi
      have e2 : (s.nd i).last.toNat = y := by unfold St.nd; rw [e1]; rfl
      obtain ⟨g1, g2⟩ := goes_line h (s.nd i).last.toNat
      have q := match_mt f (s.atL (goesOnM s (s.nd i).last.toNat).1) (s.nd i).last.toNat w (by rw [e2]; exact o2) g1
      refine ⟨fun e => ?_, fun e => ?_⟩
      · obtain ⟨l, h1, h2, h3, h4⟩ := q.no e
        exact ⟨l, h1, h2, h3, Nat.le_trans h4 g2⟩
      · obtain ⟨l, h1, h2, h3⟩ := q.yes e
        exact ⟨l, h1, h2, h3⟩
    · obtain ⟨g1, g2⟩ := goes_line h (s.nd i).last.toNat
      exact ⟨fun _ => ⟨_, rfl, o, g1, g2⟩, (fun e => by cases e)⟩
theorem matched_mt {z : Nat} {s : St} (w : Wf s.list s.tip) (h : Lw z s.line) : Mt z s (matchedM s) :=
  match_mt _ s 0 w (on_doc w) h

theorem put_cap {s : St} {a b z : Nat} (c : Cap s a b) (h : Lw z s.line) (i : Nat) : Cap (putM s i) a (b + z + 4) := by
  have := h.restLen
  exact (c.put i { s.nd i with text := (s.nd i).text ++ lrestM s.line ++ [10] } (d := (lrestM s.line).length + 1) (by simp only [List.length_append, List.length_singleton]; omega)).more (Nat.le_refl _) (by omega)
theorem fill_ok {s : St} {i a b z : Nat} (w : Wf s.list s.tip) (h8 : (s.nd i).kind = 8 → s.tip ≠ 0) (c : Cap s a b) (h : Lw z s.line) : Wf (fillM s i).list (fillM s i).tip ∧ Cap (fillM s i) (a + 1) (b + z + 4) := by
  have p := put_cap c h i
  unfold fillM
  split
  · exact ⟨put_wf w i, p.more (by omega) (Nat.le_refl _)⟩
  split
  · next e8 =>
    split
    · exact ⟨(show Wf (putM s i).list (putM s i).tip from put_wf w i).close (h8 e8), p.close.more (by omega) (Nat.le_refl _)⟩
    · exact ⟨put_wf w i, p.more (by omega) (Nat.le_refl _)⟩
  split
  · exact ⟨w, c.more (by omega) (by omega)⟩
  · have hk : (blkN 5).kind ≠ 4 ∨ holdsB (s.nd s.tip).kind (blkN 5).kind = true := .inl (show (5 : Nat) ≠ 4 by decide)
    have w1 := add_wf w (blkN 5) hk (Nat.zero_le _)
    have c1 := c.add w (blkN 5) hk
    have l1 := (add_line w (blkN 5) hk).1
    exact ⟨put_wf w1 _, (put_cap (z := z) c1 (by rw [l1]; exact h) _).more (Nat.le_refl _) (by show b + 0 + z + 4 ≤ _; omega)⟩
theorem rest_ok {s : St} {i a b z : Nat} (w : Wf s.list s.tip) (o : On s.list s.tip i) (c : Cap s a b) (h : Lw z s.line) (what : Nat) : Wf (restM s i what).list (restM s i what).tip ∧ Cap (restM s i what) (a + 1) (b + z + 4) := by
  have tail : ∀ s : St, Wf s.list s.tip → On s.list s.tip i → Cap s a b → Lw z s.line → (Wf (endBlankM (cwM s i) i).list (endBlankM (cwM s i) i).tip ∧ Cap (endBlankM (cwM s i) i) a b) ∧ Wf (fillM (endBlankM (cwM s i) i) i).list (fillM (endBlankM (cwM s i) i) i).tip ∧ Cap (fillM (endBlankM (cwM s i) i) i) (a + 1) (b + z + 4) := by
    intro s w o c h
    have hc := cw_ok w o
    have hw := cw_wf w o
    have cc := Cap.cw c i
    have eb := endBlank_keep hw i
    have ww : Wf (endBlankM (cwM s i) i).list (endBlankM (cwM s i) i).tip := by rw [eb.2.2.2.2.1]; exact eb.1
    have c2 : Cap (endBlankM (cwM s i) i) a b := ⟨by rw [eb.2.1]; exact cc.len, by rw [eb.2.2.1]; exact cc.txt⟩
    refine ⟨⟨ww, c2⟩, fill_ok ww (fun q => ?_) c2 ?_⟩
    · rw [eb.2.2.2.2.1, hc.2.1]
      intro e0
      rw [eb.2.2.2.1, (fun x => by rw [e0] : ∀ x : St, x.nd i = x.nd 0)] at q
      have := hc.1.doc
      unfold St.nd at q
      omega
    · rw [eb.2.2.2.2.2.1, hc.2.2.2.1]; exact h
  unfold restM
  split
  · have h1 : Lw z (s.atL (skipBM s.line s.line.ind)).line := h.skip _
    split
    · exact ⟨put_wf (s := s.atL (skipBM s.line s.line.ind)) w _, (put_cap (c.atL _) h1 _).more (by omega) (Nat.le_refl _)⟩
    · exact (tail (s.atL (skipBM s.line s.line.ind)) w o (c.atL _) h1).2
  split
  · exact (tail s w o c h).2
  · have q := (tail s w o c h).1
    exact ⟨q.1, q.2.more (by omega) (by omega)⟩
theorem line_ok {s : St} {a b z : Nat} (w : Wf s.list s.tip) (c : Cap s a b) (h : Lw z s.line) (hz : z ≤ 10000) (ha : a + 2 * z ≤ 79000) (hb : b ≤ 80000) : Wf (lineM s).list (lineM s).tip ∧ Cap (lineM s) (a + 2 * z + 3) (b + 2 * z + 4) := by
  have m := matched_mt w h
  unfold lineM
  split
  · next e =>
    obtain ⟨l, h1, h2, h3⟩ := m.yes e
    rw [h1]
    exact ⟨Wf.close (s := s.atL l) w h2, (Cap.close (c.atL l)).more (by omega) (by omega)⟩
  · next e =>
    obtain ⟨l, h1, h2, h3, h4⟩ := m.no (by revert e; cases (matchedM s).2.2 <;> simp)
    have hr := h.rem
    have hl := c.len
    have ht := c.txt
    rw [h1]
    have k : Ok (s.atL l) (matchedM s).2.1 := ⟨w, h2, by show phi s ≤ _; omega, by show s.list.length ≤ _; omega⟩
    have g := begun_bn k (a := a + 2 * z) (b := b) h3 hz (by show s.list.length + 2 * l.rem.length ≤ _; omega) (by show phi s ≤ _; omega) ha hb
    have q := rest_ok g.wf g.on g.cap g.lw (begunM (s.atL l) (matchedM s).2.1).2.2
    exact ⟨q.1, q.2.more (by omega) (by omega)⟩
theorem take_ok {s : St} {a b z : Nat} {t : List UInt8} (w : Wf s.list s.tip) (c : Cap s a b) (ht : t.length ≤ z) (hz : z ≤ 10000) (ha : a + 2 * z ≤ 79000) (hb : b ≤ 80000) : Wf (takeM s t).list (takeM s t).tip ∧ Cap (takeM s t) (a + 2 * z + 3) (b + 2 * z + 4) := by
  have q := line_ok (s := startM s t) w ⟨c.len, c.txt⟩ (Lw.start t) (by omega) (by omega) hb
  exact ⟨q.1, q.2.more (by omega) (by omega)⟩
end Go.Proofs.YtfgpephpkibbaaaGreatDoor

/-
  Who is in whom, plainly: the last block in one is in it, and so are those ahead of it.
-/
namespace Go.Proofs.YtfgpephpkibbaaaGreatDoor
open Go Go.Lib

structure Kin (l : List Nd) : Prop where
  last : ∀ i y : Nat, (gN l i).last = (y : Int) → (gN l y).up = (i : Int)
  ahead : ∀ y z : Nat, (gN l y).ahead = (z : Int) → (gN l z).up = (gN l y).up
theorem Kin.sk {l l' : List Nd} (h : Kin l) (k : Sk l l') : Kin l' :=
  ⟨fun i y e => by rw [(k.2 y).1]; exact h.last i y (by rw [← (k.2 i).2.1]; exact e), fun y z e => by rw [(k.2 z).1, (k.2 y).1]; exact h.ahead y z (by rw [← (k.2 y).2.2.1]; exact e)⟩
theorem Kin.set {l : List Nd} (h : Kin l) (i : Nat) (n : Nd) (e : n.up = (gN l i).up ∧ n.last = (gN l i).last ∧ n.ahead = (gN l i).ahead ∧ n.depth = (gN l i).depth) : Kin (l.set i n) := h.sk (Sk.set l i n e)
theorem Kin.drop {l : List Nd} {t : Nat} (h : Kin l) (w : Wf l t) (h0 : t ≠ 0) : Kin (l.set (gN l t).up.toNat { gN l (gN l t).up.toNat with last := (gN l t).ahead }) := by
  have hu := w.up t (by omega) w.tip
  have e : ∀ j, (gN (l.set (gN l t).up.toNat { gN l (gN l t).up.toNat with last := (gN l t).ahead }) j).up = (gN l j).up := fun j => set_up rfl
  refine ⟨fun i y q => ?_, fun y z q => ?_⟩
  · rw [e]
    rw [gN_set] at q
    split at q
    · next c =>
      have := h.ahead t y q
      omega
    · exact h.last i y q
  · rw [e, e]
    rw [gN_set] at q
    split at q
    · next c => rw [c.1]; exact h.ahead _ z q
    · exact h.ahead y z q
theorem kin_define {s : St} (h : Kin s.list) (i : Nat) : Kin (defineM s i).list := h.set i _ ⟨rfl, rfl, rfl, rfl⟩
theorem kin_close {s : St} (w : Wf s.list s.tip) (h0 : s.tip ≠ 0) (h : Kin s.list) : Kin (closeM s).list := by
  show Kin (closedM s s.tip).list
  unfold closedM
  split
  · unfold closeParaM
    have hd : Wf (defineM s s.tip).list s.tip := w.text s.tip _ _
    have kd := kin_define h s.tip
    split
    · exact kd.drop hd h0
    · exact kd
  split
  · split
    · exact h.set _ _ ⟨rfl, rfl, rfl, rfl⟩
    · exact h
  split
  · exact h.set _ _ ⟨rfl, rfl, rfl, rfl⟩
  split
  · exact h.set _ _ ⟨rfl, rfl, rfl, rfl⟩
  · exact h
theorem kin_cwGo : ∀ (n : Nat) (s : St) (i : Nat), Wf s.list s.tip → On s.list s.tip i → Kin s.list → Kin (cwGo n s i).list
  | 0, _, _, _, _, h => h
  | n + 1, s, i, w, o, h => by
    unfold cwGo
    split
    · exact h
    · next e =>
      have h0 : s.tip ≠ 0 := fun e0 => by have := o.le w; omega
      exact kin_cwGo n (closeM s) i (w.close h0) (o.closed e) (kin_close w h0 h)
theorem kin_cw {s : St} {i : Nat} (w : Wf s.list s.tip) (o : On s.list s.tip i) (h : Kin s.list) : Kin (cwM s i).list := kin_cwGo _ s i w o h
theorem kin_addGo : ∀ (n : Nat) (s : St) (k : Nat), Wf s.list s.tip → (k ≠ 4 ∨ holdsB (s.nd s.tip).kind k = true) → Kin s.list → Kin (addGo n s k).list
  | 0, _, _, _, _, h => h
  | n + 1, s, k, w, hk, h => by
    unfold addGo
    split
    · exact h
    · next e =>
      have hk4 : k ≠ 4 := hk.resolve_right e
      have h0 : s.tip ≠ 0 := fun e0 => e (doc_holds w e0 hk4)
      exact kin_addGo n (closeM s) k (w.close h0) (.inl hk4) (kin_close w h0 h)
theorem kin_push {s : St} (w : Wf s.list s.tip) (h : Kin s.list) (b : Nd) : Kin (pushM s b).list := by
  have hn : (pushM s b).list = s.list.set s.tip { s.nd s.tip with last := s.list.length } ++ [{ b with up := s.tip, last := -1, ahead := (s.nd s.tip).last, depth := (s.nd s.tip).depth + 1 }] := rfl
  have at_old : ∀ j, j < s.list.length → gN (pushM s b).list j = if j = s.tip then { s.nd s.tip with last := s.list.length } else gN s.list j := fun j hj => by
    rw [hn, gN_app (by rw [List.length_set]; exact hj), gN_set]
    by_cases e : j = s.tip
    · rw [if_pos ⟨e, w.tip⟩, if_pos e]
    · rw [if_neg (fun q => e q.1), if_neg e]
  have at_new : gN (pushM s b).list s.list.length = { b with up := s.tip, last := -1, ahead := (s.nd s.tip).last, depth := (s.nd s.tip).depth + 1 } := by
    have := gN_new (s.list.set s.tip { s.nd s.tip with last := s.list.length }) { b with up := s.tip, last := -1, ahead := (s.nd s.tip).last, depth := (s.nd s.tip).depth + 1 }
    rw [List.length_set] at this
    rw [hn]; exact this
  have at_out : ∀ j, s.list.length < j → gN (pushM s b).list j = blkN 1 := fun j hj => gN_out (by rw [push_len]; omega)
  have up_old : ∀ j, j < s.list.length → (gN (pushM s b).list j).up = (gN s.list j).up := fun j hj => by
    rw [at_old j hj]
    split
    · next e => subst e; rfl
    · rfl
  have ah_old : ∀ j, j < s.list.length → (gN (pushM s b).list j).ahead = (gN s.list j).ahead := fun j hj => by
    rw [at_old j hj]
    split
    · next e => subst e; rfl
    · rfl
  refine ⟨fun i y q => ?_, fun y z q => ?_⟩
  · by_cases hi : i < s.list.length
    · by_cases ht : i = s.tip
      · rw [at_old i hi, if_pos ht] at q
        have : y = s.list.length := by dsimp only at q; omega
        subst this
        rw [at_new, ht]
      · rw [at_old i hi, if_neg ht] at q
        have hl := w.last i hi
        rw [up_old y (by omega)]
        exact h.last i y q
    · by_cases he : i = s.list.length
      · subst he
        rw [at_new] at q
        dsimp only at q
        omega
      · rw [at_out i (by omega)] at q
        have : (blkN 1).last = -1 := rfl
        omega
  · by_cases hi : y < s.list.length
    · rw [ah_old y hi] at q
      have hl := w.ahead y hi
      rw [up_old z (by omega), up_old y hi]
      exact h.ahead y z q
    · by_cases he : y = s.list.length
      · subst he
        rw [at_new] at q ⊢
        dsimp only at q ⊢
        have hl := w.last s.tip w.tip
        have e2 : (gN s.list s.tip).last = (z : Int) := q
        rw [up_old z (by omega)]
        exact h.last s.tip z q
      · rw [at_out y (by omega)] at q
        have : (blkN 1).ahead = -1 := rfl
        omega
theorem kin_add {s : St} (w : Wf s.list s.tip) (h : Kin s.list) (b : Nd) (hk : b.kind ≠ 4 ∨ holdsB (s.nd s.tip).kind b.kind = true) : Kin (addM s b).list :=
  kin_push (addGo_ok s.tip s b.kind (Nat.le_refl _) w hk).1 (kin_addGo _ s b.kind w hk h) b
theorem kin_addIn {s : St} {i : Nat} (w : Wf s.list s.tip) (o : On s.list s.tip i) (h : Kin s.list) (b : Nd) (hk : b.kind ≠ 4) : Kin (addInM s i b).list :=
  kin_add (cw_wf w o) (kin_cw w o h) b (.inl hk)
theorem kin_put {s : St} (h : Kin s.list) (i : Nat) : Kin (putM s i).list := h.set i _ ⟨rfl, rfl, rfl, rfl⟩
theorem kin_ebGo : ∀ (n : Nat) (l : List Nd) (j : Int) (b : Bool), Kin l → Kin (ebGo n l j b)
  | 0, _, _, _, h => h
  | n + 1, l, j, b, h => by
    unfold ebGo
    split
    · exact h
    · exact kin_ebGo n _ _ b (h.set _ _ ⟨rfl, rfl, rfl, rfl⟩)
theorem kin_eb {s : St} (h : Kin s.list) (i : Nat) : Kin (endBlankM s i).list := by
  refine kin_ebGo _ _ _ _ ?_
  unfold ebLast
  split
  · exact h.set _ _ ⟨rfl, rfl, rfl, rfl⟩
  · exact h
theorem kin_fill {s : St} {i : Nat} (w : Wf s.list s.tip) (h8 : (s.nd i).kind = 8 → s.tip ≠ 0) (h : Kin s.list) : Kin (fillM s i).list := by
  unfold fillM
  split
  · exact kin_put h i
  split
  · next e8 =>
    split
    · exact kin_close (s := putM s i) (put_wf w i) (h8 e8) (kin_put h i)
    · exact kin_put h i
  split
  · exact h
  · exact kin_put (kin_add w h (blkN 5) (.inl (show (5 : Nat) ≠ 4 by decide))) _
theorem kin_rest {s : St} {i : Nat} (w : Wf s.list s.tip) (o : On s.list s.tip i) (h : Kin s.list) (what : Nat) : Kin (restM s i what).list := by
  have tail : ∀ s : St, Wf s.list s.tip → On s.list s.tip i → Kin s.list → Kin (endBlankM (cwM s i) i).list ∧ Kin (fillM (endBlankM (cwM s i) i) i).list := by
    intro s w o h
    have hc := cw_ok w o
    have eb := endBlank_keep (cw_wf w o) i
    have kb := kin_eb (kin_cw w o h) i
    refine ⟨kb, kin_fill (by rw [eb.2.2.2.2.1]; exact eb.1) (fun q => ?_) kb⟩
    rw [eb.2.2.2.2.1, hc.2.1]
    intro e0
    rw [eb.2.2.2.1, (fun x => by rw [e0] : ∀ x : St, x.nd i = x.nd 0)] at q
    have := hc.1.doc
    unfold St.nd at q
    omega
  unfold restM
  split
  · split
    · exact kin_put (s := s.atL (skipBM s.line s.line.ind)) h _
    · exact (tail (s.atL (skipBM s.line s.line.ind)) w o h).2
  split
  · exact (tail s w o h).2
  · exact (tail s w o h).1
theorem kin_inItem {s : St} (h : Kin s.list) (n : Nat) : Kin (inItemM s n).list := h.set s.tip { s.nd s.tip with indent := (pastMarkM s.line n).2 } ⟨rfl, rfl, rfl, rfl⟩
theorem kin_under {s : St} (h : Kin s.list) (i : Nat) : Kin (bUnderM s i).1.list := by
  unfold bUnderM
  split
  · exact h
  split
  · exact kin_define h i
  · exact (kin_define h i).set i _ ⟨rfl, rfl, rfl, rfl⟩
theorem kin_begin {s : St} {i : Nat} (k : Ok s i) (h : Kin s.list) : Kin (beginM s i).1.list := by
  unfold beginM
  split
  · exact h
  split
  · unfold bCodeM
    split
    · exact h
    · exact kin_addIn (s := s.atL (skipBM s.line 4)) k.wf k.on h (blkN 7) (show (7 : Nat) ≠ 4 by decide)
  split
  · exact kin_addIn (s := s.atL (pastQuoteM s.line).1) k.wf k.on h (blkN 2) (show (2 : Nat) ≠ 4 by decide)
  split
  · exact kin_addIn k.wf k.on h _ (show (6 : Nat) ≠ 4 by decide)
  split
  · exact kin_addIn k.wf k.on h _ (show (7 : Nat) ≠ 4 by decide)
  split
  · exact kin_addIn k.wf k.on h _ (show (8 : Nat) ≠ 4 by decide)
  split
  · exact kin_under h i
  · next hq =>
    have hq' : (bUnderM s i).2 = false := by revert hq; cases (bUnderM s i).2 <;> simp
    have k1 := (k.under hq').1
    have h1 := kin_under h i
    unfold bRestM
    split
    · exact kin_addIn k1.wf k1.on h1 _ (show (9 : Nat) ≠ 4 by decide)
    have hi : Kin (bItemM (bUnderM s i).1 i).1.list := by
      unfold bItemM
      split
      · have w1 := cw_wf k1.wf k1.on
        obtain ⟨w2, _, o2, _, _⟩ := list_ok w1 (lstL (bUnderM s i).1.line.next) (a := (cwM (bUnderM s i).1 i).list.length) (b := phi (cwM (bUnderM s i).1 i)) ⟨Nat.le_refl _, Nat.le_refl _⟩
        have h2 : Kin (listM (cwM (bUnderM s i).1 i) (lstL (bUnderM s i).1.line.next)).list := by
          unfold listM
          split
          · exact kin_cw k1.wf k1.on h1
          · exact kin_add w1 (kin_cw k1.wf k1.on h1) _ (.inl (show (3 : Nat) ≠ 4 by decide))
        exact kin_inItem (kin_add w2 h2 (blkN 4) (.inr o2)) _
      · exact h1
    split
    · exact hi
    · exact h1
theorem kin_begunGo : ∀ (f : Nat) (s : St) (i : Nat) {z : Nat}, Ok s i → Lw z s.line → z ≤ 10000 → s.list.length + 2 * s.line.rem.length ≤ 79000 → Kin s.list → Kin (begunGo f s i).1.list
  | 0, _, _, _, _, _, _, _, h => h
  | f + 1, s, i, z, k, hz, hz2, ha, h => by
    have g := begin_bg k (a := s.list.length) (b := phi s) ⟨Nat.le_refl _, Nat.le_refl _⟩ hz hz2
    have kb := kin_begin k h
    unfold begunGo
    split
    · exact kb
    split
    · exact kb
    · next h0 h1 =>
      have e1 : (beginM s i).2 = 1 := Decidable.byContradiction fun q => h1 (.inl q)
      obtain ⟨h2, h3⟩ := g.one e1
      have h4 := h2 z hz
      have h5 := h3.len
      have h6 := h3.txt
      have h7 := k.phi
      exact kin_begunGo f (beginM s i).1 (beginM s i).1.tip ⟨g.wf, .refl _, by omega, by omega⟩ (g.lw z hz) hz2 (by omega) kb
theorem kin_line {s : St} {z : Nat} (w : Wf s.list s.tip) (h : Kin s.list) (hz : Lw z s.line) (hz2 : z ≤ 10000) (ha : s.list.length + 2 * z ≤ 79000) (hb : phi s ≤ 80000) : Kin (lineM s).list := by
  have m := matched_mt w hz
  unfold lineM
  split
  · next e =>
    obtain ⟨l, h1, h2, h3⟩ := m.yes e
    rw [h1]
    exact kin_close (s := s.atL l) w h2 h
  · next e =>
    obtain ⟨l, h1, h2, h3, h4⟩ := m.no (by revert e; cases (matchedM s).2.2 <;> simp)
    have hr := hz.rem
    rw [h1]
    have k : Ok (s.atL l) (matchedM s).2.1 := ⟨w, h2, hb, by show s.list.length ≤ _; omega⟩
    have hl : (s.atL l).list.length + 2 * (s.atL l).line.rem.length ≤ 79000 := by show s.list.length + 2 * l.rem.length ≤ _; omega
    have g := begun_bn k (a := 79000) (b := 80000) h3 hz2 hl (show phi s ≤ _ from hb) (Nat.le_refl _) (Nat.le_refl _)
    refine kin_rest g.wf g.on ?_ _
    unfold begunM
    split
    · exact h
    · exact kin_begunGo _ _ _ k h3 hz2 hl h
theorem kin_take {s : St} {t : List UInt8} (w : Wf s.list s.tip) (h : Kin s.list) (ht : t.length ≤ 10000) (ha : s.list.length + 2 * t.length ≤ 79000) (hb : phi s ≤ 80000) : Kin (takeM s t).list :=
  kin_line (s := startM s t) w h (Lw.start t) ht ha hb
end Go.Proofs.YtfgpephpkibbaaaGreatDoor

/-
  Contract of block's begun.
-/
namespace Go.Proofs.YtfgpephpkibbaaaGreatDoor
open Go.RowKit Go.Lib

/-- What is left of the line, as it stands in memory. -/
def remOf (W : World) (B : Nat) : Nat := match W.cell? ⟨B, 3, none⟩, W.cell? ⟨B, 4, none⟩ with
  | some (.string t), some v => t.size - (RowKit.intOf v).toNat
  | _, _ => 0
section
variable {W : World} {B : Nat} {O : Nat → Option Nat} {s : St} {i : Nat}
theorem Mem.remOf {lv rv : Value} {tv : Nat → Value} {xs : List Value} {sb : ByteArray} {k : Nat} (h : Mem W B O s lv rv tv xs sb k) : remOf W B = s.line.rem.length := by
  unfold Go.Proofs.YtfgpephpkibbaaaGreatDoor.remOf
  have y3 := h.box.cell 3 (v := .string sb) rfl
  have y4 := h.box.cell 4 (v := .int .i64 k) rfl
  rw [y3, y4, ← h.pos, List.length_drop, bytes_len]
  simp [RowKit.intOf]
theorem Par.remOf (p : Par W B O s) : Go.Proofs.YtfgpephpkibbaaaGreatDoor.remOf W B = s.line.rem.length := by
  obtain ⟨_, _, _, _, _, _, h⟩ := p
  exact h.remOf
theorem Par.lw (p : Par W B O s) : ∃ z, Lw z s.line ∧ z ≤ 10000 := by
  obtain ⟨_, _, _, _, _, _, h⟩ := p
  exact ⟨_, h.lw, h.siz⟩
theorem Par.tip_at (p : Par W B O s) : W.cell? ⟨B, 1, none⟩ = some (.int .i64 s.tip) := by
  obtain ⟨_, _, _, _, _, _, h⟩ := p
  exact h.box.cell 1 rfl
theorem Par.deep_at (p : Par W B O s) : W.cell? ⟨B, 10, none⟩ = some (.bool s.deep) := by
  obtain ⟨_, _, _, _, _, _, h⟩ := p
  exact h.box.cell 10 rfl
set_option maxRecDepth 100000 in
set_option maxHeartbeats 8000000 in
theorem begun_par (p : Par W B O s) (k : Ok s i) (hl : s.list.length + 2 * s.line.rem.length ≤ 79000) :
    Calls Tryz.prog 30 #[.pointer (some ⟨B, 0, none⟩), .int .i64 i] W fun e w' => e = .returned (.tuple #[.int .i64 ((begunM s i).2.1 : Nat), .int .i64 ((begunM s i).2.2 : Nat)]) ∧ Post W B O (begunM s i).1 w' := by
  obtain ⟨g, cap, _, _, _, _, _, m⟩ := p.form k.pos
  obtain ⟨-, hc1, hc2⟩ := m.num
  have y0 := m.box.cell 0 (v := .slice (some ⟨g, 0, none⟩) s.list.length cap) rfl
  have z0 : W.cell? ⟨g, i * 20, none⟩ = some (.int .i64 ((s.nd i).kind : Nat)) := m.at k.lt 0 (by decide)
  have hi2 : (i : Int) < (s.list.length : Int) := by have := k.lt; omega
  have HF : Hid (begunM s i = _) := Lib.hid (begunM.eq_1 s i)
  obtain ⟨E, hE⟩ : ∃ E, begunM s i = E := ⟨_, rfl⟩
  rw [hE] at HF
  rw [hE]
  have PP := Lib.hid p
  have KK := Lib.hid k
  have HL := Lib.hid hl
  clear hE m p k hl hc1
  generalize hk : (s.nd i).kind = q at *
  by_cases q7 : q = 7
  · have HE : Hid (E = (s, i, 2)) := Lib.hid (by rw [HF.out, if_pos (.inl q7)])
    subst q7
    have R := Lib.hid (show Post W B O s W from PP.out.post (Keeps.refl W))
    clear HF KK HL PP hk
    go_enter Tryz.func30, Tryz.ntmps30
    go_wp2_with fail
    go_ret2
    exact ⟨by rw [HE.out]; rfl, by rw [HE.out]; exact R.out⟩
  have t7 := beqF (show ¬ (q : Int) = 7 by omega)
  by_cases q8 : q = 8
  · have HE : Hid (E = (s, i, 2)) := Lib.hid (by rw [HF.out, if_pos (.inr q8)])
    subst q8
    have R := Lib.hid (show Post W B O s W from PP.out.post (Keeps.refl W))
    clear HF KK HL PP hk q7
    go_enter Tryz.func30, Tryz.ntmps30
    go_wp2_with fail
    go_ret2
    exact ⟨by rw [HE.out]; rfl, by rw [HE.out]; exact R.out⟩
  have t8 := beqF (show ¬ (q : Int) = 8 by omega)
  have HG : Hid (begunGo (s.line.rem.length + 1) s i = E) := Lib.hid (by
    rw [HF.out, if_neg]
    rintro (e | e)
    · exact q7 e
    · exact q8 e)
  clear HF q7 q8 hk
  go_enter Tryz.func30, Tryz.ntmps30
  go_wp2_with fail
  go_loopw [1] (fun v wr => ∃ (j f : Nat) (s1 : St), v = .int .i64 (j : Nat) ∧ Hid (∃ O1, Par wr B O1 s1 ∧ Chg W O wr O1) ∧ Hid (Ok s1 j ∧ phi s1 ≤ phi s ∧ s1.list.length + 2 * s1.line.rem.length ≤ 79000) ∧ Hid (s1.line.rem.length < f) ∧ Hid (begunGo f s1 j = E)) (fun _ wr => remOf wr B)
  case atStart => exact ⟨i, _, s, rfl, Lib.hid ⟨O, PP.out, Chg.refl _ _⟩, Lib.hid ⟨KK.out, Nat.le_refl _, HL.out⟩, Lib.hid (Nat.lt_succ_self _), HG⟩
  case round =>
    obtain ⟨j, f, s1, rfl, HP, HK, HR, HE⟩ := hrel
    obtain ⟨O1, p1, c1⟩ := HP.out
    have BG := Lib.hid (begin_par p1 HK.out.1)
    have RM := Lib.hid p1.remOf
    obtain ⟨f', rfl⟩ : ∃ f', f = f' + 1 := ⟨f - 1, by have := HR.out; omega⟩
    obtain ⟨z, hz, hz2⟩ := p1.lw
    have BB := Lib.hid (begin_bg HK.out.1 (a := s1.list.length) (b := phi s1) ⟨Nat.le_refl _, Nat.le_refl _⟩ hz hz2)
    have LZ := Lib.hid hz
    have C1 := Lib.hid c1
    have HU : Hid (begunGo (f' + 1) s1 j = _) := Lib.hid (begunGo.eq_2 s1 j f')
    rw [HE.out] at HU
    clear p1 c1 HP PP HG hz y0 z0 t7 t8 KK HL
    go_wp2_with fail
    refine BG.out.mono ?_
    rintro e w2 ⟨rfl, O2, p2, c2⟩
    have C2 := Lib.hid (C1.out.trans c2)
    have P2 := Lib.hid p2
    have y1 := p2.tip_at
    have y10 := p2.deep_at
    have RM2 := Lib.hid p2.remOf
    clear BG C1 p2 c2
    obtain ⟨s2, hs2⟩ : ∃ s2, (beginM s1 j).1 = s2 := ⟨_, rfl⟩
    rw [hs2] at P2 y1 y10 RM2
    by_cases w0 : (beginM s1 j).2 = 0
    · have HX : Hid (E = (s2, j, 0)) := Lib.hid (by rw [HU.out, if_pos w0, hs2])
      rw [w0]
      have R := Lib.hid (show Post W B O s2 w2 from ⟨O2, P2.out, C2.out⟩)
      clear HU w0 hs2
      go_wp2_with fail
      go_ret2
      exact ⟨by rw [HX.out]; rfl, by rw [HX.out]; exact R.out⟩
    · rw [if_neg w0] at HU
      by_cases w1 : (beginM s1 j).2 = 1
      · have t1 : ((1 : Int) != 1) = false := rfl
        by_cases dp : s2.deep = true
        · have HX : Hid (E = (s2, s2.tip, 1)) := Lib.hid (by rw [HU.out, if_pos (.inr (by rw [hs2]; exact dp)), hs2, w1])
          rw [w1]
          rw [dp] at y10
          have R := Lib.hid (show Post W B O s2 w2 from ⟨O2, P2.out, C2.out⟩)
          clear HU w0 w1 hs2 dp
          go_wp2_with fail
          go_ret2
          exact ⟨by rw [HX.out]; rfl, by rw [HX.out]; exact R.out⟩
        · have dp' : s2.deep = false := by revert dp; cases s2.deep <;> simp
          have HX : Hid (begunGo f' s2 s2.tip = E) := Lib.hid (by
            rw [HU.out, if_neg, hs2]
            rintro (q | q)
            · exact q w1
            · rw [hs2] at q; exact dp q)
          have hone := BB.out.one w1
          have h2 := hone.1 z LZ.out
          have h3 := hone.2.len
          have h4 := hone.2.txt
          have h5 := BB.out.wf
          rw [hs2] at h2 h3 h4 h5
          have K2 := Lib.hid (show Ok s2 s2.tip ∧ phi s2 ≤ phi s ∧ s2.list.length + 2 * s2.line.rem.length ≤ 79000 from by
            obtain ⟨a1, a2, a3⟩ := HK.out
            exact ⟨⟨h5, .refl _, by have := a1.phi; omega, by omega⟩, by omega, by omega⟩)
          have HR2 := Lib.hid (show s2.line.rem.length < f' by have := HR.out; omega)
          have HM := Lib.hid h2
          rw [w1]
          rw [dp'] at y10
          clear HU w0 w1 hs2 dp dp' hone h2 h3 h4 h5 BB
          go_wp2_with fail
          go_roundw
          case rel => exact ⟨s2.tip, f', s2, rfl, Lib.hid ⟨O2, P2.out, C2.out⟩, K2, HR2, HX⟩
          case measure => rw [RM.out, RM2.out]; exact HM.out
      · have HX : Hid (E = (s2, s2.tip, (beginM s1 j).2)) := Lib.hid (by rw [HU.out, if_pos (.inl w1), hs2])
        have t0 := beqF (show ¬ ((beginM s1 j).2 : Int) = 0 by omega)
        have t1 : (((beginM s1 j).2 : Int) != 1) = true := by rw [bne, beq_eq_false_iff_ne.2 (by omega)]; rfl
        have R := Lib.hid (show Post W B O s2 w2 from ⟨O2, P2.out, C2.out⟩)
        generalize (beginM s1 j).2 = wh at *
        clear HU w0 w1 hs2
        go_wp2_with fail
        go_ret2
        exact ⟨by rw [HX.out]; rfl, by rw [HX.out]; exact R.out⟩
end
end Go.Proofs.YtfgpephpkibbaaaGreatDoor

/-
  What the plain parser makes of texts that are reckoned out: the document's example, lists of words, quotes in one another. No program in sight.
-/
namespace Go.Proofs.YtfgpephpkibbaaaGreatDoor
open Go Go.Lib

def parT (t : List UInt8) : Tr := .mk 5 0 false 0 0 false [] t []
def docT (k : List Tr) : Tr := .mk 1 0 false 0 0 false [] [] k
def quoT (k : List Tr) : Tr := .mk 2 0 false 0 0 false [] [] k
def itmT (k : List Tr) : Tr := .mk 4 0 false 0 0 false [] [] k
def awkL : List UInt8 := [62, 32, 35, 32, 97, 10, 62, 32, 98, 10, 99, 10, 10, 45, 32, 120, 10, 45, 32, 121, 10, 10, 91, 114, 93, 58, 32, 47, 117, 10]
set_option maxRecDepth 100000 in
theorem awk_parse : parseM awkL = some (docT [quoT [.mk 6 1 false 0 0 false [] [97] [], parT [98, 10, 99]], .mk 3 0 false 0 45 true [] [] [itmT [parT [120]], itmT [parT [121]]]], [([114], [47, 117], [])]) := by kernel_rfl

/-! Lists of words. -/
def wrdL : List UInt8 := [119, 111, 114, 100]
/-- One item's line, or its two lines. -/
def oneL (loose ord : Bool) : List UInt8 := (if ord then [49, 46, 32] else [45, 32]) ++ wrdL ++ [10] ++ (if loose then [10] else [])
def itmsL : Nat → Bool → Bool → List UInt8
  | 0, _, _ => []
  | n + 1, l, o => itmsL n l o ++ oneL l o
def lstT (n : Nat) (loose ord : Bool) : Tr := .mk 3 0 ord (if ord then 1 else 0) (if ord then 46 else 45) (!loose) [] [] (List.replicate n (itmT [parT wrdL]))
set_option maxRecDepth 100000 in
theorem itms_ff : (List.range 20).map (fun n => parseM (itmsL (n + 2) false false)) = (List.range 20).map (fun n => some (docT [lstT (n + 2) false false], [])) := by kernel_rfl
set_option maxRecDepth 100000 in
theorem itms_ft : (List.range 20).map (fun n => parseM (itmsL (n + 2) false true)) = (List.range 20).map (fun n => some (docT [lstT (n + 2) false true], [])) := by kernel_rfl
set_option maxRecDepth 100000 in
theorem itms_tf : (List.range 20).map (fun n => parseM (itmsL (n + 2) true false)) = (List.range 20).map (fun n => some (docT [lstT (n + 2) true false], [])) := by kernel_rfl
set_option maxRecDepth 100000 in
theorem itms_tt : (List.range 20).map (fun n => parseM (itmsL (n + 2) true true)) = (List.range 20).map (fun n => some (docT [lstT (n + 2) true true], [])) := by kernel_rfl
theorem itms_parse {n : Nat} (h0 : 2 ≤ n) (hn : n ≤ 21) (l o : Bool) : parseM (itmsL n l o) = some (docT [lstT n l o], []) := by
  have h1 : (List.range 20).map (fun n => parseM (itmsL (n + 2) l o)) = (List.range 20).map (fun n => some (docT [lstT (n + 2) l o], [])) := by
    cases l <;> cases o
    · exact itms_ff
    · exact itms_ft
    · exact itms_tf
    · exact itms_tt
  have h2 := List.map_inj_left.1 h1 (n - 2) (List.mem_range.2 (by omega))
  rw [show n - 2 + 2 = n by omega] at h2
  exact h2

/-! Quotes in one another. -/
def deepL (n : Nat) : List UInt8 := List.replicate n 62 ++ [32, 97, 10]
def deepT : Nat → Tr
  | 0 => parT [97]
  | n + 1 => quoT [deepT n]
set_option maxRecDepth 100000 in
theorem deep_0 : (List.range 40).map (fun n => parseM (deepL (n + 0))) = (List.range 40).map (fun n => some (docT [deepT (n + 0)], [])) := by kernel_rfl
set_option maxRecDepth 100000 in
theorem deep_1 : (List.range 25).map (fun n => parseM (deepL (n + 40))) = (List.range 25).map (fun n => some (docT [deepT (n + 40)], [])) := by kernel_rfl
set_option maxRecDepth 100000 in
theorem deep_2 : (List.range 15).map (fun n => parseM (deepL (n + 65))) = (List.range 15).map (fun n => some (docT [deepT (n + 65)], [])) := by kernel_rfl
set_option maxRecDepth 100000 in
theorem deep_3 : (List.range 10).map (fun n => parseM (deepL (n + 80))) = (List.range 10).map (fun n => some (docT [deepT (n + 80)], [])) := by kernel_rfl
set_option maxRecDepth 100000 in
theorem deep_4 : (List.range 10).map (fun n => parseM (deepL (n + 90))) = (List.range 10).map (fun n => some (docT [deepT (n + 90)], [])) := by kernel_rfl
theorem deep_low {n : Nat} (h : n < 100) : parseM (deepL n) = some (docT [deepT n], []) := by
  by_cases h0 : n < 40
  · have q := List.map_inj_left.1 deep_0 (n - 0) (List.mem_range.2 (by omega))
    rw [show n - 0 + 0 = n by omega] at q
    exact q
  by_cases h1 : n < 65
  · have q := List.map_inj_left.1 deep_1 (n - 40) (List.mem_range.2 (by omega))
    rw [show n - 40 + 40 = n by omega] at q
    exact q
  by_cases h2 : n < 80
  · have q := List.map_inj_left.1 deep_2 (n - 65) (List.mem_range.2 (by omega))
    rw [show n - 65 + 65 = n by omega] at q
    exact q
  by_cases h3 : n < 90
  · have q := List.map_inj_left.1 deep_3 (n - 80) (List.mem_range.2 (by omega))
    rw [show n - 80 + 80 = n by omega] at q
    exact q
  by_cases h4 : n < 100
  · have q := List.map_inj_left.1 deep_4 (n - 90) (List.mem_range.2 (by omega))
    rw [show n - 90 + 90 = n by omega] at q
    exact q
  omega
theorem cwGo_deep : ∀ (n : Nat) (s : St) (i : Nat), (cwGo n s i).deep = s.deep
  | 0, _, _ => rfl
  | n + 1, s, i => by
    unfold cwGo
    split
    · rfl
    · exact (cwGo_deep n (closeM s) i).trans (close_rest s).2.2
theorem addGo_deep : ∀ (n : Nat) (s : St) (k : Nat), (addGo n s k).deep = s.deep
  | 0, _, _ => rfl
  | n + 1, s, k => by
    unfold addGo
    split
    · rfl
    · exact (addGo_deep n (closeM s) k).trans (close_rest s).2.2
theorem add_deep {s : St} (h : s.deep = true) (b : Nd) : (addM s b).deep = true := by
  show ((addGo s.tip s b.kind).deep || _) = true
  rw [addGo_deep, h]; rfl
theorem fill_deep {s : St} (h : s.deep = true) (i : Nat) : (fillM s i).deep = true := by
  unfold fillM
  split
  · exact h
  split
  · split
    · exact (close_rest (putM s i)).2.2.trans h
    · exact h
  split
  · exact h
  · exact add_deep h (blkN 5)
theorem rest_deep {s : St} (h : s.deep = true) (i what : Nat) : (restM s i what).deep = true := by
  have t : ∀ s : St, s.deep = true → (endBlankM (cwM s i) i).deep = true := fun s h => (cwGo_deep _ s i).trans h
  unfold restM
  split
  · split
    · exact h
    · exact fill_deep (t (s.atL (skipBM s.line s.line.ind)) h) i
  split
  · exact fill_deep (t s h) i
  · exact t s h
set_option maxRecDepth 100000 in
theorem deep_begun (t : List UInt8) : (begunM (startM st0 (List.replicate 101 62 ++ t)) 0).1.deep = true := by kernel_rfl
theorem deep_take (t : List UInt8) : (takeM st0 (List.replicate 101 62 ++ t)).deep = true := by
  have e : matchedM (startM st0 (List.replicate 101 62 ++ t)) = (startM st0 (List.replicate 101 62 ++ t), 0, false) := match_tip _ _
  unfold takeM lineM
  rw [e, if_neg (by simp)]
  exact rest_deep (deep_begun t) _ _
theorem deep_high {n : Nat} (h : 100 < n) : parseM (deepL n) = none := by
  obtain ⟨m, rfl⟩ : ∃ m, n = 101 + m := ⟨n - 101, by omega⟩
  have hl : linesL (deepL (101 + m)) = [List.replicate (101 + m) 62 ++ [32, 97]] := by
    unfold linesL deepL
    rw [show List.replicate (101 + m) (62 : UInt8) ++ [32, 97, 10] = (List.replicate (101 + m) 62 ++ [32, 97]) ++ [10] by simp]
    rw [linesFrom_run _ _ _ (fun b hb => by
      rcases List.mem_append.1 hb with q | q
      · rw [(List.mem_replicate.1 q).2]; decide
      · simp at q; rcases q with rfl | rfl <;> decide)]
    unfold linesFrom
    rw [if_pos rfl]
    rfl
  unfold parseM
  rw [hl]
  unfold runBM
  rw [if_pos (by rw [← List.replicate_append_replicate, List.append_assoc]; exact deep_take _)]
  rfl
set_option maxRecDepth 100000 in
theorem deep_hundred : (parseM (deepL 100)).isNone = true := by kernel_rfl
theorem deep_none {n : Nat} (h : 99 < n) : parseM (deepL n) = none := by
  by_cases e : n = 100
  · subst e
    have := deep_hundred
    cases hp : parseM (deepL 100) with
    | none => rfl
    | some x => rw [hp] at this; cases this
  · exact deep_high (by omega)
end Go.Proofs.YtfgpephpkibbaaaGreatDoor

