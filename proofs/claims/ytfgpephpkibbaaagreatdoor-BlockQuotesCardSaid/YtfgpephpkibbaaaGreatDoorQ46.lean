/-
  Texts of the proof, one behind the other: Bqf, Bsa.
-/
import Derived.Test.YtfgpephpkibbaaaGreatDoorQ44
import Derived.Test.YtfgpephpkibbaaaGreatDoorQ45
import Derived.Test.YtfgpephpkibbaaaGreatDoorQ34
/-
  Quoted lines are a quote of the blocks that the lines are. No program in sight.
-/
namespace Go.Proofs.YtfgpephpkibbaaaGreatDoor
open Go Go.Lib

def qtL (t : List UInt8) : List UInt8 := 62 :: 32 :: t
theorem Qr.start {A B : St} (h : Qr A B) {a b : Ln} (k : Lr a b) : Qr { A with line := a, known := A.list.length } { B with line := b, known := B.list.length } :=
  ⟨h.len, h.tip, h.refs, h.doc, h.top, h.nd, k, fun i _ => decide_eq_decide.2 (by show B.list.length ≤ i + 1 ↔ A.list.length ≤ i; rw [h.len]; omega), h.deep⟩
/-- A line more. -/
theorem Qr.lineOn {A B : St} (h : Qr A B) (wa : Wf A.list A.tip) (wb : Wf B.list B.tip) {t : List UInt8} (ht : noT t) (hl : t.length ≤ 9000) (la : A.list.length + 2 * t.length ≤ 70000) (pa : phi A ≤ 80000) (pb : phi B ≤ 80000) :
    (takeM B (qtL t)).deep = true ∨ Qr (takeM A t) (takeM B (qtL t)) := by
  obtain ⟨p1, p2⟩ := quoted_line ht
  obtain ⟨l0, x, y, e1, e2⟩ := h.top
  obtain ⟨z, e0⟩ := h.doc
  have q0 := h.start p2
  obtain ⟨A0, hA0⟩ : ∃ A0 : St, ({ A with line := newLn t, known := A.list.length } : St) = A0 := ⟨_, rfl⟩
  obtain ⟨B1, hB1⟩ : ∃ B1 : St, ({ B with line := (pastQuoteM (newLn (62 :: 32 :: t))).1, known := B.list.length } : St) = B1 := ⟨_, rfl⟩
  rw [hA0, hB1] at q0
  have wA : Wf A0.list A0.tip := by rw [← hA0]; exact wa
  have wB : Wf B1.list B1.tip := by rw [← hB1]; exact wb
  have hmB : matchedM (startM B (qtL t)) = matchGo A.list.length B1 1 := by
    unfold matchedM startM
    show matchGo B.list.length _ 0 = _
    rw [h.len, matchGo]
    have ht0 : ¬ (0 : Nat) = B.tip := by rw [h.tip]; omega
    rw [if_neg ht0]
    have hl1 : ((({ B with line := newLn (qtL t), known := B.list.length } : St).nd 0).last).toNat = 1 := by
      show (gN B.list 0).last.toNat = 1
      rw [e0]; rfl
    have hn1 : (({ B with line := newLn (qtL t), known := B.list.length } : St).nd 1) = nQ (sh l0) y := e2
    have hf : endsFenceM ({ B with line := newLn (qtL t), known := B.list.length } : St) 1 = false := by
      unfold endsFenceM
      rw [hn1]; rfl
    have hg : goesOnM ({ B with line := newLn (qtL t), known := B.list.length } : St) 1 = pastQuoteM (newLn (qtL t)) := by
      unfold goesOnM
      rw [hn1]
      exact if_pos rfl
    rw [h.len] at hl1 hf hg
    rw [hl1, hf, if_neg Bool.false_ne_true, hg, if_pos (show (pastQuoteM (newLn (qtL t))).2 = true from p1), ← hB1, h.len]
    rfl
  have hmA : matchedM (startM A t) = matchGo A.list.length A0 0 := by
    unfold matchedM startM
    rw [← hA0]
  have m := Qr.match A.list.length q0 wA wB (on_doc wA)
  have mA := match_mt (z := t.length) A.list.length A0 0 wA (on_doc wA) (by rw [← hA0]; exact Lw.start t)
  have o1 : On B1.list B1.tip 1 := by
    have := q0.on wA wA.tip (on_doc wA)
    rw [← q0.tip] at this
    exact this
  have lwB : Lw (t.length + 2) B1.line := by
    rw [← hB1]
    exact (Lw.start (qtL t)).quote
  have mB := match_mt (z := t.length + 2) A.list.length B1 1 wB o1 lwB
  unfold takeM lineM
  rw [hmA, hmB, m.yes]
  by_cases c : (matchGo A.list.length A0 0).2.2 = true
  · rw [if_pos c, if_pos c]
    exact .inr m.st
  · rw [if_neg c, if_neg c, m.at_]
    have cf : (matchGo A.list.length A0 0).2.2 = false := by revert c; cases (matchGo A.list.length A0 0).2.2 <;> simp
    obtain ⟨la1, a1, a2, a3, a4⟩ := mA.no cf
    obtain ⟨lb1, b1, b2, b3, b4⟩ := mB.no (m.yes.trans cf)
    have mst := m.st
    rw [a1, b1] at mst ⊢
    rw [m.at_] at b2
    generalize hat : (matchGo A.list.length A0 0).2.1 = i at *
    have ra := (Lw.start t).rem
    have ka : Ok (A0.atL la1) i := ⟨wA, a2, by rw [← hA0]; exact pa, by rw [← hA0]; show A.list.length ≤ _; omega⟩
    have kb : Ok (B1.atL lb1) (i + 1) := ⟨wB, b2, by rw [← hB1]; exact pb, by rw [← hB1]; show B.list.length ≤ _; rw [h.len]; omega⟩
    have eA : A0.list.length = A.list.length := by rw [← hA0]
    have eB : B1.list.length = A.list.length + 1 := by rw [← hB1]; exact h.len
    have r1 := a3.rem
    have r2 := b3.rem
    have ga := begun_bn ka (a := 79000) (b := 80000) a3 (by omega) (by show A0.list.length + 2 * la1.rem.length ≤ _; omega) ka.phi (by omega) (by omega)
    have gb := begun_bn kb (a := 79000) (b := 80000) b3 (by omega) (by show B1.list.length + 2 * lb1.rem.length ≤ _; omega) kb.phi (by omega) (by omega)
    have s : Qs (begunM (A0.atL la1) i) (begunM (B1.atL lb1) (i + 1)) := by
      have hil : i < A0.list.length := by have := a2.le wA; have := wA.tip; omega
      have f := mst.fl (i := i) hil
      unfold begunM
      by_cases ck : ((A0.atL la1).nd i).kind = 7 ∨ ((A0.atL la1).nd i).kind = 8
      · have dk : ((B1.atL lb1).nd (i + 1)).kind = 7 ∨ ((B1.atL lb1).nd (i + 1)).kind = 8 := by
          rcases ck with q | q
          · exact .inl ((f.kind 7 (by decide)).2 q)
          · exact .inr ((f.kind 8 (by decide)).2 q)
        rw [if_pos ck, if_pos dk]
        exact .inr ⟨mst, rfl, rfl⟩
      · have dk : ¬ (((B1.atL lb1).nd (i + 1)).kind = 7 ∨ ((B1.atL lb1).nd (i + 1)).kind = 8) := by
          rintro (q | q)
          · exact ck (.inl ((f.kind 7 (by decide)).1 q))
          · exact ck (.inr ((f.kind 8 (by decide)).1 q))
        rw [if_neg ck, if_neg dk]
        exact Qr.begun _ _ (z := t.length + 2) mst ka kb (by
          refine ⟨a3.ok, ?_, by have := a3.rem; show la1.rem.length ≤ _; omega, a3.ind, a3.next⟩
          have := a3.col
          show la1.c + 4 * la1.rem.length ≤ 4 * (t.length + 2) + (if la1.f = 0 then 0 else 4 - la1.f)
          omega) b3 (by omega) (by show A0.list.length + 2 * la1.rem.length ≤ _; omega) (by show B1.list.length + 2 * lb1.rem.length ≤ _; omega) (Nat.lt_succ_self _) (Nat.lt_succ_self _)
    rcases s with s | ⟨s1, s2, s3⟩
    · exact .inl (qrest_deep s _ _)
    · rw [s2, s3]
      exact .inr (s1.rest ga.wf gb.wf ga.on _)
/-- The first line. -/
theorem quote_first {t : List UInt8} (ht : noT t) (hl : t.length ≤ 9000) : (takeM st0 (qtL t)).deep = true ∨ Qr (takeM st0 t) (takeM st0 (qtL t)) := by
  obtain ⟨p1, p2⟩ := quoted_line ht
  have hz := Lw.start (qtL t)
  have hql : (qtL t).length = t.length + 2 := rfl
  obtain ⟨A0, hA0⟩ : ∃ A0 : St, startM st0 t = A0 := ⟨_, rfl⟩
  obtain ⟨B0, hB0⟩ : ∃ B0 : St, startM st0 (qtL t) = B0 := ⟨_, rfl⟩
  obtain ⟨l1, hl1⟩ : ∃ l1 : Ln, (pastQuoteM (newLn (qtL t))).1 = l1 := ⟨_, rfl⟩
  have q2 : Lr (newLn t) l1 := by rw [← hl1]; exact p2
  have ka : Ok A0 0 := by
    rw [← hA0]
    exact ⟨wf0, .refl 0, (show (0 : Nat) ≤ 80000 by omega), (show (1 : Nat) ≤ 80000 by omega)⟩
  have kb0 : Ok B0 0 := by
    rw [← hB0]
    exact ⟨wf0, .refl 0, (show (0 : Nat) ≤ 80000 by omega), (show (1 : Nat) ≤ 80000 by omega)⟩
  have hn : B0.line.next = qtL t := by
    rw [← hB0]
    show nextL (62 :: 32 :: t) = _
    rw [next_cons]; rfl
  have hi : B0.line.ind = 0 := by
    rw [← hB0]
    show indL 0 0 (62 :: 32 :: t) = 0
    rw [ind_cons, show wideB 0 0 62 = 0 from rfl, if_pos rfl]
  have eB : B0.line = newLn (qtL t) := by rw [← hB0]; rfl
  obtain ⟨B1, hB1⟩ : ∃ B1 : St, (⟨[nD 1 false, nQ (-1) false], 1, [], l1, 1, false⟩ : St) = B1 := ⟨_, rfl⟩
  have hbe : beginM B0 0 = (B1, 1) := by
    unfold beginM
    rw [if_neg (by rw [hn]; exact List.cons_ne_nil _ _), if_neg (by rw [hi]; omega), eB, if_pos (show (pastQuoteM (newLn (qtL t))).2 = true from p1), hl1, ← hB1, ← hB0]
    rfl
  have gb0 := begin_bg kb0 (a := B0.list.length) (b := phi B0) ⟨Nat.le_refl _, Nat.le_refl _⟩ (z := t.length + 2) (by rw [eB]; exact hz) (by omega)
  rw [hbe] at gb0
  have kb : Ok B1 1 := ⟨gb0.wf, by rw [← hB1]; exact .refl 1, by rw [← hB1]; show (0 : Nat) ≤ 80000; omega, by rw [← hB1]; show (2 : Nat) ≤ 80000; omega⟩
  have hq : Qr A0 B1 := by
    rw [← hA0, ← hB1]
    exact ⟨rfl, rfl, rfl, ⟨false, rfl⟩, ⟨-1, false, false, rfl, rfl⟩, fun i h1 h2 => absurd h2 (by show ¬ i < 1; omega), q2, fun i h1 => decide_eq_decide.2 (by show 1 ≤ i + 1 ↔ 1 ≤ i; omega), fun h => by cases h⟩
  have lb : B1.line.rem.length = t.length := by
    rw [← hB1]
    show l1.rem.length = _
    rw [q2.rem]; rfl
  have la : A0.line.rem.length = t.length := by rw [← hA0]; rfl
  have a1 : A0.list.length = 1 := by rw [← hA0]; rfl
  have b1 : B1.list.length = 2 := by rw [← hB1]; rfl
  have lwa : Lw (t.length + 2) A0.line := by
    rw [← hA0]
    have w := Lw.start t
    refine ⟨w.ok, ?_, by have := w.rem; show (newLn t).rem.length ≤ _; omega, w.ind, w.next⟩
    have := w.col
    show (newLn t).c + 4 * (newLn t).rem.length ≤ 4 * (t.length + 2) + (if (newLn t).f = 0 then 0 else 4 - (newLn t).f)
    omega
  have lwb : Lw (t.length + 2) B1.line := gb0.lw _ (by rw [eB]; exact hz)
  have s := Qr.begun (t.length + 1) (t.length + 2) hq ka kb lwa lwb (by omega) (by omega) (by omega) (by omega) (by omega)
  have ga := begun_bn ka (a := 79000) (b := 80000) lwa (by omega) (by omega) ka.phi (by omega) (by omega)
  have gb := begunGo_bn (t.length + 2) B1 1 (a := 79000) (b := 80000) kb lwb (by omega) (by omega) kb.phi (by omega) (by omega) (by omega)
  have eA : begunM A0 0 = begunGo (t.length + 1) A0 0 := by
    unfold begunM
    rw [la, if_neg (by rw [← hA0]; show ¬ ((1 : Nat) = 7 ∨ (1 : Nat) = 8); decide)]
  have eB2 : begunM B0 0 = begunGo (t.length + 2) B1 1 := by
    unfold begunM
    have hr : B0.line.rem.length = t.length + 2 := by rw [eB]; rfl
    rw [hr, if_neg (by rw [← hB0]; show ¬ ((1 : Nat) = 7 ∨ (1 : Nat) = 8); decide), begunGo, hbe, if_neg (show ¬ (1 : Nat) = 0 by decide), if_neg (show ¬ ((1 : Nat) ≠ 1 ∨ B1.deep = true) by rw [← hB1]; rintro (e | e); exact e rfl; cases e)]
    have : B1.tip = 1 := by rw [← hB1]
    rw [this]
  have mA : matchedM A0 = (A0, 0, false) := by rw [← hA0]; rfl
  have mB : matchedM B0 = (B0, 0, false) := by rw [← hB0]; rfl
  rw [eA] at ga
  unfold takeM
  rw [hA0, hB0, line_open mA, line_open mB, eA, eB2]
  rcases s with s | ⟨s1, s2, s3⟩
  · exact .inl (qrest_deep s _ _)
  · rw [s2, s3]
    exact .inr (s1.rest ga.wf gb.wf ga.on _)
/-- Both, some lines on. -/
structure Q2 (A B : St) (a b c d : Nat) : Prop where
  q : Qr A B
  wa : Wf A.list A.tip
  wb : Wf B.list B.tip
  ka : Kin A.list
  kb : Kin B.list
  ca : Cap A a b
  cb : Cap B c d
theorem q_run : ∀ (ts : List (List UInt8)) (A B : St) (a b c d : Nat), Q2 A B a b c d → (∀ t ∈ ts, noT t ∧ t.length ≤ 5000) → a + pot ts ≤ 50000 → b + pot ts ≤ 50000 → c + pot (ts.map qtL) ≤ 50000 → d + pot (ts.map qtL) ≤ 50000 → B.deep = false →
    runBM (ts.map qtL) B = none ∨ ∃ A' B' a' b' c' d', runBM ts A = some A' ∧ runBM (ts.map qtL) B = some B' ∧ Q2 A' B' a' b' c' d'
  | [], A, B, a, b, c, d, h, _, _, _, _, _, _ => .inr ⟨A, B, a, b, c, d, rfl, rfl, h⟩
  | t :: ts, A, B, a, b, c, d, h, ht, ha, hb, hc, hd, dp => by
    obtain ⟨h9, h5⟩ := ht t (List.mem_cons_self ..)
    have ep : pot (t :: ts) = (2 * t.length + 4) + pot ts := rfl
    have eq : pot ((t :: ts).map qtL) = (2 * (t.length + 2) + 4) + pot (ts.map qtL) := rfl
    have a1 := h.ca.len
    have a2 := h.ca.txt
    have b1 := h.cb.len
    have b2 := h.cb.txt
    have hql : (qtL t).length = t.length + 2 := rfl
    have ok1 := take_ok (t := t) h.wa h.ca (Nat.le_refl _) (by omega) (by omega) (by omega)
    have ok2 := take_ok (t := qtL t) h.wb h.cb (Nat.le_refl _) (by omega) (by omega) (by omega)
    have k1 := kin_take (t := t) h.wa h.ka (by omega) (by omega) (by omega)
    have k2 := kin_take (t := qtL t) h.wb h.kb (by omega) (by omega) (by omega)
    rw [List.map_cons, runBM]
    by_cases db : (takeM B (qtL t)).deep = true
    · rw [if_pos db]; exact .inl rfl
    · rw [if_neg db, runBM]
      have q := (h.q.lineOn h.wa h.wb h9 (by omega) (by omega) (by omega) (by omega)).resolve_left db
      have da : ¬ (takeM A t).deep = true := fun e => db (q.deep e)
      rw [if_neg da]
      exact q_run ts _ _ _ _ _ _ ⟨q, ok1.1, ok2.1, k1, k2, ok1.2, ok2.2⟩ (fun x hx => ht x (List.mem_cons_of_mem _ hx)) (by omega) (by omega) (by omega) (by omega) (by revert db; cases (takeM B (qtL t)).deep <;> simp)

/-! What is told. -/
theorem Qr.ch {A B : St} (h : Qr A B) (wa : Wf A.list A.tip) (wb : Wf B.list B.tip) : ∀ (d : Nat) (j : Int), (j = -1 ∨ (1 ≤ j ∧ j < A.list.length)) → j ≤ d → chM B.list (sh j) = (chM A.list j).map (· + 1)
  | 0, j, hj, hd => by
    rcases hj with e | e
    · rw [e, sh_none, ch_none, ch_none]; rfl
    · omega
  | d + 1, j, hj, hd => by
    rcases hj with e | e
    · rw [e, sh_none, ch_none, ch_none]; rfl
    · obtain ⟨i, rfl⟩ : ∃ i : Nat, j = (i : Int) := ⟨j.toNat, by omega⟩
      have hi : i < A.list.length := by omega
      have hu := wa.up i (by omega) hi
      have hah := wa.ahead i hi
      rw [sh_nat, ch_step wb (by rw [h.len]; omega), ch_step wa hi, h.nd i (by omega) hi, List.map_cons]
      show (i + 1) :: chM B.list (sh (gN A.list i).ahead) = _
      rw [h.ch wa wb d (gN A.list i).ahead (by omega) (by omega)]
theorem Qr.told {A B : St} (h : Qr A B) (wa : Wf A.list A.tip) (wb : Wf B.list B.tip) (ka : Kin A.list) (kb : Kin B.list) : ∀ (d i : Nat), 1 ≤ i → i < A.list.length → A.list.length ≤ i + d → toldM B.list (i + 1) = toldM A.list i
  | 0, i, _, hi, hd => by omega
  | d + 1, i, h1, hi, hd => by
    have hl := wa.last i hi
    rw [told_eq wb kb (by rw [h.len]; omega), told_eq wa ka hi, h.nd i h1 hi]
    show Tr.mk (gN A.list i).kind (gN A.list i).level (gN A.list i).ord (gN A.list i).start (gN A.list i).mark (gN A.list i).tight (gN A.list i).info (gN A.list i).text ((chM B.list (sh (gN A.list i).last)).map (toldM B.list)).reverse = _
    rw [h.ch wa wb A.list.length (gN A.list i).last (by omega) (by omega), List.map_map]
    congr 2
    refine List.map_congr_left fun c hc => ?_
    have hk := kids_mem wa ka hi c hc
    exact h.told wa wb ka kb d c (by omega) hk.2 (by omega)
theorem cw_zero : ∀ (n : Nat) (s : St), s.tip ≤ n → Wf s.list s.tip → On s.list s.tip 1 → (gN s.list 1).up = 0 → cwM s 0 = closeM (cwM s 1)
  | 0, s, hn, w, o, _ => by have := o.le w; omega
  | n + 1, s, hn, w, o, hu => by
    have hle := o.le w
    have h0 : s.tip ≠ 0 := by omega
    rw [cw_step w (on_doc w) h0]
    by_cases e : s.tip = 1
    · rw [cw_stop e]
      refine cw_stop ?_
      rw [close_tip, e]
      unfold St.nd
      rw [hu]; rfl
    · have hup := w.up s.tip (by omega) w.tip
      rw [cw_step w o e]
      exact cw_zero n (closeM s) (by rw [close_tip]; unfold St.nd; omega) (w.close h0) (o.closed e) (by rw [(close_cl s).up]; exact hu)
theorem kin_st0 : Kin st0.list := by
  have e : ∀ j, gN st0.list j = blkN 1 := fun j => by
    cases j with
    | zero => rfl
    | succ j => exact gN_out (by show 1 ≤ j + 1; omega)
  refine ⟨fun i y q => ?_, fun y z q => ?_⟩
  · rw [e] at q; exact absurd q (by show (-1 : Int) ≠ _; omega)
  · rw [e] at q; exact absurd q (by show (-1 : Int) ≠ _; omega)
/-- QUOTED LINES. -/
theorem quotes_parse {ts : List (List UInt8)} (h0 : ts ≠ []) (h : ∀ t ∈ ts, (∀ b ∈ t, b ≠ 10) ∧ noT t ∧ t.length ≤ 5000) (hp : pot (ts.map qtL) ≤ 40000) :
    parseM (aL (ts.map qtL)) = none ∨ ∃ ks rs, parseM (aL ts) = some (.mk 1 0 false 0 0 false [] [] ks, rs) ∧ parseM (aL (ts.map qtL)) = some (.mk 1 0 false 0 0 false [] [] [.mk 2 0 false 0 0 false [] [] ks], rs) := by
  have l1 : linesL (aL ts) = ts := by
    have := lines_all ts [] [] (fun t ht => (h t ht).1) rfl
    rw [List.append_nil, List.append_nil] at this
    exact this
  have l2 : linesL (aL (ts.map qtL)) = ts.map qtL := by
    have := lines_all (ts.map qtL) [] [] (fun t ht b hb => by
      obtain ⟨x, hx, rfl⟩ := List.mem_map.1 ht
      rcases List.mem_cons.1 hb with rfl | hb
      · decide
      · rcases List.mem_cons.1 hb with rfl | hb
        · decide
        · exact (h x hx).1 b hb) rfl
    rw [List.append_nil, List.append_nil] at this
    exact this
  unfold parseM
  rw [l1, l2]
  cases ts with
  | nil => exact absurd rfl h0
  | cons t ts =>
    obtain ⟨_, h9, h5⟩ := h t (List.mem_cons_self ..)
    have eq : pot ((t :: ts).map qtL) = (2 * (t.length + 2) + 4) + pot (ts.map qtL) := rfl
    have pq : pot ts ≤ pot (ts.map qtL) := by
      clear h0 h hp l1 l2 eq
      induction ts with
      | nil => exact Nat.le_refl _
      | cons x ts ih =>
        show (2 * x.length + 4) + pot ts ≤ (2 * (x.length + 2) + 4) + pot (ts.map qtL)
        omega
    have hql : (qtL t).length = t.length + 2 := rfl
    have c0 : Cap st0 1 0 := ⟨Nat.le_refl _, Nat.zero_le _⟩
    have ok1 := take_ok (t := t) wf0 c0 (Nat.le_refl _) (by omega) (by omega) (by omega)
    have ok2 := take_ok (t := qtL t) wf0 c0 (Nat.le_refl _) (by omega) (by omega) (by omega)
    have kin0 : Kin st0.list := kin_st0
    have k1 := kin_take (t := t) (s := st0) wf0 kin0 (by omega) (by show 1 + 2 * t.length ≤ _; omega) (by show 0 ≤ _; omega)
    have k2 := kin_take (t := qtL t) (s := st0) wf0 kin0 (by omega) (by show 1 + 2 * (qtL t).length ≤ _; omega) (by show 0 ≤ _; omega)
    rw [List.map_cons, runBM]
    by_cases db : (takeM st0 (qtL t)).deep = true
    · rw [if_pos db]; exact .inl rfl
    · have q := (quote_first h9 (by omega)).resolve_left db
      have da : ¬ (takeM st0 t).deep = true := fun e => db (q.deep e)
      rw [if_neg db, runBM, if_neg da]
      rcases q_run ts _ _ _ _ _ _ ⟨q, ok1.1, ok2.1, k1, k2, ok1.2, ok2.2⟩ (fun x hx => (h x (List.mem_cons_of_mem _ hx)).2) (by omega) (by omega) (by omega) (by omega) (by revert db; cases (takeM st0 (qtL t)).deep <;> simp) with e | ⟨A', B', a', b', c', d', e1, e2, r⟩
      · rw [e]; exact .inl rfl
      · right
        rw [e1, e2]
        have oa := on_doc r.wa
        have ob : On B'.list B'.tip 1 := by rw [r.q.tip]; exact r.q.on r.wa r.wa.tip oa
        have wa := cw_wf r.wa oa
        have wb := cw_wf r.wb ob
        have ka := kin_cw r.wa oa r.ka
        have kb := kin_cw r.wb ob r.kb
        have q := r.q.closeTo r.wa r.wb oa
        have tb : (cwM B' 1).tip = 1 := (cw_ok r.wb ob).2.1
        obtain ⟨la, x, y, t1, t2⟩ := q.top
        obtain ⟨z, t0⟩ := q.doc
        have hz := cw_zero B'.tip B' (Nat.le_refl _) r.wb ob (by
          obtain ⟨_, _, _, _, e⟩ := r.q.top
          rw [e]; rfl)
        have hcl : (cwM B' 0).list = (cwM B' 1).list ∧ (cwM B' 0).refs = (cwM B' 1).refs := by
          rw [hz]
          unfold closeM
          rw [tb]
          have hk : ((cwM B' 1).nd 1) = nQ (sh la) y := t2
          have : closedM (cwM B' 1) 1 = cwM B' 1 := by
            unfold closedM
            rw [hk]
            rfl
          rw [this]
          exact ⟨rfl, rfl⟩
        have la1 : 0 < (cwM A' 0).list.length := by have := wa.tip; omega
        have hla := wa.last 0 la1
        rw [t1] at hla
        have hla' : la = -1 ∨ (1 ≤ la ∧ la < (cwM A' 0).list.length) := by
          have e : (nD la x).last = la := rfl
          rw [e] at hla
          omega
        have ks1 : ((chM (cwM B' 1).list (sh la)).map (toldM (cwM B' 1).list)).reverse = ((chM (cwM A' 0).list la).map (toldM (cwM A' 0).list)).reverse := by
          rw [q.ch wa wb (cwM A' 0).list.length la hla' (by omega), List.map_map]
          congr 1
          refine List.map_congr_left fun c hc => ?_
          have hk := kids_mem wa ka la1 c (by
            show c ∈ chM (cwM A' 0).list (gN (cwM A' 0).list 0).last
            rw [t1]; exact hc)
          exact q.told wa wb ka kb _ c (by omega) hk.2 (Nat.le_add_left _ _)
        have tA : toldM (cwM A' 0).list 0 = .mk 1 0 false 0 0 false [] [] ((chM (cwM A' 0).list la).map (toldM (cwM A' 0).list)).reverse := by
          rw [told_eq wa ka la1, t1]; rfl
        have tB1 : toldM (cwM B' 1).list 1 = .mk 2 0 false 0 0 false [] [] ((chM (cwM A' 0).list la).map (toldM (cwM A' 0).list)).reverse := by
          rw [told_eq wb kb (by rw [q.len]; omega), t2]
          show Tr.mk 2 0 false 0 0 false [] [] ((chM (cwM B' 1).list (sh la)).map (toldM (cwM B' 1).list)).reverse = _
          rw [ks1]
        have tB0 : toldM (cwM B' 1).list 0 = .mk 1 0 false 0 0 false [] [] [toldM (cwM B' 1).list 1] := by
          rw [told_eq wb kb (by rw [q.len]; omega), t0]
          show Tr.mk 1 0 false 0 0 false [] [] ((chM (cwM B' 1).list ((1 : Nat) : Int)).map (toldM (cwM B' 1).list)).reverse = _
          rw [ch_step wb (by rw [q.len]; omega), t2]
          show Tr.mk 1 0 false 0 0 false [] [] ((1 :: chM (cwM B' 1).list (-1)).map (toldM (cwM B' 1).list)).reverse = _
          rw [ch_none]; rfl
        refine ⟨((chM (cwM A' 0).list la).map (toldM (cwM A' 0).list)).reverse, (cwM A' 0).refs, ?_, ?_⟩
        · rw [Option.map_some, tA]
        · rw [Option.map_some, hcl.1, hcl.2, tB0, tB1, q.refs]
end Go.Proofs.YtfgpephpkibbaaaGreatDoor

/-
  What holds what, plainly: blocks are such as blocks must be, whatever the lines are. No program in sight.
-/
namespace Go.Proofs.YtfgpephpkibbaaaGreatDoor
open Go Go.Lib

/-- Nothing leads to a block. -/
def Dead (l : List Nd) (i : Nat) : Prop := (∀ j, (gN l j).last ≠ (i : Int)) ∧ ∀ j, (gN l j).ahead ≠ (i : Int)
/-- Blocks hold what they may; x: a list that has no item yet. -/
structure Shp (l : List Nd) (t x : Nat) : Prop where
  hold : ∀ i, 0 < i → i < l.length → holdsB (gN l (gN l i).up.toNat).kind (gN l i).kind = true ∧ (gN l i).kind ≠ 1
  head : ∀ i, (gN l i).kind = 6 → 1 ≤ (gN l i).level ∧ (gN l i).level ≤ 6
  list : ∀ i, (gN l i).kind = 3 → i ≠ x → (gN l i).last ≠ -1
  para : ∀ i, (gN l i).kind = 5 → ¬ On l t i → (gN l i).text ≠ [] ∨ Dead l i
  ahead : ∀ j y : Nat, (gN l j).ahead = (y : Int) → ¬ On l t y
  dep : ∀ i, 0 < i → i < l.length → (gN l i).depth = (gN l (gN l i).up.toNat).depth + 1
  dep0 : (gN l 0).depth = 0
theorem holds_more {a b : Nat} (h : holdsB a b = true) (hb : b ≠ 4) : ∀ c, c ≠ 4 → holdsB a c = true := by
  intro c hc
  unfold holdsB at h ⊢
  split at h
  · next q => rw [if_pos q]; simp [hc]
  · next q =>
    split at h
    · simp at h; exact absurd h hb
    · cases h
theorem holds_para {b : Nat} : holdsB 5 b = false := by unfold holdsB; rw [if_neg (by omega), if_neg (by omega)]
theorem Sk.dead {l l' : List Nd} (k : Sk l l') {i : Nat} (h : Dead l i) : Dead l' i := ⟨fun j => by rw [(k.2 j).2.1]; exact h.1 j, fun j => by rw [(k.2 j).2.2.1]; exact h.2 j⟩
theorem Sk.on {l l' : List Nd} (k : Sk l l') {t a : Nat} (h : On l' t a) : On l t a := On.same (fun i => ((k.2 i).1).symm) h
theorem Shp.set {l : List Nd} {t x : Nat} (h : Shp l t x) (_ : Wf l t) (i : Nat) (n : Nd) (e : n.up = (gN l i).up ∧ n.last = (gN l i).last ∧ n.ahead = (gN l i).ahead ∧ n.depth = (gN l i).depth)
    (hk : n.kind = (gN l i).kind ∨ ((gN l i).kind = 5 ∧ n.kind = 6)) (hh : n.kind = 6 → 1 ≤ n.level ∧ n.level ≤ 6) (ht : n.kind = 5 → On l t i ∨ n.text = (gN l i).text) : Shp (l.set i n) t x := by
  have k := Sk.set l i n e
  have kk : ∀ j, (gN (l.set i n) j).kind = (gN l j).kind ∨ ((gN l j).kind = 5 ∧ (gN (l.set i n) j).kind = 6) := fun j => by
    rw [gN_set]
    split
    · next c => rw [c.1]; exact hk
    · exact .inl rfl
  refine ⟨fun j h0 hl => ?_, fun j hj => ?_, fun j hj hx => ?_, fun j hj hn => ?_, fun j y q o => ?_, fun j h0 hl => ?_, by rw [(k.2 0).2.2.2]; exact h.dep0⟩
  · rw [k.1] at hl
    obtain ⟨a, b⟩ := h.hold j h0 hl
    rw [(k.2 j).1]
    have hp : (gN (l.set i n) (gN l j).up.toNat).kind = (gN l (gN l j).up.toNat).kind := by
      rcases kk (gN l j).up.toNat with q | ⟨q, _⟩
      · exact q
      · rw [q, holds_para] at a; cases a
    rw [hp]
    rcases kk j with q | ⟨q1, q2⟩
    · rw [q]; exact ⟨a, b⟩
    · rw [q2]
      rw [q1] at a
      exact ⟨holds_more a (by decide) 6 (by decide), by decide⟩
  · rw [gN_set] at hj ⊢
    split
    · next c => rw [if_pos c] at hj; exact hh hj
    · next c => rw [if_neg c] at hj; exact h.head j hj
  · have hj' : (gN l j).kind = 3 := by
      rcases kk j with q | ⟨_, q⟩
      · rw [← q]; exact hj
      · rw [q] at hj; cases hj
    rw [(k.2 j).2.1]
    exact h.list j hj' hx
  · have hj' : (gN l j).kind = 5 := by
      rcases kk j with q | ⟨_, q⟩
      · rw [← q]; exact hj
      · rw [q] at hj; cases hj
    have hn' : ¬ On l t j := fun o => hn (On.same (fun i => (k.2 i).1) o)
    have hd := h.para j hj' hn'
    rcases hd with q | q
    · left
      rw [gN_set] at hj ⊢
      split
      · next c =>
        rw [if_pos c] at hj
        rcases ht hj with o | o
        · rw [c.1] at hn'; exact absurd o hn'
        · rw [o, ← c.1]; exact q
      · exact q
    · exact .inr (k.dead q)
  · rw [(k.2 j).2.2.1] at q
    exact h.ahead j y q (k.on o)
  · rw [k.1] at hl
    rw [(k.2 j).1, (k.2 j).2.2.2, (k.2 _).2.2.2]
    exact h.dep j h0 hl
theorem On.up_of {l : List Nd} {t y : Nat} (h : On l (gN l t).up.toNat y) (h0 : t ≠ 0) : On l t y := .step (by omega) h
/-- The tip goes: its block, if a paragraph, has a text. -/
theorem Shp.fewer {l : List Nd} {t x : Nat} (h : Shp l t x) (h0 : t ≠ 0) (hp : (gN l t).kind = 5 → (gN l t).text ≠ []) : Shp l (gN l t).up.toNat x :=
  ⟨h.hold, h.head, h.list, fun i hi hn => by
    by_cases e : i = t
    · subst e; exact .inl (hp hi)
    · refine h.para i hi fun o => hn ?_
      cases o with
      | refl => exact absurd rfl e
      | step _ k => exact k, fun j y q o => h.ahead j y q (o.up_of h0), h.dep, h.dep0⟩
/-- .. or nothing leads to it any more. -/
theorem Shp.drop {l : List Nd} {t x : Nat} (h : Shp l t x) (w : Wf l t) (k : Kin l) (h0 : t ≠ 0) (h5 : (gN l t).kind = 5) : Shp (l.set (gN l t).up.toNat { gN l (gN l t).up.toNat with last := (gN l t).ahead }) (gN l t).up.toNat x := by
  have hu := w.up t (by omega) w.tip
  have hut : (gN l t).up = ((gN l t).up.toNat : Int) := (Int.toNat_of_nonneg hu.1).symm
  have hta := w.ahead t w.tip
  have hold := (h.hold t (by omega) w.tip).1
  rw [h5] at hold
  have hdt : On l t t := .refl t
  have htl := w.tip
  generalize hue : (gN l t).up.toNat = u at *
  have old : ∀ j, (gN (l.set u { gN l u with last := (gN l t).ahead }) j).up = (gN l j).up ∧ (gN (l.set u { gN l u with last := (gN l t).ahead }) j).ahead = (gN l j).ahead ∧ (gN (l.set u { gN l u with last := (gN l t).ahead }) j).kind = (gN l j).kind ∧ (gN (l.set u { gN l u with last := (gN l t).ahead }) j).text = (gN l j).text ∧ (gN (l.set u { gN l u with last := (gN l t).ahead }) j).level = (gN l j).level ∧ (gN (l.set u { gN l u with last := (gN l t).ahead }) j).depth = (gN l j).depth := fun j => by
    rw [gN_set]
    split
    · next c => rw [c.1]; exact ⟨rfl, rfl, rfl, rfl, rfl, rfl⟩
    · exact ⟨rfl, rfl, rfl, rfl, rfl, rfl⟩
  have lst : ∀ j, (gN (l.set u { gN l u with last := (gN l t).ahead }) j).last = (gN l t).ahead ∧ j = u ∨ (gN (l.set u { gN l u with last := (gN l t).ahead }) j).last = (gN l j).last ∧ j ≠ u := fun j => by
    rw [gN_set]
    by_cases c : j = u
    · rw [if_pos ⟨c, by omega⟩]; exact .inl ⟨rfl, c⟩
    · rw [if_neg (fun q => c q.1)]; exact .inr ⟨rfl, c⟩
  have onb : ∀ a b, On (l.set u { gN l u with last := (gN l t).ahead }) a b → On l a b := fun a b o => On.same (fun i => ((old i).1).symm) o
  have onf : ∀ a b, On l a b → On (l.set u { gN l u with last := (gN l t).ahead }) a b := fun a b o => On.same (fun i => (old i).1) o
  refine ⟨fun j h1 hl => ?_, fun j hj => ?_, fun j hj hx => ?_, fun j hj hn => ?_, fun j y q o => ?_, fun j h1 hl => ?_, by rw [(old 0).2.2.2.2.2]; exact h.dep0⟩
  · rw [(old j).1, (old _).2.2.1, (old j).2.2.1]
    exact h.hold j h1 (by simpa using hl)
  · rw [(old j).2.2.1] at hj
    rw [(old j).2.2.2.2.1]
    exact h.head j hj
  · rw [(old j).2.2.1] at hj
    rcases lst j with ⟨_, c⟩ | ⟨c, _⟩
    · rw [c] at hj
      rw [hj] at hold
      exact absurd hold (by decide)
    · rw [c]; exact h.list j hj hx
  · rw [(old j).2.2.1] at hj
    rw [(old j).2.2.2.1]
    have hn' : ¬ On l u j := fun o => hn (onf _ _ o)
    by_cases e : j = t
    · subst e
      refine .inr ⟨fun i => ?_, fun i => ?_⟩
      · rcases lst i with ⟨c, _⟩ | ⟨c, c2⟩
        · rw [c]; omega
        · rw [c]
          intro q
          have := k.last i j q
          omega
      · rw [(old i).2.1]
        exact fun q => h.ahead i j q hdt
    · rcases h.para j hj (fun o => hn' (by
        cases o with
        | refl => exact absurd rfl e
        | step _ q => rw [hue] at q; exact q)) with q | q
      · exact .inl q
      · refine .inr ⟨fun i => ?_, fun i => ?_⟩
        · rcases lst i with ⟨c, _⟩ | ⟨c, _⟩
          · rw [c]; exact q.2 t
          · rw [c]; exact q.1 i
        · rw [(old i).2.1]; exact q.2 i
  · rw [(old j).2.1] at q
    exact h.ahead j y q (.step (by omega) (by rw [hue]; exact onb _ _ o))
  · rw [(old j).1, (old j).2.2.2.2.2, (old _).2.2.2.2.2]
    exact h.dep j h1 (by simpa using hl)
/-- None is too deep, or that is known. -/
def Dp (s : St) : Prop := s.deep = true ∨ ∀ i, (gN s.list i).depth ≤ 100
structure Sg (s : St) (x : Nat) : Prop where
  kin : Kin s.list
  shp : Shp s.list s.tip x
  dp : Dp s
theorem Sg.atL {s : St} {x : Nat} (h : Sg s x) (l : Ln) : Sg (s.atL l) x := ⟨h.kin, h.shp, h.dp⟩
theorem Sg.set {s : St} {x : Nat} (h : Sg s x) (w : Wf s.list s.tip) (i : Nat) (n : Nd) (s' : St) (e1 : s'.list = s.list.set i n) (e2 : s'.tip = s.tip) (e3 : s'.deep = s.deep) (e : n.up = (s.nd i).up ∧ n.last = (s.nd i).last ∧ n.ahead = (s.nd i).ahead ∧ n.depth = (s.nd i).depth)
    (hk : n.kind = (s.nd i).kind ∨ ((s.nd i).kind = 5 ∧ n.kind = 6)) (hh : n.kind = 6 → 1 ≤ n.level ∧ n.level ≤ 6) (ht : n.kind = 5 → On s.list s.tip i ∨ n.text = (s.nd i).text) : Sg s' x := by
  refine ⟨by rw [e1]; exact h.kin.set i n e, by rw [e1, e2]; exact h.shp.set w i n e hk hh ht, ?_⟩
  rcases h.dp with q | q
  · exact .inl (e3.trans q)
  · refine .inr fun j => ?_
    rw [e1, ((Sk.set s.list i n e).2 j).2.2.2]
    exact q j
theorem sg_define {s : St} {x : Nat} (h : Sg s x) (w : Wf s.list s.tip) (i : Nat) (o : On s.list s.tip i) : Sg (defineM s i) x :=
  h.set w i { s.nd i with text := trimL (dfrL (s.nd i).text) } (defineM s i) rfl rfl rfl ⟨rfl, rfl, rfl, rfl⟩ (.inl rfl) (fun q => h.shp.head i q) (fun _ => .inl o)
theorem sg_fewer {s s' : St} {x : Nat} (h : Sg s x) (h0 : s.tip ≠ 0) (e1 : s'.list = s.list) (e2 : s'.tip = (s.nd s.tip).up.toNat) (e3 : s'.deep = s.deep) (hp : (s.nd s.tip).kind = 5 → (s.nd s.tip).text ≠ []) : Sg s' x := by
  refine ⟨by rw [e1]; exact h.kin, by rw [e1, e2]; exact h.shp.fewer h0 hp, ?_⟩
  rcases h.dp with q | q
  · exact .inl (e3.trans q)
  · exact .inr fun j => by rw [e1]; exact q j
theorem sg_close {s : St} {x : Nat} (h : Sg s x) (w : Wf s.list s.tip) (h0 : s.tip ≠ 0) : Sg (closeM s) x := by
  have o : On s.list s.tip s.tip := .refl _
  have plain : ∀ s1 : St, Sg s1 x → s1.tip = s.tip → (s1.nd s.tip).up = (s.nd s.tip).up → ((s1.nd s.tip).kind = 5 → (s1.nd s.tip).text ≠ []) → Sg { s1 with tip := (s.nd s.tip).up.toNat } x := fun s1 q e1 e2 e3 =>
    sg_fewer q (by rw [e1]; exact h0) rfl (by rw [e1, e2]) rfl (by rw [e1]; exact e3)
  have txt : ∀ (a : List UInt8) (c : Bool), (s.nd s.tip).kind ≠ 5 → Sg { (s.put s.tip { s.nd s.tip with text := a, tight := c }) with tip := (s.nd s.tip).up.toNat } x := fun a c h5 => by
    have q : Sg (s.put s.tip { s.nd s.tip with text := a, tight := c }) x := h.set w s.tip { s.nd s.tip with text := a, tight := c } _ rfl rfl rfl ⟨rfl, rfl, rfl, rfl⟩ (.inl rfl) (fun q => h.shp.head _ q) (fun _ => .inl o)
    refine plain _ q rfl (set_up rfl) (fun e => absurd e ?_)
    have e : ((s.put s.tip { s.nd s.tip with text := a, tight := c }).nd s.tip) = { s.nd s.tip with text := a, tight := c } := gN_at w.tip _
    rw [e]
    exact h5
  unfold closeM closedM
  split
  · next h5 =>
    unfold closeParaM
    have hd : Wf (defineM s s.tip).list s.tip := w.text s.tip _ _
    have qd := sg_define h w s.tip o
    have eu : ((defineM s s.tip).nd s.tip).up = (s.nd s.tip).up := set_up rfl
    have ek : ((defineM s s.tip).nd s.tip).kind = 5 := by
      have : (defineM s s.tip).nd s.tip = { s.nd s.tip with text := trimL (dfrL (s.nd s.tip).text) } := gN_at w.tip _
      rw [this]; exact h5
    split
    · have hs := qd.shp.drop hd qd.kin h0 ek
      have hk := qd.kin.drop hd h0
      refine ⟨hk, ?_, ?_⟩
      · show Shp (((defineM s s.tip).put _ _).list) (s.nd s.tip).up.toNat x
        rw [← eu]
        exact hs
      · rcases qd.dp with q | q
        · exact .inl q
        · refine .inr fun j => ?_
          show (gN ((defineM s s.tip).list.set _ _) j).depth ≤ 100
          rw [gN_set]
          split
          · exact q _
          · exact q j
    · next ht => exact plain _ qd rfl eu (fun _ => ht)
  · next h5 =>
    split
    · split
      · exact txt _ _ h5
      · exact plain s h rfl rfl (fun e => absurd e h5)
    · split
      · exact txt _ _ h5
      · split
        · exact txt _ _ h5
        · exact plain s h rfl rfl (fun e => absurd e h5)
theorem sg_cwGo : ∀ (n : Nat) (s : St) (i x : Nat), Wf s.list s.tip → On s.list s.tip i → Sg s x → Sg (cwGo n s i) x
  | 0, _, _, _, _, _, h => h
  | n + 1, s, i, x, w, o, h => by
    unfold cwGo
    split
    · exact h
    · next e =>
      have h0 : s.tip ≠ 0 := fun e0 => by have := o.le w; omega
      exact sg_cwGo n (closeM s) i x (w.close h0) (o.closed e) (sg_close h w h0)
theorem sg_cw {s : St} {i x : Nat} (w : Wf s.list s.tip) (o : On s.list s.tip i) (h : Sg s x) : Sg (cwM s i) x := sg_cwGo _ s i x w o h
theorem sg_addGo : ∀ (n : Nat) (s : St) (k x : Nat), Wf s.list s.tip → (k ≠ 4 ∨ holdsB (s.nd s.tip).kind k = true) → Sg s x → Sg (addGo n s k) x
  | 0, _, _, _, _, _, h => h
  | n + 1, s, k, x, w, hk, h => by
    unfold addGo
    split
    · exact h
    · next e =>
      have hk4 : k ≠ 4 := hk.resolve_right e
      have h0 : s.tip ≠ 0 := fun e0 => e (doc_holds w e0 hk4)
      exact sg_addGo n (closeM s) k x (w.close h0) (.inl hk4) (sg_close h w h0)
theorem sg_push {s : St} {x x' : Nat} (w : Wf s.list s.tip) (h : Sg s x) (b : Nd) (hb : holdsB (s.nd s.tip).kind b.kind = true) (h1 : b.kind ≠ 1) (h6 : b.kind = 6 → 1 ≤ b.level ∧ b.level ≤ 6) (h3 : b.kind = 3 → x' = s.list.length)
    (hx : ∀ i, i < s.list.length → (gN s.list i).kind = 3 → i ≠ s.tip → i ≠ x' → i ≠ x) : Sg (pushM s b) x' := by
  have ht := w.tip
  have hn : (pushM s b).list = s.list.set s.tip { s.nd s.tip with last := s.list.length } ++ [{ b with up := s.tip, last := -1, ahead := (s.nd s.tip).last, depth := (s.nd s.tip).depth + 1 }] := rfl
  have htp : (pushM s b).tip = s.list.length := rfl
  have at_old : ∀ j, j < s.list.length → gN (pushM s b).list j = if j = s.tip then { s.nd s.tip with last := s.list.length } else gN s.list j := fun j hj => by
    rw [hn, gN_app (by rw [List.length_set]; exact hj), gN_set]
    by_cases e : j = s.tip
    · rw [if_pos ⟨e, w.tip⟩, if_pos e]
    · rw [if_neg (fun q => e q.1), if_neg e]
  have at_new : gN (pushM s b).list s.list.length = { b with up := s.tip, last := -1, ahead := (s.nd s.tip).last, depth := (s.nd s.tip).depth + 1 } := by
    have := gN_new (s.list.set s.tip { s.nd s.tip with last := s.list.length }) { b with up := s.tip, last := -1, ahead := (s.nd s.tip).last, depth := (s.nd s.tip).depth + 1 }
    rw [List.length_set] at this
    rw [hn]; exact this
  have at_out : ∀ j, s.list.length < j → gN (pushM s b).list j = blkN 1 := fun j hj => gN_out (by rw [push_len]; omega)
  have old : ∀ j, j < s.list.length → (gN (pushM s b).list j).up = (gN s.list j).up ∧ (gN (pushM s b).list j).ahead = (gN s.list j).ahead ∧ (gN (pushM s b).list j).kind = (gN s.list j).kind ∧ (gN (pushM s b).list j).text = (gN s.list j).text ∧ (gN (pushM s b).list j).level = (gN s.list j).level ∧ (gN (pushM s b).list j).depth = (gN s.list j).depth := fun j hj => by
    rw [at_old j hj]
    split
    · next e => subst e; exact ⟨rfl, rfl, rfl, rfl, rfl, rfl⟩
    · exact ⟨rfl, rfl, rfl, rfl, rfl, rfl⟩
  have lst : ∀ j, j < s.list.length → j ≠ s.tip → (gN (pushM s b).list j).last = (gN s.list j).last := fun j hj e => by rw [at_old j hj, if_neg e]
  have lt : (gN (pushM s b).list s.tip).last = (s.list.length : Int) := by rw [at_old _ ht, if_pos rfl]
  have upl : ∀ j, 0 < j → j < s.list.length → (gN s.list j).up.toNat < s.list.length := fun j h0 hj => by have := w.up j h0 hj; omega
  have onold : ∀ a c, a < s.list.length → On (pushM s b).list a c → On s.list a c := by
    intro a c hlt k
    induction k with
    | refl t => exact .refl t
    | @step t a h0 _ ih =>
      have e := (old t hlt).1
      refine .step h0 ?_
      rw [← e]
      exact ih (by rw [e]; exact upl t h0 hlt)
  have onfw : ∀ a c, a < s.list.length → On s.list a c → On (pushM s b).list a c := by
    intro a c hlt k
    induction k with
    | refl t => exact .refl t
    | @step t a h0 _ ih =>
      refine .step h0 ?_
      rw [(old t hlt).1]
      exact ih (upl t h0 hlt)
  have ontip : ∀ c, c < s.list.length → On (pushM s b).list s.list.length c → On s.list s.tip c := by
    intro c hc k
    cases k with
    | refl => omega
    | step _ k =>
      rw [at_new] at k
      exact onold _ _ ht k
  have ontip2 : ∀ c, On s.list s.tip c → On (pushM s b).list s.list.length c := fun c o => .step (by omega) (by rw [at_new]; exact onfw _ _ ht o)
  have hls := w.last s.tip ht
  refine ⟨kin_push w h.kin b, ⟨fun j h0 hl => ?_, fun j hj => ?_, fun j hj hjx => ?_, fun j hj hno => ?_, fun j y q o => ?_, fun j h0 hl => ?_, ?_⟩, ?_⟩
  · rw [push_len] at hl
    by_cases e : j = s.list.length
    · subst e
      rw [at_new]
      show holdsB (gN (pushM s b).list (s.tip : Int).toNat).kind b.kind = true ∧ b.kind ≠ 1
      rw [Int.toNat_natCast, (old _ ht).2.2.1]
      exact ⟨hb, h1⟩
    · have hj : j < s.list.length := by omega
      rw [(old j hj).1, (old j hj).2.2.1, (old _ (upl j h0 hj)).2.2.1]
      exact h.shp.hold j h0 hj
  · by_cases e : j = s.list.length
    · subst e
      rw [at_new] at hj ⊢
      exact h6 hj
    · by_cases hl : j < s.list.length
      · rw [(old j hl).2.2.1] at hj
        rw [(old j hl).2.2.2.2.1]
        exact h.shp.head j hj
      · rw [at_out j (by omega)] at hj; cases hj
  · by_cases e : j = s.list.length
    · subst e
      rw [at_new] at hj
      exact absurd (h3 hj).symm hjx
    · by_cases hl : j < s.list.length
      · rw [(old j hl).2.2.1] at hj
        by_cases et : j = s.tip
        · rw [et, lt]; omega
        · rw [lst j hl et]
          exact h.shp.list j hj (hx j hl hj et hjx)
      · rw [at_out j (by omega)] at hj; cases hj
  · rw [htp] at hno
    by_cases e : j = s.list.length
    · subst e; exact absurd (.refl _) hno
    · by_cases hl : j < s.list.length
      · rw [(old j hl).2.2.1] at hj
        rw [(old j hl).2.2.2.1]
        rcases h.shp.para j hj (fun o => hno (ontip2 j o)) with q | q
        · exact .inl q
        · refine .inr ⟨fun i => ?_, fun i => ?_⟩
          · by_cases ei : i = s.list.length
            · subst ei; rw [at_new]; show (-1 : Int) ≠ _; omega
            · by_cases hil : i < s.list.length
              · by_cases et : i = s.tip
                · rw [et, lt]; omega
                · rw [lst i hil et]; exact q.1 i
              · rw [at_out i (by omega)]; show (-1 : Int) ≠ _; omega
          · by_cases ei : i = s.list.length
            · subst ei; rw [at_new]; exact q.1 s.tip
            · by_cases hil : i < s.list.length
              · rw [(old i hil).2.1]; exact q.2 i
              · rw [at_out i (by omega)]; show (-1 : Int) ≠ _; omega
      · rw [at_out j (by omega)] at hj; cases hj
  · rw [htp] at o
    by_cases e : j = s.list.length
    · subst e
      rw [at_new] at q
      have q' : (gN s.list s.tip).last = (y : Int) := q
      have hy : y < s.list.length := by omega
      have := (ontip y hy o).le w
      omega
    · by_cases hl : j < s.list.length
      · rw [(old j hl).2.1] at q
        have := w.ahead j hl
        exact h.shp.ahead j y q (ontip y (by omega) o)
      · rw [at_out j (by omega)] at q
        have : (blkN 1).ahead = -1 := rfl
        omega
  · rw [push_len] at hl
    by_cases e : j = s.list.length
    · subst e
      rw [at_new]
      show (gN s.list s.tip).depth + 1 = (gN (pushM s b).list (s.tip : Int).toNat).depth + 1
      rw [Int.toNat_natCast, (old _ ht).2.2.2.2.2]
    · have hj : j < s.list.length := by omega
      rw [(old j hj).1, (old j hj).2.2.2.2.2, (old _ (upl j h0 hj)).2.2.2.2.2]
      exact h.shp.dep j h0 hj
  · rw [(old 0 (by omega)).2.2.2.2.2]; exact h.shp.dep0
  · rcases h.dp with q | q
    · exact .inl (by show (s.deep || _) = true; rw [q]; rfl)
    · by_cases hd : 100 < (s.nd s.tip).depth + 1
      · exact .inl (by show (s.deep || decide _) = true; rw [decide_eq_true hd, Bool.or_true])
      · refine .inr fun j => ?_
        by_cases e : j = s.list.length
        · subst e; rw [at_new]; show (s.nd s.tip).depth + 1 ≤ 100; omega
        · by_cases hl : j < s.list.length
          · rw [(old j hl).2.2.2.2.2]; exact q j
          · rw [at_out j (by omega)]; show 0 ≤ 100; omega
theorem sg_add {s : St} (w : Wf s.list s.tip) (h : Sg s 0) (b : Nd) (hk : b.kind ≠ 4 ∨ holdsB (s.nd s.tip).kind b.kind = true) (h1 : b.kind ≠ 1) (h3 : b.kind ≠ 3) (h6 : b.kind = 6 → 1 ≤ b.level ∧ b.level ≤ 6) : Sg (addM s b) 0 := by
  obtain ⟨w1, hh, _⟩ := addGo_ok s.tip s b.kind (Nat.le_refl _) w hk
  exact sg_push w1 (sg_addGo _ s b.kind 0 w hk h) b hh h1 h6 (fun e => absurd e h3) (fun _ _ _ _ e => e)
theorem sg_addIn {s : St} {i : Nat} (w : Wf s.list s.tip) (o : On s.list s.tip i) (h : Sg s 0) (b : Nd) (h4 : b.kind ≠ 4) (h1 : b.kind ≠ 1) (h3 : b.kind ≠ 3) (h6 : b.kind = 6 → 1 ≤ b.level ∧ b.level ≤ 6) : Sg (addInM s i b) 0 :=
  sg_add (cw_wf w o) (sg_cw w o h) b (.inl h4) h1 h3 h6
theorem sg_put {s : St} {i : Nat} (w : Wf s.list s.tip) (o : On s.list s.tip i) (h : Sg s 0) : Sg (putM s i) 0 :=
  h.set w i { s.nd i with text := (s.nd i).text ++ lrestM s.line ++ [10] } (putM s i) rfl rfl rfl ⟨rfl, rfl, rfl, rfl⟩ (.inl rfl) (fun q => h.shp.head i q) (fun _ => .inl o)
theorem sg_be {s : St} (w : Wf s.list s.tip) (h : Sg s 0) (i : Nat) (b : Bool) (s' : St) (e1 : s'.list = s.list.set i { s.nd i with be := b }) (e2 : s'.tip = s.tip) (e3 : s'.deep = s.deep) : Sg s' 0 :=
  h.set w i { s.nd i with be := b } s' e1 e2 e3 ⟨rfl, rfl, rfl, rfl⟩ (.inl rfl) (fun q => h.shp.head i q) (fun _ => .inr rfl)
theorem sg_ebGo : ∀ (n : Nat) (s : St) (j : Int) (b : Bool), Wf s.list s.tip → Sg s 0 → Sg { s with list := ebGo n s.list j b } 0
  | 0, _, _, _, _, h => h
  | n + 1, s, j, b, w, h => by
    unfold ebGo
    split
    · exact h
    · have hs := sg_be w h j.toNat b { s with list := s.list.set j.toNat { gN s.list j.toNat with be := b } } rfl rfl rfl
      exact sg_ebGo n { s with list := s.list.set j.toNat { gN s.list j.toNat with be := b } } _ b (w.set j.toNat _ ⟨rfl, rfl, rfl, rfl⟩ (fun e => by show (gN s.list j.toNat).kind = 1; rw [e]; exact w.doc) (w.ind _)) hs
theorem sg_eb {s : St} (w : Wf s.list s.tip) (h : Sg s 0) (i : Nat) : Sg (endBlankM s i) 0 := by
  unfold endBlankM ebLast
  split
  · exact sg_ebGo _ { s with list := s.list.set (s.nd i).last.toNat { s.nd (s.nd i).last.toNat with be := true } } _ _ (w.set _ _ ⟨rfl, rfl, rfl, rfl⟩ (fun e => by show (gN s.list (s.nd i).last.toNat).kind = 1; rw [e]; exact w.doc) (w.ind _)) (sg_be w h _ true _ rfl rfl rfl)
  · exact sg_ebGo _ s _ _ w h
theorem sg_fill {s : St} {i : Nat} (w : Wf s.list s.tip) (o : On s.list s.tip i) (h8 : (s.nd i).kind = 8 → s.tip ≠ 0) (h : Sg s 0) : Sg (fillM s i) 0 := by
  unfold fillM
  split
  · exact sg_put w o h
  split
  · next e8 =>
    split
    · exact sg_close (s := putM s i) (sg_put w o h) (put_wf w i) (h8 e8)
    · exact sg_put w o h
  split
  · exact h
  · exact sg_put (s := addM s (blkN 5)) (add_wf w (blkN 5) (.inl (show (5 : Nat) ≠ 4 by decide)) (Nat.zero_le _)) (.refl _) (sg_add w h (blkN 5) (.inl (show (5 : Nat) ≠ 4 by decide)) (show (5 : Nat) ≠ 1 by decide) (show (5 : Nat) ≠ 3 by decide) (fun e => absurd e (show (5 : Nat) ≠ 6 by decide)))
theorem sg_rest {s : St} {i : Nat} (w : Wf s.list s.tip) (o : On s.list s.tip i) (h : Sg s 0) (what : Nat) : Sg (restM s i what) 0 := by
  have tail : ∀ s : St, Wf s.list s.tip → On s.list s.tip i → Sg s 0 → Sg (endBlankM (cwM s i) i) 0 ∧ Sg (fillM (endBlankM (cwM s i) i) i) 0 := by
    intro s w o h
    have hc := cw_ok w o
    have eb := endBlank_keep (cw_wf w o) i
    have kb := sg_eb (cw_wf w o) (sg_cw w o h) i
    refine ⟨kb, sg_fill (by rw [eb.2.2.2.2.1]; exact eb.1) (by rw [eb.2.2.2.2.1, hc.2.1]; exact .refl _) (fun q => ?_) kb⟩
    rw [eb.2.2.2.2.1, hc.2.1]
    intro e0
    rw [eb.2.2.2.1, (fun x => by rw [e0] : ∀ x : St, x.nd i = x.nd 0)] at q
    have := hc.1.doc
    unfold St.nd at q
    omega
  unfold restM
  split
  · split
    · exact sg_put (s := s.atL (skipBM s.line s.line.ind)) w (.refl _) (h.atL _)
    · exact (tail (s.atL (skipBM s.line s.line.ind)) w o (h.atL _)).2
  split
  · exact (tail s w o h).2
  · exact (tail s w o h).1
theorem head_lv {l : List UInt8} (h : headN l ≠ 0) : 1 ≤ headN l ∧ headN l ≤ 6 := by
  unfold headN at *
  split at h
  · exact absurd rfl h
  · next c => rw [if_neg c]; exact ⟨by omega, by omega⟩
theorem under_lv (l : List UInt8) : underL l ≤ 2 := by
  unfold underL
  split
  · omega
  split <;> omega
theorem sg_under {s : St} {i : Nat} (w : Wf s.list s.tip) (o : On s.list s.tip i) (h : Sg s 0) : Sg (bUnderM s i).1 0 := by
  unfold bUnderM
  split
  · exact h
  next c =>
  have hd := sg_define h w i o
  split
  · exact hd
  · have wd : Wf (defineM s i).list (defineM s i).tip := w.text i _ _
    have ek : ((defineM s i).nd i).kind = 5 := by
      have hlt : i < s.list.length := Nat.lt_of_le_of_lt (o.le w) w.tip
      have : (defineM s i).nd i = { s.nd i with text := trimL (dfrL (s.nd i).text) } := gN_at hlt _
      rw [this]
      exact Decidable.byContradiction fun q => c (.inr q)
    have hu := under_lv s.line.next
    exact hd.set wd i { (defineM s i).nd i with kind := 6, level := underL s.line.next } _ rfl rfl rfl ⟨rfl, rfl, rfl, rfl⟩ (.inr ⟨ek, rfl⟩) (fun _ => ⟨by show 1 ≤ underL s.line.next; omega, by show underL s.line.next ≤ 6; omega⟩) (fun e => by cases e)
theorem sg_inItem {s : St} (w : Wf s.list s.tip) (h : Sg s 0) (n : Nat) : Sg (inItemM s n) 0 :=
  h.set w s.tip { s.nd s.tip with indent := (pastMarkM s.line n).2 } (inItemM s n) rfl rfl rfl ⟨rfl, rfl, rfl, rfl⟩ (.inl rfl) (fun q => h.shp.head _ q) (fun _ => .inl (.refl _))
theorem sg_item {s : St} {i : Nat} (w : Wf s.list s.tip) (o : On s.list s.tip i) (h : Sg s 0) : Sg (bItemM s i).1 0 := by
  unfold bItemM
  split
  · have w1 := cw_wf w o
    have h1 := sg_cw w o h
    obtain ⟨w2, _, o2, _, _⟩ := list_ok w1 (lstL s.line.next) (a := (cwM s i).list.length) (b := phi (cwM s i)) ⟨Nat.le_refl _, Nat.le_refl _⟩
    have h2 : ∃ x, Sg (listM (cwM s i) (lstL s.line.next)) x ∧ (x = 0 ∨ x = (listM (cwM s i) (lstL s.line.next)).tip) := by
      unfold listM
      split
      · exact ⟨0, h1, .inl rfl⟩
      · obtain ⟨w3, hh, _⟩ := addGo_ok (cwM s i).tip (cwM s i) 3 (Nat.le_refl _) w1 (.inl (by decide))
        refine ⟨_, sg_push w3 (sg_addGo _ _ 3 0 w1 (.inl (by decide)) h1) _ hh (show (3 : Nat) ≠ 1 by decide) (fun e => absurd e (show (3 : Nat) ≠ 6 by decide)) (fun _ => rfl) (fun j _ hj _ _ e => ?_), .inr rfl⟩
        rw [e, w3.doc] at hj
        cases hj
    obtain ⟨x, h3, hx⟩ := h2
    generalize listM (cwM s i) (lstL s.line.next) = s2 at *
    have ea : addM s2 (blkN 4) = pushM s2 (blkN 4) := by unfold addM; rw [show (blkN 4).kind = 4 from rfl, add_stop o2]
    have wa : Wf (addM s2 (blkN 4)).list (addM s2 (blkN 4)).tip := add_wf w2 (blkN 4) (.inr o2) (Nat.zero_le _)
    have h4 : Sg (addM s2 (blkN 4)) 0 := by
      rw [ea]
      refine sg_push w2 h3 _ o2 (show (4 : Nat) ≠ 1 by decide) (fun e => absurd e (show (4 : Nat) ≠ 6 by decide)) (fun e => absurd e (show (4 : Nat) ≠ 3 by decide)) (fun j _ _ hjt hj0 => ?_)
      rcases hx with e | e
      · rw [e]; exact hj0
      · rw [e]; exact hjt
    exact sg_inItem wa h4 _
  · exact h
theorem sg_begin {s : St} {i : Nat} (k : Ok s i) (h : Sg s 0) : Sg (beginM s i).1 0 := by
  unfold beginM
  split
  · exact h
  split
  · unfold bCodeM
    split
    · exact h
    · exact sg_addIn (s := s.atL (skipBM s.line 4)) k.wf k.on (h.atL _) (blkN 7) (show (7 : Nat) ≠ 4 by decide) (show (7 : Nat) ≠ 1 by decide) (show (7 : Nat) ≠ 3 by decide) (fun e => absurd e (show (7 : Nat) ≠ 6 by decide))
  split
  · exact sg_addIn (s := s.atL (pastQuoteM s.line).1) k.wf k.on (h.atL _) (blkN 2) (show (2 : Nat) ≠ 4 by decide) (show (2 : Nat) ≠ 1 by decide) (show (2 : Nat) ≠ 3 by decide) (fun e => absurd e (show (2 : Nat) ≠ 6 by decide))
  split
  · next hh => exact sg_addIn k.wf k.on h _ (show (6 : Nat) ≠ 4 by decide) (show (6 : Nat) ≠ 1 by decide) (show (6 : Nat) ≠ 3 by decide) (fun _ => head_lv hh)
  split
  · exact sg_addIn k.wf k.on h _ (show (7 : Nat) ≠ 4 by decide) (show (7 : Nat) ≠ 1 by decide) (show (7 : Nat) ≠ 3 by decide) (fun e => absurd e (show (7 : Nat) ≠ 6 by decide))
  split
  · exact sg_addIn k.wf k.on h _ (show (8 : Nat) ≠ 4 by decide) (show (8 : Nat) ≠ 1 by decide) (show (8 : Nat) ≠ 3 by decide) (fun e => absurd e (show (8 : Nat) ≠ 6 by decide))
  split
  · exact sg_under k.wf k.on h
  · next hq =>
    have hq' : (bUnderM s i).2 = false := by revert hq; cases (bUnderM s i).2 <;> simp
    have k1 := (k.under hq').1
    have h1 := sg_under k.wf k.on h
    unfold bRestM
    split
    · exact sg_addIn k1.wf k1.on h1 _ (show (9 : Nat) ≠ 4 by decide) (show (9 : Nat) ≠ 1 by decide) (show (9 : Nat) ≠ 3 by decide) (fun e => absurd e (show (9 : Nat) ≠ 6 by decide))
    split
    · exact sg_item k1.wf k1.on h1
    · exact h1
theorem sg_begunGo : ∀ (f : Nat) (s : St) (i : Nat) {z : Nat}, Ok s i → Lw z s.line → z ≤ 10000 → s.list.length + 2 * s.line.rem.length ≤ 79000 → Sg s 0 → Sg (begunGo f s i).1 0
  | 0, _, _, _, _, _, _, _, h => h
  | f + 1, s, i, z, k, hz, hz2, ha, h => by
    have g := begin_bg k (a := s.list.length) (b := phi s) ⟨Nat.le_refl _, Nat.le_refl _⟩ hz hz2
    have kb := sg_begin k h
    unfold begunGo
    split
    · exact kb
    split
    · exact kb
    · next h0 h1 =>
      have e1 : (beginM s i).2 = 1 := Decidable.byContradiction fun q => h1 (.inl q)
      obtain ⟨h2, h3⟩ := g.one e1
      have h4 := h2 z hz
      have h5 := h3.len
      have h6 := h3.txt
      have h7 := k.phi
      exact sg_begunGo f (beginM s i).1 (beginM s i).1.tip ⟨g.wf, .refl _, by omega, by omega⟩ (g.lw z hz) hz2 (by omega) kb
theorem sg_line {s : St} {z : Nat} (w : Wf s.list s.tip) (h : Sg s 0) (hz : Lw z s.line) (hz2 : z ≤ 10000) (ha : s.list.length + 2 * z ≤ 79000) (hb : phi s ≤ 80000) : Sg (lineM s) 0 := by
  have m := matched_mt w hz
  unfold lineM
  split
  · next e =>
    obtain ⟨l, h1, h2, h3⟩ := m.yes e
    rw [h1]
    exact sg_close (s := s.atL l) (h.atL l) w h2
  · next e =>
    obtain ⟨l, h1, h2, h3, h4⟩ := m.no (by revert e; cases (matchedM s).2.2 <;> simp)
    have hr := hz.rem
    rw [h1]
    have k : Ok (s.atL l) (matchedM s).2.1 := ⟨w, h2, hb, by show s.list.length ≤ _; omega⟩
    have hl : (s.atL l).list.length + 2 * (s.atL l).line.rem.length ≤ 79000 := by show s.list.length + 2 * l.rem.length ≤ _; omega
    have g := begun_bn k (a := 79000) (b := 80000) h3 hz2 hl (show phi s ≤ _ from hb) (Nat.le_refl _) (Nat.le_refl _)
    refine sg_rest g.wf g.on ?_ _
    unfold begunM
    split
    · exact h.atL l
    · exact sg_begunGo _ _ _ k h3 hz2 hl (h.atL l)
theorem sg_take {s : St} {t : List UInt8} (w : Wf s.list s.tip) (h : Sg s 0) (ht : t.length ≤ 10000) (ha : s.list.length + 2 * t.length ≤ 79000) (hb : phi s ≤ 80000) : Sg (takeM s t) 0 :=
  sg_line (s := startM s t) w ⟨h.kin, h.shp, h.dp⟩ (Lw.start t) ht ha hb
theorem sg_st0 : Sg st0 0 := by
  have e : ∀ j, gN st0.list j = blkN 1 := fun j => by
    cases j with
    | zero => rfl
    | succ j => exact gN_out (by show 1 ≤ j + 1; omega)
  refine ⟨⟨fun i y q => ?_, fun y z q => ?_⟩, ⟨fun i h0 hl => ?_, fun i q => ?_, fun i q => ?_, fun i q => ?_, fun j y q => ?_, fun i h0 hl => ?_, by rw [e]; rfl⟩, .inr fun i => by rw [e]; exact Nat.zero_le _⟩
  · rw [e] at q; exact absurd q (by show (-1 : Int) ≠ _; omega)
  · rw [e] at q; exact absurd q (by show (-1 : Int) ≠ _; omega)
  · have : i < 1 := hl
    omega
  · rw [e] at q; cases q
  · rw [e] at q; cases q
  · rw [e] at q; cases q
  · rw [e] at q; exact absurd q (by show (-1 : Int) ≠ _; omega)
  · have : i < 1 := hl
    omega
end Go.Proofs.YtfgpephpkibbaaaGreatDoor

