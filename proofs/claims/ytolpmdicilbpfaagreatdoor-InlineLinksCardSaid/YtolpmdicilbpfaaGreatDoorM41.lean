/-
  Texts of the proof, one behind the other: Ina, Inb, Inc.
-/
import Derived.Test.YtolpmdicilbpfaaGreatDoorM5
import Derived.Test.YtolpmdicilbpfaaGreatDoorM40
/-
  Layer 14, plain: how the parser goes through words, runs, what is hidden, breaks; step by step. No program in sight.
-/
namespace Go.Proofs.YtolpmdicilbpfaaGreatDoor
open Go Go.Lib

theorem dec_one {b : UInt8} (h : b.toNat < 128) (t : List UInt8) : decodeL (b :: t) = (b.toNat, 1) := by
  have h1 := dec_enc (b.toNat : Int) (by unfold okR; omega) t
  rw [enc_ascii h] at h1
  exact h1
theorem last_ascii : ∀ (a : List UInt8) (b : UInt8) (d : Int), (∀ c ∈ a, c.toNat < 128) → b.toNat < 128 → lastR (a ++ [b]) d = (b.toNat : Int)
  | [], b, d, _, hb => by
    rw [List.nil_append, lastR_step (by simp), dec_one hb]
    rfl
  | c :: a, b, d, ha, hb => by
    rw [List.cons_append, lastR_step (by simp), dec_one (ha c (by simp))]
    exact last_ascii a b _ (fun x hx => ha x (by simp [hx])) hb
theorem bef_at {s a : List UInt8} {b : UInt8} {r : List UInt8} (h : s = a ++ b :: r) (ha : ∀ c ∈ a, c.toNat < 128) (hb : b.toNat < 128) : befL s ((a.length + 1 : Nat) : Int) = (b.toNat : Int) := by
  subst h
  unfold befL
  rw [if_neg (by simp; omega), Int.toNat_natCast, List.take_append, List.take_of_length_le (by omega), show a.length + 1 - a.length = 1 by omega]
  exact last_ascii a b 0 ha hb
theorem aft_at {s : List UInt8} {k : Nat} {b : UInt8} {r : List UInt8} (h : s.drop k = b :: r) (hb : b.toNat < 128) : aftL s (k : Int) = (b.toNat : Int) := by
  have hl : k < s.length := by
    have := congrArg List.length h
    rw [List.length_drop] at this
    simp at this; omega
  unfold aftL
  rw [if_neg (by omega), Int.toNat_natCast, h, if_neg (by simp), dec_one hb]
theorem aft_none {s : List UInt8} {k : Nat} (h : s.drop k = []) : aftL s (k : Int) = 0 := by
  unfold aftL
  split
  · rfl
  · rw [Int.toNat_natCast, if_pos h]

/-! ### Steps -/
/-- May a sign mean something? -/
def spcI (c : UInt8) : Bool := decide (c = 92) || decide (c = 38) || decide (c = 60) || decide (c = 91) || decide (c = 93) || decide (c = 33) || decide (c = 42) || decide (c = 95) || decide (c = 10) || decide (c = 96)
theorem take_byte {s : List UInt8} {rs : List Rf} {p : Ps} {c : UInt8} (h : (s.drop p.pos).headD 0 = c) (hc : spcI c = false) : takeI s rs p = byteM s p := by
  unfold spcI at hc
  simp only [Bool.or_eq_false_iff, decide_eq_false_iff_not] at hc
  unfold takeI
  rw [h]
  split
  all_goals first | rfl | (exfalso; simp_all; done)
/-- Where the parser has come to: what is left of the text is r. -/
structure Rch (s : List UInt8) (rs : List Rf) (p q : Ps) (r : List UInt8) : Prop where
  same : goA s rs p = goA s rs q
  wf : WfI s q
  rest : s.drop q.pos = r
theorem Rch.start (s : List UInt8) (rs : List Rf) : Rch s rs Ps.zero Ps.zero s := ⟨rfl, WfI.zero s, rfl⟩
theorem Rch.lt {s : List UInt8} {rs : List Rf} {p q : Ps} {c : UInt8} {r : List UInt8} (h : Rch s rs p q (c :: r)) : q.pos < s.length := by
  have := congrArg List.length h.rest
  rw [List.length_drop] at this
  simp at this; omega
theorem Rch.step {s : List UInt8} {rs : List Rf} {p q q' : Ps} {c : UInt8} {r r' : List UInt8} (h : Rch s rs p q (c :: r)) (ht : takeI s rs q = q') (hr : s.drop q'.pos = r') : Rch s rs p q' r' := by
  subst ht
  exact ⟨h.same.trans (goA_step h.wf h.lt), (h.wf.take h.lt).1, hr⟩
theorem Rch.end {s : List UInt8} {rs : List Rf} {q : Ps} (h : Rch s rs Ps.zero q []) : parseI s rs = spansM (emM q.list) := by
  rw [parse_eq, h.same, goA_stop]
  have := congrArg List.length h.rest
  rw [List.length_drop, List.length_nil] at this
  omega
/-- Single bytes are put behind. -/
def addB (l : List Pc) (t : List UInt8) : List Pc := match l.getLast? with
  | some x => if x.single then l.dropLast ++ [x.set (x.text ++ t)] else l ++ [⟨1, t, [], [], [], 0, false, false, true⟩]
  | none => l ++ [⟨1, t, [], [], [], 0, false, false, true⟩]
def wordP (t : List UInt8) : Pc := ⟨1, t, [], [], [], 0, false, false, true⟩
theorem addB_new {l : List Pc} (t : List UInt8) (h : ∀ x, l.getLast? = some x → x.single = false) : addB l t = l ++ [wordP t] := by
  unfold addB
  cases e : l.getLast? with
  | none => rfl
  | some x => simp only [h x e]; rfl
theorem addB_old (l : List Pc) (a t : List UInt8) : addB (l ++ [wordP a]) t = l ++ [wordP (a ++ t)] := by
  unfold addB
  rw [last_app]
  simp only [wordP, List.dropLast_concat]
  rfl
theorem byte_add (s : List UInt8) (p : Ps) : byteM s p = { p with list := addB p.list ((s.drop p.pos).take 1), pos := p.pos + 1 } := by
  unfold byteM addB
  cases e : p.list.getLast? with
  | none => rfl
  | some x => dsimp only; split <;> rfl
theorem addB_add (l : List Pc) (a b : List UInt8) : addB (addB l a) b = addB l (a ++ b) := by
  by_cases h : ∃ x, l.getLast? = some x ∧ x.single = true
  · obtain ⟨x, e, hx⟩ := h
    have h1 : ∀ t, addB l t = l.dropLast ++ [x.set (x.text ++ t)] := fun t => by unfold addB; rw [e]; simp only [hx]; rfl
    have h2 : addB (l.dropLast ++ [x.set (x.text ++ a)]) b = l.dropLast ++ [(x.set (x.text ++ a)).set ((x.set (x.text ++ a)).text ++ b)] := by
      unfold addB
      rw [last_app]
      have : (x.set (x.text ++ a)).single = true := hx
      simp only [this, List.dropLast_concat]
      rfl
    rw [h1, h1, h2, set_text, List.append_assoc]; rfl
  · have h' : ∀ x, l.getLast? = some x → x.single = false := fun x e => by
      cases hb : x.single with
      | false => rfl
      | true => exact absurd ⟨x, e, hb⟩ h
    rw [addB_new a h', addB_old, addB_new _ h']
theorem Rch.word {s : List UInt8} {rs : List Rf} {p : Ps} : ∀ (w : List UInt8) {q : Ps} {r : List UInt8}, Rch s rs p q (w ++ r) → w ≠ [] → (∀ c ∈ w, spcI c = false) → Rch s rs p { q with list := addB q.list w, pos := q.pos + w.length } r
  | [], _, _, _, h0, _ => absurd rfl h0
  | [c], q, r, h, _, hc => by
    have e : s.drop q.pos = c :: r := h.rest
    refine Rch.step (c := c) (r := r) h (?_ : takeI s rs q = _) ?_
    · rw [take_byte (c := c) (by rw [e]; rfl) (hc c (by simp)), byte_add, e]; rfl
    · show s.drop (q.pos + 1) = r
      rw [← List.drop_drop, e]; rfl
  | c :: d :: w, q, r, h, _, hc => by
    have e : s.drop q.pos = c :: (d :: w ++ r) := h.rest
    have h1 : Rch s rs p { q with list := addB q.list [c], pos := q.pos + 1 } (d :: w ++ r) := by
      refine Rch.step (c := c) (r := d :: w ++ r) h (?_ : takeI s rs q = _) ?_
      · rw [take_byte (c := c) (by rw [e]; rfl) (hc c (by simp)), byte_add, e]; rfl
      · show s.drop (q.pos + 1) = _
        rw [← List.drop_drop, e]; rfl
    have h2 := Rch.word (d :: w) h1 (by simp) (fun x hx => hc x (by simp at hx ⊢; exact .inr hx))
    have e1 : addB (addB q.list [c]) (d :: w) = addB q.list (c :: d :: w) := addB_add _ _ _
    have e2 : q.pos + 1 + (d :: w).length = q.pos + (c :: d :: w).length := by simp; omega
    rw [show ({ ({ q with list := addB q.list [c], pos := q.pos + 1 } : Ps) with list := addB (addB q.list [c]) (d :: w), pos := q.pos + 1 + (d :: w).length } : Ps) = { q with list := addB q.list (c :: d :: w), pos := q.pos + (c :: d :: w).length } by rw [e1, e2]] at h2
    exact h2
/-- The sign is hidden. -/
theorem Rch.hidden {s : List UInt8} {rs : List Rf} {p q : Ps} {c : UInt8} {r : List UInt8} (h : Rch s rs p q (92 :: c :: r)) (hc : signB c = true) : Rch s rs p (q.put (textP [c]) 2) r := by
  have e := h.rest
  refine Rch.step h ?_ ?_
  · unfold takeI
    rw [e]
    show hidM s q = _
    unfold hidM
    rw [e, if_pos (esc_two r hc), escT_one (esc_two r hc)]; rfl
  · show s.drop (q.pos + 2) = r
    rw [← List.drop_drop, e]; rfl
theorem cntc_same (c : UInt8) : ∀ (k : Nat) (r : List UInt8), (∀ b t, r = b :: t → b ≠ c) → cntP (isC c) (List.replicate k c ++ r) = k
  | 0, r, h => cntP_zero fun b t e => by
    have := h b t e
    unfold isC; simp [this]
  | k + 1, r, h => by
    rw [List.replicate_succ, List.cons_append, cntP_yes _ (by unfold isC; simp), cntc_same c k r h]
theorem drop_rep (k : Nat) (c : UInt8) (r : List UInt8) : (List.replicate k c ++ r).drop k = r := by
  rw [List.drop_append, List.length_replicate, Nat.sub_self, List.drop_zero, List.drop_of_length_le (by rw [List.length_replicate]; exact Nat.le_refl _), List.nil_append]
theorem take_rep (k : Nat) (c : UInt8) (r : List UInt8) : (List.replicate k c ++ r).take k = List.replicate k c := by
  rw [List.take_append, List.length_replicate, Nat.sub_self, List.take_zero, List.append_nil, List.take_of_length_le (by rw [List.length_replicate]; exact Nat.le_refl _)]
def runP (c : UInt8) (k : Nat) (o cl : Bool) : Pc := ⟨1, List.replicate k c, [], [], [], k, o, cl, false⟩
theorem Rch.signs {s : List UInt8} {rs : List Rf} {p q : Ps} {c : UInt8} {k : Nat} {r : List UInt8} (h : Rch s rs p q (List.replicate k c ++ r)) (hk : 0 < k) (hc : c = 42 ∨ c = 95) (hr : ∀ b t, r = b :: t → b ≠ c) {o cl : Bool} (ho : opB s q.pos (q.pos + k) c = o) (hcl : clB s q.pos (q.pos + k) c = cl) :
    Rch s rs p { q with list := q.list ++ [runP c k o cl], pos := q.pos + k } r := by
  have e := h.rest
  obtain ⟨m, rfl⟩ : ∃ m, k = m + 1 := ⟨k - 1, by omega⟩
  have hcnt : cntP (isC c) (s.drop q.pos) = m + 1 := by rw [e]; exact cntc_same c (m + 1) r hr
  have ht : takeI s rs q = runM s q c := by
    unfold takeI
    have hh : (s.drop q.pos).headD 0 = c := by rw [e]; rfl
    rw [hh]
    rcases hc with rfl | rfl <;> rfl
  refine Rch.step (c := c) (r := List.replicate m c ++ r) h (ht.trans ?_) ?_
  · unfold runM
    rw [hcnt, ho, hcl, e, take_rep]; rfl
  · show s.drop (q.pos + (m + 1)) = r
    rw [← List.drop_drop, e, drop_rep]

/-! ### Emphasis -/
theorem emStep_still (e : Em) {x : Pc} (h : x.closes = false) : emStep e x = ⟨e.done ++ [x], e.wo⟩ := by rw [emStep_run, emRun_stop (.inl h)]
theorem em_still : ∀ (l : List Pc) (e : Em), (∀ x ∈ l, x.closes = false) → l.foldl emStep e = ⟨e.done ++ l, e.wo⟩
  | [], e, _ => by rw [List.append_nil]; rfl
  | x :: l, e, h => by
    rw [List.foldl_cons, emStep_still e (h x (by simp)), em_still l _ (fun y hy => h y (by simp [hy]))]
    simp
theorem emM_still {l : List Pc} (h : ∀ x ∈ l, x.closes = false) : emM l = l := by
  unfold emM emF
  rw [em_still l _ h]; rfl
/-- Texts alone are one text. -/
theorem spans_texts : ∀ (l : List Pc) (t : List UInt8), (∀ x ∈ l, x.kind = 1) → spGo t l = oneT (t ++ l.flatMap Pc.text)
  | [], t, _ => by simp [spGo]
  | x :: l, t, h => by
    rw [spGo_yes t l (h x (by simp)), spans_texts l _ (fun y hy => h y (by simp [hy])), List.flatMap_cons, List.append_assoc]
end Go.Proofs.YtolpmdicilbpfaaGreatDoor

/-
  Layer 14, plain: what the parser makes of words between signs, of breaks, of what is hidden. No program in sight.
-/
namespace Go.Proofs.YtolpmdicilbpfaaGreatDoor
open Go Go.Lib

theorem ld_spc {b : UInt8} (h : ldB b = true) : spcI b = false := by
  have hf := ldn_facts h
  unfold spcI
  simp only [Bool.or_eq_false_iff, decide_eq_false_iff_not]
  refine ⟨⟨⟨⟨⟨⟨⟨⟨⟨?_, ?_⟩, ?_⟩, ?_⟩, ?_⟩, ?_⟩, ?_⟩, ?_⟩, ?_⟩, ?_⟩ <;> (intro e; subst e; revert hf; decide)
theorem ld_small {b : UInt8} (h : ldB b = true) : b.toNat < 128 := by have := ldn_facts h; omega
theorem ld_cls {b : UInt8} (h : ldB b = true) : clsR (b.toNat : Int) = 0 := by
  have hf := ldn_facts h
  unfold clsR
  rw [if_neg (by unfold blankP; omega), if_neg (by unfold punctP; omega)]
theorem cls_zero : clsR 0 = 1 := by decide
theorem cls_blank : clsR 32 = 1 := by decide
theorem ld_ne {b c : UInt8} (h : ldB b = true) (hc : ldB c = false) : b ≠ c := fun e => by rw [e, hc] at h; cases h
/-- The kind of the rune ahead of a place, behind a letter or digit. -/
theorem bef_ld {s a w r : List UInt8} (h : s = a ++ w ++ r) (ha : ∀ c ∈ a, c.toNat < 128) (hw : ∀ c ∈ w, ldB c = true) (hn : w ≠ []) : clsR (befL s ((a ++ w).length : Nat)) = 0 := by
  obtain ⟨t, b, rfl⟩ : ∃ t b, w = t ++ [b] := ⟨w.dropLast, w.getLast hn, (List.dropLast_concat_getLast hn).symm⟩
  have hb : ldB b = true := hw b (by simp)
  have := bef_at (s := s) (a := a ++ t) (b := b) (r := r) (by rw [h]; simp) (fun c hc => by
    rcases List.mem_append.1 hc with hc | hc
    · exact ha c hc
    · exact ld_small (hw c (by simp [hc]))) (ld_small hb)
  rw [show (a ++ (t ++ [b])).length = (a ++ t).length + 1 by simp; omega, this]
  exact ld_cls hb
theorem aft_ld {s : List UInt8} {k : Nat} {w r : List UInt8} (h : s.drop k = w ++ r) (hw : ∀ c ∈ w, ldB c = true) (hn : w ≠ []) : clsR (aftL s (k : Nat)) = 0 := by
  cases w with
  | nil => exact absurd rfl hn
  | cons b w =>
    have hb := hw b (by simp)
    rw [aft_at (b := b) (r := w ++ r) h (ld_small hb)]
    exact ld_cls hb
theorem aft_zero {s : List UInt8} {k : Nat} (h : s.drop k = []) : clsR (aftL s (k : Nat)) = 1 := by rw [aft_none h]; exact cls_zero
theorem aft_blank {s : List UInt8} {k : Nat} {r : List UInt8} (h : s.drop k = 32 :: r) : clsR (aftL s (k : Nat)) = 1 := by rw [aft_at h (by decide)]; exact cls_blank
theorem op_of {s : List UInt8} {a b : Nat} {c : UInt8} {x y : Int} (hx : clsR (befL s (a : Int)) = x) (hy : clsR (aftL s (b : Int)) = y) :
    opB s a b c = (if c = 95 then leanB y x && (!leanB x y || x == 2) else leanB y x) ∧ clB s a b c = (if c = 95 then leanB x y && (!leanB y x || y == 2) else leanB x y) := by
  unfold opB clB
  rw [hx, hy]
  exact ⟨rfl, rfl⟩

/-! ### Words between signs -/
def nestL (k : Nat) (w : List UInt8) : List Sp := if k = 1 then [.mk 5 [] [] [] [txtS w]] else if k = 2 then [.mk 6 [] [] [] [txtS w]] else [.mk 5 [] [] [] [.mk 6 [] [] [] [txtS w]]]
theorem run_not {c : UInt8} {w r : List UInt8} (hw : ∀ b ∈ w, ldB b = true) (hn : w ≠ []) (hc : ldB c = false) : ∀ b t, w ++ r = b :: t → b ≠ c := fun b t e => by
  cases w with
  | nil => exact absurd rfl hn
  | cons x w =>
    rw [List.cons_append] at e
    injection e with e1 _
    subst e1
    exact ld_ne (hw x (by simp)) hc
theorem nest_list {k : Nat} {c : UInt8} {w : List UInt8} (hk : 0 < k) (hc : c = 42 ∨ c = 95) (hw : ∀ b ∈ w, ldB b = true) (hn : w ≠ []) :
    parseI (List.replicate k c ++ (w ++ List.replicate k c)) [] = spansM (emM [runP c k true false, wordP w, runP c k false true]) := by
  have hcl : ldB c = false := by rcases hc with rfl | rfl <;> decide
  have hcs : c.toNat < 128 := by rcases hc with rfl | rfl <;> decide
  generalize hs : List.replicate k c ++ (w ++ List.replicate k c) = s
  have h0 : Rch s [] Ps.zero Ps.zero (List.replicate k c ++ (w ++ List.replicate k c)) := by rw [hs]; exact Rch.start _ _
  have hd1 : s.drop (0 + k) = w ++ List.replicate k c := by rw [Nat.zero_add, ← hs, drop_rep]
  have hb1 : clsR (befL s ((0 : Nat) : Int)) = 1 := by rw [show ((0 : Nat) : Int) = 0 from rfl, bef_zero]; exact cls_zero
  have o1 := op_of (c := c) hb1 (aft_ld hd1 hw hn)
  have h1 := h0.signs hk hc (run_not hw hn hcl) (o := true) (cl := false) (o1.1.trans (by rcases hc with rfl | rfl <;> rfl)) (o1.2.trans (by rcases hc with rfl | rfl <;> rfl))
  have h2 := h1.word w hn (fun b hb => ld_spc (hw b hb))
  rw [show addB ({ Ps.zero with list := Ps.zero.list ++ [runP c k true false], pos := Ps.zero.pos + k } : Ps).list w = [runP c k true false, wordP w] from addB_new w (fun x e => by
    have : some (runP c k true false) = some x := e
    cases this; rfl)] at h2
  have hd2 : s.drop (0 + k + w.length + k) = [] := by
    rw [List.drop_eq_nil_of_le]
    rw [← hs]; simp; omega
  have hb2 : clsR (befL s ((0 + k + w.length : Nat) : Int)) = 0 := by
    have := bef_ld (s := s) (a := List.replicate k c) (w := w) (r := List.replicate k c) (by rw [← hs, List.append_assoc]) (fun x hx => by rw [(List.mem_replicate.1 hx).2]; exact hcs) hw hn
    rw [List.length_append, List.length_replicate] at this
    rw [show 0 + k + w.length = k + w.length by omega]; exact this
  have o2 := op_of (c := c) hb2 (aft_zero hd2)
  have h2' : Rch s [] Ps.zero ({ Ps.zero with list := [runP c k true false, wordP w], pos := 0 + k + w.length } : Ps) (List.replicate k c ++ []) := by rw [List.append_nil]; exact h2
  have h3 := h2'.signs hk hc (fun b t e => by cases e) (o := false) (cl := true) (o2.1.trans (by rcases hc with rfl | rfl <;> rfl)) (o2.2.trans (by rcases hc with rfl | rfl <;> rfl))
  exact h3.end
theorem nest_parse {k : Nat} {c : UInt8} {w : List UInt8} (hk : k = 1 ∨ k = 2 ∨ k = 3) (hc : c = 42 ∨ c = 95) (hw : ∀ b ∈ w, ldB b = true) (hn : w ≠ []) : parseI (List.replicate k c ++ (w ++ List.replicate k c)) [] = nestL k w := by
  rw [nest_list (by omega) hc hw hn]
  cases w with
  | nil => exact absurd rfl hn
  | cons x w => rcases hk with rfl | rfl | rfl <;> rcases hc with rfl | rfl <;> kernel_rfl
/-! ### Signs that mean nothing -/
theorem loose_star {k : Nat} {a b : List UInt8} (hk : 0 < k) (ha : ∀ x ∈ a, ldB x = true) (hb : ∀ x ∈ b, ldB x = true) : parseI ((a ++ [32]) ++ (List.replicate k 42 ++ (32 :: b))) [] = [txtS ((a ++ [32]) ++ (List.replicate k 42 ++ (32 :: b)))] := by
  generalize hs : (a ++ [32]) ++ (List.replicate k 42 ++ (32 :: b)) = s
  have h0 : Rch s [] Ps.zero Ps.zero ((a ++ [32]) ++ (List.replicate k 42 ++ (32 :: b))) := by rw [hs]; exact Rch.start _ _
  have h1 := h0.word (a ++ [32]) (by simp) (fun c hc => by
    rcases List.mem_append.1 hc with hc | hc
    · exact ld_spc (ha c hc)
    · rw [List.mem_singleton] at hc; subst hc; decide)
  rw [show addB Ps.zero.list (a ++ [32]) = [wordP (a ++ [32])] from addB_new _ (fun x e => by cases e)] at h1
  have hp : Ps.zero.pos + (a ++ [32]).length = a.length + 1 := by show 0 + _ = _; rw [List.length_append, List.length_singleton]; omega
  rw [hp] at h1
  have hb1 : clsR (befL s ((a.length + 1 : Nat) : Int)) = 1 := by
    rw [bef_at (s := s) (a := a) (b := 32) (r := List.replicate k 42 ++ (32 :: b)) (by rw [← hs]; simp) (fun c hc => ld_small (ha c hc)) (by decide)]
    exact cls_blank
  have hd1 : s.drop (a.length + 1 + k) = 32 :: b := by
    rw [← List.drop_drop, h1.rest, drop_rep]
  have o1 := op_of (c := 42) hb1 (aft_blank hd1)
  have h2 := h1.signs hk (.inl rfl) (fun c t e => by injection e with e1 _; subst e1; decide) (o := false) (cl := false) (o1.1.trans rfl) (o1.2.trans rfl)
  have h2' : Rch s [] Ps.zero ({ Ps.zero with list := [wordP (a ++ [32]), runP 42 k false false], pos := a.length + 1 + k } : Ps) ((32 :: b) ++ []) := by rw [List.append_nil]; exact h2
  have h3 := h2'.word (32 :: b) (by simp) (fun c hc => by
    rcases List.mem_cons.1 hc with rfl | hc
    · decide
    · exact ld_spc (hb c hc))
  rw [h3.end]
  rw [show addB ({ Ps.zero with list := [wordP (a ++ [32]), runP 42 k false false], pos := a.length + 1 + k } : Ps).list (32 :: b) = [wordP (a ++ [32]), runP 42 k false false, wordP (32 :: b)] from addB_new _ (fun x e => by
    have : some (runP 42 k false false) = some x := e
    cases this; rfl)]
  show spansM (emM [wordP (a ++ [32]), runP 42 k false false, wordP (32 :: b)]) = _
  rw [emM_still (fun x hx => by simp at hx; rcases hx with rfl | rfl | rfl <;> rfl)]
  unfold spansM
  rw [spans_texts _ _ (fun x hx => by simp at hx; rcases hx with rfl | rfl | rfl <;> rfl), List.nil_append]
  show oneT ((a ++ [32]) ++ (List.replicate k 42 ++ ((32 :: b) ++ []))) = _
  rw [List.append_nil, hs]
  unfold oneT
  rw [if_neg (fun e => by rw [e] at hs; simp at hs)]
theorem loose_under {k : Nat} {a b : List UInt8} (hk : 0 < k) (ha : ∀ x ∈ a, ldB x = true) (na : a ≠ []) (hb : ∀ x ∈ b, ldB x = true) (nb : b ≠ []) :
    parseI (a ++ (List.replicate k 95 ++ (b ++ (List.replicate k 95 ++ a)))) [] = [txtS (a ++ (List.replicate k 95 ++ (b ++ (List.replicate k 95 ++ a))))] := by
  generalize hs : a ++ (List.replicate k 95 ++ (b ++ (List.replicate k 95 ++ a))) = s
  have h0 : Rch s [] Ps.zero Ps.zero (a ++ (List.replicate k 95 ++ (b ++ (List.replicate k 95 ++ a)))) := by rw [hs]; exact Rch.start _ _
  have h1 := h0.word a na (fun c hc => ld_spc (ha c hc))
  rw [show addB Ps.zero.list a = [wordP a] from addB_new _ (fun x e => by cases e), show Ps.zero.pos + a.length = a.length from Nat.zero_add _] at h1
  have hb1 : clsR (befL s (a.length : Int)) = 0 := bef_ld (s := s) (a := []) (w := a) (r := List.replicate k 95 ++ (b ++ (List.replicate k 95 ++ a))) (by rw [← hs]; rfl) (fun c hc => by cases hc) ha na
  have hd1 : s.drop (a.length + k) = b ++ (List.replicate k 95 ++ a) := by rw [← List.drop_drop, h1.rest, drop_rep]
  have o1 := op_of (c := 95) hb1 (aft_ld hd1 hb nb)
  have h2 := h1.signs hk (.inr rfl) (run_not hb nb (by decide)) (o := false) (cl := false) (o1.1.trans rfl) (o1.2.trans rfl)
  have h3 := h2.word b nb (fun c hc => ld_spc (hb c hc))
  rw [show addB ({ ({ Ps.zero with list := [wordP a], pos := a.length } : Ps) with list := [wordP a] ++ [runP 95 k false false], pos := a.length + k } : Ps).list b = [wordP a, runP 95 k false false, wordP b] from addB_new _ (fun x e => by
    have : some (runP 95 k false false) = some x := e
    cases this; rfl)] at h3
  have h3' : Rch s [] Ps.zero ({ Ps.zero with list := [wordP a, runP 95 k false false, wordP b], pos := a.length + k + b.length } : Ps) (List.replicate k 95 ++ a) := h3
  have hb2 : clsR (befL s ((a.length + k + b.length : Nat) : Int)) = 0 := by
    have := bef_ld (s := s) (a := a ++ List.replicate k 95) (w := b) (r := List.replicate k 95 ++ a) (by rw [← hs]; simp) (fun x hx => by
      rcases List.mem_append.1 hx with hx | hx
      · exact ld_small (ha x hx)
      · rw [(List.mem_replicate.1 hx).2]; decide) hb nb
    rw [List.length_append, List.length_append, List.length_replicate] at this
    exact this
  have hd2 : s.drop (a.length + k + b.length + k) = a ++ [] := by rw [List.append_nil, ← List.drop_drop, h3'.rest, drop_rep]
  have o2 := op_of (c := 95) hb2 (aft_ld hd2 ha na)
  have h4 := h3'.signs hk (.inr rfl) (fun c t e => run_not (r := []) ha na (by decide) c t (by rw [List.append_nil]; exact e)) (o := false) (cl := false) (o2.1.trans rfl) (o2.2.trans rfl)
  have h4' : Rch s [] Ps.zero ({ Ps.zero with list := [wordP a, runP 95 k false false, wordP b, runP 95 k false false], pos := a.length + k + b.length + k } : Ps) (a ++ []) := by rw [List.append_nil]; exact h4
  have h5 := h4'.word a na (fun c hc => ld_spc (ha c hc))
  rw [h5.end]
  rw [show addB ({ Ps.zero with list := [wordP a, runP 95 k false false, wordP b, runP 95 k false false], pos := a.length + k + b.length + k } : Ps).list a = [wordP a, runP 95 k false false, wordP b, runP 95 k false false, wordP a] from addB_new _ (fun x e => by
    have : some (runP 95 k false false) = some x := e
    cases this; rfl)]
  show spansM (emM [wordP a, runP 95 k false false, wordP b, runP 95 k false false, wordP a]) = _
  rw [emM_still (fun x hx => by simp at hx; rcases hx with rfl | rfl | rfl | rfl | rfl <;> rfl)]
  unfold spansM
  rw [spans_texts _ _ (fun x hx => by simp at hx; rcases hx with rfl | rfl | rfl | rfl | rfl <;> rfl), List.nil_append]
  show oneT (a ++ (List.replicate k 95 ++ (b ++ (List.replicate k 95 ++ (a ++ []))))) = _
  rw [List.append_nil, hs]
  unfold oneT
  rw [if_neg (fun e => by rw [e] at hs; simp at hs; exact na hs.1)]
/-! ### What is hidden -/
def hideI (c : UInt8) : List UInt8 := if spcI c then [92, c] else [c]
theorem spc_sign {c : UInt8} (h : spcI c = true) (h10 : c ≠ 10) : signB c = true := by
  unfold spcI at h
  simp only [Bool.or_eq_true, decide_eq_true_eq] at h
  rcases h with ((((((((h | h) | h) | h) | h) | h) | h) | h) | h) | h
  all_goals first | exact absurd h h10 | (subst h; decide)
/-- Pieces that are all texts. -/
def Txs (l : List Pc) (t : List UInt8) : Prop := (∀ x ∈ l, x.kind = 1 ∧ x.closes = false) ∧ l.flatMap Pc.text = t
theorem Txs.add {l : List Pc} {t : List UInt8} (h : Txs l t) (a : List UInt8) : Txs (addB l a) (t ++ a) := by
  obtain ⟨h1, h2⟩ := h
  unfold addB
  cases e : l.getLast? with
  | none =>
    dsimp only
    refine ⟨fun x hx => ?_, by rw [List.flatMap_append, h2]; simp⟩
    rcases List.mem_append.1 hx with hx | hx
    · exact h1 x hx
    · rw [List.mem_singleton] at hx; subst hx; exact ⟨rfl, rfl⟩
  | some y =>
    have hl := last_split e
    have hy : y ∈ l := by rw [hl]; simp
    dsimp only
    split
    · refine ⟨fun x hx => ?_, ?_⟩
      · rcases List.mem_append.1 hx with hx | hx
        · exact h1 x (mem_dropLast hx)
        · rw [List.mem_singleton] at hx; subst hx; exact h1 y hy
      · rw [← h2, List.flatMap_append]
        conv => rhs; rw [hl, List.flatMap_append]
        simp [set_text]
    · refine ⟨fun x hx => ?_, by rw [List.flatMap_append, h2]; simp⟩
      rcases List.mem_append.1 hx with hx | hx
      · exact h1 x hx
      · rw [List.mem_singleton] at hx; subst hx; exact ⟨rfl, rfl⟩
theorem Txs.text {l : List Pc} {t : List UInt8} (h : Txs l t) (a : List UInt8) : Txs (l ++ [textP a]) (t ++ a) := by
  obtain ⟨h1, h2⟩ := h
  refine ⟨fun x hx => ?_, by rw [List.flatMap_append, h2]; simp [textP, spanP]⟩
  rcases List.mem_append.1 hx with hx | hx
  · exact h1 x hx
  · rw [List.mem_singleton] at hx; subst hx; exact ⟨rfl, rfl⟩
theorem plain_go {s : List UInt8} : ∀ (u : List UInt8) {q : Ps} {t : List UInt8}, Rch s [] Ps.zero q (u.flatMap hideI) → Txs q.list t → (∀ c ∈ u, c ≠ 10) → ∃ q', Rch s [] Ps.zero q' [] ∧ Txs q'.list (t ++ u)
  | [], q, t, h, ht, _ => ⟨q, h, by rw [List.append_nil]; exact ht⟩
  | c :: u, q, t, h, ht, hc => by
    rw [List.flatMap_cons] at h
    unfold hideI at h
    by_cases hs : spcI c = true
    · rw [if_pos hs] at h
      have h1 := Rch.hidden (c := c) (r := u.flatMap hideI) h (spc_sign hs (hc c (by simp)))
      obtain ⟨q', a, b⟩ := plain_go u h1 (ht.text [c]) (fun x hx => hc x (by simp [hx]))
      exact ⟨q', a, by rw [List.append_assoc] at b; exact b⟩
    · rw [if_neg hs] at h
      have h1 := Rch.word [c] (r := u.flatMap hideI) h (by simp) (fun x hx => by rw [List.mem_singleton] at hx; subst hx; simpa using hs)
      obtain ⟨q', a, b⟩ := plain_go u h1 (ht.add [c]) (fun x hx => hc x (by simp [hx]))
      exact ⟨q', a, by rw [List.append_assoc] at b; exact b⟩
theorem plain_parse {u : List UInt8} (hn : u ≠ []) (hc : ∀ c ∈ u, c ≠ 10) : parseI (u.flatMap hideI) [] = [txtS u] := by
  obtain ⟨q, h, ht⟩ := plain_go (s := u.flatMap hideI) u (q := Ps.zero) (t := []) (Rch.start _ _) ⟨fun x hx => (by cases hx), rfl⟩ hc
  rw [h.end, emM_still (fun x hx => (ht.1 x hx).2)]
  unfold spansM
  rw [spans_texts _ _ (fun x hx => (ht.1 x hx).1), ht.2]
  unfold oneT
  rw [List.nil_append, List.nil_append, if_neg hn]
end Go.Proofs.YtolpmdicilbpfaaGreatDoor

/-
  Layer 14, plain: breaks, links, code of words. No program in sight.
-/
namespace Go.Proofs.YtolpmdicilbpfaaGreatDoor
open Go Go.Lib

/-! ### Breaks -/
theorem trim_blanks (m : Nat) {r : List UInt8} (hr : ∀ b t, r = b :: t → b ≠ 32 ∧ b ≠ 9) : trimLeftS (List.replicate m 32 ++ r) [32, 9] = r := by
  unfold trimLeftS
  induction m with
  | zero =>
    rw [List.replicate_zero, List.nil_append]
    cases r with
    | nil => rfl
    | cons b t =>
      have := hr b t rfl
      rw [List.dropWhile_cons_of_neg]
      simp [this.1, this.2]
  | succ m ih => rw [List.replicate_succ, List.cons_append, List.dropWhile_cons_of_pos (by decide)]; exact ih
/-- Past blanks. -/
theorem skip_to {s : List UInt8} {p : Ps} {m : Nat} {r : List UInt8} (h : s.drop p.pos = List.replicate m 32 ++ r) (hr : ∀ b t, r = b :: t → b ≠ 32 ∧ b ≠ 9) : s.drop (skipM s p).pos = r ∧ (skipM s p).list = p.list := by
  refine ⟨?_, rfl⟩
  show s.drop (s.length - (trimLeftS (s.drop p.pos) [32, 9]).length) = r
  rw [h, trim_blanks m hr]
  have e : s = s.take p.pos ++ List.replicate m 32 ++ r := by rw [List.append_assoc, ← h, List.take_append_drop]
  generalize hx : s.take p.pos ++ List.replicate m 32 = x at e
  rw [e, List.length_append, Nat.add_sub_cancel, List.drop_left' rfl]
theorem trimR_word {a : List UInt8} (n : Nat) (h : ∀ b ∈ a, b ≠ 32) : trimRightS (a ++ List.replicate n 32) [32] = a := by
  unfold trimRightS
  rw [List.reverse_append, List.reverse_replicate]
  have : ∀ n : Nat, (List.replicate n 32 ++ a.reverse).dropWhile (([32] : List UInt8).contains ·) = a.reverse := fun n => by
    induction n with
    | zero =>
      rw [List.replicate_zero, List.nil_append]
      cases e : a.reverse with
      | nil => rfl
      | cons b t =>
        have hb : b ∈ a := by rw [← List.mem_reverse, e]; simp
        rw [List.dropWhile_cons_of_neg]
        simp [h b hb]
    | succ n ih => rw [List.replicate_succ, List.cons_append, List.dropWhile_cons_of_pos (by decide)]; exact ih
  rw [this, List.reverse_reverse]
theorem suffix_two {a : List UInt8} (n : Nat) (h : ∀ b ∈ a, b ≠ 32) (hn : a ≠ []) : hasSuffix (a ++ List.replicate n 32) [32, 32] = decide (2 ≤ n) := by
  have e : ∀ l : List UInt8, hasSuffix l [32, 32] = ([32, 32] : List UInt8).isPrefixOf l.reverse := fun l => by
    unfold hasSuffix List.isSuffixOf; rfl
  rw [e, List.reverse_append, List.reverse_replicate]
  have hl : a.reverse ≠ [] := by simpa using hn
  cases er : a.reverse with
  | nil => exact absurd er hl
  | cons b t =>
    have hb : b ≠ 32 := h b (by rw [← List.mem_reverse, er]; simp)
    match n with
    | 0 =>
      have : ((32 : UInt8) == b) = false := by simpa using fun e => hb e.symm
      simp [List.isPrefixOf, this]
    | 1 =>
      have : ((32 : UInt8) == b) = false := by simpa using fun e => hb e.symm
      simp [List.isPrefixOf, this]
    | n + 2 => simp [List.isPrefixOf, List.replicate_succ]
def brkS (k : Nat) : Sp := .mk k [] [] [] []
theorem word_blank {a : List UInt8} (ha : ∀ x ∈ a, ldB x = true) : ∀ x ∈ a, x ≠ 32 := fun x hx => ld_ne (ha x hx) (by decide)
theorem ld_start {b : List UInt8} (hb : ∀ x ∈ b, ldB x = true) : ∀ x t, b = x :: t → x ≠ 32 ∧ x ≠ 9 := fun x t e => by
  have := hb x (by rw [e]; simp)
  exact ⟨ld_ne this (by decide), ld_ne this (by decide)⟩
theorem two_words {a b : List UInt8} {k : Nat} (hk : k ≠ 1) (na : a ≠ []) (nb : b ≠ []) : spansM (emM [wordP a, spanP k [] [] [] [], wordP b]) = [txtS a, brkS k, txtS b] := by
  rw [emM_still (fun x hx => by simp at hx; rcases hx with rfl | rfl | rfl <;> rfl)]
  unfold spansM
  rw [spGo_yes _ _ rfl, spGo_no _ _ hk, spGo_yes _ _ rfl]
  show oneT ([] ++ a) ++ (spanP k [] [] [] []).sp :: oneT ([] ++ b) = _
  unfold oneT
  rw [List.nil_append, List.nil_append, if_neg na, if_neg nb]; rfl
theorem break_soft {a b : List UInt8} {n m : Nat} (ha : ∀ x ∈ a, ldB x = true) (na : a ≠ []) (hb : ∀ x ∈ b, ldB x = true) (nb : b ≠ []) :
    parseI ((a ++ List.replicate n 32) ++ (10 :: (List.replicate m 32 ++ b))) [] = [txtS a, brkS (if 2 ≤ n then 3 else 2), txtS b] := by
  generalize hs : (a ++ List.replicate n 32) ++ (10 :: (List.replicate m 32 ++ b)) = s
  have h0 : Rch s [] Ps.zero Ps.zero ((a ++ List.replicate n 32) ++ (10 :: (List.replicate m 32 ++ b))) := by rw [hs]; exact Rch.start _ _
  have h1 := h0.word (a ++ List.replicate n 32) (by simp [na]) (fun c hc => by
    rcases List.mem_append.1 hc with hc | hc
    · exact ld_spc (ha c hc)
    · rw [(List.mem_replicate.1 hc).2]; decide)
  rw [show addB Ps.zero.list (a ++ List.replicate n 32) = [wordP (a ++ List.replicate n 32)] from addB_new _ (fun x e => by cases e)] at h1
  generalize hq : ({ Ps.zero with list := [wordP (a ++ List.replicate n 32)], pos := Ps.zero.pos + (a ++ List.replicate n 32).length } : Ps) = q at h1
  have hl : q.list = [wordP (a ++ List.replicate n 32)] := by rw [← hq]
  have hL : brkL q.list = [wordP a] := by
    rw [hl]
    show [(wordP (a ++ List.replicate n 32)).set (trimRightS (a ++ List.replicate n 32) [32])] = _
    rw [trimR_word n (word_blank ha)]; rfl
  have hK : brkK q.list = if 2 ≤ n then 3 else 2 := by
    rw [hl]
    have hx := suffix_two n (word_blank ha) na
    unfold brkK
    show @ite Nat ((wordP (a ++ List.replicate n 32)).kind = 1 ∧ hasSuffix (a ++ List.replicate n 32) [32, 32] = true) _ 3 2 = _
    by_cases h2 : 2 ≤ n
    · rw [if_pos ⟨rfl, by rw [hx]; simpa using h2⟩, if_pos h2]
    · rw [if_neg (fun e => by have := e.2; rw [hx] at this; exact h2 (by simpa using this)), if_neg h2]
  have ht : takeI s [] q = brkM s q := by unfold takeI; rw [h1.rest]; rfl
  have hd : s.drop ({ q with list := brkL q.list ++ [spanP (brkK q.list) [] [] [] []], pos := q.pos + 1 } : Ps).pos = List.replicate m 32 ++ b := by
    show s.drop (q.pos + 1) = _
    rw [← List.drop_drop, h1.rest]; rfl
  obtain ⟨k1, k2⟩ := skip_to hd (ld_start hb)
  have h2 := h1.step ht k1
  have h2' : Rch s [] Ps.zero (brkM s q) (b ++ []) := by rw [List.append_nil]; exact h2
  have hl2 : (brkM s q).list = [wordP a, spanP (if 2 ≤ n then 3 else 2) [] [] [] []] := by
    show brkL q.list ++ [spanP (brkK q.list) [] [] [] []] = _
    rw [hL, hK]; rfl
  have h3 := h2'.word b nb (fun c hc => ld_spc (hb c hc))
  rw [h3.end]
  show spansM (emM (addB (brkM s q).list b)) = _
  rw [hl2, addB_new _ (fun x e => by
    have : some (spanP (if 2 ≤ n then 3 else 2) [] [] [] []) = some x := e
    cases this; rfl)]
  exact two_words (by split <;> decide) na nb
theorem break_hard {a b : List UInt8} {m : Nat} (ha : ∀ x ∈ a, ldB x = true) (na : a ≠ []) (hb : ∀ x ∈ b, ldB x = true) (nb : b ≠ []) :
    parseI (a ++ (92 :: 10 :: (List.replicate m 32 ++ b))) [] = [txtS a, brkS 3, txtS b] := by
  generalize hs : a ++ (92 :: 10 :: (List.replicate m 32 ++ b)) = s
  have h0 : Rch s [] Ps.zero Ps.zero (a ++ (92 :: 10 :: (List.replicate m 32 ++ b))) := by rw [hs]; exact Rch.start _ _
  have h1 := h0.word a na (fun c hc => ld_spc (ha c hc))
  rw [show addB Ps.zero.list a = [wordP a] from addB_new _ (fun x e => by cases e)] at h1
  generalize hq : ({ Ps.zero with list := [wordP a], pos := Ps.zero.pos + a.length } : Ps) = q at h1
  have hl : q.list = [wordP a] := by rw [← hq]
  have ht : takeI s [] q = skipM s (q.put (spanP 3 [] [] [] []) 2) := by
    unfold takeI
    rw [h1.rest]
    show hidM s q = _
    unfold hidM
    rw [h1.rest, if_neg (by simp [escB, signB]), if_pos (by rfl)]
  have hd : s.drop (q.put (spanP 3 [] [] [] []) 2).pos = List.replicate m 32 ++ b := by
    show s.drop (q.pos + 2) = _
    rw [← List.drop_drop, h1.rest]; rfl
  obtain ⟨k1, k2⟩ := skip_to hd (ld_start hb)
  have h2 := h1.step ht k1
  have h2' : Rch s [] Ps.zero (skipM s (q.put (spanP 3 [] [] [] []) 2)) (b ++ []) := by rw [List.append_nil]; exact h2
  have hl2 : (skipM s (q.put (spanP 3 [] [] [] []) 2)).list = [wordP a, spanP 3 [] [] [] []] := by
    show q.list ++ [spanP 3 [] [] [] []] = _
    rw [hl]; rfl
  have h3 := h2'.word b nb (fun c hc => ld_spc (hb c hc))
  rw [h3.end]
  show spansM (emM (addB (skipM s (q.put (spanP 3 [] [] [] []) 2)).list b)) = _
  rw [hl2, addB_new _ (fun x e => by
    have : some (spanP 3 [] [] [] []) = some x := e
    cases this; rfl)]
  exact two_words (by decide) na nb

/-! ### Code -/
/-- What the last stretches are holds at least what they were. -/
theorem ltk_ge : ∀ (n : Nat) (l : List UInt8) (k : Nat) (f : Nat → Nat) (c : Nat), f c ≤ k → f c ≤ ltkGo n l k f c
  | 0, _, _, _, _, _ => Nat.le_refl _
  | n + 1, l, k, f, c, h => by
    unfold ltkGo
    split
    · exact Nat.le_refl _
    · by_cases hc : c = cntP rTik l
      · refine Nat.le_trans h ?_
        refine Nat.le_trans ?_ (ltk_ge n _ _ _ c ?_)
        · rw [if_pos hc]; exact Nat.le_refl _
        · rw [if_pos hc]; omega
      · refine Nat.le_trans ?_ (ltk_ge n _ _ _ c ?_)
        · rw [if_neg hc]; exact Nat.le_refl _
        · rw [if_neg hc]; omega
/-- A stretch that begins at j is told. -/
theorem ltk_at {s : List UInt8} {j c : Nat} (hj : j < s.length) (hc : cntP rTik (s.drop j) = c) (hb : ∀ x, 0 < j → s[j - 1]? = some x → rTik x = false) : ∀ (n i : Nat) (f : Nat → Nat), s.length ≤ i + n → i ≤ j → (∀ x, f x ≤ i) → j ≤ ltkGo n (s.drop i) i f c
  | 0, i, f, h, hi, _ => by omega
  | n + 1, i, f, h, hi, hf => by
    unfold ltkGo
    have hne : s.drop i ≠ [] := fun e => by have := congrArg List.length e; rw [List.length_drop, List.length_nil] at this; omega
    rw [if_neg hne, List.drop_drop]
    by_cases e : i = j
    · subst e
      refine Nat.le_trans ?_ (ltk_ge n _ _ _ c ?_)
      · rw [if_pos hc.symm]; exact Nat.le_refl _
      · rw [if_pos hc.symm]; omega
    · have hle : cntP rTik (s.drop i) ≤ j - i := by
        refine Classical.byContradiction fun hlt => ?_
        have hm : s[j - 1]? = some s[j - 1] := List.getElem?_eq_getElem (by omega)
        have h1 := hb _ (by omega) hm
        have h2 : s[j - 1] ∈ (s.drop i).take (cntP rTik (s.drop i)) := by
          rw [List.mem_take_iff_getElem]
          refine ⟨j - 1 - i, by rw [List.length_drop]; omega, ?_⟩
          rw [List.getElem_drop]
          congr 1
          omega
        rw [cntP_mem h2] at h1; cases h1
      refine ltk_at hj hc hb n _ _ (by omega) (by omega) fun x => ?_
      have := hf x
      split <;> omega
theorem cd_before : ∀ (m n : Nat) (l : List UInt8), l.length ≤ m → 0 < n → 2 ≤ cdE n l → ∃ x, l[cdE n l - 2]? = some x ∧ rTik x = false
  | 0, n, l, h, _, h2 => by
    have : l = [] := List.length_eq_zero_iff.1 (by omega)
    subst this
    rw [cdE_nil] at h2; omega
  | m + 1, n, l, h, hn, h2 => by
    by_cases hl : l = []
    · subst hl; rw [cdE_nil] at h2; omega
    · have hp := List.length_pos_iff.2 hl
      by_cases hc : cntP rTik l = n
      · rw [cdE_hit hl hc] at h2; omega
      · rw [cdE_go hl hc] at h2 ⊢
        obtain ⟨k, hk⟩ : ∃ k, max (cntP rTik l) 1 = k := ⟨_, rfl⟩
        rw [hk] at h2 ⊢
        by_cases h1 : cdE n (l.drop k) = 0
        · rw [h1] at h2; simp [upN] at h2
        · rw [up_pos _ h1] at h2 ⊢
          by_cases h3 : 2 ≤ cdE n (l.drop k)
          · obtain ⟨x, hx, hr⟩ := cd_before m n (l.drop k) (by rw [List.length_drop]; omega) hn h3
            refine ⟨x, ?_, hr⟩
            rw [List.getElem?_drop] at hx
            rw [← hx]
            congr 1
            omega
          · have h4 : cdE n (l.drop k) = 1 := by omega
            have h5 := (cd_at _ n (l.drop k) (Nat.le_refl _) h1).2
            rw [h4, Nat.sub_self, List.drop_zero] at h5
            have h6 : cntP rTik l = 0 := by
              refine Classical.byContradiction fun h7 => ?_
              have hk2 : k = cntP rTik l := by omega
              rw [hk2] at h5
              have := cntP_zero (noP_drop rTik l)
              omega
            have hk1 : k = 1 := by omega
            rw [h4, hk1]
            cases l with
            | nil => exact absurd rfl hl
            | cons b t =>
              refine ⟨b, rfl, ?_⟩
              cases hb : rTik b with
              | false => rfl
              | true => rw [cntP_yes _ hb] at h6; omega
/-- Nothing is lost by the look at the last stretches. -/
theorem cdc_eq (s : List UInt8) (p : Ps) : cdcN s p = codN (s.drop p.pos) := by
  unfold cdcN
  split
  · next h =>
    refine Classical.byContradiction fun h0 => ?_
    have hN : codN (s.drop p.pos) ≠ 0 := fun e => h0 e.symm
    have hO : codO (s.drop p.pos) ≠ 0 := fun e => hN (by unfold codN; rw [if_pos e])
    have hK : codK (s.drop p.pos) ≠ 0 := fun e => hN (by unfold codN; rw [if_neg hO, if_pos e])
    unfold codK at hK
    rw [List.drop_drop] at hK
    generalize ho : codO (s.drop p.pos) = o at *
    have hcnt : cntP rTik (s.drop p.pos) = o := ho
    rw [hcnt] at h
    obtain ⟨h1, h2⟩ := cd_at _ o (s.drop (p.pos + o)) (Nat.le_refl _) hK
    rw [List.drop_drop] at h2
    rw [List.length_drop] at h1
    have h3 : 2 ≤ cdE o (s.drop (p.pos + o)) := by
      refine Classical.byContradiction fun h4 => ?_
      have h5 : cdE o (s.drop (p.pos + o)) = 1 := by omega
      rw [h5, Nat.sub_self, Nat.add_zero] at h2
      have := cntP_zero (noP_drop rTik (s.drop p.pos))
      rw [hcnt, List.drop_drop] at this
      omega
    obtain ⟨x, hx, hr⟩ := cd_before _ o (s.drop (p.pos + o)) (Nat.le_refl _) (by omega) h3
    rw [List.getElem?_drop] at hx
    have := ltk_at (s := s) (j := p.pos + o + (cdE o (s.drop (p.pos + o)) - 1)) (by omega) h2 (fun y _ hy => by
      rw [show p.pos + o + (cdE o (s.drop (p.pos + o)) - 1) - 1 = p.pos + o + (cdE o (s.drop (p.pos + o)) - 2) by omega, hx] at hy
      cases hy; exact hr) s.length 0 (fun _ => 0) (by omega) (Nat.zero_le _) (fun _ => Nat.le_refl _)
    rw [List.drop_zero] at this
    unfold ltkM at h
    omega
  · rfl
theorem code_parse {k : Nat} {a t b : List UInt8} (hk : 0 < k) (ha : ∀ x ∈ a, spcI x = false) (na : a ≠ []) (ht : ∀ x ∈ t, rTik x = false) (nt : t ≠ []) (ct : ctT t = t) (hb : ∀ x ∈ b, spcI x = false) (nb : b ≠ []) :
    parseI (a ++ (List.replicate k 96 ++ (t ++ (List.replicate k 96 ++ b)))) [] = [txtS a, .mk 4 t [] [] [], txtS b] := by
  have htk : ∀ x, spcI x = false → rTik x = false := fun x hx => by
    cases e : rTik x with
    | false => rfl
    | true =>
      unfold rTik at e
      have : x = 96 := UInt8.toNat_inj.1 (by simpa using e)
      subst this; cases hx
  generalize hs : a ++ (List.replicate k 96 ++ (t ++ (List.replicate k 96 ++ b))) = s
  have h0 : Rch s [] Ps.zero Ps.zero (a ++ (List.replicate k 96 ++ (t ++ (List.replicate k 96 ++ b)))) := by rw [hs]; exact Rch.start _ _
  have h1 := h0.word a na ha
  rw [show addB Ps.zero.list a = [wordP a] from addB_new _ (fun x e => by cases e)] at h1
  generalize hq : ({ Ps.zero with list := [wordP a], pos := Ps.zero.pos + a.length } : Ps) = q at h1
  have hl : q.list = [wordP a] := by rw [← hq]
  obtain ⟨f1, f2⟩ := cod_found (k := k) (by omega) (s := t) (r := b) ht nt (fun x r e => by
    cases b with
    | nil => exact absurd rfl nb
    | cons c b => injection e with e1 _; subst e1; exact htk _ (hb _ (by simp)))
  rw [ct] at f1
  obtain ⟨m, rfl⟩ : ∃ m, k = m + 1 := ⟨k - 1, by omega⟩
  have hr : s.drop q.pos = List.replicate (m + 1) 96 ++ (t ++ (List.replicate (m + 1) 96 ++ b)) := h1.rest
  have hN : cdcN s q = m + 1 + t.length + (m + 1) := by rw [cdc_eq, hr, f2]
  have htake : takeI s [] q = q.put (spanP 4 t [] [] []) (m + 1 + t.length + (m + 1)) := by
    unfold takeI
    rw [hr]
    show codM s q = _
    unfold codM
    rw [hN, if_neg (by omega), hr, f1, f2]
  have h2 := Rch.step (c := 96) (r := List.replicate m 96 ++ (t ++ (List.replicate (m + 1) 96 ++ b))) h1 htake (r' := b) (by
    show s.drop (q.pos + (m + 1 + t.length + (m + 1))) = b
    rw [← List.drop_drop, hr, Nat.add_assoc, ← List.drop_drop, drop_rep, ← List.drop_drop, List.drop_left' rfl, drop_rep])
  have h2' : Rch s [] Ps.zero (q.put (spanP 4 t [] [] []) (m + 1 + t.length + (m + 1))) (b ++ []) := by rw [List.append_nil]; exact h2
  have h3 := h2'.word b nb hb
  rw [h3.end]
  show spansM (emM (addB (q.list ++ [spanP 4 t [] [] []]) b)) = _
  rw [hl, addB_new _ (fun x e => by
    have : some (spanP 4 t [] [] []) = some x := e
    cases this; rfl)]
  show spansM (emM [wordP a, spanP 4 t [] [] [], wordP b]) = _
  rw [emM_still (fun x hx => by simp at hx; rcases hx with rfl | rfl | rfl <;> rfl)]
  unfold spansM
  rw [spGo_yes _ _ rfl, spGo_no _ _ (fun e => by cases e), spGo_yes _ _ rfl]
  show oneT ([] ++ a) ++ (spanP 4 t [] [] []).sp :: oneT ([] ++ b) = _
  unfold oneT
  rw [List.nil_append, List.nil_append, if_neg na, if_neg nb]; rfl
end Go.Proofs.YtolpmdicilbpfaaGreatDoor

