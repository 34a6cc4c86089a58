/-
  Texts of the proof, one behind the other: Ind.
-/
import Derived.Test.YtolpmdicilbpfaaGreatDoorM41
import Derived.Test.YtolpmdicilbpfaaGreatDoorM40
/-
  Links of words, plain: what the parser makes of them.
-/
namespace Go.Proofs.YtolpmdicilbpfaaGreatDoor
open Go.Lib

section
variable {s : List UInt8} {rs : List Rf} {p q : Ps} {r w : List UInt8}
theorem Rch.open1 (h : Rch s rs p q (91 :: r)) : Rch s rs p { q with list := q.list ++ [textP [91]], br := q.br ++ [⟨q.list.length, q.pos, false⟩], pos := q.pos + 1 } r := by
  refine h.step ?_ ?_
  · unfold takeI
    rw [h.rest]
    show bktM s q false = _
    unfold bktM
    rw [h.rest]
    rfl
  · show s.drop (q.pos + 1) = r
    rw [← List.drop_drop, h.rest]; rfl
theorem Rch.open2 (h : Rch s rs p q (33 :: 91 :: r)) : Rch s rs p { q with list := q.list ++ [textP [33, 91]], br := q.br ++ [⟨q.list.length, q.pos + 1, true⟩], pos := q.pos + 2 } r := by
  refine h.step ?_ ?_
  · unfold takeI
    rw [h.rest]
    show bktM s q true = _
    unfold bktM
    rw [h.rest]
    rfl
  · show s.drop (q.pos + 2) = r
    rw [← List.drop_drop, h.rest]; rfl
theorem end_step (h : Rch s rs p q (93 :: r)) : takeI s rs q = endM s rs q := by
  unfold takeI
  rw [h.rest]
  rfl
theorem one_word (hw : w ≠ []) : spansM (emM [wordP w]) = [txtS w] := by
  rw [emM_still (fun x hx => by simp at hx; rw [hx]; rfl)]
  unfold spansM
  rw [spGo_yes _ _ rfl]
  show oneT ([] ++ w) = _
  unfold oneT
  rw [List.nil_append, if_neg hw]
/-- A link or an image that ends the text. -/
theorem link_end {img : Bool} {a : Nat} {x : Pc} (h : Rch s rs Ps.zero q (93 :: r)) (hl : q.list = [x, wordP w]) (hb : q.br = [⟨0, a, img⟩]) (hd : q.dead = 0) (hw : w ≠ []) {d t : List UInt8} (hld : ldsM s rs q ⟨0, a, img⟩ = (d, t, r.length + 1)) :
    parseI s rs = [.mk (if img then 8 else 7) [] d t [txtS w]] := by
  have hE : endM s rs q = { pos := q.pos + (r.length + 1), br := [], dead := if img then min q.dead 0 else 0, list := [spanP (if img then 8 else 7) [] d t [txtS w]] } := by
    have hg : q.br.getLast? = some ⟨0, a, img⟩ := by rw [hb]; rfl
    unfold endM
    rw [hg]
    show (if img = true ∨ q.dead ≤ q.br.length - 1 then _ else _) = _
    rw [if_pos (.inr (by omega)), hld, if_neg (by simp), hl, hb]
    show (⟨_, [].append [spanP (if img then 8 else 7) [] d t (spansM (emM [wordP w]))], _, _⟩ : Ps) = _
    rw [one_word hw]
    rfl
  have h2 := h.step ((end_step h).trans hE) (r' := []) (by
    show s.drop (q.pos + (r.length + 1)) = []
    rw [← List.drop_drop, h.rest]
    exact List.drop_eq_nil_of_le (by simp))
  rw [h2.end]
  show spansM (emM [spanP (if img then 8 else 7) [] d t [txtS w]]) = _
  rw [emM_still (fun x hx => by simp at hx; rw [hx]; rfl)]
  unfold spansM
  rw [spGo_no _ _ (by cases img <;> simp [spanP])]
  rfl
/-- [ and a word. -/
theorem open_word (hs : s = 91 :: (w ++ 93 :: r)) (hw : ∀ x ∈ w, ldB x = true) (nw : w ≠ []) : ∃ q, Rch s rs Ps.zero q (93 :: r) ∧ q.list = [textP [91], wordP w] ∧ q.br = [⟨0, 0, false⟩] ∧ q.dead = 0 ∧ q.pos = w.length + 1 := by
  have h0 : Rch s rs Ps.zero Ps.zero (91 :: (w ++ 93 :: r)) := by rw [← hs]; exact Rch.start _ _
  have h1 := h0.open1.word w nw (fun c hc => ld_spc (hw c hc))
  refine ⟨_, h1, ?_, rfl, rfl, ?_⟩
  · show addB [textP [91]] w = [textP [91]] ++ [wordP w]
    exact addB_new w (fun x e => by
      have : some (textP [91]) = some x := e
      cases this; rfl)
  · show 0 + 1 + w.length = _
    omega
theorem open_image (hs : s = 33 :: 91 :: (w ++ 93 :: r)) (hw : ∀ x ∈ w, ldB x = true) (nw : w ≠ []) : ∃ q, Rch s rs Ps.zero q (93 :: r) ∧ q.list = [textP [33, 91], wordP w] ∧ q.br = [⟨0, 1, true⟩] ∧ q.dead = 0 ∧ q.pos = w.length + 2 := by
  have h0 : Rch s rs Ps.zero Ps.zero (33 :: 91 :: (w ++ 93 :: r)) := by rw [← hs]; exact Rch.start _ _
  have h1 := h0.open2.word w nw (fun c hc => ld_spc (hw c hc))
  refine ⟨_, h1, ?_, rfl, rfl, ?_⟩
  · show addB [textP [33, 91]] w = [textP [33, 91]] ++ [wordP w]
    exact addB_new w (fun x e => by
      have : some (textP [33, 91]) = some x := e
      cases this; rfl)
  · show 0 + 2 + w.length = _
    omega
theorem spc_ld {l : List UInt8} (h : ∀ b t, l = b :: t → ldB b = true ∨ b = 41) (e : Bool) : spcN false e l = 0 := by
  cases l with
  | nil => rfl
  | cons b t =>
    have hb : b.toNat ≠ 32 ∧ b.toNat ≠ 9 ∧ b.toNat ≠ 10 := by
      rcases h b t rfl with h | h
      · have := ldn_facts h; omega
      · subst h; decide
    unfold spcN
    rw [if_neg (by omega), if_neg (by omega)]
/-- A destination of letters and digits in ( and ). -/
theorem inl_word {d : List UInt8} (hd : ∀ x ∈ d, ldB x = true) : inlB (40 :: (d ++ [41])) = true ∧ inlN (40 :: (d ++ [41])) = d.length + 2 ∧ inlD (40 :: (d ++ [41])) = d ∧ inlT (40 :: (d ++ [41])) = [] := by
  obtain ⟨h1, h2, h3⟩ := dst_shut d hd
  have ha : inlA (40 :: (d ++ [41])) = 1 := by
    unfold inlA
    rw [show (40 :: (d ++ [41])).drop 1 = d ++ [41] from rfl, spc_ld (fun b t e => by
      cases d with
      | nil => simp at e; exact .inr e.1.symm
      | cons x y => simp at e; exact .inl (hd b (by rw [← e.1]; simp)))]
  have hm : inlM (40 :: (d ++ [41])) = d.length + 1 := by
    unfold inlM
    rw [ha, show (40 :: (d ++ [41])).drop 1 = d ++ [41] from rfl, h2]; omega
  have hdr : (40 :: (d ++ [41])).drop (d.length + 1) = [41] := by
    rw [List.drop_succ_cons, List.drop_left]
  have hs0 : spcN false false [41] = 0 := spc_ld (fun b t e => by simp at e; exact .inr e.1.symm) false
  have he : inlE (40 :: (d ++ [41])) = d.length + 1 := by
    unfold inlE sptN
    rw [hm, hdr, if_pos hs0]
    try rfl
  have hb : inlB (40 :: (d ++ [41])) = true := by
    unfold inlB
    rw [ha, he, hdr, show (40 :: (d ++ [41])).drop 1 = d ++ [41] from rfl, h1]
    try rfl
  refine ⟨hb, ?_, ?_, ?_⟩
  · unfold inlN
    rw [if_pos hb, he]
  · unfold inlD
    rw [if_pos hb, ha]; exact h3
  · unfold inlT sptT
    rw [if_pos hb, hm, hdr, if_pos hs0]
/-- [s](dest) -/
theorem link_a {d : List UInt8} (hw : ∀ x ∈ w, ldB x = true) (nw : w ≠ []) (hd : ∀ x ∈ d, ldB x = true) : parseI (91 :: (w ++ 93 :: 40 :: (d ++ [41]))) [] = [.mk 7 [] d [] [txtS w]] := by
  generalize hs : 91 :: (w ++ 93 :: 40 :: (d ++ [41])) = s
  obtain ⟨q, h, hl, hb, hde, hp⟩ := open_word (rs := []) hs.symm hw nw
  refine link_end (img := false) h hl hb hde nw ?_
  obtain ⟨h1, h2, h3, h4⟩ := inl_word hd
  have e : s.drop (q.pos + 1) = 40 :: (d ++ [41]) := by rw [← List.drop_drop, h.rest]; rfl
  unfold ldsM
  rw [e, h2, h3, h4, if_pos (by omega)]
  simp
  omega
theorem inl_not (l : List UInt8) (h : hasPrefix l [40] = false) : inlN l = 0 := by
  unfold inlN inlB
  rw [h]; rfl
/-- [s][label] and ![s][label], where the label is defined. -/
theorem ldsM_ref {lb d : List UInt8} {b : Br} (e : s.drop (q.pos + 1) = 91 :: (lb ++ [93])) (hlb : ∀ x ∈ lb, ldB x = true) (nlb : lb ≠ []) (hl : lb.length ≤ 999) : ldsM s [(lb, d, [])] q b = (d, [], lb.length + 3) := by
  obtain ⟨h1, h2⟩ := ldn_lbl lb [] hlb nlb hl
  unfold ldsM
  rw [e, inl_not _ rfl, if_neg (by simp)]
  have hn : nmeL s q b = lb := by
    unfold nmeL
    rw [e, h2, if_neg (by omega), h1]
  have hn2 : nmeN s q = lb.length + 2 := by
    unfold nmeN
    rw [e, h2, if_neg (by omega)]
  rw [hn, hn2]
  unfold fndM fndL
  rw [if_neg nlb, ldn_nrm hlb, if_pos rfl]
  show (d, [], 1 + (lb.length + 2)) = _
  congr 2
  omega
theorem link_b {lb d : List UInt8} (hw : ∀ x ∈ w, ldB x = true) (nw : w ≠ []) (hlb : ∀ x ∈ lb, ldB x = true) (nlb : lb ≠ []) (hll : lb.length ≤ 999) : parseI (91 :: (w ++ 93 :: 91 :: (lb ++ [93]))) [(lb, d, [])] = [.mk 7 [] d [] [txtS w]] := by
  generalize hs : 91 :: (w ++ 93 :: 91 :: (lb ++ [93])) = s
  obtain ⟨q, h, hl, hb, hde, hp⟩ := open_word (rs := [(lb, d, [])]) hs.symm hw nw
  refine link_end (img := false) h hl hb hde nw ?_
  have e : s.drop (q.pos + 1) = 91 :: (lb ++ [93]) := by rw [← List.drop_drop, h.rest]; rfl
  rw [ldsM_ref e hlb nlb hll]
  simp
theorem link_c {lb d : List UInt8} (hw : ∀ x ∈ w, ldB x = true) (nw : w ≠ []) (hlb : ∀ x ∈ lb, ldB x = true) (nlb : lb ≠ []) (hll : lb.length ≤ 999) : parseI (33 :: 91 :: (w ++ 93 :: 91 :: (lb ++ [93]))) [(lb, d, [])] = [.mk 8 [] d [] [txtS w]] := by
  generalize hs : 33 :: 91 :: (w ++ 93 :: 91 :: (lb ++ [93])) = s
  obtain ⟨q, h, hl, hb, hde, hp⟩ := open_image (rs := [(lb, d, [])]) hs.symm hw nw
  refine link_end (img := true) h hl hb hde nw ?_
  have e : s.drop (q.pos + 1) = 91 :: (lb ++ [93]) := by rw [← List.drop_drop, h.rest]; rfl
  rw [ldsM_ref e hlb nlb hll]
  simp
theorem lbl_nil : lblN [] = 0 := by decide
/-- [label], where it is defined. -/
theorem link_e {lb d : List UInt8} (hlb : ∀ x ∈ lb, ldB x = true) (nlb : lb ≠ []) (hll : lb.length ≤ 999) : parseI (91 :: (lb ++ [93])) [(lb, d, [])] = [.mk 7 [] d [] [txtS lb]] := by
  generalize hs : 91 :: (lb ++ [93]) = s
  obtain ⟨q, h, hl, hb, hde, hp⟩ := open_word (rs := [(lb, d, [])]) (r := []) hs.symm hlb nlb
  refine link_end (img := false) h hl hb hde nlb ?_
  have e : s.drop (q.pos + 1) = [] := by rw [← List.drop_drop, h.rest]; rfl
  obtain ⟨h1, h2⟩ := ldn_lbl lb [] hlb nlb hll
  unfold ldsM
  rw [e, inl_not _ rfl, if_neg (by simp)]
  have hn : nmeL s q ⟨0, 0, false⟩ = lb := by
    unfold nmeL btwL
    rw [e, lbl_nil, if_pos rfl]
    show (if 0 + lblN (s.drop 0) = q.pos + 1 then lblT (s.drop 0) else []) = lb
    rw [List.drop_zero, ← hs, h2, h1, if_pos (by omega)]
  have hn2 : nmeN s q = 0 := by
    unfold nmeN
    rw [e, lbl_nil, if_pos rfl]; rfl
  rw [hn, hn2]
  unfold fndM fndL
  rw [if_neg nlb, ldn_nrm hlb, if_pos rfl]
  rfl
/-- Without definitions a ] is a byte as any other one, if no ( stands behind it. -/
theorem lost_step {a : Br} (h : Rch s [] p q (93 :: r)) (hb : q.br = [a]) (hr : hasPrefix r [40] = false) {l : List Pc} {v : List UInt8} (hl : q.list = l ++ [wordP v]) : ∃ q', Rch s [] p q' r ∧ q'.list = l ++ [wordP (v ++ [93])] ∧ q'.br = [] ∧ q'.pos = q.pos + 1 := by
  have e : s.drop (q.pos + 1) = r := by rw [← List.drop_drop, h.rest]; rfl
  have hld : ldsM s [] q a = ([], [], 0) := by
    unfold ldsM
    rw [e, inl_not _ hr, if_neg (by simp)]
    have hf : ∀ n, fndM [] n = none := fun n => by unfold fndM fndL; split <;> rfl
    rw [hf]
  have hg : q.br.getLast? = some a := by rw [hb]; rfl
  have hgl : q.list.getLast? = some (wordP v) := by rw [hl]; exact last_app _ _
  have hB : ∀ dd, byteM s { q with br := [], dead := dd } = { pos := q.pos + 1, list := l ++ [wordP (v ++ [93])], br := [], dead := dd } := fun dd => by
    unfold byteM
    show (match q.list.getLast? with | some x => _ | none => _) = _
    rw [hgl]
    show ({ pos := q.pos + 1, list := q.list.dropLast ++ [(wordP v).set (v ++ (s.drop q.pos).take 1)], br := [], dead := dd } : Ps) = _
    rw [hl, List.dropLast_concat, h.rest]
    rfl
  have hE : ∃ dd, endM s [] q = { pos := q.pos + 1, list := l ++ [wordP (v ++ [93])], br := [], dead := dd } := by
    unfold endM
    rw [hg]
    show ∃ dd, (if a.image = true ∨ q.dead ≤ q.br.length - 1 then _ else _) = _
    have hbd : q.br.dropLast = [] := by rw [hb]; rfl
    by_cases hc : a.image = true ∨ q.dead ≤ q.br.length - 1
    · rw [if_pos hc, hld, if_pos rfl, hbd]
      exact ⟨_, hB _⟩
    · rw [if_neg hc, hbd]
      exact ⟨_, hB _⟩
  obtain ⟨dd, hE⟩ := hE
  exact ⟨_, h.step ((end_step h).trans hE) (by show s.drop (q.pos + 1) = r; exact e), rfl, rfl, rfl⟩
/-- [s][label] without definitions is a text. -/
theorem link_d {lb : List UInt8} (hw : ∀ x ∈ w, ldB x = true) (nw : w ≠ []) (hlb : ∀ x ∈ lb, ldB x = true) (nlb : lb ≠ []) : parseI (91 :: (w ++ 93 :: 91 :: (lb ++ [93]))) [] = [txtS (91 :: (w ++ 93 :: 91 :: (lb ++ [93])))] := by
  generalize hs : 91 :: (w ++ 93 :: 91 :: (lb ++ [93])) = s
  obtain ⟨q, h, hl, hb, _, _⟩ := open_word (rs := []) hs.symm hw nw
  obtain ⟨q1, h1, l1, b1, _⟩ := lost_step (l := [textP [91]]) h hb rfl hl
  have h2 := h1.open1
  have h2' := h2.word (r := [93]) lb nlb (fun c hc => ld_spc (hlb c hc))
  have l2 : addB (q1.list ++ [textP [91]]) lb = (q1.list ++ [textP [91]]) ++ [wordP lb] := addB_new lb (fun x e => by
    rw [last_app] at e
    cases e; rfl)
  obtain ⟨q3, h3, l3, _, _⟩ := lost_step (l := q1.list ++ [textP [91]]) (v := lb) h2' (by show q1.br ++ _ = _; rw [b1]; rfl) rfl l2
  rw [h3.end, l3, l1]
  rw [emM_still (fun x hx => by
    simp at hx
    rcases hx with rfl | rfl | rfl | rfl <;> rfl)]
  unfold spansM
  rw [spans_texts _ _ (fun x hx => by
    simp at hx
    rcases hx with rfl | rfl | rfl | rfl <;> rfl)]
  have e : ([] ++ (([textP [91]] ++ [wordP (w ++ [93])]) ++ [textP [91]] ++ [wordP (lb ++ [93])]).flatMap Pc.text) = s := by
    rw [← hs]
    simp [textP, spanP, wordP]
  rw [e]
  unfold oneT
  rw [if_neg (by rw [← hs]; simp)]
end
end Go.Proofs.YtolpmdicilbpfaaGreatDoor

