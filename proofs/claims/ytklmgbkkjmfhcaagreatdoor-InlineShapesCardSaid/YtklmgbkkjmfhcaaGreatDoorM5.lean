/-
  Texts of the proof, one behind the other: Inm, Inw, Inx, Iwc.
-/
import Derived.Test.YtklmgbkkjmfhcaaGreatDoorM3
import Derived.Test.YtklmgbkkjmfhcaaGreatDoorM4
import Derived.Test.YtklmgbkkjmfhcaaGreatDoorM2
import Derived.Lib.LastIndexLaws
import Derived.Lib.SlTrimSet
import Derived.KernelRfl
/-
  Layer 14, plain: spans, pieces, the emphasis of pieces, the parser of a text. No program in sight.
-/
namespace Go.Proofs.YtklmgbkkjmfhcaaGreatDoor
open Go Go.Lib

/-- A span. -/
inductive Sp where
  | mk (kind : Nat) (text dest title : List UInt8) (kids : List Sp)
def txtS (t : List UInt8) : Sp := .mk 1 t [] [] []
/-- A piece: a span; or a run or a bracket, which are texts till they are found to be more. -/
structure Pc where
  kind : Nat
  text : List UInt8
  dest : List UInt8
  title : List UInt8
  kids : List Sp
  first : Nat
  opens : Bool
  closes : Bool
  single : Bool
instance : Inhabited Pc := ⟨⟨0, [], [], [], [], 0, false, false, false⟩⟩
def Pc.sp (x : Pc) : Sp := .mk x.kind x.text x.dest x.title x.kids
def Pc.set (x : Pc) (t : List UInt8) : Pc := { x with text := t }
def spanP (k : Nat) (t d ti : List UInt8) (kids : List Sp) : Pc := ⟨k, t, d, ti, kids, 0, false, false, false⟩
def textP (t : List UInt8) : Pc := spanP 1 t [] [] []

/-! ### Pieces as spans -/
/-- The texts that l begins with, as one. -/
def joinT : List Pc → List UInt8
  | [] => []
  | x :: l => if x.kind = 1 then x.text ++ joinT l else []
def joinN : List Pc → Nat
  | [] => 0
  | x :: l => if x.kind = 1 then joinN l + 1 else 0
def oneT (t : List UInt8) : List Sp := if t = [] then [] else [txtS t]
def spGo : List UInt8 → List Pc → List Sp
  | t, [] => oneT t
  | t, x :: l => if x.kind = 1 then spGo (t ++ x.text) l else oneT t ++ x.sp :: spGo [] l
def spansM (l : List Pc) : List Sp := spGo [] l
theorem join_le : ∀ l : List Pc, joinN l ≤ l.length
  | [] => Nat.le_refl _
  | x :: l => by
    have := join_le l
    unfold joinN
    split
    · simp only [List.length_cons]; omega
    · exact Nat.zero_le _
theorem spGo_yes {x : Pc} (t : List UInt8) (l : List Pc) (h : x.kind = 1) : spGo t (x :: l) = spGo (t ++ x.text) l := by rw [spGo.eq_def]; exact if_pos h
theorem spGo_no {x : Pc} (t : List UInt8) (l : List Pc) (h : ¬ x.kind = 1) : spGo t (x :: l) = oneT t ++ x.sp :: spGo [] l := by rw [spGo.eq_def]; exact if_neg h
theorem spGo_join : ∀ (l : List Pc) (t : List UInt8), spGo t l = oneT (t ++ joinT l) ++ spGo [] (l.drop (joinN l))
  | [], t => by simp [spGo, joinT, joinN, oneT]
  | x :: l, t => by
    unfold joinT joinN
    by_cases h : x.kind = 1
    · rw [spGo_yes t l h, if_pos h, if_pos h, spGo_join l, List.append_assoc, List.drop_succ_cons]
    · rw [spGo_no t l h, if_neg h, if_neg h, List.append_nil, List.drop_zero, spGo_no [] l h]
      simp [oneT]
theorem spans_nil : spansM [] = [] := rfl
theorem spans_text (l : List Pc) : spansM l = oneT (joinT l) ++ spansM (l.drop (joinN l)) := by
  unfold spansM
  rw [spGo_join, List.nil_append]
theorem spans_other {x : Pc} (l : List Pc) (h : ¬ x.kind = 1) : spansM (x :: l) = x.sp :: spansM l := by
  unfold spansM
  rw [spGo_no [] l h]
  rfl
theorem join_pos {x : Pc} (l : List Pc) (h : x.kind = 1) : joinN (x :: l) = joinN l + 1 := by rw [joinN, if_pos h]

/-! ### Emphasis -/
/-- What one run of a class may close, each one may. -/
def clsM (x : Pc) : Nat := x.first % 3 + (if x.opens then 3 else 0) + (if x.text.headD 0 = 95 then 6 else 0)
theorem cls_lt (x : Pc) : clsM x < 12 := by
  unfold clsM
  have := Nat.mod_lt x.first (show 0 < 3 by decide)
  split <;> split <;> omega
/-- x opens what y closes. -/
def mtcB (x y : Pc) : Bool := x.opens && !x.text.isEmpty && decide (x.text.headD 0 = y.text.headD 0) && fitsB (x.first % 3 : Nat) (y.first % 3 : Nat) x.closes y.opens
def opnGo (l : List Pc) (fr : Nat) (x : Pc) : Nat → Option Nat
  | 0 => none
  | n + 1 => if n < fr then none else if mtcB (l.getD n default) x then some n else opnGo l fr x n
/-- The last run from the place fr on that opens what x closes. -/
def opnM (l : List Pc) (fr : Nat) (x : Pc) : Option Nat := opnGo l fr x l.length
theorem opn_facts {l : List Pc} {fr : Nat} {x : Pc} : ∀ {n o : Nat}, opnGo l fr x n = some o → o < n ∧ fr ≤ o ∧ mtcB (l.getD o default) x = true
  | 0, _, h => by cases h
  | n + 1, o, h => by
    unfold opnGo at h
    split at h
    · cases h
    · split at h
      · cases h; exact ⟨by omega, by omega, by assumption⟩
      · obtain ⟨a, b, c⟩ := opn_facts h
        exact ⟨by omega, b, c⟩
def takesM (o x : Pc) : Nat := if 1 < o.text.length ∧ 1 < x.text.length then 2 else 1
def pairK (o x : Pc) : Nat := if 1 < o.text.length ∧ 1 < x.text.length then 6 else 5
/-- The run at the place o and x make a span of all that stands between. -/
def pairL (l : List Pc) (o : Nat) (x : Pc) : List Pc :=
  l.take o ++ [(l.getD o default).set ((l.getD o default).text.drop (takesM (l.getD o default) x)), spanP (pairK (l.getD o default) x) [] [] [] (spansM (l.drop (o + 1)))]
def pairX (l : List Pc) (o : Nat) (x : Pc) : Pc := x.set (x.text.drop (takesM (l.getD o default) x))
structure Em where
  done : List Pc
  wo : List Nat
def Em.zero : Em := ⟨[], List.replicate 12 0⟩
def clipW (wo : List Nat) (n : Nat) : List Nat := wo.map (min · n)
def emGo : Nat → Em → Pc → Em × Pc
  | 0, e, x => (e, x)
  | f + 1, e, x => if x.closes && !x.text.isEmpty then
      (match opnM e.done (e.wo.getD (clsM x) 0) x with
      | none => (⟨e.done, e.wo.set (clsM x) e.done.length⟩, x)
      | some o => emGo f ⟨pairL e.done o x, clipW e.wo (pairL e.done o x).length⟩ (pairX e.done o x))
    else (e, x)
def emStep (e : Em) (x : Pc) : Em := ⟨(emGo (x.text.length) e x).1.done ++ [(emGo (x.text.length) e x).2], (emGo (x.text.length) e x).1.wo⟩
def emF (l : List Pc) : Em := l.foldl emStep Em.zero
def emM (l : List Pc) : List Pc := (emF l).done

/-! ### The parser -/
structure Br where
  place : Nat
  pos : Nat
  image : Bool
structure Ps where
  pos : Nat
  list : List Pc
  br : List Br
  dead : Nat
def Ps.zero : Ps := ⟨0, [], [], 0⟩
/-- A piece behind the others, and past so many bytes. -/
def Ps.put (p : Ps) (x : Pc) (n : Nat) : Ps := { p with list := p.list ++ [x], pos := p.pos + n }
def byteM (s : List UInt8) (p : Ps) : Ps :=
  match p.list.getLast? with
  | some x => if x.single then { p with list := p.list.dropLast ++ [x.set (x.text ++ (s.drop p.pos).take 1)], pos := p.pos + 1 }
    else { p with list := p.list ++ [⟨1, (s.drop p.pos).take 1, [], [], [], 0, false, false, true⟩], pos := p.pos + 1 }
  | none => { p with list := p.list ++ [⟨1, (s.drop p.pos).take 1, [], [], [], 0, false, false, true⟩], pos := p.pos + 1 }
/-- Past blanks and tabs. -/
def skipM (s : List UInt8) (p : Ps) : Ps := { p with pos := s.length - (trimLeftS (s.drop p.pos) [32, 9]).length }
def hidM (s : List UInt8) (p : Ps) : Ps :=
  if escB (s.drop p.pos) = true then p.put (textP (escT (s.drop p.pos))) 2
  else if hasPrefix (s.drop p.pos) [92, 10] = true then skipM s (p.put (spanP 3 [] [] [] []) 2)
  else byteM s p
def refM (s : List UInt8) (p : Ps) : Ps :=
  if (refL (s.drop p.pos)).2 = 0 then byteM s p else p.put (textP (refB (s.drop p.pos))) (refL (s.drop p.pos)).2
/-- Where the last stretch of just n of the sign 96 begins; 0: there is none. -/
def ltkGo : Nat → List UInt8 → Nat → (Nat → Nat) → Nat → Nat
  | 0, _, _, f => f
  | k + 1, l, at_, f => if l = [] then f else ltkGo k (l.drop (max (cntP rTik l) 1)) (at_ + max (cntP rTik l) 1) (fun c => if c = cntP rTik l then at_ else f c)
def ltkM (s : List UInt8) : Nat → Nat := ltkGo s.length s 0 (fun _ => 0)
def cdcN (s : List UInt8) (p : Ps) : Nat := if ltkM s (cntP rTik (s.drop p.pos)) ≤ p.pos then 0 else codN (s.drop p.pos)
def codM (s : List UInt8) (p : Ps) : Ps :=
  if cdcN s p = 0 then p.put (textP ((s.drop p.pos).take (cntP rTik (s.drop p.pos)))) (cntP rTik (s.drop p.pos))
  else p.put (spanP 4 (codT (s.drop p.pos)) [] [] []) (codN (s.drop p.pos))
/-- What must stand behind raw HTML. -/
def hteL (l : List UInt8) : List UInt8 :=
  if hasPrefix l [60, 33, 45, 45] = true then [45, 45, 62] else if hasPrefix l [60, 63] = true then [63, 62]
  else if hasPrefix l [60, 33, 91, 67, 68, 65, 84, 65, 91] = true then [93, 93, 62] else if hasPrefix l [60, 33] = true then [62] else []
def htcN (s : List UInt8) (p : Ps) : Nat := if hteL (s.drop p.pos) ≠ [] ∧ lastIndex s (hteL (s.drop p.pos)) ≤ (p.pos : Int) then 0 else htmN (s.drop p.pos)
def angM (s : List UInt8) (p : Ps) : Ps :=
  if autN (s.drop p.pos) ≠ 0 then p.put (spanP 7 [] (autA (s.drop p.pos)) [] [txtS (autB (s.drop p.pos))]) (autN (s.drop p.pos))
  else if htcN s p = 0 then byteM s p else p.put (spanP 9 ((s.drop p.pos).take (htcN s p)) [] [] []) (htcN s p)
/-- Whether a run of the sign c opens, and closes. -/
def opB (s : List UInt8) (a b : Nat) (c : UInt8) : Bool := if c = 95 then leanB (clsR (aftL s (b : Int))) (clsR (befL s (a : Int))) && (!leanB (clsR (befL s (a : Int))) (clsR (aftL s (b : Int))) || clsR (befL s (a : Int)) == 2) else leanB (clsR (aftL s (b : Int))) (clsR (befL s (a : Int)))
def clB (s : List UInt8) (a b : Nat) (c : UInt8) : Bool := if c = 95 then leanB (clsR (befL s (a : Int))) (clsR (aftL s (b : Int))) && (!leanB (clsR (aftL s (b : Int))) (clsR (befL s (a : Int))) || clsR (aftL s (b : Int)) == 2) else leanB (clsR (befL s (a : Int))) (clsR (aftL s (b : Int)))
def isC (c : UInt8) (b : UInt8) : Bool := decide (b = c)
def runM (s : List UInt8) (p : Ps) (c : UInt8) : Ps :=
  { p with list := p.list ++ [⟨1, (s.drop p.pos).take (cntP (isC c) (s.drop p.pos)), [], [], [], cntP (isC c) (s.drop p.pos), opB s p.pos (p.pos + cntP (isC c) (s.drop p.pos)) c, clB s p.pos (p.pos + cntP (isC c) (s.drop p.pos)) c, false⟩], pos := p.pos + cntP (isC c) (s.drop p.pos) }
/-- What an LF leaves of the last piece, and the break's kind. -/
def brkL (l : List Pc) : List Pc := match l.getLast? with
  | some x => if x.kind = 1 then l.dropLast ++ [x.set (trimRightS x.text [32])] else l
  | none => l
def brkK (l : List Pc) : Nat := match l.getLast? with
  | some x => if x.kind = 1 ∧ hasSuffix x.text [32, 32] = true then 3 else 2
  | none => 2
def brkM (s : List UInt8) (p : Ps) : Ps := skipM s { p with list := brkL p.list ++ [spanP (brkK p.list) [] [] [] []], pos := p.pos + 1 }
def brS (img : Bool) : List UInt8 := if img then [33, 91] else [91]
def bktM (s : List UInt8) (p : Ps) (img : Bool) : Ps :=
  if hasPrefix (s.drop p.pos) (brS img) = true then { p with list := p.list ++ [textP (brS img)], br := p.br ++ [⟨p.list.length, p.pos + (brS img).length - 1, img⟩], pos := p.pos + (brS img).length } else byteM s p
/-- The label that begins at the bracket and ends at end_. -/
def btwL (s : List UInt8) (a end_ : Nat) : List UInt8 := if a + lblN (s.drop a) = end_ then lblT (s.drop a) else []
def fndM (rs : List Rf) (name : List UInt8) : Option Rf := if name = [] then none else fndL (nrmL name) rs
def nmeL (s : List UInt8) (p : Ps) (b : Br) : List UInt8 := if lblN (s.drop (p.pos + 1)) = 0 then btwL s b.pos (p.pos + 1) else lblT (s.drop (p.pos + 1))
def nmeN (s : List UInt8) (p : Ps) : Nat := if lblN (s.drop (p.pos + 1)) = 0 then (if hasPrefix (s.drop (p.pos + 1)) [91, 93] = true then 2 else 0) else lblN (s.drop (p.pos + 1))
/-- Where what a bracket and the ] make leads, its title, how many bytes it has. -/
def ldsM (s : List UInt8) (rs : List Rf) (p : Ps) (b : Br) : List UInt8 × List UInt8 × Nat :=
  if inlN (s.drop (p.pos + 1)) ≠ 0 then (inlD (s.drop (p.pos + 1)), inlT (s.drop (p.pos + 1)), 1 + inlN (s.drop (p.pos + 1)))
  else match fndM rs (nmeL s p b) with
    | some r => (r.2.1, r.2.2, 1 + nmeN s p)
    | none => ([], [], 0)
def endM (s : List UInt8) (rs : List Rf) (p : Ps) : Ps :=
  match p.br.getLast? with
  | none => byteM s p
  | some b =>
    if b.image = true ∨ p.dead ≤ p.br.length - 1 then
      (if (ldsM s rs p b).2.2 = 0 then byteM s { p with br := p.br.dropLast, dead := min p.dead (p.br.length - 1) }
      else { pos := p.pos + (ldsM s rs p b).2.2, br := p.br.dropLast, dead := if b.image then min p.dead (p.br.length - 1) else p.br.length - 1,
             list := p.list.take b.place ++ [spanP (if b.image then 8 else 7) [] (ldsM s rs p b).1 (ldsM s rs p b).2.1 (spansM (emM (p.list.drop (b.place + 1))))] })
    else byteM s { p with br := p.br.dropLast, dead := min p.dead (p.br.length - 1) }
def takeI (s : List UInt8) (rs : List Rf) (p : Ps) : Ps :=
  match (s.drop p.pos).headD 0 with
  | 92 => hidM s p
  | 96 => codM s p
  | 38 => refM s p
  | 60 => angM s p
  | 33 => bktM s p true
  | 91 => bktM s p false
  | 93 => endM s rs p
  | 42 => runM s p 42
  | 95 => runM s p 95
  | 10 => brkM s p
  | _ => byteM s p
def goI : Nat → List UInt8 → List Rf → Ps → Ps
  | 0, _, _, p => p
  | f + 1, s, rs, p => if p.pos < s.length then goI f s rs (takeI s rs p) else p
def parseI (s : List UInt8) (rs : List Rf) : List Sp := spansM (emM (goI s.length s rs Ps.zero).list)

/-! ### The document's examples -/
/-- a *b **c*** [d](/u)\ e, with an LF behind the \. -/
def inA : List UInt8 := [97, 32, 42, 98, 32, 42, 42, 99, 42, 42, 42, 32, 91, 100, 93, 40, 47, 117, 41, 92, 10, 101]
def inB : List UInt8 := [33, 91, 120, 93, 91, 114, 93]
theorem parse_inA : parseI inA [] = [txtS [97, 32], .mk 5 [] [] [] [txtS [98, 32], .mk 6 [] [] [] [txtS [99]]], txtS [32], .mk 7 [] [47, 117] [] [txtS [100]], .mk 3 [] [] [] [], txtS [101]] := by kernel_rfl
theorem parse_inB : parseI inB [([114], [47, 105], [116])] = [.mk 8 [] [47, 105] [116] [txtS [120]]] := by kernel_rfl
end Go.Proofs.YtklmgbkkjmfhcaaGreatDoor

/-
  Layer 14, plain: how long texts and lists get in emphasis; what always holds of the parser. No program in sight.
-/
namespace Go.Proofs.YtklmgbkkjmfhcaaGreatDoor
open Go Go.Lib

/-! ### Bounds of emphasis -/
def tsum (l : List Pc) : Nat := (l.map (fun x => x.text.length)).sum
theorem tsum_nil : tsum [] = 0 := rfl
theorem tsum_cons (x : Pc) (l : List Pc) : tsum (x :: l) = x.text.length + tsum l := by simp [tsum]
theorem tsum_app (a b : List Pc) : tsum (a ++ b) = tsum a + tsum b := by simp [tsum]
theorem tsum_one (x : Pc) : tsum [x] = x.text.length := by simp [tsum]
theorem tsum_split (l : List Pc) (k : Nat) : tsum l = tsum (l.take k) + tsum (l.drop k) := by rw [← tsum_app, List.take_append_drop]
theorem tsum_at {l : List Pc} {k : Nat} (h : k < l.length) : tsum l = tsum (l.take k) + (l.getD k default).text.length + tsum (l.drop (k + 1)) := by
  rw [tsum_split l k, List.drop_eq_getElem_cons h, tsum_cons, List.getD_eq_getElem?_getD, List.getElem?_eq_getElem h]
  simp; omega
theorem tsum_le_at {l : List Pc} {k : Nat} (h : k < l.length) : (l.getD k default).text.length ≤ tsum l := by have := tsum_at h; omega
theorem join_tsum : ∀ l : List Pc, (joinT l).length ≤ tsum l
  | [] => Nat.le_refl _
  | x :: l => by
    have := join_tsum l
    rw [tsum_cons]
    unfold joinT
    split
    · rw [List.length_append]; omega
    · exact Nat.zero_le _
theorem set_text (x : Pc) (t : List UInt8) : (x.set t).text = t := rfl
theorem takes_le (o x : Pc) (ho : o.text ≠ []) (hx : x.text ≠ []) : 1 ≤ takesM o x ∧ takesM o x ≤ o.text.length ∧ takesM o x ≤ x.text.length := by
  have h1 := List.length_pos_iff.2 ho
  have h2 := List.length_pos_iff.2 hx
  unfold takesM
  split <;> omega
theorem pair_len {l : List Pc} {o : Nat} (h : o < l.length) (x : Pc) : (pairL l o x).length = o + 2 := by unfold pairL; rw [List.length_append, List.length_take]; simp; omega
theorem pair_tsum {l : List Pc} {o : Nat} (h : o < l.length) (x : Pc) : tsum (pairL l o x) ≤ tsum l := by
  have := tsum_at h
  unfold pairL
  rw [tsum_app, tsum_cons, tsum_cons, tsum_nil, set_text, List.length_drop]
  show tsum (l.take o) + (_ + (([] : List UInt8).length + 0)) ≤ _
  rw [List.length_nil]; omega
theorem em_next {f : Nat} {e : Em} {x : Pc} (h : x.closes = true ∧ x.text ≠ []) : emGo (f + 1) e x = (match opnM e.done (e.wo.getD (clsM x) 0) x with
      | none => (⟨e.done, e.wo.set (clsM x) e.done.length⟩, x)
      | some o => emGo f ⟨pairL e.done o x, clipW e.wo (pairL e.done o x).length⟩ (pairX e.done o x)) := by
  have hc : (x.closes && !x.text.isEmpty) = true := by
    obtain ⟨h1, h2⟩ := h
    cases ht : x.text with
    | nil => exact absurd ht h2
    | cons a b => rw [h1]; rfl
  rw [emGo, if_pos hc]
  try rfl
theorem em_stop {f : Nat} {e : Em} {x : Pc} (h : x.closes = false ∨ x.text = []) : emGo f e x = (e, x) := by
  cases f with
  | zero => rfl
  | succ f =>
    rw [emGo, if_neg]
    rcases h with h | h
    · rw [h]; simp
    · rw [h]; simp
theorem opn_text {l : List Pc} {fr o : Nat} {x : Pc} (h : opnM l fr x = some o) : o < l.length ∧ fr ≤ o ∧ (l.getD o default).text ≠ [] ∧ (l.getD o default).opens = true ∧ mtcB (l.getD o default) x = true := by
  obtain ⟨a, b, c⟩ := opn_facts h
  refine ⟨a, b, ?_, ?_, c⟩
  · intro e
    unfold mtcB at c
    rw [e] at c
    simp at c
  · unfold mtcB at c
    simp at c
    exact c.1.1.1
theorem em_fuel : ∀ (f g : Nat) (e : Em) (x : Pc), x.text.length ≤ f → x.text.length ≤ g → emGo f e x = emGo g e x
  | 0, g, e, x, h, _ => by
    have h0 : x.text = [] := List.eq_nil_of_length_eq_zero (by omega)
    rw [em_stop (.inr h0), em_stop (.inr h0)]
  | f + 1, 0, e, x, _, h => by
    have h0 : x.text = [] := List.eq_nil_of_length_eq_zero (by omega)
    rw [em_stop (.inr h0), em_stop (.inr h0)]
  | f + 1, g + 1, e, x, h1, h2 => by
    by_cases hc : x.closes = true ∧ x.text ≠ []
    · rw [em_next hc, em_next hc]
      cases ho : opnM e.done (e.wo.getD (clsM x) 0) x with
      | none => rfl
      | some o =>
        obtain ⟨a, b, c, _, _⟩ := opn_text ho
        have ht := takes_le _ x c hc.2
        refine em_fuel f g _ _ ?_ ?_
        · unfold pairX; rw [set_text, List.length_drop]; omega
        · unfold pairX; rw [set_text, List.length_drop]; omega
    · have h' : x.closes = false ∨ x.text = [] := by
        by_cases hx : x.closes = true
        · exact .inr (Classical.byContradiction fun e => hc ⟨hx, e⟩)
        · exact .inl (by simpa using hx)
      rw [em_stop h', em_stop h']
/-- The emphasis that a run closes. -/
def emRun (e : Em) (x : Pc) : Em × Pc := emGo x.text.length e x
theorem emRun_stop {e : Em} {x : Pc} (h : x.closes = false ∨ x.text = []) : emRun e x = (e, x) := em_stop h
theorem emRun_none {e : Em} {x : Pc} (h : x.closes = true) (ht : x.text ≠ []) (ho : opnM e.done (e.wo.getD (clsM x) 0) x = none) : emRun e x = (⟨e.done, e.wo.set (clsM x) e.done.length⟩, x) := by
  unfold emRun
  obtain ⟨n, hn⟩ : ∃ n, x.text.length = n + 1 := ⟨x.text.length - 1, by have := List.length_pos_iff.2 ht; omega⟩
  rw [hn, em_next ⟨h, ht⟩, ho]
theorem emRun_some {e : Em} {x : Pc} (h : x.closes = true) (ht : x.text ≠ []) {o : Nat} (ho : opnM e.done (e.wo.getD (clsM x) 0) x = some o) : emRun e x = emRun ⟨pairL e.done o x, clipW e.wo (pairL e.done o x).length⟩ (pairX e.done o x) := by
  unfold emRun
  obtain ⟨n, hn⟩ : ∃ n, x.text.length = n + 1 := ⟨x.text.length - 1, by have := List.length_pos_iff.2 ht; omega⟩
  rw [hn, em_next ⟨h, ht⟩, ho]
  obtain ⟨a, b, c, _, _⟩ := opn_text ho
  have htk := takes_le _ x c ht
  refine em_fuel _ _ _ _ ?_ (Nat.le_refl _)
  unfold pairX; rw [set_text, List.length_drop]; omega
theorem emStep_run (e : Em) (x : Pc) : emStep e x = ⟨(emRun e x).1.done ++ [(emRun e x).2], (emRun e x).1.wo⟩ := rfl
/-- What holds of the pieces that are done: not too many, nor too long. -/
structure EmOk (e : Em) (n t : Nat) : Prop where
  len : e.done.length ≤ n
  sum : tsum e.done ≤ t
  wo : e.wo.length = 12
  cap : ∀ i, i < 12 → e.wo.getD i 0 ≤ e.done.length
theorem EmOk.zero : EmOk Em.zero 0 0 := ⟨Nat.le_refl _, Nat.le_refl _, rfl, fun i hi => by
  have : ∀ i, i < 12 → (List.replicate 12 0).getD i 0 = 0 := by decide
  show (List.replicate 12 0).getD i 0 ≤ _
  rw [this i hi]; exact Nat.zero_le _⟩
theorem clip_len (wo : List Nat) (n : Nat) : (clipW wo n).length = wo.length := by unfold clipW; simp
theorem clip_at {wo : List Nat} {n i : Nat} (h : i < wo.length) : (clipW wo n).getD i 0 = min (wo.getD i 0) n := by
  unfold clipW
  rw [List.getD_eq_getElem?_getD, List.getD_eq_getElem?_getD, List.getElem?_map, List.getElem?_eq_getElem h]
  rfl
theorem EmOk.pair {e : Em} {n t : Nat} (h : EmOk e n t) {x : Pc} {o : Nat} (ho : opnM e.done (e.wo.getD (clsM x) 0) x = some o) (hx : x.text ≠ []) :
    EmOk ⟨pairL e.done o x, clipW e.wo (pairL e.done o x).length⟩ (n + 1) t ∧ (pairX e.done o x).text.length + 1 ≤ x.text.length := by
  obtain ⟨a, b, c, _, _⟩ := opn_text ho
  have htk := takes_le _ x c hx
  have h1 := h.len
  refine ⟨⟨?_, Nat.le_trans (pair_tsum a x) h.sum, by rw [clip_len, h.wo], fun i hi => ?_⟩, ?_⟩
  · show (pairL e.done o x).length ≤ n + 1
    rw [pair_len a]; omega
  · rw [clip_at (by rw [h.wo]; exact hi)]
    exact Nat.min_le_right _ _
  · unfold pairX; rw [set_text, List.length_drop]; omega
theorem EmOk.none {e : Em} {n t : Nat} (h : EmOk e n t) (x : Pc) : EmOk ⟨e.done, e.wo.set (clsM x) e.done.length⟩ n t := ⟨h.len, h.sum, by simp [h.wo], fun i hi => by
  show (e.wo.set (clsM x) e.done.length).getD i 0 ≤ e.done.length
  rw [List.getD_eq_getElem?_getD, List.getElem?_set]
  split
  · split
    · exact Nat.le_refl _
    · exact Nat.zero_le _
  · have := h.cap i hi
    rwa [List.getD_eq_getElem?_getD] at this⟩
theorem EmOk.run : ∀ (f : Nat) {e : Em} {n t : Nat} (_ : EmOk e n t) (x : Pc), x.text.length ≤ f → EmOk (emRun e x).1 (n + x.text.length) t ∧ (emRun e x).2.text.length ≤ x.text.length
  | 0, e, n, t, h, x, hf => by
    have h0 : x.text = [] := List.eq_nil_of_length_eq_zero (by omega)
    rw [emRun_stop (.inr h0), h0]
    exact ⟨h, Nat.le_refl _⟩
  | f + 1, e, n, t, h, x, hf => by
    by_cases hc : x.closes = true
    · by_cases ht : x.text = []
      · rw [emRun_stop (.inr ht), ht]
        exact ⟨h, Nat.le_refl _⟩
      · cases ho : opnM e.done (e.wo.getD (clsM x) 0) x with
        | none =>
          rw [emRun_none hc ht ho]
          have k := h.none x
          exact ⟨⟨Nat.le_trans k.len (Nat.le_add_right _ _), k.sum, k.wo, k.cap⟩, Nat.le_refl _⟩
        | some o =>
          obtain ⟨k, hl⟩ := h.pair ho ht
          rw [emRun_some hc ht ho]
          obtain ⟨q, r⟩ := EmOk.run f k (pairX e.done o x) (by omega)
          exact ⟨⟨by have := q.len; omega, q.sum, q.wo, q.cap⟩, by omega⟩
    · rw [emRun_stop (.inl (by simpa using hc))]
      exact ⟨⟨Nat.le_trans h.len (Nat.le_add_right _ _), h.sum, h.wo, h.cap⟩, Nat.le_refl _⟩
theorem EmOk.step {e : Em} {n t : Nat} (h : EmOk e n t) (x : Pc) : EmOk (emStep e x) (n + x.text.length + 1) (t + x.text.length) := by
  obtain ⟨q, r⟩ := EmOk.run _ h x (Nat.le_refl _)
  rw [emStep_run]
  refine ⟨?_, ?_, q.wo, fun i hi => ?_⟩
  · show ((emRun e x).1.done ++ [_]).length ≤ _
    rw [List.length_append, List.length_singleton]; have := q.len; omega
  · show tsum ((emRun e x).1.done ++ [_]) ≤ _
    rw [tsum_app, tsum_one]; have := q.sum; omega
  · have := q.cap i hi
    show _ ≤ ((emRun e x).1.done ++ [_]).length
    rw [List.length_append]; exact Nat.le_trans this (Nat.le_add_right _ _)
theorem emF_snoc (l : List Pc) (x : Pc) : emF (l ++ [x]) = emStep (emF l) x := by unfold emF; rw [List.foldl_append]; rfl
theorem emF_take {l : List Pc} {k : Nat} (h : k < l.length) : emF (l.take (k + 1)) = emStep (emF (l.take k)) (l.getD k default) := by
  rw [List.take_succ_eq_append_getElem h, emF_snoc, List.getD_eq_getElem?_getD, List.getElem?_eq_getElem h]; rfl
theorem tsum_take {l : List Pc} {k : Nat} (h : k < l.length) : tsum (l.take (k + 1)) = tsum (l.take k) + (l.getD k default).text.length := by
  rw [List.take_succ_eq_append_getElem h, tsum_app, tsum_one, List.getD_eq_getElem?_getD, List.getElem?_eq_getElem h]; rfl
theorem emF_ok {l : List Pc} : ∀ k, k ≤ l.length → EmOk (emF (l.take k)) (k + tsum (l.take k)) (tsum (l.take k))
  | 0, _ => by rw [List.take_zero]; exact EmOk.zero
  | k + 1, h => by
    have ih := (emF_ok (l := l) k (by omega)).step (l.getD k default)
    have e := tsum_take (l := l) (k := k) (by omega)
    rw [emF_take (by omega)]
    exact ⟨by have := ih.len; omega, by have := ih.sum; omega, ih.wo, ih.cap⟩
theorem em_ok (l : List Pc) : (emM l).length ≤ l.length + tsum l ∧ tsum (emM l) ≤ tsum l := by
  have := emF_ok (l := l) l.length (Nat.le_refl _)
  rw [List.take_length] at this
  exact ⟨this.len, this.sum⟩

/-! ### The parser -/
structure WfI (s : List UInt8) (p : Ps) : Prop where
  pos : p.pos ≤ s.length
  len : p.list.length ≤ p.pos
  sum : tsum p.list ≤ p.pos
  one : ∀ x, p.list.getLast? = some x → x.single = true → x.text.length ≤ p.pos ∧ (s.take p.pos).drop (p.pos - x.text.length) = x.text ∧ x.kind = 1
  br : ∀ b ∈ p.br, b.place < p.list.length ∧ b.pos < p.pos
  brs : p.br.Pairwise (fun a b => a.place < b.place)
  dead : p.dead ≤ p.br.length
  brl : p.br.length ≤ p.pos
theorem WfI.zero (s : List UInt8) : WfI s Ps.zero := ⟨Nat.zero_le _, Nat.le_refl _, Nat.le_refl _, fun x h => (by simp [Ps.zero] at h), fun b h => (by simp [Ps.zero] at h), (by simp [Ps.zero]), Nat.le_refl _, Nat.le_refl _⟩
theorem last_app (l : List Pc) (x : Pc) : (l ++ [x]).getLast? = some x := by simp
/-- One more piece, that isn't of single bytes. -/
theorem WfI.more {s : List UInt8} {p : Ps} (h : WfI s p) {x : Pc} {n : Nat} (hx : x.single = false) (hn : 1 ≤ n) (ht : x.text.length ≤ n) (hp : p.pos + n ≤ s.length) : WfI s (p.put x n) where
  pos := hp
  len := by show (p.list ++ [x]).length ≤ p.pos + n; rw [List.length_append, List.length_singleton]; have := h.len; omega
  sum := by show tsum (p.list ++ [x]) ≤ p.pos + n; rw [tsum_app, tsum_one]; have := h.sum; omega
  one := fun y hy hs => by
    have e : (p.list ++ [x]).getLast? = some x := last_app _ _
    have : some x = some y := e.symm.trans hy
    cases this
    rw [hx] at hs; cases hs
  br := fun b hb => by
    have := h.br b hb
    show b.place < (p.list ++ [x]).length ∧ b.pos < p.pos + n
    rw [List.length_append, List.length_singleton]; omega
  brs := h.brs
  dead := h.dead
  brl := Nat.le_trans h.brl (Nat.le_add_right _ _)
/-- The place goes on. -/
theorem WfI.on {s : List UInt8} {p : Ps} (h : WfI s p) (n : Nat) (h1 : p.pos ≤ n) (h2 : n ≤ s.length) (h3 : ∀ x, p.list.getLast? = some x → x.single = false) : WfI s { p with pos := n } :=
  ⟨h2, Nat.le_trans h.len h1, Nat.le_trans h.sum h1, fun x hx hs => (by rw [h3 x hx] at hs; cases hs), fun b hb => ⟨(h.br b hb).1, Nat.lt_of_lt_of_le (h.br b hb).2 h1⟩, h.brs, h.dead, Nat.le_trans h.brl h1⟩
theorem trimL_len (l cs : List UInt8) : (trimLeftS l cs).length ≤ l.length := by
  unfold trimLeftS
  exact (List.dropWhile_suffix _).length_le
theorem skip_pos (s : List UInt8) (p : Ps) (h : p.pos ≤ s.length) : p.pos ≤ (skipM s p).pos ∧ (skipM s p).pos ≤ s.length := by
  have := trimL_len (s.drop p.pos) [32, 9]
  rw [List.length_drop] at this
  show p.pos ≤ s.length - _ ∧ s.length - _ ≤ s.length
  omega
theorem take_drop_one (s : List UInt8) (k : Nat) (h : k < s.length) : ∃ c, (s.drop k).take 1 = [c] ∧ s.take (k + 1) = s.take k ++ [c] ∧ s.drop k = c :: s.drop (k + 1) := by
  refine ⟨s[k], ?_, List.take_succ_eq_append_getElem h, List.drop_eq_getElem_cons h⟩
  rw [List.drop_eq_getElem_cons h]; rfl
theorem byte_new (s : List UInt8) (p : Ps) (h : ∀ x, p.list.getLast? = some x → x.single = false) : byteM s p = { p with list := p.list ++ [⟨1, (s.drop p.pos).take 1, [], [], [], 0, false, false, true⟩], pos := p.pos + 1 } := by
  unfold byteM
  cases e : p.list.getLast? with
  | none => rfl
  | some x => simp only [h x e]; rfl
theorem byte_old (s : List UInt8) (p : Ps) {x : Pc} (e : p.list.getLast? = some x) (h : x.single = true) : byteM s p = { p with list := p.list.dropLast ++ [x.set (x.text ++ (s.drop p.pos).take 1)], pos := p.pos + 1 } := by
  unfold byteM
  rw [e]
  simp only [h]; rfl
theorem last_split {l : List Pc} {x : Pc} (h : l.getLast? = some x) : l = l.dropLast ++ [x] := by
  obtain ⟨ys, rfl⟩ := List.getLast?_eq_some_iff.1 h
  simp
theorem WfI.byte {s : List UInt8} {p : Ps} (h : WfI s p) (hp : p.pos < s.length) : WfI s (byteM s p) ∧ (byteM s p).pos = p.pos + 1 := by
  obtain ⟨c, hc, ht, _⟩ := take_drop_one s p.pos hp
  have hlen := h.len
  have hsum := h.sum
  by_cases hs : ∃ x, p.list.getLast? = some x ∧ x.single = true
  · obtain ⟨x, e, hx⟩ := hs
    rw [byte_old s p e hx, hc]
    have hl := last_split e
    obtain ⟨o1, o2, o3⟩ := h.one x e hx
    have hll : p.list.length = p.list.dropLast.length + 1 := by
      conv => lhs; rw [hl]
      simp
    have hts : tsum p.list = tsum p.list.dropLast + x.text.length := by
      conv => lhs; rw [hl]
      rw [tsum_app, tsum_one]
    refine ⟨⟨hp, ?_, ?_, fun y hy hys => ?_, fun b hb => ?_, h.brs, h.dead, Nat.le_trans h.brl (Nat.le_succ _)⟩, rfl⟩
    · show (p.list.dropLast ++ [_]).length ≤ p.pos + 1
      rw [List.length_append, List.length_singleton]; omega
    · show tsum (p.list.dropLast ++ [_]) ≤ p.pos + 1
      rw [tsum_app, tsum_one, set_text, List.length_append, List.length_singleton]; omega
    · have : some (x.set (x.text ++ [c])) = some y := (last_app _ _).symm.trans hy
      cases this
      rw [set_text]
      refine ⟨by show (x.text ++ [c]).length ≤ p.pos + 1; rw [List.length_append, List.length_singleton]; omega, ?_, o3⟩
      show (s.take (p.pos + 1)).drop (p.pos + 1 - (x.text ++ [c]).length) = _
      rw [ht, List.length_append, List.length_singleton, show p.pos + 1 - (x.text.length + 1) = p.pos - x.text.length by omega, List.drop_append_of_le_length (by rw [List.length_take]; omega), o2]
    · have := h.br b hb
      show b.place < (p.list.dropLast ++ [_]).length ∧ b.pos < p.pos + 1
      rw [List.length_append, List.length_singleton]; omega
  · have hn : ∀ x, p.list.getLast? = some x → x.single = false := fun x e => by
      cases hb : x.single with
      | false => rfl
      | true => exact absurd ⟨x, e, hb⟩ hs
    rw [byte_new s p hn, hc]
    refine ⟨⟨hp, ?_, ?_, fun y hy hys => ?_, fun b hb => ?_, h.brs, h.dead, Nat.le_trans h.brl (Nat.le_succ _)⟩, rfl⟩
    · show (p.list ++ [_]).length ≤ p.pos + 1
      rw [List.length_append, List.length_singleton]; omega
    · show tsum (p.list ++ [_]) ≤ p.pos + 1
      rw [tsum_app, tsum_one]
      show _ + [c].length ≤ _
      rw [List.length_singleton]; omega
    · have : some _ = some y := (last_app _ _).symm.trans hy
      cases this
      refine ⟨by show [c].length ≤ p.pos + 1; rw [List.length_singleton]; omega, ?_, rfl⟩
      show (s.take (p.pos + 1)).drop (p.pos + 1 - [c].length) = [c]
      rw [ht, List.length_singleton, show p.pos + 1 - 1 = p.pos by omega, List.drop_append_of_le_length (by rw [List.length_take]; omega), List.drop_eq_nil_of_le (by rw [List.length_take]; omega)]
      rfl
    · have := h.br b hb
      show b.place < (p.list ++ [_]).length ∧ b.pos < p.pos + 1
      rw [List.length_append, List.length_singleton]; omega
theorem WfI.skip {s : List UInt8} {p : Ps} (h : WfI s p) (h3 : ∀ x, p.list.getLast? = some x → x.single = false) : WfI s (skipM s p) := by
  have := skip_pos s p h.pos
  exact h.on _ this.1 this.2 h3
end Go.Proofs.YtklmgbkkjmfhcaaGreatDoor

/-
  Layer 14, plain: what always holds of the parser stays, and it goes on; as far as it goes. No program in sight.
-/
namespace Go.Proofs.YtklmgbkkjmfhcaaGreatDoor
open Go Go.Lib

theorem esc_len {l : List UInt8} (h : escB l = true) : 2 ≤ l.length := by
  unfold escB at h
  simp at h
  omega
theorem escT_len (l : List UInt8) : (escT l).length ≤ 1 := by unfold escT; split <;> simp
theorem escT_one {l : List UInt8} (h : escB l = true) : escT l = [l.getD 1 0] := by unfold escT; rw [if_pos h]
theorem ref_len (l : List UInt8) : (refL l).2 ≤ l.length ∧ (refB l).length ≤ (refL l).2 := by
  unfold refB
  rcases refL_facts l with h | ⟨a, b, c, _, _⟩
  · rw [h]; simp
  · refine ⟨c, ?_⟩
    rw [if_neg (by omega)]
    have := (enc_len ((refL l).1 : Nat)).2
    omega
theorem cd_at : ∀ (m n : Nat) (l : List UInt8), l.length ≤ m → cdE n l ≠ 0 → cdE n l - 1 < l.length ∧ cntP rTik (l.drop (cdE n l - 1)) = n
  | 0, n, l, h, h0 => by
    have : l = [] := List.length_eq_zero_iff.1 (by omega)
    subst this
    exact absurd (cdE_nil n) h0
  | m + 1, n, l, h, h0 => by
    by_cases hl : l = []
    · subst hl; exact absurd (cdE_nil n) h0
    · have hp := List.length_pos_iff.2 hl
      by_cases hn : cntP rTik l = n
      · rw [cdE_hit hl hn]
        exact ⟨by omega, by rw [Nat.sub_self, List.drop_zero]; exact hn⟩
      · rw [cdE_go hl hn] at h0 ⊢
        obtain ⟨k, hk⟩ : ∃ k, max (cntP rTik l) 1 = k := ⟨_, rfl⟩
        rw [hk] at h0 ⊢
        have hk1 : 1 ≤ k := by omega
        by_cases h1 : cdE n (l.drop k) = 0
        · rw [h1] at h0; exact absurd rfl h0
        · obtain ⟨a, b⟩ := cd_at m n (l.drop k) (by rw [List.length_drop]; omega) h1
          rw [List.length_drop] at a
          rw [up_pos _ h1, show cdE n (l.drop k) + k - 1 = k + (cdE n (l.drop k) - 1) by omega, ← List.drop_drop]
          exact ⟨by omega, b⟩
theorem cod_le (l : List UInt8) : codN l ≤ l.length ∧ (codT l).length ≤ codN l := by
  unfold codN codT
  split
  · exact ⟨Nat.zero_le _, Nat.le_refl _⟩
  · next h0 =>
    split
    · exact ⟨Nat.zero_le _, Nat.le_refl _⟩
    · next h1 =>
      obtain ⟨a, b⟩ := cd_at _ (codO l) (l.drop (codO l)) (Nat.le_refl _) h1
      have hc := cntP_le rTik ((l.drop (codO l)).drop (cdE (codO l) (l.drop (codO l)) - 1))
      rw [b, List.length_drop, List.length_drop] at hc
      have ho := cntP_le rTik l
      rw [List.length_drop] at a
      unfold codK
      have ho2 : codO l ≤ l.length := ho
      refine ⟨by omega, ?_⟩
      have ht : ∀ t, (ctT t).length ≤ t.length := fun t => by
        unfold ctT ctU
        split
        · rw [List.length_dropLast, List.length_drop, List.length_map]; omega
        · rw [List.length_map]; exact Nat.le_refl _
      refine Nat.le_trans (ht _) ?_
      rw [List.length_take]
      omega
theorem aut_len (l : List UInt8) : autN l ≤ l.length := by
  unfold autN
  rcases encT_le l with h | h
  · rw [h]
    have : schB [] = false := by decide
    rw [if_neg (by rw [this]; decide)]
    have : adrB [] = false := by decide
    rw [if_neg (by rw [this]; decide)]
    exact Nat.zero_le _
  · split
    · exact h
    · split
      · exact h
      · exact Nat.zero_le _
theorem inl_len (l : List UInt8) : inlN l ≤ l.length := by
  unfold inlN
  split
  · next h =>
    unfold inlB at h
    simp only [Bool.and_eq_true] at h
    have := pre_len h.2
    rw [List.length_drop] at this
    simp only [List.length_cons, List.length_nil] at this
    omega
  · exact Nat.zero_le _
theorem htc_le (s : List UInt8) (p : Ps) : htcN s p ≤ (s.drop p.pos).length := by
  unfold htcN
  split
  · exact Nat.zero_le _
  · exact htmN_le _
theorem brkL_last (l : List Pc) (k : Nat) : ∀ x, (brkL l ++ [spanP k [] [] [] []]).getLast? = some x → x.single = false := fun x h => by
  rw [last_app] at h; cases h; rfl
theorem brk_len (l : List Pc) : (brkL l).length = l.length ∧ tsum (brkL l) ≤ tsum l := by
  unfold brkL
  cases e : l.getLast? with
  | none => exact ⟨rfl, Nat.le_refl _⟩
  | some x =>
    have hl := last_split e
    dsimp only
    split
    · have h1 : l.length = l.dropLast.length + 1 := by
        conv => lhs; rw [hl]
        simp
      have h2 : tsum l = tsum l.dropLast + x.text.length := by
        conv => lhs; rw [hl]
        rw [tsum_app, tsum_one]
      have h3 : (trimRightS x.text [32]).length ≤ x.text.length := by
        unfold trimRightS
        rw [List.length_reverse]
        have := (List.dropWhile_suffix (([32] : List UInt8).contains ·) (l := x.text.reverse)).length_le
        rwa [List.length_reverse] at this
      refine ⟨by rw [List.length_append, List.length_singleton]; omega, ?_⟩
      rw [tsum_app, tsum_one, set_text]; omega
    · exact ⟨rfl, Nat.le_refl _⟩
theorem brS_len (i : Bool) : 1 ≤ (brS i).length := by cases i <;> decide
section
variable {s : List UInt8} {rs : List Rf} {p : Ps}
def Onward (s : List UInt8) (p q : Ps) : Prop := WfI s q ∧ p.pos < q.pos
theorem WfI.byte' (h : WfI s p) (hp : p.pos < s.length) : Onward s p (byteM s p) := ⟨(h.byte hp).1, by rw [(h.byte hp).2]; omega⟩
theorem WfI.hid (h : WfI s p) (hp : p.pos < s.length) : Onward s p (hidM s p) := by
  unfold hidM
  split
  · next he =>
    have h1 := esc_len he
    rw [List.length_drop] at h1
    refine ⟨h.more rfl (by omega) (Nat.le_trans (escT_len _) (by omega)) (by omega), ?_⟩
    show p.pos < p.pos + 2
    omega
  · split
    · next he =>
      have h1 := pre_len he
      rw [List.length_drop] at h1
      have h2 : WfI s (p.put (spanP 3 [] [] [] []) 2) := h.more rfl (by omega) (Nat.zero_le _) (by simp at h1; omega)
      refine ⟨h2.skip (fun x e => by
        have : some (spanP 3 [] [] [] []) = some x := (last_app _ _).symm.trans e
        cases this; rfl), ?_⟩
      have := (skip_pos s _ h2.pos).1
      exact Nat.lt_of_lt_of_le (show p.pos < p.pos + 2 by omega) this
    · exact h.byte' hp
theorem WfI.ref (h : WfI s p) (hp : p.pos < s.length) : Onward s p (refM s p) := by
  unfold refM
  have h1 := ref_len (s.drop p.pos)
  rw [List.length_drop] at h1
  split
  · exact h.byte' hp
  · next h0 =>
    exact ⟨h.more rfl (by omega) h1.2 (by omega), by show p.pos < p.pos + _; omega⟩
theorem WfI.cod (h : WfI s p) (hp : p.pos < s.length) (hc : (s.drop p.pos).headD 0 = 96) : Onward s p (codM s p) := by
  have h0 : 1 ≤ cntP rTik (s.drop p.pos) := by
    obtain ⟨c, _, _, e⟩ := take_drop_one s p.pos hp
    rw [e] at hc ⊢
    have : c = 96 := hc
    subst this
    rw [cntP_yes _ (by decide)]; omega
  have h1 := cntP_le rTik (s.drop p.pos)
  have h2 := cod_le (s.drop p.pos)
  rw [List.length_drop] at h1 h2
  unfold codM
  split
  · exact ⟨h.more rfl h0 (by show ((s.drop p.pos).take _).length ≤ _; rw [List.length_take]; omega) (by omega), by show p.pos < p.pos + _; omega⟩
  · next hn =>
    have h3 : codN (s.drop p.pos) ≠ 0 := by
      unfold cdcN at hn
      split at hn
      · exact absurd rfl hn
      · exact hn
    exact ⟨h.more rfl (by omega) h2.2 (by omega), by show p.pos < p.pos + _; omega⟩
theorem WfI.ang (h : WfI s p) (hp : p.pos < s.length) : Onward s p (angM s p) := by
  have h1 := aut_len (s.drop p.pos)
  have h2 := htc_le s p
  rw [List.length_drop] at h1 h2
  unfold angM
  split
  · exact ⟨h.more rfl (by omega) (Nat.zero_le _) (by omega), by show p.pos < p.pos + _; omega⟩
  · split
    · exact h.byte' hp
    · exact ⟨h.more rfl (by omega) (by show ((s.drop p.pos).take _).length ≤ _; rw [List.length_take]; omega) (by omega), by show p.pos < p.pos + _; omega⟩
theorem WfI.run (h : WfI s p) (hp : p.pos < s.length) (c : UInt8) (hc : (s.drop p.pos).headD 0 = c) : Onward s p (runM s p c) := by
  have h0 : 1 ≤ cntP (isC c) (s.drop p.pos) := by
    obtain ⟨d, _, _, e⟩ := take_drop_one s p.pos hp
    rw [e] at hc ⊢
    have : d = c := hc
    subst this
    rw [cntP_yes _ (by unfold isC; simp)]; omega
  have h1 := cntP_le (isC c) (s.drop p.pos)
  rw [List.length_drop] at h1
  exact ⟨h.more (x := ⟨1, _, [], [], [], _, _, _, false⟩) rfl h0 (by show ((s.drop p.pos).take _).length ≤ _; rw [List.length_take]; omega) (by omega), by show p.pos < p.pos + _; omega⟩
theorem WfI.brk (h : WfI s p) (hp : p.pos < s.length) : Onward s p (brkM s p) := by
  obtain ⟨h1, h2⟩ := brk_len p.list
  have hw : WfI s { p with list := brkL p.list ++ [spanP (brkK p.list) [] [] [] []], pos := p.pos + 1 } := {
    pos := hp
    len := by show (brkL p.list ++ [_]).length ≤ p.pos + 1; rw [List.length_append, List.length_singleton]; have := h.len; omega
    sum := by
      show tsum (brkL p.list ++ [_]) ≤ p.pos + 1
      rw [tsum_app, tsum_one]
      show _ + ([] : List UInt8).length ≤ _
      have := h.sum; rw [List.length_nil]; omega
    one := fun x hx hs => by
      have := brkL_last p.list (brkK p.list) x hx
      rw [this] at hs; cases hs
    br := fun b hb => by
      have := h.br b hb
      show b.place < (brkL p.list ++ [_]).length ∧ b.pos < p.pos + 1
      rw [List.length_append, List.length_singleton]; omega
    brs := h.brs
    dead := h.dead
    brl := Nat.le_trans h.brl (Nat.le_succ _) }
  refine ⟨hw.skip (brkL_last _ _), ?_⟩
  have := (skip_pos s _ hw.pos).1
  exact Nat.lt_of_lt_of_le (show p.pos < p.pos + 1 by omega) this
theorem WfI.bkt (h : WfI s p) (hp : p.pos < s.length) (i : Bool) : Onward s p (bktM s p i) := by
  unfold bktM
  split
  · next he =>
    have h1 := pre_len he
    have h2 := brS_len i
    rw [List.length_drop] at h1
    refine ⟨⟨by show p.pos + _ ≤ _; omega, ?_, ?_, fun x hx hs => ?_, fun b hb => ?_, ?_, ?_, ?_⟩, by show p.pos < p.pos + _; omega⟩
    · show (p.list ++ [_]).length ≤ p.pos + _
      rw [List.length_append, List.length_singleton]; have := h.len; omega
    · show tsum (p.list ++ [_]) ≤ p.pos + _
      rw [tsum_app, tsum_one]
      show _ + (brS i).length ≤ _
      have := h.sum; omega
    · have : some (textP (brS i)) = some x := (last_app _ _).symm.trans hx
      cases this; cases hs
    · show b.place < (p.list ++ [_]).length ∧ b.pos < p.pos + _
      rw [List.length_append, List.length_singleton]
      rcases List.mem_append.1 hb with hb | hb
      · have := h.br b hb; omega
      · rw [List.mem_singleton] at hb
        subst hb
        show p.list.length < p.list.length + 1 ∧ p.pos + (brS i).length - 1 < p.pos + (brS i).length
        omega
    · show (p.br ++ [_]).Pairwise _
      refine List.pairwise_append.2 ⟨h.brs, List.pairwise_singleton _ _, fun a ha b hb => ?_⟩
      rw [List.mem_singleton] at hb
      subst hb
      exact (h.br a ha).1
    · show p.dead ≤ (p.br ++ [_]).length
      rw [List.length_append]; exact Nat.le_trans h.dead (Nat.le_add_right _ _)
    · show (p.br ++ [_]).length ≤ p.pos + _
      rw [List.length_append, List.length_singleton]; have := h.brl; omega
  · exact h.byte' hp
theorem mem_dropLast {α : Type} {l : List α} {a : α} (h : a ∈ l.dropLast) : a ∈ l := List.dropLast_subset l h
theorem WfI.pop (h : WfI s p) : WfI s { p with br := p.br.dropLast, dead := min p.dead (p.br.length - 1) } :=
  ⟨h.pos, h.len, h.sum, h.one, fun b hb => h.br b (mem_dropLast hb), h.brs.sublist (List.dropLast_sublist _), by show min _ _ ≤ (p.br.dropLast).length; rw [List.length_dropLast]; omega, by show (p.br.dropLast).length ≤ p.pos; rw [List.length_dropLast]; have := h.brl; omega⟩
theorem lds_le (b : Br) (hp : p.pos < s.length) : p.pos + (ldsM s rs p b).2.2 ≤ s.length := by
  have h1 := inl_len (s.drop (p.pos + 1))
  have h2 := (lbl_le (s.drop (p.pos + 1))).2
  rw [List.length_drop] at h1 h2
  unfold ldsM
  split
  · show p.pos + (1 + inlN _) ≤ _; omega
  · split
    · show p.pos + (1 + nmeN s p) ≤ _
      unfold nmeN
      split
      · split
        · next h => have := pre_len h; rw [List.length_drop] at this; simp at this; omega
        · omega
      · omega
    · show p.pos + 0 ≤ _; omega
theorem WfI.fin (h : WfI s p) (hp : p.pos < s.length) : Onward s p (endM s rs p) := by
  unfold endM
  cases e : p.br.getLast? with
  | none => exact h.byte' hp
  | some b =>
    have hb : b ∈ p.br := by
      obtain ⟨ys, e2⟩ := List.getLast?_eq_some_iff.1 e
      rw [e2]; simp
    have hbr := h.br b hb
    have hl := lds_le (rs := rs) b hp
    dsimp only
    split
    · split
      · exact h.pop.byte' hp
      · next h0 =>
        obtain ⟨ys, e2⟩ := List.getLast?_eq_some_iff.1 e
        have hys : p.br.dropLast = ys := by rw [e2]; simp
        have hpw := h.brs
        rw [e2] at hpw
        have hlt : ∀ a ∈ ys, a.place < b.place := fun a ha => (List.pairwise_append.1 hpw).2.2 a ha b (by simp)
        have htk : (p.list.take b.place).length = b.place := by rw [List.length_take]; omega
        have hsp := tsum_split p.list b.place
        have hlen := h.len
        have hsum := h.sum
        refine ⟨⟨hl, ?_, ?_, fun x hx hs => ?_, fun a ha => ?_, ?_, ?_, ?_⟩, by show p.pos < p.pos + _; omega⟩
        · show (p.list.take b.place ++ [_]).length ≤ p.pos + _
          rw [List.length_append, List.length_singleton, htk]; omega
        · show tsum (p.list.take b.place ++ [_]) ≤ p.pos + _
          rw [tsum_app, tsum_one]
          show _ + ([] : List UInt8).length ≤ _
          rw [List.length_nil]; omega
        · have : some (spanP _ _ _ _ _) = some x := (last_app _ _).symm.trans hx
          cases this; cases hs
        · show a.place < (p.list.take b.place ++ [_]).length ∧ a.pos < p.pos + _
          rw [List.length_append, List.length_singleton, htk]
          have h1 := hlt a (by rw [← hys]; exact ha)
          have h2 := h.br a (mem_dropLast ha)
          omega
        · exact h.brs.sublist (List.dropLast_sublist _)
        · show (if b.image then min p.dead (p.br.length - 1) else p.br.length - 1) ≤ (p.br.dropLast).length
          rw [List.length_dropLast]; split <;> omega
        · show (p.br.dropLast).length ≤ p.pos + _
          rw [List.length_dropLast]; have := h.brl; omega
    · exact h.pop.byte' hp
theorem WfI.take (h : WfI s p) (hp : p.pos < s.length) : Onward s p (takeI s rs p) := by
  unfold takeI
  split
  · exact h.hid hp
  · next e => exact h.cod hp e
  · exact h.ref hp
  · exact h.ang hp
  · exact h.bkt hp true
  · exact h.bkt hp false
  · exact h.fin hp
  · next e => exact h.run hp 42 e
  · next e => exact h.run hp 95 e
  · exact h.brk hp
  · exact h.byte' hp
theorem go_stop {f : Nat} (h : s.length ≤ p.pos) : goI f s rs p = p := by
  cases f with
  | zero => rfl
  | succ f => rw [goI, if_neg (by omega)]
theorem go_fuel : ∀ (f g : Nat) {p : Ps}, WfI s p → s.length ≤ p.pos + f → s.length ≤ p.pos + g → goI f s rs p = goI g s rs p
  | 0, g, p, _, h1, _ => by rw [go_stop (by omega), go_stop (by omega)]
  | f + 1, 0, p, _, _, h2 => by rw [go_stop (by omega), go_stop (by omega)]
  | f + 1, g + 1, p, w, h1, h2 => by
    rw [goI, goI]
    by_cases hp : p.pos < s.length
    · rw [if_pos hp, if_pos hp]
      obtain ⟨w', hlt⟩ := w.take (rs := rs) hp
      exact go_fuel f g w' (by omega) (by omega)
    · rw [if_neg hp, if_neg hp]
/-- All that is left. -/
def goA (s : List UInt8) (rs : List Rf) (p : Ps) : Ps := goI s.length s rs p
theorem goA_stop (h : s.length ≤ p.pos) : goA s rs p = p := go_stop h
theorem goA_step (w : WfI s p) (hp : p.pos < s.length) : goA s rs p = goA s rs (takeI s rs p) := by
  unfold goA
  obtain ⟨n, hn⟩ : ∃ n, s.length = n + 1 := ⟨s.length - 1, by omega⟩
  obtain ⟨w', hlt⟩ := w.take (rs := rs) hp
  rw [hn, goI, if_pos hp]
  exact go_fuel n (n + 1) w' (by omega) (by omega)
theorem goA_wf : ∀ (n : Nat) {p : Ps}, WfI s p → s.length ≤ p.pos + n → WfI s (goA s rs p) ∧ (goA s rs p).pos = s.length
  | 0, p, w, h => by rw [goA_stop (by omega)]; exact ⟨w, Nat.le_antisymm w.pos (by omega)⟩
  | n + 1, p, w, h => by
    by_cases hp : p.pos < s.length
    · obtain ⟨w', hlt⟩ := w.take (rs := rs) hp
      rw [goA_step w hp]
      exact goA_wf n w' (by omega)
    · rw [goA_stop (by omega)]; exact ⟨w, Nat.le_antisymm w.pos (by omega)⟩
theorem parse_eq (s : List UInt8) (rs : List Rf) : parseI s rs = spansM (emM (goA s rs Ps.zero).list) := rfl
end
end Go.Proofs.YtklmgbkkjmfhcaaGreatDoor

/-
  Bounds of a state in the midst of a step: what WfI says but for the last piece's text.
-/
namespace Go.Proofs.YtklmgbkkjmfhcaaGreatDoor
open Go Go.Lib

structure WfC (s : List UInt8) (p : Ps) : Prop where
  pos : p.pos ≤ s.length
  len : p.list.length ≤ p.pos
  sum : tsum p.list ≤ p.pos
  br : ∀ b ∈ p.br, b.place < p.list.length ∧ b.pos < p.pos
  brs : p.br.Pairwise (fun a b => a.place < b.place)
  dead : p.dead ≤ p.br.length
  brl : p.br.length ≤ p.pos
theorem WfI.core {s : List UInt8} {p : Ps} (h : WfI s p) : WfC s p := ⟨h.pos, h.len, h.sum, h.br, h.brs, h.dead, h.brl⟩
theorem WfC.full {s : List UInt8} {p : Ps} (h : WfC s p) (h3 : ∀ x, p.list.getLast? = some x → x.single = false) : WfI s p :=
  ⟨h.pos, h.len, h.sum, fun x hx hs => (by rw [h3 x hx] at hs; cases hs), h.br, h.brs, h.dead, h.brl⟩
/-- One more piece, that isn't of single bytes. -/
theorem WfC.more {s : List UInt8} {p : Ps} (h : WfC s p) {x : Pc} {n : Nat} (hx : x.single = false) (hn : 1 ≤ n) (ht : x.text.length ≤ n) (hp : p.pos + n ≤ s.length) : WfI s (p.put x n) where
  pos := hp
  len := by show (p.list ++ [x]).length ≤ p.pos + n; rw [List.length_append, List.length_singleton]; have := h.len; omega
  sum := by show tsum (p.list ++ [x]) ≤ p.pos + n; rw [tsum_app, tsum_one]; have := h.sum; omega
  one := fun y hy hs => by
    have e : (p.list ++ [x]).getLast? = some x := last_app _ _
    have : some x = some y := e.symm.trans hy
    cases this
    rw [hx] at hs; cases hs
  br := fun b hb => by
    have := h.br b hb
    show b.place < (p.list ++ [x]).length ∧ b.pos < p.pos + n
    rw [List.length_append, List.length_singleton]; omega
  brs := h.brs
  dead := h.dead
  brl := Nat.le_trans h.brl (Nat.le_add_right _ _)
/-- The place goes on. -/
theorem WfC.on {s : List UInt8} {p : Ps} (h : WfC s p) (n : Nat) (h1 : p.pos ≤ n) (h2 : n ≤ s.length) : WfC s { p with pos := n } :=
  ⟨h2, Nat.le_trans h.len h1, Nat.le_trans h.sum h1, fun b hb => ⟨(h.br b hb).1, Nat.lt_of_lt_of_le (h.br b hb).2 h1⟩, h.brs, h.dead, Nat.le_trans h.brl h1⟩
/-- An empty text of single bytes behind the others; the byte is gone past. -/
theorem WfC.fresh {s : List UInt8} {p : Ps} (h : WfC s p) (hp : p.pos < s.length) : WfC s { p with list := p.list ++ [⟨1, [], [], [], [], 0, false, false, true⟩], pos := p.pos + 1 } where
  pos := hp
  len := by show (p.list ++ [_]).length ≤ p.pos + 1; rw [List.length_append, List.length_singleton]; have := h.len; omega
  sum := by show tsum (p.list ++ [_]) ≤ p.pos + 1; rw [tsum_app, tsum_one]; have := h.sum; show _ + 0 ≤ _; omega
  br := fun b hb => by
    have := h.br b hb
    show b.place < (p.list ++ [_]).length ∧ b.pos < p.pos + 1
    rw [List.length_append, List.length_singleton]; omega
  brs := h.brs
  dead := h.dead
  brl := Nat.le_trans h.brl (Nat.le_succ _)
end Go.Proofs.YtklmgbkkjmfhcaaGreatDoor

