/-
  Texts of the proof, one behind the other: Bkm, Bkw, Bkc, Bky.
-/
import Derived.Test.YtfgpephpkibbaaaGreatDoorQ29
import Derived.Test.YtfgpephpkibbaaaGreatDoorQ2
import Derived.Test.YtfgpephpkibbaaaGreatDoorQ4
import Derived.Test.YtfgpephpkibbaaaGreatDoorQ28
/-
  Blocks in the making, plainly: a list of them, the tip, the line; what the parser does with a line. No program in sight.
-/
namespace Go.Proofs.YtfgpephpkibbaaaGreatDoor
open Go Go.Lib

/-! ### A line -/
/-- What is left of a line: its bytes, the column, what is left of a tab; how many columns of blanks come, and what behind them. -/
structure Ln where
  rem : List UInt8
  c : Nat
  f : Nat
  ind : Nat
  next : List UInt8
def lookM (l : Ln) : Ln := { l with ind := indL l.c l.f l.rem, next := nextL l.rem }
def newLn (t : List UInt8) : Ln := lookM ⟨t, 0, 0, 0, []⟩
def skipBM (l : Ln) (n : Nat) : Ln := { l with rem := l.rem.drop (skipL n l.c l.f l.rem).1, c := (skipL n l.c l.f l.rem).2.1, f := (skipL n l.c l.f l.rem).2.2, ind := l.ind - n }
def hopM (l : Ln) (n : Nat) : Ln := { l with rem := l.rem.drop (movL n l.rem).length, c := l.c + (movL n l.rem).length }
def moveM (l : Ln) (n : Nat) : Ln := lookM (hopM (skipBM l l.ind) n)
def lrestM (l : Ln) : List UInt8 := restL l.f l.rem
def pastIndM (l : Ln) (n : Nat) : Ln × Bool := if l.ind < n then (l, false) else (skipBM l n, true)
def quoteB (l : Ln) : Bool := decide (l.ind < 4) && hasPrefix l.next [62]
def pastQuoteM (l : Ln) : Ln × Bool := if quoteB l then (skipBM (moveM l 1) 1, true) else (l, false)
/-- Of the blanks behind a mark so many belong to it. -/
def markB (l : Ln) : Nat := if 4 < l.ind ∨ l.next = [] then 1 else l.ind
def pastMarkM (l : Ln) (n : Nat) : Ln × Nat := (skipBM (moveM l n) (markB (moveM l n)), l.ind + n + markB (moveM l n))

/-! ### Blocks -/
structure Nd where
  kind : Nat
  level : Nat
  ord : Bool
  start : Nat
  mark : Nat
  tight : Bool
  info : List UInt8
  up : Int
  last : Int
  ahead : Int
  depth : Nat
  text : List UInt8
  indent : Nat
  fence : UInt8
  count : Nat
  html : Nat
  be : Bool
def blkN (k : Nat) : Nd := ⟨k, 0, false, 0, 0, false, [], -1, -1, -1, 0, [], 0, 0, 0, 0, false⟩
def gN (l : List Nd) (i : Nat) : Nd := l.getD i (blkN 1)
structure St where
  list : List Nd
  tip : Nat
  refs : List Rf
  line : Ln
  known : Nat
  deep : Bool
def St.nd (s : St) (i : Nat) : Nd := gN s.list i
def St.put (s : St) (i : Nat) (n : Nd) : St := { s with list := s.list.set i n }
def holdsB (a b : Nat) : Bool := if a = 1 ∨ a = 2 ∨ a = 4 then !decide (b = 4) else if a = 3 then decide (b = 4) else false
/-- A text of lines without the blank ones at its end. -/
def wblE (l : List UInt8) : Nat := ((l.reverse.dropWhile ws).reverse).length
def wblL (l : List UInt8) : List UInt8 := l.take (wblE l + (indexByte (l.drop (wblE l)) 10 + 1).toNat)

/-! Does a block end with a blank line? Is a list tight? -/
def endsGo : Nat → List Nd → Int → Bool
  | 0, _, _ => false
  | n + 1, l, i => if i = -1 then false else if (gN l i.toNat).be then true else if (gN l i.toNat).kind ≠ 3 ∧ (gN l i.toNat).kind ≠ 4 then false else endsGo n l (gN l i.toNat).last
def endsM (l : List Nd) (i : Int) : Bool := endsGo l.length l i
def tkGo : Nat → List Nd → Int → Int → Bool
  | 0, _, _, _ => true
  | n + 1, l, a, i => if i = -1 then true else if i ≠ a ∧ endsM l i = true then false else tkGo n l a (gN l i.toNat).ahead
def tkM (l : List Nd) (i : Int) : Bool := tkGo l.length l i i
def tiGo : Nat → List Nd → Int → Int → Bool
  | 0, _, _, _ => true
  | n + 1, l, a, i => if i = -1 then true else if i ≠ a ∧ endsM l i = true then false else if tkM l (gN l i.toNat).last = false then false else tiGo n l a (gN l i.toNat).ahead
def tightM (l : List Nd) (i : Nat) : Bool := tiGo l.length l (gN l i).last (gN l i).last

/-! To close. -/
def defineM (s : St) (i : Nat) : St := { s with refs := s.refs ++ dfsL (s.nd i).text, list := s.list.set i { s.nd i with text := trimL (dfrL (s.nd i).text) } }
def closeParaM (s : St) (i : Nat) : St :=
  if ((defineM s i).nd i).text = [] then (defineM s i).put ((defineM s i).nd i).up.toNat { (defineM s i).nd ((defineM s i).nd i).up.toNat with last := ((defineM s i).nd i).ahead } else defineM s i
def closedM (s : St) (i : Nat) : St :=
  if (s.nd i).kind = 5 then closeParaM s i
  else if (s.nd i).kind = 7 then (if (s.nd i).fence = 0 then s.put i { s.nd i with text := wblL (s.nd i).text } else s)
  else if (s.nd i).kind = 8 then s.put i { s.nd i with text := wblL (s.nd i).text }
  else if (s.nd i).kind = 3 then s.put i { s.nd i with tight := tightM s.list i }
  else s
def closeM (s : St) : St := { closedM s s.tip with tip := (s.nd s.tip).up.toNat }
def cwGo : Nat → St → Nat → St
  | 0, s, _ => s
  | n + 1, s, i => if s.tip = i then s else cwGo n (closeM s) i
def cwM (s : St) (i : Nat) : St := cwGo s.tip s i

/-! To add. -/
def addGo : Nat → St → Nat → St
  | 0, s, _ => s
  | n + 1, s, k => if holdsB (s.nd s.tip).kind k then s else addGo n (closeM s) k
def pushM (s : St) (b : Nd) : St :=
  { s with
    list := s.list.set s.tip { s.nd s.tip with last := s.list.length } ++ [{ b with up := s.tip, last := -1, ahead := (s.nd s.tip).last, depth := (s.nd s.tip).depth + 1 }]
    tip := s.list.length
    deep := s.deep || decide (100 < (s.nd s.tip).depth + 1) }
def addM (s : St) (b : Nd) : St := pushM (addGo s.tip s b.kind) b
def addInM (s : St) (i : Nat) (b : Nd) : St := addM (cwM s i) b

/-! What goes on. -/
def endsFenceM (s : St) (i : Nat) : Bool := !decide ((s.nd i).fence = 0) && decide (s.line.ind < 4) && stretchL (s.nd i).fence (max ((s.nd i).count : Int) 3) s.line.next
def itemOnM (s : St) (i : Nat) : Ln × Bool := if s.line.next = [] then (skipBM s.line s.line.ind, !decide ((s.nd i).last = -1)) else pastIndM s.line (s.nd i).indent
def codeOnM (s : St) (i : Nat) : Ln × Bool := if (s.nd i).fence ≠ 0 then (skipBM s.line (s.nd i).indent, true) else if s.line.next = [] then (skipBM s.line 4, true) else pastIndM s.line 4
def goesOnM (s : St) (i : Nat) : Ln × Bool :=
  if (s.nd i).kind = 2 then pastQuoteM s.line
  else if (s.nd i).kind = 3 then (s.line, true)
  else if (s.nd i).kind = 4 then itemOnM s i
  else if (s.nd i).kind = 7 then codeOnM s i
  else if (s.nd i).kind = 8 then (s.line, decide ((s.nd i).html < 6) || !decide (s.line.next = []))
  else if (s.nd i).kind = 5 then (s.line, !decide (s.line.next = []))
  else (s.line, false)
def St.atL (s : St) (l : Ln) : St := { s with line := l }
def matchGo : Nat → St → Nat → St × Nat × Bool
  | 0, s, i => (s, i, false)
  | n + 1, s, i => if i = s.tip then (s, i, false)
    else if endsFenceM s (s.nd i).last.toNat then (closeM s, i, true)
    else if (goesOnM s (s.nd i).last.toNat).2 then matchGo n (s.atL (goesOnM s (s.nd i).last.toNat).1) (s.nd i).last.toNat
    else (s.atL (goesOnM s (s.nd i).last.toNat).1, i, false)
def matchedM (s : St) : St × Nat × Bool := matchGo s.list.length s 0

/-! What begins. -/
def bCodeM (s : St) (i : Nat) : St × Nat := if (s.nd s.tip).kind = 5 then (s, 0) else (addInM (s.atL (skipBM s.line 4)) i (blkN 7), 2)
def bHeadM (s : St) (i : Nat) : St := addInM s i { blkN 6 with level := headN s.line.next, text := headL s.line.next }
def fenS (l : List UInt8) : UInt8 := if fenB l then l.headD 0 else 0
def bFenceM (s : St) (i : Nat) : St := addInM s i { blkN 7 with info := fenT s.line.next, fence := fenS s.line.next, count := fenN s.line.next, indent := s.line.ind }
def elemB (l : List UInt8) : Bool := !decide (tagN l = 0) && blankL (l.drop (tagN l))
def htmKM (s : St) : Nat := if htmlL s.line.next = 0 then (if !decide ((s.nd s.tip).kind = 5) && elemB s.line.next then 7 else 0) else htmlL s.line.next
def bHtmlM (s : St) (i : Nat) : St := addInM s i { blkN 8 with html := htmKM s }
def bUnderM (s : St) (i : Nat) : St × Bool :=
  if underL s.line.next = 0 ∨ (s.nd i).kind ≠ 5 then (s, false)
  else if ((defineM s i).nd i).text = [] then (defineM s i, false)
  else ((defineM s i).put i { (defineM s i).nd i with kind := 6, level := underL s.line.next }, true)
/-- May an item of that mark, with so much behind it, begin within a paragraph? -/
def mayB (sg : Bool × Nat × Nat × Nat) (l : List UInt8) : Bool := !blankL l && (!sg.1 || decide (sg.2.1 = 1))
def takesB (s : St) (sg : Bool × Nat × Nat × Nat) : Bool := decide ((s.nd s.tip).kind = 3) && decide ((s.nd s.tip).ord = sg.1) && decide ((s.nd s.tip).mark = sg.2.2.1)
def listM (s : St) (sg : Bool × Nat × Nat × Nat) : St := if takesB s sg then s else addM s { blkN 3 with ord := sg.1, start := sg.2.1, mark := sg.2.2.1 }
def itemB (s : St) (i : Nat) : Bool := lstB s.line.next && !(decide ((s.nd i).kind = 5) && !mayB (lstL s.line.next) (s.line.next.drop (lstL s.line.next).2.2.2))
def inItemM (s : St) (n : Nat) : St := (s.put s.tip { s.nd s.tip with indent := (pastMarkM s.line n).2 }).atL (pastMarkM s.line n).1
def bItemM (s : St) (i : Nat) : St × Bool :=
  if itemB s i then (inItemM (addM (listM (cwM s i) (lstL s.line.next)) (blkN 4)) (lstL s.line.next).2.2.2, true) else (s, false)
def bRestM (s : St) (i : Nat) : St × Nat :=
  if ruleL s.line.next then (addInM s i (blkN 9), 3) else if (bItemM s i).2 then ((bItemM s i).1, 1) else (s, 0)
def beginM (s : St) (i : Nat) : St × Nat :=
  if s.line.next = [] then (s, 0)
  else if 4 ≤ s.line.ind then bCodeM s i
  else if (pastQuoteM s.line).2 then (addInM (s.atL (pastQuoteM s.line).1) i (blkN 2), 1)
  else if headN s.line.next ≠ 0 then (bHeadM s i, 3)
  else if fenN s.line.next ≠ 0 then (bFenceM s i, 3)
  else if htmKM s ≠ 0 then (bHtmlM s i, 2)
  else if (bUnderM s i).2 then ((bUnderM s i).1, 3)
  else bRestM (bUnderM s i).1 i
def begunGo : Nat → St → Nat → St × Nat × Nat
  | 0, s, i => (s, i, 0)
  | n + 1, s, i => if (beginM s i).2 = 0 then ((beginM s i).1, i, 0)
    else if (beginM s i).2 ≠ 1 ∨ (beginM s i).1.deep = true then ((beginM s i).1, (beginM s i).1.tip, (beginM s i).2)
    else begunGo n (beginM s i).1 (beginM s i).1.tip
def begunM (s : St) (i : Nat) : St × Nat × Nat := if (s.nd i).kind = 7 ∨ (s.nd i).kind = 8 then (s, i, 2) else begunGo (s.line.rem.length + 1) s i

/-! The rest. -/
def putM (s : St) (i : Nat) : St := s.put i { s.nd i with text := (s.nd i).text ++ lrestM s.line ++ [10] }
def fullB (s : St) (i : Nat) : Bool := if (s.nd i).kind = 2 then true else if (s.nd i).kind = 7 then !decide ((s.nd i).fence = 0) else if (s.nd i).kind = 4 then decide (s.known ≤ i) else false
def ebGo : Nat → List Nd → Int → Bool → List Nd
  | 0, l, _, _ => l
  | n + 1, l, i, b => if i = -1 then l else ebGo n (l.set i.toNat { gN l i.toNat with be := b }) (gN l i.toNat).up b
def ebLast (s : St) (i : Nat) : List Nd := if s.line.next = [] ∧ (s.nd i).last ≠ -1 then s.list.set (s.nd i).last.toNat { s.nd (s.nd i).last.toNat with be := true } else s.list
def endBlankM (s : St) (i : Nat) : St := { s with list := ebGo s.list.length (ebLast s i) i (decide (s.line.next = []) && !fullB s i) }
def fillM (s : St) (i : Nat) : St :=
  if (s.nd i).kind = 7 then putM s i
  else if (s.nd i).kind = 8 then (if htmlEndL ((s.nd i).html : Int) (lrestM s.line) then closeM (putM s i) else putM s i)
  else if s.line.next = [] then s else putM (addM s (blkN 5)) (addM s (blkN 5)).tip
def restM (s : St) (i what : Nat) : St :=
  if what = 0 then
    (if (s.nd s.tip).kind = 5 ∧ s.line.next ≠ [] then putM (s.atL (skipBM s.line s.line.ind)) s.tip
     else fillM (endBlankM (cwM (s.atL (skipBM s.line s.line.ind)) i) i) i)
  else if what ≠ 3 then fillM (endBlankM (cwM s i) i) i else endBlankM (cwM s i) i
def startM (s : St) (t : List UInt8) : St := { s with line := newLn t, known := s.list.length }
def lineM (s : St) : St :=
  if (matchedM s).2.2 then (matchedM s).1
  else restM (begunM (matchedM s).1 (matchedM s).2.1).1 (begunM (matchedM s).1 (matchedM s).2.1).2.1 (begunM (matchedM s).1 (matchedM s).2.1).2.2
def takeM (s : St) (t : List UInt8) : St := lineM (startM s t)
def st0 : St := ⟨[blkN 1], 0, [], ⟨[], 0, 0, 0, []⟩, 0, false⟩
def runBM : List (List UInt8) → St → Option St
  | [], s => some s
  | t :: ts, s => if (takeM s t).deep then none else runBM ts (takeM s t)

/-! What is told. -/
inductive Tr where
  | mk (kind level : Nat) (ord : Bool) (start mark : Nat) (tight : Bool) (info text : List UInt8) (kids : List Tr)
/-- The blocks in one, the last one first. -/
def chGo : Nat → List Nd → Int → List Nat
  | 0, _, _ => []
  | n + 1, l, i => if i = -1 then [] else i.toNat :: chGo n l (gN l i.toNat).ahead
def kidsM (l : List Nd) (i : Nat) : List Nat := chGo l.length l (gN l i).last
def toldGo : Nat → List Nd → Nat → Tr
  | 0, l, i => .mk (gN l i).kind (gN l i).level (gN l i).ord (gN l i).start (gN l i).mark (gN l i).tight (gN l i).info (gN l i).text []
  | n + 1, l, i => .mk (gN l i).kind (gN l i).level (gN l i).ord (gN l i).start (gN l i).mark (gN l i).tight (gN l i).info (gN l i).text ((kidsM l i).map (toldGo n l)).reverse
def toldM (l : List Nd) (i : Nat) : Tr := toldGo l.length l i
def parseM (t : List UInt8) : Option (Tr × List Rf) := (runBM (linesL t) st0).map fun s => (toldM (cwM s 0).list 0, (cwM s 0).refs)
end Go.Proofs.YtfgpephpkibbaaaGreatDoor

/-
  What the list of blocks keeps: places lead where they may, and the open blocks are the last ones. No program in sight.
-/
namespace Go.Proofs.YtfgpephpkibbaaaGreatDoor
open Go Go.Lib

theorem gN_set (l : List Nd) (i : Nat) (n : Nd) (j : Nat) : gN (l.set i n) j = if j = i ∧ i < l.length then n else gN l j := by
  unfold gN
  rw [List.getD_eq_getElem?_getD, List.getD_eq_getElem?_getD, List.getElem?_set]
  by_cases h : i = j
  · subst h
    by_cases hl : i < l.length
    · simp [hl]
    · simp [hl]
  · rw [if_neg h, if_neg (by omega)]
theorem gN_at {l : List Nd} {i : Nat} (h : i < l.length) (n : Nd) : gN (l.set i n) i = n := by rw [gN_set, if_pos ⟨rfl, h⟩]
theorem gN_ne {l : List Nd} {i j : Nat} (h : j ≠ i) (n : Nd) : gN (l.set i n) j = gN l j := by rw [gN_set, if_neg (by omega)]
theorem gN_app {l : List Nd} {j : Nat} (h : j < l.length) (r : List Nd) : gN (l ++ r) j = gN l j := by
  unfold gN
  rw [List.getD_eq_getElem?_getD, List.getD_eq_getElem?_getD, List.getElem?_append_left h]
theorem gN_new (l : List Nd) (b : Nd) : gN (l ++ [b]) l.length = b := by
  unfold gN
  rw [List.getD_eq_getElem?_getD, List.getElem?_append_right (Nat.le_refl _)]
  simp
theorem gN_out {l : List Nd} {j : Nat} (h : l.length ≤ j) : gN l j = blkN 1 := by
  unfold gN
  rw [List.getD_eq_getElem?_getD, List.getElem?_eq_none h]; rfl

/-- The open blocks, from the tip on. -/
inductive On (l : List Nd) : Nat → Nat → Prop
  | refl (t : Nat) : On l t t
  | step {t a : Nat} : 0 < t → On l (gN l t).up.toNat a → On l t a

structure Wf (l : List Nd) (t : Nat) : Prop where
  tip : t < l.length
  doc : (gN l 0).kind = 1
  up0 : (gN l 0).up = -1
  up : ∀ i, 0 < i → i < l.length → 0 ≤ (gN l i).up ∧ (gN l i).up < i
  last : ∀ i, i < l.length → (gN l i).last = -1 ∨ ((i : Int) < (gN l i).last ∧ (gN l i).last < l.length)
  ahead : ∀ i, i < l.length → (gN l i).ahead = -1 ∨ ((gN l i).up < (gN l i).ahead ∧ (gN l i).ahead < i)
  depth : ∀ i, i < l.length → (gN l i).depth ≤ i
  ind : ∀ i, (gN l i).indent ≤ 1000000
  opn : ∀ x, On l t x → x ≠ 0 → (gN l (gN l x).up.toNat).last = x

theorem On.same {l l' : List Nd} (h : ∀ i, (gN l' i).up = (gN l i).up) {t a : Nat} (k : On l t a) : On l' t a := by
  induction k with
  | refl t => exact .refl t
  | step h0 _ ih => exact .step h0 (by rw [h]; exact ih)
theorem On.le {l : List Nd} {t a : Nat} (h : Wf l t) (k : On l t a) : a ≤ t := by
  have hu := h.up
  have ht := h.tip
  clear h
  induction k with
  | refl t => exact Nat.le_refl _
  | @step t a h0 _ ih =>
    have := hu t h0 ht
    have := ih (by omega)
    omega
/-- The block in i that is open. -/
theorem On.child {l : List Nd} {t i : Nat} (k : On l t i) (hne : i ≠ t) : ∃ y, On l t y ∧ (gN l y).up.toNat = i ∧ 0 < y := by
  induction k with
  | refl t => exact absurd rfl hne
  | @step t a h0 _ ih =>
    by_cases e : a = (gN l t).up.toNat
    · exact ⟨t, .refl t, e.symm, h0⟩
    · obtain ⟨y, h1, h2, h3⟩ := ih e
      exact ⟨y, .step h0 h1, h2, h3⟩
theorem Wf.child {l : List Nd} {t i : Nat} (h : Wf l t) (k : On l t i) (hne : i ≠ t) : ∃ y : Nat, (gN l i).last = (y : Int) ∧ On l t y ∧ i < y ∧ y < l.length := by
  obtain ⟨y, h1, h2, h3⟩ := k.child hne
  have hy := h1.le h
  have ht := h.tip
  have hl := h.opn y h1 (by omega)
  have hu := h.up y h3 (by omega)
  rw [h2] at hl
  exact ⟨y, hl, h1, by omega, by omega⟩

/-- What says where blocks are stays. -/
def Sk (l l' : List Nd) : Prop := l'.length = l.length ∧ ∀ i, (gN l' i).up = (gN l i).up ∧ (gN l' i).last = (gN l i).last ∧ (gN l' i).ahead = (gN l i).ahead ∧ (gN l' i).depth = (gN l i).depth
theorem Sk.refl (l : List Nd) : Sk l l := ⟨rfl, fun _ => ⟨rfl, rfl, rfl, rfl⟩⟩
theorem Sk.trans {a b c : List Nd} (h : Sk a b) (k : Sk b c) : Sk a c := ⟨k.1.trans h.1, fun i => by
  obtain ⟨a1, a2, a3, a4⟩ := h.2 i
  obtain ⟨b1, b2, b3, b4⟩ := k.2 i
  exact ⟨b1.trans a1, b2.trans a2, b3.trans a3, b4.trans a4⟩⟩
theorem Sk.set (l : List Nd) (i : Nat) (n : Nd) (h : n.up = (gN l i).up ∧ n.last = (gN l i).last ∧ n.ahead = (gN l i).ahead ∧ n.depth = (gN l i).depth) : Sk l (l.set i n) := ⟨by simp, fun j => by
  rw [gN_set]
  split
  · next e => rw [e.1]; exact h
  · exact ⟨rfl, rfl, rfl, rfl⟩⟩
theorem Wf.sk {l l' : List Nd} {t : Nat} (h : Wf l t) (k : Sk l l') (hd : (gN l' 0).kind = 1) (hi : ∀ i, (gN l' i).indent ≤ 1000000) : Wf l' t := by
  obtain ⟨k0, k⟩ := k
  refine ⟨by rw [k0]; exact h.tip, hd, by rw [(k 0).1]; exact h.up0, fun i h0 hl => ?_, fun i hl => ?_, fun i hl => ?_, fun i hl => ?_, hi, fun x hx h0 => ?_⟩
  · rw [(k i).1]; exact h.up i h0 (by omega)
  · rw [(k i).2.1, k0]; exact h.last i (by omega)
  · rw [(k i).1, (k i).2.2.1]; exact h.ahead i (by omega)
  · rw [(k i).2.2.2]; exact h.depth i (by omega)
  · rw [(k x).1, (k _).2.1]
    exact h.opn x (hx.same fun i => ((k i).1).symm) h0
/-- .. of one block. -/
theorem Wf.set {l : List Nd} {t : Nat} (h : Wf l t) (i : Nat) (n : Nd) (hn : n.up = (gN l i).up ∧ n.last = (gN l i).last ∧ n.ahead = (gN l i).ahead ∧ n.depth = (gN l i).depth) (hk : i = 0 → n.kind = 1) (hi : n.indent ≤ 1000000) : Wf (l.set i n) t :=
  h.sk (Sk.set l i n hn) (by rw [gN_set]; split; · next e => exact hk e.1.symm
                             · exact h.doc) (fun j => by rw [gN_set]; split; · exact hi
                                                         · exact h.ind j)

/-! Closing: of each block the text, the last one in it, and whether it is tight may turn. -/
def Cl (l l' : List Nd) : Prop := l'.length = l.length ∧ ∀ i, ∃ a b c, gN l' i = { gN l i with text := a, last := b, tight := c }
theorem Cl.refl (l : List Nd) : Cl l l := ⟨rfl, fun _ => ⟨_, _, _, rfl⟩⟩
theorem Cl.trans {a b c : List Nd} (h : Cl a b) (k : Cl b c) : Cl a c := ⟨k.1.trans h.1, fun i => by
  obtain ⟨_, _, _, e⟩ := h.2 i
  obtain ⟨_, _, _, e'⟩ := k.2 i
  rw [e] at e'
  exact ⟨_, _, _, e'⟩⟩
theorem Cl.set (l : List Nd) (i : Nat) (a : List UInt8) (b : Int) (c : Bool) : Cl l (l.set i { gN l i with text := a, last := b, tight := c }) := ⟨by simp, fun j => by
  rw [gN_set]
  split
  · next e => exact ⟨a, b, c, by rw [e.1]⟩
  · exact ⟨_, _, _, rfl⟩⟩
theorem Cl.up {l l' : List Nd} (h : Cl l l') (i : Nat) : (gN l' i).up = (gN l i).up := by obtain ⟨_, _, _, e⟩ := h.2 i; rw [e]
theorem Cl.kind {l l' : List Nd} (h : Cl l l') (i : Nat) : (gN l' i).kind = (gN l i).kind := by obtain ⟨_, _, _, e⟩ := h.2 i; rw [e]
theorem Cl.depth {l l' : List Nd} (h : Cl l l') (i : Nat) : (gN l' i).depth = (gN l i).depth := by obtain ⟨_, _, _, e⟩ := h.2 i; rw [e]
theorem Cl.indent {l l' : List Nd} (h : Cl l l') (i : Nat) : (gN l' i).indent = (gN l i).indent := by obtain ⟨_, _, _, e⟩ := h.2 i; rw [e]
theorem closed_cl (s : St) (i : Nat) : Cl s.list (closedM s i).list := by
  unfold closedM closeParaM defineM St.put St.nd
  split
  · split
    · exact (Cl.set s.list i _ _ _).trans (Cl.set _ _ _ _ _)
    · exact Cl.set s.list i _ _ _
  · split
    · split
      · exact Cl.set s.list i _ _ _
      · exact Cl.refl _
    · split
      · exact Cl.set s.list i _ _ _
      · split
        · exact Cl.set s.list i _ _ _
        · exact Cl.refl _
theorem close_cl (s : St) : Cl s.list (closeM s).list := closed_cl s s.tip
theorem close_tip (s : St) : (closeM s).tip = (s.nd s.tip).up.toNat := rfl
theorem Wf.fewer {l : List Nd} {t : Nat} (h : Wf l t) (h0 : t ≠ 0) : Wf l (gN l t).up.toNat :=
  ⟨by have := h.up t (by omega) h.tip; have := h.tip; omega, h.doc, h.up0, h.up, h.last, h.ahead, h.depth, h.ind, fun x hx => h.opn x (.step (by omega) hx)⟩
theorem Wf.text {l : List Nd} {t : Nat} (h : Wf l t) (i : Nat) (a : List UInt8) (c : Bool) : Wf (l.set i { gN l i with text := a, tight := c }) t :=
  h.set i _ ⟨rfl, rfl, rfl, rfl⟩ (fun e => by rw [e]; exact h.doc) (h.ind i)
/-- The tip goes. -/
theorem Wf.drop {l : List Nd} {t : Nat} (h : Wf l t) (h0 : t ≠ 0) : Wf (l.set (gN l t).up.toNat { gN l (gN l t).up.toNat with last := (gN l t).ahead }) (gN l t).up.toNat := by
  have hu := h.up t (by omega) h.tip
  have ht := h.tip
  have hf := h.fewer h0
  have eu : (gN l t).up = ((gN l t).up.toNat : Int) := (Int.toNat_of_nonneg hu.1).symm
  generalize (gN l t).up.toNat = u at *
  have same : ∀ i, (gN (l.set u { gN l u with last := (gN l t).ahead }) i).up = (gN l i).up := by
    intro i
    rw [gN_set]
    split
    · next e => rw [e.1]
    · rfl
  refine ⟨by simp; omega, ?_, ?_, fun i hi hl => ?_, fun i hl => ?_, fun i hl => ?_, fun i hl => ?_, fun i => ?_, fun x hx hx0 => ?_⟩
  · rw [gN_set]; split
    · next e => rw [← e.1]; exact h.doc
    · exact h.doc
  · rw [same]; exact h.up0
  · rw [same]; exact h.up i hi (by simpa using hl)
  · rw [gN_set, List.length_set]
    split
    · next e =>
      rw [e.1]
      show (gN l t).ahead = -1 ∨ _ < (gN l t).ahead ∧ (gN l t).ahead < _
      rcases h.ahead t ht with e1 | e1
      · exact .inl e1
      · exact .inr (by rw [eu] at e1; omega)
    · exact h.last i (by simpa using hl)
  · have := h.ahead i (by simpa using hl)
    rw [gN_set]
    split
    · next e => rw [e.1] at this ⊢; exact this
    · exact this
  · have := h.depth i (by simpa using hl)
    rw [gN_set]
    split
    · next e => rw [e.1] at this; rw [e.1]; exact this
    · exact this
  · have := h.ind i
    rw [gN_set]
    split
    · next e => rw [e.1] at this; exact this
    · exact this
  · have hx' : On l u x := hx.same fun i => (same i).symm
    have hle := hx'.le hf
    have hux := h.up x (by omega) (by omega)
    rw [same, gN_ne (by omega)]
    exact hf.opn x hx' hx0
theorem set_up {l : List Nd} {i t : Nat} {n : Nd} (h : n.up = (gN l i).up) : (gN (l.set i n) t).up = (gN l t).up := by
  rw [gN_set]
  split
  · next e => rw [e.1]; exact h
  · rfl
theorem Wf.close {s : St} (h : Wf s.list s.tip) (h0 : s.tip ≠ 0) : Wf (closeM s).list (closeM s).tip := by
  have hf := h.fewer h0
  rw [close_tip]
  show Wf (closedM s s.tip).list _
  unfold closedM
  split
  · unfold closeParaM
    have hd : Wf (defineM s s.tip).list s.tip := h.text s.tip _ _
    have hup : ((defineM s s.tip).nd s.tip).up = (s.nd s.tip).up := set_up rfl
    split
    · have := hd.drop h0
      unfold St.put
      show Wf (List.set _ _ _) _
      unfold St.nd at *
      rw [hup] at *
      exact this
    · show Wf (defineM s s.tip).list _
      have := hd.fewer h0
      unfold St.nd at *
      rw [hup] at this
      exact this
  · split
    · split
      · exact hf.text _ _ _
      · exact hf
    · split
      · exact hf.text _ _ _
      · split
        · exact hf.text _ _ _
        · exact hf
theorem cwGo_ok : ∀ (n : Nat) (s : St) (i : Nat), s.tip ≤ n → Wf s.list s.tip → On s.list s.tip i → Wf (cwGo n s i).list i ∧ (cwGo n s i).tip = i ∧ Cl s.list (cwGo n s i).list ∧ ((cwGo n s i).line = s.line ∧ (cwGo n s i).known = s.known ∧ (cwGo n s i).deep = s.deep)
  | 0, s, i, hn, h, ho => by
    have hle := ho.le h
    have e1 : s.tip = 0 := by omega
    have e2 : i = 0 := by omega
    subst e2
    unfold cwGo
    exact ⟨by rw [← e1]; exact e1 ▸ h, e1, Cl.refl _, rfl, rfl, rfl⟩
  | n + 1, s, i, hn, h, ho => by
    unfold cwGo
    by_cases e : s.tip = i
    · rw [if_pos e]
      exact ⟨e ▸ h, e, Cl.refl _, rfl, rfl, rfl⟩
    · rw [if_neg e]
      have h0 : s.tip ≠ 0 := fun e0 => by have := ho.le h; omega
      have hu := h.up s.tip (by omega) h.tip
      have hc := close_cl s
      have ho' : On (closeM s).list (closeM s).tip i := by
        rw [close_tip]
        refine On.same hc.up ?_
        cases ho with
        | refl => exact absurd rfl e
        | step _ k => exact k
      obtain ⟨r1, r2, r3, r4, r5, r6⟩ := cwGo_ok n (closeM s) i (by rw [close_tip]; unfold St.nd; omega) (h.close h0) ho'
      have q : (closeM s).line = s.line ∧ (closeM s).known = s.known ∧ (closeM s).deep = s.deep := by
        unfold closeM closedM closeParaM defineM St.put
        refine ⟨?_, ?_, ?_⟩ <;> (dsimp only; repeat' split) <;> rfl
      exact ⟨r1, r2, hc.trans r3, r4.trans q.1, r5.trans q.2.1, r6.trans q.2.2⟩
theorem close_rest (s : St) : (closeM s).line = s.line ∧ (closeM s).known = s.known ∧ (closeM s).deep = s.deep := by
  unfold closeM closedM closeParaM defineM St.put
  refine ⟨?_, ?_, ?_⟩ <;> (dsimp only; repeat' split) <;> rfl
theorem cw_ok {s : St} {i : Nat} (h : Wf s.list s.tip) (ho : On s.list s.tip i) : Wf (cwM s i).list i ∧ (cwM s i).tip = i ∧ Cl s.list (cwM s i).list ∧ ((cwM s i).line = s.line ∧ (cwM s i).known = s.known ∧ (cwM s i).deep = s.deep) := cwGo_ok _ s i (Nat.le_refl _) h ho
theorem cw_wf {s : St} {i : Nat} (h : Wf s.list s.tip) (ho : On s.list s.tip i) : Wf (cwM s i).list (cwM s i).tip := by
  obtain ⟨h1, h2, _⟩ := cw_ok h ho
  rw [h2]; exact h1
/-- One step of it. -/
theorem cwGo_fuel : ∀ (n m : Nat) (s : St) (i : Nat), s.tip ≤ n → s.tip ≤ m → Wf s.list s.tip → On s.list s.tip i → cwGo n s i = cwGo m s i
  | 0, 0, _, _, _, _, _, _ => rfl
  | 0, m + 1, s, i, hn, _, h, ho => by
    have hle := ho.le h
    unfold cwGo
    rw [if_pos (by omega)]
  | n + 1, 0, s, i, _, hn, h, ho => by
    have hle := ho.le h
    unfold cwGo
    rw [if_pos (by omega)]
  | n + 1, m + 1, s, i, hn, hm, h, ho => by
    unfold cwGo
    by_cases e : s.tip = i
    · rw [if_pos e, if_pos e]
    · rw [if_neg e, if_neg e]
      have h0 : s.tip ≠ 0 := fun e0 => by have := ho.le h; omega
      have hu := h.up s.tip (by omega) h.tip
      refine cwGo_fuel n m (closeM s) i (by rw [close_tip]; unfold St.nd; omega) (by rw [close_tip]; unfold St.nd; omega) (h.close h0) ?_
      rw [close_tip]
      refine On.same (close_cl s).up ?_
      cases ho with
      | refl => exact absurd rfl e
      | step _ k => exact k
theorem On.closed {s : St} {i : Nat} (ho : On s.list s.tip i) (e : s.tip ≠ i) : On (closeM s).list (closeM s).tip i := by
  rw [close_tip]
  refine On.same (close_cl s).up ?_
  cases ho with
  | refl => exact absurd rfl e
  | step _ k => exact k
theorem cw_step {s : St} {i : Nat} (h : Wf s.list s.tip) (ho : On s.list s.tip i) (e : s.tip ≠ i) : cwM s i = cwM (closeM s) i := by
  have h0 : s.tip ≠ 0 := fun e0 => by have := ho.le h; omega
  have hu := h.up s.tip (by omega) h.tip
  unfold cwM
  obtain ⟨m, hm⟩ : ∃ m, s.tip = m + 1 := ⟨s.tip - 1, by omega⟩
  rw [hm]
  show (if s.tip = i then s else cwGo m (closeM s) i) = _
  rw [if_neg e]
  exact cwGo_fuel _ _ _ _ (by rw [close_tip]; unfold St.nd; omega) (Nat.le_refl _) (h.close h0) (ho.closed e)
theorem cw_stop {s : St} {i : Nat} (e : s.tip = i) : cwM s i = s := by
  unfold cwM
  cases s.tip with
  | zero => rfl
  | succ n => unfold cwGo; rw [if_pos e]

/-! Adding. -/
theorem doc_holds {l : List Nd} {t k : Nat} (h : Wf l t) (e : t = 0) (hk : k ≠ 4) : holdsB (gN l t).kind k = true := by
  rw [e, h.doc]; unfold holdsB; rw [if_pos (.inl rfl)]; simp [hk]
theorem addGo_ok : ∀ (n : Nat) (s : St) (k : Nat), s.tip ≤ n → Wf s.list s.tip → (k ≠ 4 ∨ holdsB (s.nd s.tip).kind k = true) → Wf (addGo n s k).list (addGo n s k).tip ∧ holdsB ((addGo n s k).nd (addGo n s k).tip).kind k = true ∧ Cl s.list (addGo n s k).list ∧ ((addGo n s k).line = s.line ∧ (addGo n s k).known = s.known ∧ (addGo n s k).deep = s.deep)
  | 0, s, k, hn, h, hk => by
    unfold addGo
    refine ⟨h, ?_, Cl.refl _, rfl, rfl, rfl⟩
    rcases hk with hk | hk
    · exact doc_holds h (by omega) hk
    · exact hk
  | n + 1, s, k, hn, h, hk => by
    unfold addGo
    by_cases e : holdsB (s.nd s.tip).kind k = true
    · rw [if_pos e]
      exact ⟨h, e, Cl.refl _, rfl, rfl, rfl⟩
    · rw [if_neg e]
      have hk4 : k ≠ 4 := hk.resolve_right e
      have h0 : s.tip ≠ 0 := fun e0 => e (doc_holds h e0 hk4)
      have hu := h.up s.tip (by omega) h.tip
      obtain ⟨r1, r2, r3, r4, r5, r6⟩ := addGo_ok n (closeM s) k (by rw [close_tip]; unfold St.nd; omega) (h.close h0) (.inl hk4)
      have q := close_rest s
      exact ⟨r1, r2, (close_cl s).trans r3, r4.trans q.1, r5.trans q.2.1, r6.trans q.2.2⟩
theorem addGo_fuel : ∀ (n m : Nat) (s : St) (k : Nat), s.tip ≤ n → s.tip ≤ m → Wf s.list s.tip → (k ≠ 4 ∨ holdsB (s.nd s.tip).kind k = true) → addGo n s k = addGo m s k
  | 0, 0, _, _, _, _, _, _ => rfl
  | 0, m + 1, s, k, hn, _, h, hk => by
    unfold addGo
    rw [if_pos (by rcases hk with hk | hk; · exact doc_holds h (by omega) hk
                   · exact hk)]
  | n + 1, 0, s, k, _, hn, h, hk => by
    unfold addGo
    rw [if_pos (by rcases hk with hk | hk; · exact doc_holds h (by omega) hk
                   · exact hk)]
  | n + 1, m + 1, s, k, hn, hm, h, hk => by
    unfold addGo
    by_cases e : holdsB (s.nd s.tip).kind k = true
    · rw [if_pos e, if_pos e]
    · rw [if_neg e, if_neg e]
      have hk4 : k ≠ 4 := hk.resolve_right e
      have h0 : s.tip ≠ 0 := fun e0 => e (doc_holds h e0 hk4)
      have hu := h.up s.tip (by omega) h.tip
      exact addGo_fuel n m (closeM s) k (by rw [close_tip]; unfold St.nd; omega) (by rw [close_tip]; unfold St.nd; omega) (h.close h0) (.inl hk4)
/-- One step of it: the tip is closed, or it holds. -/
theorem add_step {s : St} {k : Nat} (h : Wf s.list s.tip) (hk : k ≠ 4) (e : ¬ holdsB (s.nd s.tip).kind k = true) : s.tip ≠ 0 ∧ addGo s.tip s k = addGo (closeM s).tip (closeM s) k := by
  have h0 : s.tip ≠ 0 := fun e0 => e (doc_holds h e0 hk)
  have hu := h.up s.tip (by omega) h.tip
  refine ⟨h0, ?_⟩
  obtain ⟨m, hm⟩ : ∃ m, s.tip = m + 1 := ⟨s.tip - 1, by omega⟩
  rw [hm]
  show (if holdsB (s.nd s.tip).kind k then s else addGo m (closeM s) k) = _
  rw [if_neg e]
  exact addGo_fuel _ _ _ _ (by rw [close_tip]; unfold St.nd; omega) (Nat.le_refl _) (h.close h0) (.inl hk)
theorem add_stop {s : St} {k : Nat} (e : holdsB (s.nd s.tip).kind k = true) : addGo s.tip s k = s := by
  cases s.tip with
  | zero => rfl
  | succ n => unfold addGo; rw [if_pos e]
theorem push_len (s : St) (b : Nd) : (pushM s b).list.length = s.list.length + 1 := by unfold pushM; simp
theorem push_new (s : St) (b : Nd) : (pushM s b).nd s.list.length = { b with up := s.tip, last := -1, ahead := (s.nd s.tip).last, depth := (s.nd s.tip).depth + 1 } := by
  unfold St.nd pushM
  have := gN_new (s.list.set s.tip { s.nd s.tip with last := s.list.length }) { b with up := s.tip, last := -1, ahead := (s.nd s.tip).last, depth := (s.nd s.tip).depth + 1 }
  rw [List.length_set] at this
  exact this
theorem push_tip (s : St) (b : Nd) (h : s.tip < s.list.length) : (pushM s b).nd s.tip = { s.nd s.tip with last := s.list.length } := by
  unfold pushM
  show gN _ s.tip = _
  rw [gN_app (by simpa using h), gN_at h]
theorem push_old (s : St) (b : Nd) {i : Nat} (hi : i < s.list.length) (hne : i ≠ s.tip) : (pushM s b).nd i = s.nd i := by
  unfold pushM
  show gN _ i = _
  rw [gN_app (by simpa using hi), gN_ne hne]
  rfl
theorem push_up {s : St} (b : Nd) {i : Nat} (h : s.tip < s.list.length) (hi : i < s.list.length) : ((pushM s b).nd i).up = (s.nd i).up ∧ ((pushM s b).nd i).ahead = (s.nd i).ahead ∧ ((pushM s b).nd i).depth = (s.nd i).depth ∧ ((pushM s b).nd i).kind = (s.nd i).kind ∧ ((pushM s b).nd i).indent = (s.nd i).indent := by
  by_cases e : i = s.tip
  · subst e; rw [push_tip s b h]; exact ⟨rfl, rfl, rfl, rfl, rfl⟩
  · rw [push_old s b hi e]; exact ⟨rfl, rfl, rfl, rfl, rfl⟩
theorem Wf.push {s : St} (h : Wf s.list s.tip) (b : Nd) (hb : b.indent ≤ 1000000) : Wf (pushM s b).list (pushM s b).tip := by
  have ht := h.tip
  have hlen := push_len s b
  have hnew := push_new s b
  have hold : ∀ i, i < s.list.length → _ := fun i hi => push_up b ht hi
  have ht' : (pushM s b).tip = s.list.length := rfl
  have onold : ∀ t x, t < s.list.length → On (pushM s b).list t x → On s.list t x := by
    intro t x hlt k
    induction k with
    | refl t => exact .refl t
    | @step t a h0 _ ih =>
      have e := (hold t hlt).1
      have hu := h.up t h0 hlt
      unfold St.nd at e
      refine .step h0 ?_
      rw [← e]
      exact ih (by rw [e]; omega)
  unfold St.nd at *
  have d0 := hold 0 (by omega)
  refine ⟨by rw [hlen, ht']; omega, by rw [d0.2.2.2.1]; exact h.doc, by rw [d0.1]; exact h.up0, fun i h0 hl => ?_, fun i hl => ?_, fun i hl => ?_, fun i hl => ?_, fun i => ?_, fun x hx h0 => ?_⟩
  · by_cases e : i = s.list.length
    · subst e; rw [hnew]; show 0 ≤ (s.tip : Int) ∧ (s.tip : Int) < _; omega
    · rw [(hold i (by omega)).1]; exact h.up i h0 (by omega)
  · by_cases e : i = s.list.length
    · subst e; rw [hnew]; exact .inl rfl
    · by_cases e' : i = s.tip
      · subst e'
        have := push_tip s b ht
        unfold St.nd at this
        rw [this, hlen]
        exact .inr ⟨by show (s.tip : Int) < (s.list.length : Int); omega, by show (s.list.length : Int) < _; omega⟩
      · have := push_old s b (show i < s.list.length by omega) e'
        unfold St.nd at this
        rw [this, hlen]
        rcases h.last i (by omega) with e1 | e1
        · exact .inl e1
        · exact .inr (by omega)
  · by_cases e : i = s.list.length
    · subst e; rw [hnew]
      show (gN s.list s.tip).last = -1 ∨ (s.tip : Int) < (gN s.list s.tip).last ∧ (gN s.list s.tip).last < _
      exact h.last s.tip ht
    · rw [(hold i (by omega)).1, (hold i (by omega)).2.1]; exact h.ahead i (by omega)
  · by_cases e : i = s.list.length
    · subst e; rw [hnew]
      show (gN s.list s.tip).depth + 1 ≤ _
      have := h.depth s.tip ht; omega
    · rw [(hold i (by omega)).2.2.1]; exact h.depth i (by omega)
  · by_cases e : i = s.list.length
    · subst e; rw [hnew]; exact hb
    · by_cases e' : i < s.list.length
      · rw [(hold i e').2.2.2.2]; exact h.ind i
      · rw [gN_out (by omega)]; show 0 ≤ _; omega
  · rw [ht'] at hx
    by_cases e : x = s.list.length
    · subst e
      rw [hnew]
      show (gN (pushM s b).list (s.tip : Int).toNat).last = _
      have := push_tip s b ht
      unfold St.nd at this
      rw [Int.toNat_natCast, this]
    · have hx' : On s.list s.tip x := by
        cases hx with
        | refl => exact absurd rfl e
        | step _ k =>
          rw [hnew] at k
          exact onold _ _ ht k
      have hle := hx'.le h
      have hu := h.up x (by omega) (by omega)
      rw [(hold x (by omega)).1]
      have := push_old s b (show (gN s.list x).up.toNat < s.list.length by omega) (by omega)
      unfold St.nd at this
      rw [this]
      exact h.opn x hx' h0
theorem add_wf {s : St} (h : Wf s.list s.tip) (b : Nd) (hk : b.kind ≠ 4 ∨ holdsB (s.nd s.tip).kind b.kind = true) (hb : b.indent ≤ 1000000) : Wf (addM s b).list (addM s b).tip :=
  (addGo_ok s.tip s b.kind (Nat.le_refl _) h hk).1.push b hb
theorem add_tip (s : St) (b : Nd) : ((addM s b).nd (addM s b).tip).kind = b.kind := by
  unfold addM
  show ((pushM _ _).nd (addGo s.tip s b.kind).list.length).kind = _
  rw [push_new]
theorem addIn_wf {s : St} {i : Nat} (h : Wf s.list s.tip) (ho : On s.list s.tip i) (b : Nd) (hk : b.kind ≠ 4) (hb : b.indent ≤ 1000000) : Wf (addInM s i b).list (addInM s i b).tip :=
  add_wf (cw_wf h ho) b (.inl hk) hb
end Go.Proofs.YtfgpephpkibbaaaGreatDoor

/-
  How many blocks there are, and how long their texts are; what begins keeps the list as it must be. No program in sight.
-/
namespace Go.Proofs.YtfgpephpkibbaaaGreatDoor
open Go Go.Lib

def txN (l : List Nd) : Nat := (l.map fun n => n.text.length).sum
theorem tx_set : ∀ (l : List Nd) (i : Nat) (n : Nd), i < l.length → txN (l.set i n) + (gN l i).text.length = txN l + n.text.length
  | [], _, _, h => by cases h
  | a :: l, 0, n, _ => by
    unfold txN gN
    simp only [List.set_cons_zero, List.map_cons, List.sum_cons, List.getD_cons_zero]; omega
  | a :: l, i + 1, n, h => by
    have := tx_set l i n (by simpa using h)
    unfold txN gN at *
    simp only [List.set_cons_succ, List.map_cons, List.sum_cons, List.getD_cons_succ]; omega
theorem tx_out {l : List Nd} {i : Nat} (h : l.length ≤ i) (n : Nd) : l.set i n = l := List.set_eq_of_length_le h
theorem tx_le : ∀ (l : List Nd) (i : Nat), (gN l i).text.length ≤ txN l
  | [], i => by unfold gN; simp [blkN]
  | a :: l, 0 => by unfold txN gN; simp
  | a :: l, i + 1 => by
    have := tx_le l i
    unfold txN gN at *
    simp only [List.map_cons, List.sum_cons, List.getD_cons_succ]; omega
theorem tx_app (l : List Nd) (b : Nd) : txN (l ++ [b]) = txN l + b.text.length := by unfold txN; simp
/-- So many blocks at most; so many definitions and bytes of texts. -/
def phi (s : St) : Nat := s.refs.length + txN s.list
structure Cap (s : St) (a b : Nat) : Prop where
  len : s.list.length ≤ a
  txt : phi s ≤ b
theorem Cap.text {s : St} {a b : Nat} (h : Cap s a b) (i : Nat) : (s.nd i).text.length ≤ b := by have := tx_le s.list i; have := h.txt; unfold phi at this; unfold St.nd; omega
theorem Cap.refs {s : St} {a b : Nat} (h : Cap s a b) : s.refs.length ≤ b := by have := h.txt; unfold phi at this; omega
theorem Cap.more {s : St} {a b c d : Nat} (h : Cap s a b) (h1 : a ≤ c) (h2 : b ≤ d) : Cap s c d := ⟨Nat.le_trans h.len h1, Nat.le_trans h.txt h2⟩
theorem Cap.put {s : St} {a b : Nat} (h : Cap s a b) (i : Nat) (n : Nd) {d : Nat} (hn : n.text.length ≤ (s.nd i).text.length + d) : Cap (s.put i n) a (b + d) := by
  refine ⟨by unfold St.put; simpa using h.len, ?_⟩
  have h2 := h.txt
  unfold phi St.put at *
  by_cases hi : i < s.list.length
  · have := tx_set s.list i n hi
    unfold St.nd at hn
    show s.refs.length + txN (s.list.set i n) ≤ _
    omega
  · show s.refs.length + txN (s.list.set i n) ≤ _
    rw [tx_out (by omega)]; omega
theorem trimB_len (l : List UInt8) : (trimL l).length ≤ l.length := by
  unfold trimL
  rw [List.length_reverse]
  have h1 := (List.dropWhile_sublist (p := ws) (l := (l.dropWhile ws).reverse)).length_le
  have h2 := (List.dropWhile_sublist (p := ws) (l := l)).length_le
  rw [List.length_reverse] at h1
  omega
theorem dfs_len : ∀ (n : Nat) (l : List UInt8), (dfsGo n l).length + (dfrGo n l).length ≤ l.length
  | 0, l => by unfold dfsGo dfrGo; simp
  | n + 1, l => by
    unfold dfsGo dfrGo
    split
    · simp
    · have h1 := dfs_len n (l.drop (dfN l))
      have h2 := df_le l
      rw [List.length_cons]
      rw [List.length_drop] at h1
      omega
theorem wbl_len (l : List UInt8) : (wblL l).length ≤ l.length := by unfold wblL; rw [List.length_take]; omega
theorem Cap.define {s : St} {a b : Nat} (h : Cap s a b) (i : Nat) : Cap (defineM s i) a b := by
  refine ⟨by unfold defineM; simpa using h.len, ?_⟩
  have h2 := h.txt
  unfold phi defineM at *
  have h3 := dfs_len (s.nd i).text.length (s.nd i).text
  have h4 := trimB_len (dfrL (s.nd i).text)
  unfold dfrL at h4
  by_cases hi : i < s.list.length
  · have := tx_set s.list i { s.nd i with text := trimL (dfrL (s.nd i).text) } hi
    show (s.refs ++ dfsL (s.nd i).text).length + txN (s.list.set i _) ≤ _
    rw [List.length_append]
    unfold dfsL dfrL at *
    unfold St.nd at *
    dsimp only at this ⊢
    omega
  · have e : (s.nd i).text = [] := by unfold St.nd; rw [gN_out (by omega)]; rfl
    show (s.refs ++ dfsL (s.nd i).text).length + txN (s.list.set i _) ≤ _
    rw [tx_out (by omega), e, List.length_append]
    show _ + 0 + _ ≤ _
    omega
theorem Cap.closed {s : St} {a b : Nat} (h : Cap s a b) (i : Nat) : Cap (closedM s i) a b := by
  unfold closedM
  split
  · unfold closeParaM
    split
    · exact (h.define i).put (d := 0) _ _ (Nat.le_refl _)
    · exact h.define i
  · split
    · split
      · exact h.put (d := 0) _ _ (wbl_len _)
      · exact h
    · split
      · exact h.put (d := 0) _ _ (wbl_len _)
      · split
        · exact h.put (d := 0) _ _ (Nat.le_refl _)
        · exact h
theorem Cap.close {s : St} {a b : Nat} (h : Cap s a b) : Cap (closeM s) a b := ⟨(h.closed s.tip).len, (h.closed s.tip).txt⟩
theorem Cap.cwGo {a b : Nat} : ∀ (n : Nat) {s : St} (_ : Cap s a b) (i : Nat), Cap (cwGo n s i) a b
  | 0, _, h, _ => h
  | n + 1, s, h, i => by
    unfold Go.Proofs.YtfgpephpkibbaaaGreatDoor.cwGo
    split
    · exact h
    · exact Cap.cwGo n h.close i
theorem Cap.cw {s : St} {a b : Nat} (h : Cap s a b) (i : Nat) : Cap (cwM s i) a b := Cap.cwGo _ h i
theorem Cap.addGo {a b : Nat} : ∀ (n : Nat) {s : St} (_ : Cap s a b) (k : Nat), Cap (addGo n s k) a b
  | 0, _, h, _ => h
  | n + 1, s, h, k => by
    unfold Go.Proofs.YtfgpephpkibbaaaGreatDoor.addGo
    split
    · exact h
    · exact Cap.addGo n h.close k
theorem Cap.push {s : St} {a b : Nat} (h : Cap s a b) (n : Nd) (ht : s.tip < s.list.length) : Cap (pushM s n) (a + 1) (b + n.text.length) := by
  refine ⟨by rw [push_len]; have := h.len; omega, ?_⟩
  have h2 := h.txt
  have := tx_set s.list s.tip { s.nd s.tip with last := s.list.length } ht
  unfold phi pushM at *
  show s.refs.length + txN (_ ++ [_]) ≤ _
  rw [tx_app]
  unfold St.nd at *
  dsimp only at this ⊢
  omega
theorem Cap.add {s : St} {a b : Nat} (h : Cap s a b) (hw : Wf s.list s.tip) (n : Nd) (hk : n.kind ≠ 4 ∨ holdsB (s.nd s.tip).kind n.kind = true) : Cap (addM s n) (a + 1) (b + n.text.length) :=
  (h.addGo s.tip n.kind).push n (addGo_ok s.tip s n.kind (Nat.le_refl _) hw hk).1.tip
theorem Cap.addIn {s : St} {a b : Nat} (h : Cap s a b) {i : Nat} (hw : Wf s.list s.tip) (ho : On s.list s.tip i) (n : Nd) (hk : n.kind ≠ 4) : Cap (addInM s i n) (a + 1) (b + n.text.length) :=
  (h.cw i).add (cw_wf hw ho) n (.inl hk)
theorem Cap.atL {s : St} {a b : Nat} (h : Cap s a b) (l : Ln) : Cap (s.atL l) a b := ⟨h.len, h.txt⟩

/-! ### Lines -/
/-- A place in a line of at most z bytes. -/
structure Lw (z : Nat) (l : Ln) : Prop where
  ok : okP l.f l.rem
  col : l.c + 4 * l.rem.length ≤ 4 * z + (if l.f = 0 then 0 else 4 - l.f)
  rem : l.rem.length ≤ z
  ind : l.ind = indL l.c l.f l.rem
  next : l.next = nextL l.rem
theorem skip_pot : ∀ (n c f : Nat) (l : List UInt8), okP f l → (skipL n c f l).2.1 + 4 * (l.drop (skipL n c f l).1).length + (if f = 0 then 0 else 4 - f) ≤ c + 4 * l.length + (if (skipL n c f l).2.2 = 0 then 0 else 4 - (skipL n c f l).2.2)
  | n, c, f, [], h => by
    rw [skip_nil]
    have : f = 0 := Decidable.byContradiction fun k => by obtain ⟨t, e⟩ := h.2 k; cases e
    subst this
    simp
  | n, c, f, b :: l, h => by
    rw [skip_cons]
    by_cases h0 : n = 0 ∨ wideB c f b = 0
    · rw [if_pos h0]
      simp
    · rw [if_neg h0]
      have hw := wide_le h.1 c b
      by_cases h1 : n < wideB c f b
      · rw [if_pos h1]
        show c + n + 4 * (b :: l).length + _ ≤ c + 4 * (b :: l).length + (if wideB c f b - n = 0 then 0 else 4 - (wideB c f b - n))
        rw [if_neg (by omega : ¬ wideB c f b - n = 0)]
        by_cases hf : f = 0
        · rw [if_pos hf]; omega
        · rw [if_neg hf, wide_left hf] at *
          omega
      · rw [if_neg h1]
        have := skip_pot (n - wideB c f b) (c + wideB c f b) 0 l (okP_nil l)
        rw [if_pos rfl] at this
        show (skipL _ _ _ _).2.1 + 4 * ((b :: l).drop ((skipL _ _ _ _).1 + 1)).length + _ ≤ _ + (if (skipL (n - wideB c f b) (c + wideB c f b) 0 l).2.2 = 0 then 0 else 4 - (skipL (n - wideB c f b) (c + wideB c f b) 0 l).2.2)
        rw [List.drop_succ_cons, List.length_cons]
        have hh : wideB c f b + (if f = 0 then 0 else 4 - f) ≤ 4 := by
          by_cases hf : f = 0
          · rw [if_pos hf]; exact hw
          · rw [if_neg hf, wide_left hf]; have := h.1; omega
        omega
theorem Lw.skip {z : Nat} {l : Ln} (h : Lw z l) (n : Nat) : Lw z (skipBM l n) := by
  have h1 := skip_pot n l.c l.f l.rem h.ok
  have h2 := h.col
  have h3 : (l.rem.drop (skipL n l.c l.f l.rem).1).length ≤ l.rem.length := by rw [List.length_drop]; omega
  refine ⟨skip_ok _ _ _ _ h.ok, ?_, ?_, ?_, ?_⟩
  · show (skipL _ _ _ _).2.1 + 4 * (List.drop _ _).length ≤ 4 * z + (if (skipL _ _ _ _).2.2 = 0 then 0 else 4 - (skipL _ _ _ _).2.2)
    omega
  · show (List.drop _ _).length ≤ z
    have := h.rem; omega
  · show l.ind - n = _
    rw [h.ind]; exact (skip_ind _ _ _ _).symm
  · show l.next = _
    rw [h.next]; exact (skip_next _ _ _ _ h.ok).symm
theorem Lw.hop {z : Nat} {l : Ln} (h : Lw z l) (n : Nat) : okP (hopM l n).f (hopM l n).rem ∧ (hopM l n).c + 4 * (hopM l n).rem.length ≤ 4 * z + (if (hopM l n).f = 0 then 0 else 4 - (hopM l n).f) ∧ (hopM l n).rem.length ≤ z := by
  have hm := mov_le n l.rem
  have h2 := h.col
  have h3 := h.rem
  refine ⟨?_, ?_, ?_⟩
  · show okP l.f (l.rem.drop (movL n l.rem).length)
    by_cases hf : l.f = 0
    · rw [hf]; exact okP_nil _
    · rw [mov_left h.ok hf]; exact h.ok
  · show l.c + (movL n l.rem).length + 4 * (l.rem.drop (movL n l.rem).length).length ≤ _ + (if l.f = 0 then 0 else 4 - l.f)
    rw [List.length_drop]; omega
  · show (l.rem.drop (movL n l.rem).length).length ≤ z
    rw [List.length_drop]; omega
theorem Lw.move {z : Nat} {l : Ln} (h : Lw z l) (n : Nat) : Lw z (moveM l n) := by
  obtain ⟨h1, h2, h3⟩ := (h.skip l.ind).hop n
  exact ⟨h1, h2, h3, rfl, rfl⟩
theorem Lw.start (t : List UInt8) : Lw t.length (newLn t) := ⟨okP_nil _, by show 0 + 4 * t.length ≤ _ + (if (0 : Nat) = 0 then 0 else _); rw [if_pos rfl]; omega, Nat.le_refl _, rfl, rfl⟩
theorem Lw.bound {z : Nat} {l : Ln} (h : Lw z l) : l.c ≤ 4 * z + 4 ∧ l.ind ≤ 4 * z := by
  have h1 := h.col
  have h2 := h.rem
  have h3 := ind_le l.c l.f l.rem h.ok.1
  rw [← h.ind] at h3
  split at h1 <;> omega
theorem Lw.nextLen {z : Nat} {l : Ln} (h : Lw z l) : l.next.length ≤ z := by
  rw [h.next]
  unfold nextL Lib.trimLeftS
  exact Nat.le_trans (List.dropWhile_sublist _).length_le h.rem
theorem Lw.restLen {z : Nat} {l : Ln} (h : Lw z l) : (lrestM l).length ≤ z + 3 := by
  unfold lrestM restL
  have h1 := h.rem
  have h2 := h.ok.1
  split
  · rw [List.length_append, List.length_replicate, List.length_tail]; omega
  · omega
theorem Lw.quote {z : Nat} {l : Ln} (h : Lw z l) : Lw z (pastQuoteM l).1 := by
  unfold pastQuoteM
  split
  · exact (h.move 1).skip 1
  · exact h
theorem Lw.inds {z : Nat} {l : Ln} (h : Lw z l) (n : Nat) : Lw z (pastIndM l n).1 := by
  unfold pastIndM
  split
  · exact h
  · exact h.skip n
theorem Lw.markd {z : Nat} {l : Ln} (h : Lw z l) (n : Nat) : Lw z (pastMarkM l n).1 := (h.move n).skip _
theorem Lw.markN {z : Nat} {l : Ln} (h : Lw z l) (n : Nat) : (pastMarkM l n).2 ≤ 4 * z + n + 4 := by
  have := h.bound
  unfold pastMarkM markB
  show l.ind + n + _ ≤ _
  split <;> omega
end Go.Proofs.YtfgpephpkibbaaaGreatDoor

/-
  Blank ends and tight lists, a step at a time. No program in sight.
-/
namespace Go.Proofs.YtfgpephpkibbaaaGreatDoor
open Go Go.Lib

/-- A place in the list, or none. -/
def Plq (l : List Nd) (i : Int) : Prop := i = -1 ∨ (0 ≤ i ∧ i < l.length)
theorem Wf.lastQ {l : List Nd} {t : Nat} (h : Wf l t) {i : Nat} (hi : i < l.length) : Plq l (gN l i).last := by
  rcases h.last i hi with e | e
  · exact .inl e
  · exact .inr (by omega)
theorem Wf.aheadQ {l : List Nd} {t : Nat} (h : Wf l t) {i : Nat} (hi : i < l.length) : Plq l (gN l i).ahead := by
  rcases h.ahead i hi with e | e
  · exact .inl e
  · have hu : -1 ≤ (gN l i).up := by
      rcases Nat.eq_zero_or_pos i with h0 | h0
      · rw [h0, h.up0]; omega
      · have := h.up i h0 hi; omega
    exact .inr (by omega)
theorem ends_none (n : Nat) (l : List Nd) : endsGo n l (-1) = false := by
  cases n with
  | zero => rfl
  | succ n => unfold endsGo; rw [if_pos rfl]
theorem ends_fuel {l : List Nd} {t : Nat} (h : Wf l t) : ∀ (n m : Nat) (i : Int), Plq l i → (l.length : Int) - i ≤ n → (l.length : Int) - i ≤ m → endsGo n l i = endsGo m l i
  | 0, m, i, hq, hn, hm => by
    rcases hq with e | e
    · rw [e, ends_none, ends_none]
    · omega
  | n + 1, 0, i, hq, hn, hm => by
    rcases hq with e | e
    · rw [e, ends_none, ends_none]
    · omega
  | n + 1, m + 1, i, hq, hn, hm => by
    rcases hq with e | e
    · rw [e, ends_none, ends_none]
    · have u : ∀ k, endsGo (k + 1) l i = if (gN l i.toNat).be then true else if (gN l i.toNat).kind ≠ 3 ∧ (gN l i.toNat).kind ≠ 4 then false else endsGo k l (gN l i.toNat).last := fun k => by rw [endsGo, if_neg (by omega)]
      rw [u, u]
      split
      · rfl
      · split
        · rfl
        · have hl := h.lastQ (i := i.toNat) (by omega)
          rcases hl with e1 | e1
          · rw [e1, ends_none, ends_none]
          · have := h.last i.toNat (by omega)
            exact ends_fuel h n m _ (.inr e1) (by omega) (by omega)
theorem ends_step {l : List Nd} {t : Nat} (h : Wf l t) {i : Nat} (hi : i < l.length) : endsM l i = if (gN l i).be then true else if (gN l i).kind ≠ 3 ∧ (gN l i).kind ≠ 4 then false else endsM l (gN l i).last := by
  unfold endsM
  obtain ⟨m, hm⟩ : ∃ m, l.length = m + 1 := ⟨l.length - 1, by omega⟩
  have e : endsGo l.length l i = endsGo (m + 1) l i := by rw [hm]
  rw [e]
  have u : endsGo (m + 1) l i = if (i : Int) = -1 then false else if (gN l (i : Int).toNat).be then true else if (gN l (i : Int).toNat).kind ≠ 3 ∧ (gN l (i : Int).toNat).kind ≠ 4 then false else endsGo m l (gN l (i : Int).toNat).last := by rw [endsGo]
  rw [u, if_neg (by omega), Int.toNat_natCast]
  split
  · rfl
  · split
    · rfl
    · rcases h.last i hi with e1 | e1
      · rw [e1, ends_none, ends_none]
      · exact ends_fuel h _ _ _ (.inr (by omega)) (by omega) (by omega)
theorem tk_none (n : Nat) (l : List Nd) (a : Int) : tkGo n l a (-1) = true := by
  cases n with
  | zero => rfl
  | succ n => unfold tkGo; rw [if_pos rfl]
theorem tk_fuel {l : List Nd} {t : Nat} (h : Wf l t) (a : Int) : ∀ (n m : Nat) (i : Int), Plq l i → i < n → i < m → tkGo n l a i = tkGo m l a i
  | 0, m, i, hq, hn, hm => by
    rcases hq with e | e
    · rw [e, tk_none, tk_none]
    · omega
  | n + 1, 0, i, hq, hn, hm => by
    rcases hq with e | e
    · rw [e, tk_none, tk_none]
    · omega
  | n + 1, m + 1, i, hq, hn, hm => by
    rcases hq with e | e
    · rw [e, tk_none, tk_none]
    · have u : ∀ k, tkGo (k + 1) l a i = if i ≠ a ∧ endsM l i = true then false else tkGo k l a (gN l i.toNat).ahead := fun k => by rw [tkGo, if_neg (by omega)]
      rw [u, u]
      split
      · rfl
      · have hl := h.aheadQ (i := i.toNat) (by omega)
        rcases hl with e1 | e1
        · rw [e1, tk_none, tk_none]
        · have := h.ahead i.toNat (by omega)
          exact tk_fuel h a n m _ (.inr e1) (by omega) (by omega)
theorem tk_step {l : List Nd} {t : Nat} (h : Wf l t) (a : Int) {i : Nat} (hi : i < l.length) : tkGo l.length l a i = if (i : Int) ≠ a ∧ endsM l i = true then false else tkGo l.length l a (gN l i).ahead := by
  obtain ⟨m, hm⟩ : ∃ m, l.length = m + 1 := ⟨l.length - 1, by omega⟩
  have e : tkGo l.length l a i = tkGo (m + 1) l a i := by rw [hm]
  rw [e]
  have u : tkGo (m + 1) l a i = if (i : Int) = -1 then true else if (i : Int) ≠ a ∧ endsM l i = true then false else tkGo m l a (gN l (i : Int).toNat).ahead := by rw [tkGo]
  rw [u, if_neg (by omega), Int.toNat_natCast]
  split
  · rfl
  · rcases h.aheadQ hi with e1 | e1
    · rw [e1, tk_none, tk_none]
    · have := h.ahead i hi
      exact tk_fuel h a _ _ _ (.inr e1) (by omega) (by omega)
theorem ti_none (n : Nat) (l : List Nd) (a : Int) : tiGo n l a (-1) = true := by
  cases n with
  | zero => rfl
  | succ n => unfold tiGo; rw [if_pos rfl]
theorem ti_fuel {l : List Nd} {t : Nat} (h : Wf l t) (a : Int) : ∀ (n m : Nat) (i : Int), Plq l i → i < n → i < m → tiGo n l a i = tiGo m l a i
  | 0, m, i, hq, hn, hm => by
    rcases hq with e | e
    · rw [e, ti_none, ti_none]
    · omega
  | n + 1, 0, i, hq, hn, hm => by
    rcases hq with e | e
    · rw [e, ti_none, ti_none]
    · omega
  | n + 1, m + 1, i, hq, hn, hm => by
    rcases hq with e | e
    · rw [e, ti_none, ti_none]
    · have u : ∀ k, tiGo (k + 1) l a i = if i ≠ a ∧ endsM l i = true then false else if tkM l (gN l i.toNat).last = false then false else tiGo k l a (gN l i.toNat).ahead := fun k => by rw [tiGo, if_neg (by omega)]
      rw [u, u]
      split
      · rfl
      · split
        · rfl
        · have hl := h.aheadQ (i := i.toNat) (by omega)
          rcases hl with e1 | e1
          · rw [e1, ti_none, ti_none]
          · have := h.ahead i.toNat (by omega)
            exact ti_fuel h a n m _ (.inr e1) (by omega) (by omega)
theorem ti_step {l : List Nd} {t : Nat} (h : Wf l t) (a : Int) {i : Nat} (hi : i < l.length) : tiGo l.length l a i = if (i : Int) ≠ a ∧ endsM l i = true then false else if tkM l (gN l i).last = false then false else tiGo l.length l a (gN l i).ahead := by
  obtain ⟨m, hm⟩ : ∃ m, l.length = m + 1 := ⟨l.length - 1, by omega⟩
  have e : tiGo l.length l a i = tiGo (m + 1) l a i := by rw [hm]
  rw [e]
  have u : tiGo (m + 1) l a i = if (i : Int) = -1 then true else if (i : Int) ≠ a ∧ endsM l i = true then false else if tkM l (gN l (i : Int).toNat).last = false then false else tiGo m l a (gN l (i : Int).toNat).ahead := by rw [tiGo]
  rw [u, if_neg (by omega), Int.toNat_natCast]
  split
  · rfl
  · split
    · rfl
    · rcases h.aheadQ hi with e1 | e1
      · rw [e1, ti_none, ti_none]
      · have := h.ahead i hi
        exact ti_fuel h a _ _ _ (.inr e1) (by omega) (by omega)
end Go.Proofs.YtfgpephpkibbaaaGreatDoor

