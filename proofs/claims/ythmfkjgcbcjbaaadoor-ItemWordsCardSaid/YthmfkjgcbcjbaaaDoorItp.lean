/-
  Items of spans, as plain lists. No program in sight.
-/
import Derived.Test.YthmfkjgcbcjbaaaDoorFnt
import Derived.Test.YthmfkjgcbcjbaaaDoorCods
namespace Go.Proofs.YthmfkjgcbcjbaaaDoor
open Go Go.Lib

/-- A span: its kind, text, destination, title, kids. -/
inductive St where
  | mk (k : Int) (t d ti : List UInt8) (ks : List St)
def St.kids : St → List St
  | .mk _ _ _ _ l => l
structure It where
  kind : Int
  width : Int
  grow : Int
  shrink : Int
  cost : Int
  codes : List UInt8
  font : Int
  size : Int
  link : Int
structure Sty where
  font : Int
  link : Int
  image : Bool

def itBox (sz : Int) (s : Sty) (c : List UInt8) : It := ⟨1, runL s.font sz c, 0, 0, 0, c, s.font, sz, s.link⟩
def itGlue (sz : Int) (s : Sty) : It := ⟨2, advL s.font sz 32, (advL s.font sz 32).tdiv 2, (advL s.font sz 32).tdiv 3, 0, [], 0, 0, 0⟩
def itPen (c : Int) : It := ⟨3, 0, 0, 0, c, [], 0, 0, 0⟩
def endsK (k : Int) (l : List It) : Bool := match l.getLast? with
  | some x => x.kind == k
  | none => false
def glueP (sz : Int) (s : Sty) (l : List It) : List It := if endsK 1 l = true then l ++ [itGlue sz s] else l
def dropG (l : List It) : List It := if endsK 2 l = true then l.dropLast else l
def brkP (l : List It) : List It := if endsK 1 (dropG l) = true then dropG l ++ [itPen (-10000)] else dropG l
def wordP (sz : Int) (s : Sty) (t : List UInt8) (l : List It) : List It := if t = [] then l else l ++ [itBox sz s (codesL t)]
def blankB (b : UInt8) : Prop := b.toNat = 32 ∨ b.toNat = 9 ∨ b.toNat = 10
instance (b : UInt8) : Decidable (blankB b) := by unfold blankB; infer_instance
def txtP (sz : Int) (s : Sty) : List UInt8 → List UInt8 → List It → List It
  | cur, [], its => wordP sz s cur its
  | cur, b :: l, its => if blankB b then txtP sz s [] l (glueP sz s (wordP sz s cur its)) else txtP sz s (cur ++ [b]) l its
def slF (f : Int) : Int := if f = 0 then 2 else if f = 1 then 3 else f
def bdF (f : Int) : Int := if f = 0 then 1 else if f = 2 then 3 else f
mutual
def spnP (sz : Int) : St → Sty → List It × Int → List It × Int
  | .mk k t _ _ ks, s, p =>
    if k = 1 then (txtP sz s [] t p.1, p.2)
    else if k = 2 then (glueP sz s p.1, p.2)
    else if k = 3 then (brkP p.1, p.2)
    else if k = 4 then (txtP sz { s with font := 4 } [] t p.1, p.2)
    else if k = 5 then spnsP sz ks { s with font := slF s.font } p
    else if k = 6 then spnsP sz ks { s with font := bdF s.font } p
    else if k = 7 then (if s.image = true then spnsP sz ks s p else spnsP sz ks { s with link := p.2 } (p.1, p.2 + 1))
    else if k = 8 then spnsP sz ks { s with image := true } p
    else if k = 9 then (txtP sz { s with font := 4 } [] t p.1, p.2)
    else p
def spnsP (sz : Int) : List St → Sty → List It × Int → List It × Int
  | [], _, p => p
  | x :: l, s, p => spnsP sz l s (spnP sz x s p)
end
/-- The items of spans, and the next link's number. -/
def makeL (l : List St) (f sz link : Int) : List It × Int := (dropG (spnsP sz l ⟨f, 0, false⟩ ([], link)).1, (spnsP sz l ⟨f, 0, false⟩ ([], link)).2)
mutual
/-- How much spans are: ten each, and their texts. -/
def wS : St → Nat
  | .mk _ t _ _ ks => 10 + t.length + wL ks
def wL : List St → Nat
  | [] => 0
  | x :: l => wS x + wL l
end
theorem glue_len (sz : Int) (s : Sty) (l : List It) : (glueP sz s l).length ≤ l.length + 1 := by
  unfold glueP
  split <;> simp
theorem word_len (sz : Int) (s : Sty) (t : List UInt8) (l : List It) : (wordP sz s t l).length ≤ l.length + 1 := by
  unfold wordP
  split <;> simp
theorem drop_len (l : List It) : (dropG l).length ≤ l.length := by
  unfold dropG
  split <;> simp
theorem brk_len (l : List It) : (brkP l).length ≤ l.length + 1 := by
  have := drop_len l
  unfold brkP
  split <;> simp <;> omega
theorem txt_len (sz : Int) (s : Sty) : ∀ (l cur : List UInt8) (its : List It), (txtP sz s cur l its).length ≤ its.length + 1 + 2 * l.length
  | [], cur, its => by
    unfold txtP
    have := word_len sz s cur its
    simp; omega
  | b :: l, cur, its => by
    have h1 := word_len sz s cur its
    have h2 := glue_len sz s (wordP sz s cur its)
    have h3 := txt_len sz s l [] (glueP sz s (wordP sz s cur its))
    have h4 := txt_len sz s l (cur ++ [b]) its
    unfold txtP
    rw [List.length_cons]
    split <;> omega
mutual
theorem spn_len (sz : Int) : ∀ (x : St) (s : Sty) (p : List It × Int), (spnP sz x s p).1.length ≤ p.1.length + 2 * wS x ∧ p.2 ≤ (spnP sz x s p).2 ∧ (spnP sz x s p).2 ≤ p.2 + wS x
  | .mk k t _ _ ks, s, p => by
    have a1 := txt_len sz s t [] p.1
    have a2 := txt_len sz { s with font := 4 } t [] p.1
    have a3 := glue_len sz s p.1
    have a4 := brk_len p.1
    have b1 := spns_len sz ks { s with font := slF s.font } p
    have b2 := spns_len sz ks { s with font := bdF s.font } p
    have b3 := spns_len sz ks s p
    have b4 := spns_len sz ks { s with link := p.2 } (p.1, p.2 + 1)
    have b5 := spns_len sz ks { s with image := true } p
    simp only at b4
    rw [spnP, wS]
    repeat' split
    all_goals first | (refine ⟨?_, ?_, ?_⟩ <;> simp only <;> omega) | omega
theorem spns_len (sz : Int) : ∀ (l : List St) (s : Sty) (p : List It × Int), (spnsP sz l s p).1.length ≤ p.1.length + 2 * wL l ∧ p.2 ≤ (spnsP sz l s p).2 ∧ (spnsP sz l s p).2 ≤ p.2 + wL l
  | [], s, p => by rw [spnsP, wL]; omega
  | x :: l, s, p => by
    have h1 := spn_len sz x s p
    have h2 := spns_len sz l s (spnP sz x s p)
    rw [spnsP, wL]
    omega
end
end Go.Proofs.YthmfkjgcbcjbaaaDoor
