/-
  Texts of the proof, one behind the other: BkV, Bqa, Bqb, Bqc, Bqd, Bqe.
-/
import Derived.Test.YtfgpephpkibbaaaGreatDoorQ9
import Derived.Test.YtfgpephpkibbaaaGreatDoorQ42
import Derived.Test.YtfgpephpkibbaaaGreatDoorQ11
import Derived.Test.YtfgpephpkibbaaaGreatDoorQ34
/-
  Blocks in one another, as they lie in memory; the blocks in one, plainly.
-/
namespace Go.Proofs.YtfgpephpkibbaaaGreatDoor
open Go Go.RowKit Go.Lib

def blkT (k l : Nat) (o : Bool) (st mk : Nat) (ti : Bool) (info text : List UInt8) (kv : Value) : List Value :=
  [.int .i64 k, .int .i64 l, .bool o, .int .i64 st, .int .u8 mk, .bool ti, .string ⟨info.toArray⟩, .string ⟨text.toArray⟩, kv, .slice none 0 0]
/-- A tree of blocks whose lists lie between lo and hi: c are the topmost block's cells. -/
inductive TreeAt (W : World) (lo hi : Nat) : Tr → Ten → Prop
  | mk (k l : Nat) (o : Bool) (st mk : Nat) (ti : Bool) (info text : List UInt8) (kids : List Tr) (kv : Value) (cs : List Ten) (c : Ten) (hc : c.1 = blkT k l o st mk ti info text kv)
      (hr : W.ownsRow lo 26 10 kv cs.length (flat10 cs)) (hg : ∀ g, kv.ownBlock = some g → g < hi) (hl : cs.length = kids.length)
      (hk : ∀ i (h : i < kids.length) (h' : i < cs.length), TreeAt W lo hi kids[i] cs[i]) : TreeAt W lo hi (.mk k l o st mk ti info text kids) c
theorem TreeAt.same {W W' : World} {lo hi lo' hi' : Nat} {t : Tr} {c : Ten} (h : TreeAt W lo hi t c) (hlo : lo' ≤ lo) (hhi : hi ≤ hi') (hb : ∀ b, lo ≤ b → b < hi → W'.heap[b]? = W.heap[b]?) : TreeAt W' lo' hi' t c := by
  induction h with
  | mk k l o st mk ti info text kids kv cs c hc hr hg hl hk ih =>
    refine .mk k l o st mk ti info text kids kv cs c hc ?_ (fun g e => Nat.lt_of_lt_of_le (hg g e) hhi) hl ih
    have h1 : W'.ownsRow lo 26 10 kv cs.length (flat10 cs) := row_same hr fun g e => hb g (hr.lt g e).1 (hg g e)
    exact World.ownsRow.mono h1 hlo
theorem TreeAt.keep {W W' : World} {lo hi : Nat} {t : Tr} {c : Ten} (h : TreeAt W lo hi t c) (hs : hi ≤ W.heap.size) (k : Keeps W W') : TreeAt W' lo hi t c :=
  h.same (Nat.le_refl _) (Nat.le_refl _) fun b _ hb => k.block b (by omega)

/-- Where the lists of n blocks lie that stand in the list kv: apart from it and from one another, between lo and hi. -/
structure Iv (lo hi : Nat) (kv : Value) (n : Nat) (iv : Nat → Nat × Nat) : Prop where
  inn : ∀ i, i < n → lo ≤ (iv i).1 ∧ (iv i).2 ≤ hi ∧ ∀ g, kv.ownBlock = some g → ¬ ((iv i).1 ≤ g ∧ g < (iv i).2)
  apart : ∀ i j, i < n → j < n → i ≠ j → (iv i).2 ≤ (iv j).1 ∨ (iv j).2 ≤ (iv i).1
/-- A tree of blocks whose lists lie between lo and hi, each tree's apart from its neighbours': c are the topmost block's cells. -/
inductive TreeOn (W : World) : Nat → Nat → Tr → Ten → Prop
  | mk (lo hi k l : Nat) (o : Bool) (st mk : Nat) (ti : Bool) (info text : List UInt8) (kids : List Tr) (kv : Value) (cs : List Ten) (c : Ten) (iv : Nat → Nat × Nat) (hc : c.1 = blkT k l o st mk ti info text kv)
      (hr : W.ownsRow lo 26 10 kv cs.length (flat10 cs)) (hg : ∀ g, kv.ownBlock = some g → g < hi) (hl : cs.length = kids.length) (hv : Iv lo hi kv kids.length iv)
      (hk : ∀ i (h : i < kids.length) (h' : i < cs.length), TreeOn W (iv i).1 (iv i).2 kids[i] cs[i]) : TreeOn W lo hi (.mk k l o st mk ti info text kids) c
theorem TreeOn.same {W W' : World} {lo hi : Nat} {t : Tr} {c : Ten} (h : TreeOn W lo hi t c) : ∀ {lo' hi' : Nat}, lo' ≤ lo → hi ≤ hi' → (∀ b, lo ≤ b → b < hi → W'.heap[b]? = W.heap[b]?) → TreeOn W' lo' hi' t c := by
  induction h with
  | mk lo hi k l o st mk ti info text kids kv cs c iv hc hr hg hl hv hk ih =>
    intro lo' hi' hlo hhi hb
    refine .mk lo' hi' k l o st mk ti info text kids kv cs c iv hc ?_ (fun g e => Nat.lt_of_lt_of_le (hg g e) hhi) hl ⟨fun i h => ?_, hv.apart⟩ fun i h h' => ih i h h' (Nat.le_refl _) (Nat.le_refl _) fun b h1 h2 => ?_
    · exact World.ownsRow.mono (row_same hr fun g e => hb g (hr.lt g e).1 (hg g e)) hlo
    · have := hv.inn i h
      exact ⟨by omega, by omega, this.2.2⟩
    · have := hv.inn i h
      exact hb b (by omega) (by omega)
theorem TreeOn.keep {W W' : World} {lo hi : Nat} {t : Tr} {c : Ten} (h : TreeOn W lo hi t c) (hs : hi ≤ W.heap.size) (k : Keeps W W') : TreeOn W' lo hi t c :=
  h.same (Nat.le_refl _) (Nat.le_refl _) fun b _ hb => k.block b (by omega)
theorem TreeOn.at {W : World} {lo hi : Nat} {t : Tr} {c : Ten} (h : TreeOn W lo hi t c) : TreeAt W lo hi t c := by
  induction h with
  | mk lo hi k l o st mk ti info text kids kv cs c iv hc hr hg hl hv hk ih =>
    refine .mk k l o st mk ti info text kids kv cs c hc hr hg hl fun i h h' => ?_
    have := hv.inn i h
    exact (ih i h h').same (by omega) (by omega) fun _ _ _ => rfl

/-! ### The blocks in one -/
theorem chGo_mem {l : List Nd} {t : Nat} (w : Wf l t) (k : Kin l) {i : Nat} : ∀ (f : Nat) (j : Int), -1 ≤ j → (∀ y : Nat, j = (y : Int) → (gN l y).up = (i : Int) ∧ y < l.length) → ∀ c ∈ chGo f l j, i < c ∧ c < l.length
  | 0, _, _, _, c, hc => by cases hc
  | f + 1, j, hm, h, c, hc => by
    unfold chGo at hc
    split at hc
    · cases hc
    · next hj =>
      obtain ⟨h1, h2⟩ := h j.toNat (by omega)
      have hpos : 0 < j.toNat := by
        refine Nat.pos_of_ne_zero fun e => ?_
        rw [e, w.up0] at h1
        omega
      have hu := w.up j.toNat hpos h2
      have ha := w.ahead j.toNat h2
      rcases List.mem_cons.1 hc with e | e
      · subst e; omega
      · refine chGo_mem w k f (gN l j.toNat).ahead (by omega) (fun y hy => ?_) c e
        exact ⟨(k.ahead _ _ hy).trans h1, by omega⟩
theorem kids_mem {l : List Nd} {t : Nat} (w : Wf l t) (k : Kin l) {i : Nat} (hi : i < l.length) : ∀ c ∈ kidsM l i, i < c ∧ c < l.length := by
  have hl := w.last i hi
  exact chGo_mem w k l.length (gN l i).last (by omega) fun y hy => ⟨k.last i y hy, by omega⟩
theorem chGo_none (f : Nat) (l : List Nd) : chGo f l (-1) = [] := by
  cases f with
  | zero => rfl
  | succ f => unfold chGo; rw [if_pos rfl]
theorem ahead_ge {l : List Nd} {t : Nat} (w : Wf l t) {i : Nat} (hi : i < l.length) : -1 ≤ (gN l i).ahead ∧ (gN l i).ahead < (i : Int) := by
  have ha := w.ahead i hi
  by_cases h0 : i = 0
  · subst h0
    have := w.up0
    omega
  · have := w.up i (by omega) hi
    omega
theorem chGo_fuel {l : List Nd} {t : Nat} (w : Wf l t) : ∀ (f g : Nat) (j : Int), -1 ≤ j → j < f → j < g → j < l.length → chGo f l j = chGo g l j
  | f, g, j, hm, h1, h2, h3 => by
    by_cases e : j = -1
    · rw [e, chGo_none, chGo_none]
    · obtain ⟨f', rfl⟩ : ∃ f', f = f' + 1 := ⟨f - 1, by omega⟩
      obtain ⟨g', rfl⟩ : ∃ g', g = g' + 1 := ⟨g - 1, by omega⟩
      have ha := ahead_ge w (i := j.toNat) (by omega)
      rw [chGo, chGo, if_neg e, if_neg e, chGo_fuel w f' g' _ ha.1 (by omega) (by omega) (by omega)]
termination_by f => f
def chM (l : List Nd) (j : Int) : List Nat := chGo l.length l j
theorem ch_none (l : List Nd) : chM l (-1) = [] := chGo_none _ _
theorem ch_step {l : List Nd} {t : Nat} (w : Wf l t) {j : Nat} (h : j < l.length) : chM l (j : Int) = j :: chM l (gN l j).ahead := by
  unfold chM
  obtain ⟨n, hn⟩ : ∃ n, l.length = n + 1 := ⟨l.length - 1, by omega⟩
  have ha := ahead_ge w h
  rw [hn, chGo, if_neg (by omega), Int.toNat_natCast]
  congr 1
  exact chGo_fuel w n (n + 1) _ ha.1 (by omega) (by omega) (by omega)
theorem kidsB_out {l : List Nd} {i : Nat} (h : l.length ≤ i) : kidsM l i = [] := by
  unfold kidsM
  rw [gN_out h]
  exact chGo_none _ _
theorem told_fuel {l : List Nd} {t : Nat} (w : Wf l t) (k : Kin l) : ∀ (n m i : Nat), l.length ≤ i + n → l.length ≤ i + m → toldGo n l i = toldGo m l i
  | 0, 0, _, _, _ => rfl
  | 0, m + 1, i, h, _ => by
    rw [toldGo, toldGo, kidsB_out (by omega)]; rfl
  | n + 1, 0, i, _, h => by
    rw [toldGo, toldGo, kidsB_out (by omega)]; rfl
  | n + 1, m + 1, i, h1, h2 => by
    rw [toldGo, toldGo]
    congr 2
    by_cases hi : i < l.length
    · refine List.map_congr_left fun c hc => ?_
      have := kids_mem w k hi c hc
      exact told_fuel w k n m c (by omega) (by omega)
    · rw [kidsB_out (by omega)]; rfl
theorem told_eq {l : List Nd} {t : Nat} (w : Wf l t) (k : Kin l) {i : Nat} (hi : i < l.length) :
    toldM l i = .mk (gN l i).kind (gN l i).level (gN l i).ord (gN l i).start (gN l i).mark (gN l i).tight (gN l i).info (gN l i).text ((chM l (gN l i).last).map (toldM l)).reverse := by
  unfold toldM
  obtain ⟨n, hn⟩ : ∃ n, l.length = n + 1 := ⟨l.length - 1, by omega⟩
  rw [hn, toldGo]
  congr 2
  show (kidsM l i).map _ = (kidsM l i).map _
  refine List.map_congr_left fun c hc => ?_
  have := kids_mem w k hi c hc
  exact told_fuel w k n (n + 1) c (by omega) (by omega)
end Go.Proofs.YtfgpephpkibbaaaGreatDoor

/-
  Lines without tabs, from whatever column on: what comes is the same. No program in sight.
-/
namespace Go.Proofs.YtfgpephpkibbaaaGreatDoor
open Go Go.Lib

def noT (l : List UInt8) : Prop := ∀ b ∈ l, b ≠ 9
theorem noT.drop {l : List UInt8} (h : noT l) (n : Nat) : noT (l.drop n) := fun b hb => h b (List.mem_of_mem_drop hb)
theorem noT.tail {b : UInt8} {l : List UInt8} (h : noT (b :: l)) : noT l := fun x hx => h x (List.mem_cons_of_mem _ hx)
theorem wide_noT {b : UInt8} (h : b ≠ 9) (c : Nat) : wideB c 0 b = if b = 32 then 1 else 0 := by
  unfold wideB
  rw [if_neg (by decide), if_neg h]
theorem skip_noT : ∀ (n c d : Nat) (l : List UInt8), noT l → (skipL n c 0 l).1 = (skipL n d 0 l).1 ∧ (skipL n c 0 l).2.2 = 0
  | n, c, d, [], _ => by rw [skip_nil, skip_nil]; exact ⟨rfl, rfl⟩
  | n, c, d, b :: l, h => by
    have hb := h b (List.mem_cons_self ..)
    rw [skip_cons, skip_cons, wide_noT hb, wide_noT hb]
    by_cases h32 : b = 32
    · rw [if_pos h32]
      by_cases h0 : n = 0
      · rw [if_pos (.inl h0), if_pos (.inl h0)]; exact ⟨rfl, rfl⟩
      · rw [if_neg (by omega), if_neg (by omega), if_neg (by omega), if_neg (by omega)]
        have ih := skip_noT (n - 1) (c + 1) (d + 1) l h.tail
        exact ⟨by rw [ih.1], ih.2⟩
    · rw [if_neg h32, if_pos (.inr rfl), if_pos (.inr rfl)]; exact ⟨rfl, rfl⟩
theorem ind_noT : ∀ (c d : Nat) (l : List UInt8), noT l → indL c 0 l = indL d 0 l
  | c, d, [], _ => by rw [ind_nil, ind_nil]
  | c, d, b :: l, h => by
    have hb := h b (List.mem_cons_self ..)
    rw [ind_cons, ind_cons, wide_noT hb, wide_noT hb]
    by_cases h32 : b = 32
    · rw [if_pos h32, if_neg (by decide), if_neg (by decide), ind_noT (c + 1) (d + 1) l h.tail]
    · rw [if_neg h32, if_pos rfl, if_pos rfl]
/-- The same line, from another column on. -/
structure Lr (a b : Ln) : Prop where
  rem : b.rem = a.rem
  fa : a.f = 0
  fb : b.f = 0
  ind : b.ind = a.ind
  next : b.next = a.next
  no : noT a.rem
theorem Lr.skip {a b : Ln} (h : Lr a b) (n : Nat) : Lr (skipBM a n) (skipBM b n) := by
  have e := skip_noT n a.c b.c a.rem h.no
  have e2 := skip_noT n b.c b.c a.rem h.no
  refine ⟨?_, ?_, ?_, ?_, h.next, ?_⟩
  · show b.rem.drop (skipL n b.c b.f b.rem).1 = a.rem.drop (skipL n a.c a.f a.rem).1
    rw [h.rem, h.fa, h.fb, e.1]
  · show (skipL n a.c a.f a.rem).2.2 = 0
    rw [h.fa]; exact e.2
  · show (skipL n b.c b.f b.rem).2.2 = 0
    rw [h.fb, h.rem]; exact e2.2
  · show b.ind - n = a.ind - n
    rw [h.ind]
  · exact h.no.drop _
theorem Lr.hop {a b : Ln} (h : Lr a b) (n : Nat) : Lr (hopM a n) (hopM b n) := by
  refine ⟨?_, h.fa, h.fb, h.ind, h.next, h.no.drop _⟩
  show b.rem.drop (movL n b.rem).length = a.rem.drop (movL n a.rem).length
  rw [h.rem]
theorem Lr.look {a b : Ln} (h : Lr a b) : Lr (lookM a) (lookM b) := by
  refine ⟨h.rem, h.fa, h.fb, ?_, ?_, h.no⟩
  · show indL b.c b.f b.rem = indL a.c a.f a.rem
    rw [h.rem, h.fa, h.fb]
    exact ind_noT _ _ _ h.no
  · show nextL b.rem = nextL a.rem
    rw [h.rem]
theorem Lr.move {a b : Ln} (h : Lr a b) (n : Nat) : Lr (moveM a n) (moveM b n) := by
  unfold moveM
  rw [h.ind]
  exact ((h.skip a.ind).hop n).look
theorem Lr.inds {a b : Ln} (h : Lr a b) (n : Nat) : Lr (pastIndM a n).1 (pastIndM b n).1 ∧ (pastIndM b n).2 = (pastIndM a n).2 := by
  unfold pastIndM
  rw [h.ind]
  split
  · exact ⟨h, rfl⟩
  · exact ⟨h.skip n, rfl⟩
theorem Lr.quote {a b : Ln} (h : Lr a b) : Lr (pastQuoteM a).1 (pastQuoteM b).1 ∧ (pastQuoteM b).2 = (pastQuoteM a).2 := by
  have e : quoteB b = quoteB a := by unfold quoteB; rw [h.ind, h.next]
  unfold pastQuoteM
  rw [e]
  split
  · exact ⟨(h.move 1).skip 1, rfl⟩
  · exact ⟨h, rfl⟩
theorem Lr.mark {a b : Ln} (h : Lr a b) (n : Nat) : Lr (pastMarkM a n).1 (pastMarkM b n).1 ∧ (pastMarkM b n).2 = (pastMarkM a n).2 := by
  have hm := h.move n
  have e : markB (moveM b n) = markB (moveM a n) := by unfold markB; rw [hm.ind, hm.next]
  unfold pastMarkM
  rw [e, h.ind]
  exact ⟨hm.skip _, rfl⟩
theorem Lr.rest {a b : Ln} (h : Lr a b) : lrestM b = lrestM a := by
  unfold lrestM
  rw [h.rem, h.fa, h.fb]
theorem Lr.new {t : List UInt8} (h : noT t) : Lr (newLn t) (newLn t) := ⟨rfl, rfl, rfl, rfl, rfl, h⟩
/-- A quoted line, past its sign. -/
theorem quoted_line {t : List UInt8} (h : noT t) : (pastQuoteM (newLn (62 :: 32 :: t))).2 = true ∧ Lr (newLn t) (pastQuoteM (newLn (62 :: 32 :: t))).1 := by
  have hi : indL 0 0 (62 :: 32 :: t) = 0 := by rw [ind_cons, show wideB 0 0 62 = 0 from rfl, if_pos rfl]
  have hq : quoteB (newLn (62 :: 32 :: t)) = true := by
    unfold quoteB
    show (decide (indL 0 0 (62 :: 32 :: t) < 4) && _) = true
    rw [hi]; rfl
  have hs : skipBM (newLn (62 :: 32 :: t)) (newLn (62 :: 32 :: t)).ind = newLn (62 :: 32 :: t) := by
    show skipBM _ (indL 0 0 (62 :: 32 :: t)) = _
    rw [hi]
    unfold skipBM
    show Ln.mk ((62 :: 32 :: t).drop (skipL 0 0 0 (62 :: 32 :: t)).1) (skipL 0 0 0 (62 :: 32 :: t)).2.1 (skipL 0 0 0 (62 :: 32 :: t)).2.2 _ _ = _
    rw [skip_zero]
    rfl
  have hm : moveM (newLn (62 :: 32 :: t)) 1 = lookM ⟨32 :: t, 1, 0, indL 0 0 (62 :: 32 :: t), nextL (62 :: 32 :: t)⟩ := by
    unfold moveM
    rw [hs]
    rfl
  unfold pastQuoteM
  rw [if_pos hq]
  refine ⟨rfl, ?_⟩
  rw [hm]
  have e1 : (skipL 1 1 0 (32 :: t)) = (1, 2, 0) := by
    rw [skip_cons, show wideB 1 0 32 = 1 from rfl, if_neg (by decide), if_neg (by decide)]
    show ((skipL 0 2 0 t).1 + 1, (skipL 0 2 0 t).2) = _
    rw [skip_zero]
  refine ⟨?_, rfl, ?_, ?_, ?_, h⟩
  · show (32 :: t).drop (skipL 1 1 0 (32 :: t)).1 = t
    rw [e1]; rfl
  · show (skipL 1 1 0 (32 :: t)).2.2 = 0
    rw [e1]
  · show indL 1 0 (32 :: t) - 1 = indL 0 0 t
    rw [ind_cons, show wideB 1 0 32 = 1 from rfl, if_neg (by decide), ind_noT 2 0 t h]
    omega
  · show nextL (32 :: t) = nextL t
    rw [next_cons]; rfl
end Go.Proofs.YtfgpephpkibbaaaGreatDoor

/-
  Quoted lines and the lines, plainly: the blocks are the same, one place further, one block deeper. No program in sight.
-/
namespace Go.Proofs.YtfgpephpkibbaaaGreatDoor
open Go Go.Lib

def sh (x : Int) : Int := if x = -1 then -1 else x + 1
theorem sh_nat (y : Nat) : sh (y : Int) = ((y + 1 : Nat) : Int) := by unfold sh; rw [if_neg (by omega)]; omega
theorem sh_none : sh (-1) = -1 := rfl
theorem sh_eq {x : Int} (h : -1 ≤ x) : sh x = -1 ↔ x = -1 := by unfold sh; split <;> omega
def shN (n : Nd) : Nd := { n with up := n.up + 1, last := sh n.last, ahead := sh n.ahead, depth := n.depth + 1 }
def nQ (last : Int) (be : Bool) : Nd := ⟨2, 0, false, 0, 0, false, [], 0, last, -1, 1, [], 0, 0, 0, 0, be⟩
/-- B: the quoted lines' blocks. -/
structure Qr (A B : St) : Prop where
  len : B.list.length = A.list.length + 1
  tip : B.tip = A.tip + 1
  refs : B.refs = A.refs
  doc : ∃ x, gN B.list 0 = nD 1 x
  top : ∃ la x y, gN A.list 0 = nD la x ∧ gN B.list 1 = nQ (sh la) y
  nd : ∀ i, 1 ≤ i → i < A.list.length → gN B.list (i + 1) = shN (gN A.list i)
  line : Lr A.line B.line
  known : ∀ i, 1 ≤ i → decide (B.known ≤ i + 1) = decide (A.known ≤ i)
  deep : A.deep = true → B.deep = true
theorem Qr.atL {A B : St} (h : Qr A B) {a b : Ln} (k : Lr a b) : Qr (A.atL a) (B.atL b) := ⟨h.len, h.tip, h.refs, h.doc, h.top, h.nd, k, h.known, h.deep⟩
theorem Qr.put {A B : St} (h : Qr A B) {i : Nat} (hi : 1 ≤ i) (n : Nd) : Qr (A.put i n) (B.put (i + 1) (shN n)) := by
  refine ⟨?_, h.tip, h.refs, ?_, ?_, fun j hj hl => ?_, h.line, h.known, h.deep⟩
  · show (B.list.set _ _).length = (A.list.set _ _).length + 1
    rw [List.length_set, List.length_set]; exact h.len
  · obtain ⟨x, e⟩ := h.doc
    exact ⟨x, (gN_ne (by omega) _).trans e⟩
  · obtain ⟨la, x, y, e1, e2⟩ := h.top
    exact ⟨la, x, y, (gN_ne (by omega) _).trans e1, (gN_ne (by omega) _).trans e2⟩
  · have hl' : j < A.list.length := by
      have : j < (A.list.set i n).length := hl
      rwa [List.length_set] at this
    show gN (B.list.set (i + 1) (shN n)) (j + 1) = shN (gN (A.list.set i n) j)
    by_cases e : j = i
    · subst e
      rw [gN_at (by rw [h.len]; omega), gN_at hl']
    · rw [gN_ne (by omega), gN_ne e]
      exact h.nd j hj hl'
theorem Qr.put0 {A B : St} (h : Qr A B) (ha : 0 < A.list.length) (la : Int) (x y : Bool) : Qr (A.put 0 (nD la x)) (B.put 1 (nQ (sh la) y)) := by
  refine ⟨?_, h.tip, h.refs, ?_, ⟨la, x, y, gN_at ha _, gN_at (by rw [h.len]; omega) _⟩, fun j hj hl => ?_, h.line, h.known, h.deep⟩
  · show (B.list.set _ _).length = (A.list.set _ _).length + 1
    rw [List.length_set, List.length_set]; exact h.len
  · obtain ⟨z, e⟩ := h.doc
    exact ⟨z, (gN_ne (by omega) _).trans e⟩
  · have hl' : j < A.list.length := by
      have : j < (A.list.set 0 (nD la x)).length := hl
      rwa [List.length_set] at this
    show gN (B.list.set 1 _) (j + 1) = shN (gN (A.list.set 0 _) j)
    rw [gN_ne (by omega), gN_ne (by omega)]
    exact h.nd j hj hl'
theorem Qr.putD {A B : St} (h : Qr A B) (x : Bool) : Qr A (B.put 0 (nD 1 x)) := by
  have hb : 0 < B.list.length := by rw [h.len]; omega
  refine ⟨?_, h.tip, h.refs, ⟨x, gN_at hb _⟩, ?_, fun j hj hl => ?_, h.line, h.known, h.deep⟩
  · show (B.list.set _ _).length = _
    rw [List.length_set]; exact h.len
  · obtain ⟨la, p, q, e1, e2⟩ := h.top
    exact ⟨la, p, q, e1, (gN_ne (by omega) _).trans e2⟩
  · show gN (B.list.set 0 _) (j + 1) = _
    rw [gN_ne (by omega)]
    exact h.nd j hj hl
/-- What is told of a place is the same, but for the kind of the topmost block. -/
structure Fl (a b : Nd) : Prop where
  text : b.text = a.text
  fence : b.fence = a.fence
  count : b.count = a.count
  html : b.html = a.html
  indent : b.indent = a.indent
  ord : b.ord = a.ord
  mark : b.mark = a.mark
  last : b.last = sh a.last
  depth : b.depth = a.depth + 1
  kind : ∀ k, 3 ≤ k → (b.kind = k ↔ a.kind = k)
  hold : ∀ k, holdsB b.kind k = holdsB a.kind k
theorem Qr.fl {A B : St} (h : Qr A B) {i : Nat} (hi : i < A.list.length) : Fl (A.nd i) (B.nd (i + 1)) := by
  unfold St.nd
  by_cases h0 : i = 0
  · subst h0
    obtain ⟨la, x, y, e1, e2⟩ := h.top
    rw [e1, e2]
    refine ⟨rfl, rfl, rfl, rfl, rfl, rfl, rfl, rfl, rfl, fun k hk => ?_, fun k => ?_⟩
    · show (2 : Nat) = k ↔ (1 : Nat) = k
      omega
    · show holdsB 2 k = holdsB 1 k
      unfold holdsB
      rw [if_pos (by omega), if_pos (by omega)]
  · rw [h.nd i (by omega) hi]
    exact ⟨rfl, rfl, rfl, rfl, rfl, rfl, rfl, rfl, rfl, fun _ _ => Iff.rfl, fun _ => rfl⟩
theorem Fl.dec {a b : Nd} (h : Fl a b) {k : Nat} (hk : 3 ≤ k) : decide (b.kind = k) = decide (a.kind = k) := decide_eq_decide.2 (h.kind k hk)
theorem Qr.up {A B : St} (h : Qr A B) (wa : Wf A.list A.tip) {i : Nat} (h0 : 1 ≤ i) (hi : i < A.list.length) : (B.nd (i + 1)).up.toNat = (A.nd i).up.toNat + 1 := by
  have hu := wa.up i h0 hi
  unfold St.nd
  rw [h.nd i h0 hi]
  show ((gN A.list i).up + 1).toNat = _
  omega
theorem Qr.on {A B : St} (h : Qr A B) (wa : Wf A.list A.tip) : ∀ {t i : Nat}, t < A.list.length → On A.list t i → On B.list (t + 1) (i + 1) := by
  intro t i ht o
  induction o with
  | refl t => exact .refl _
  | @step t a h0 _ ih =>
    have hu := wa.up t h0 ht
    have e := h.up wa h0 ht
    unfold St.nd at e
    refine .step (by omega) ?_
    rw [e]
    exact ih (by omega)

/-! Does a block end with a blank line? Is a list tight? -/
theorem Qr.ends {A B : St} (h : Qr A B) (wa : Wf A.list A.tip) (wb : Wf B.list B.tip) : ∀ (d : Nat) (j : Int), (j = -1 ∨ (1 ≤ j ∧ j < A.list.length ∧ (A.list.length : Int) ≤ j + d)) → endsM B.list (sh j) = endsM A.list j
  | 0, j, hj => by
    rcases hj with e | e
    · rw [e, sh_none]; unfold endsM; rw [ends_none, ends_none]
    · omega
  | d + 1, j, hj => by
    rcases hj with e | e
    · rw [e, sh_none]; unfold endsM; rw [ends_none, ends_none]
    · obtain ⟨i, rfl⟩ : ∃ i : Nat, j = (i : Int) := ⟨j.toNat, by omega⟩
      have hi : i < A.list.length := by omega
      have hn := h.nd i (by omega) hi
      have hl := wa.last i hi
      rw [sh_nat, ends_step wb (by rw [h.len]; omega), ends_step wa hi, hn]
      show (if (gN A.list i).be = true then true else if (gN A.list i).kind ≠ 3 ∧ (gN A.list i).kind ≠ 4 then false else endsM B.list (sh (gN A.list i).last)) = _
      rw [h.ends wa wb d (gN A.list i).last (by omega)]
theorem Qr.tk {A B : St} (h : Qr A B) (wa : Wf A.list A.tip) (wb : Wf B.list B.tip) (a : Int) (ha : -1 ≤ a) : ∀ (d : Nat) (j : Int), (j = -1 ∨ (1 ≤ j ∧ j < A.list.length)) → j ≤ d → tkGo B.list.length B.list (sh a) (sh j) = tkGo A.list.length A.list a j
  | 0, j, hj, hd => by
    rcases hj with e | e
    · rw [e, sh_none, tk_none, tk_none]
    · omega
  | d + 1, j, hj, hd => by
    rcases hj with e | e
    · rw [e, sh_none, tk_none, tk_none]
    · obtain ⟨i, rfl⟩ : ∃ i : Nat, j = (i : Int) := ⟨j.toNat, by omega⟩
      have hi : i < A.list.length := by omega
      have hn := h.nd i (by omega) hi
      have hu := wa.up i (by omega) hi
      have hah := wa.ahead i hi
      have he := h.ends wa wb A.list.length (i : Int) (.inr (by omega))
      rw [sh_nat] at he
      have hc : (((i + 1 : Nat) : Int) ≠ sh a ∧ endsM B.list ((i + 1 : Nat) : Int) = true) ↔ ((i : Int) ≠ a ∧ endsM A.list i = true) := by
        rw [he]
        have : ((i + 1 : Nat) : Int) ≠ sh a ↔ (i : Int) ≠ a := by unfold sh; split <;> omega
        rw [this]
      rw [sh_nat, tk_step wb (sh a) (by rw [h.len]; omega), tk_step wa a hi, hn]
      show (if ((i + 1 : Nat) : Int) ≠ sh a ∧ endsM B.list ((i + 1 : Nat) : Int) = true then false else tkGo B.list.length B.list (sh a) (sh (gN A.list i).ahead)) = _
      rw [h.tk wa wb a ha d (gN A.list i).ahead (by omega) (by omega)]
      by_cases c : (i : Int) ≠ a ∧ endsM A.list i = true
      · rw [if_pos c, if_pos (hc.2 c)]
      · rw [if_neg c, if_neg (fun q => c (hc.1 q))]
theorem Qr.tkM {A B : St} (h : Qr A B) (wa : Wf A.list A.tip) (wb : Wf B.list B.tip) (j : Int) (hj : j = -1 ∨ (1 ≤ j ∧ j < A.list.length)) : tkM B.list (sh j) = tkM A.list j := by
  unfold Go.Proofs.YtfgpephpkibbaaaGreatDoor.tkM
  exact h.tk wa wb j (by omega) A.list.length j hj (by omega)
theorem Qr.ti {A B : St} (h : Qr A B) (wa : Wf A.list A.tip) (wb : Wf B.list B.tip) (a : Int) (ha : -1 ≤ a) : ∀ (d : Nat) (j : Int), (j = -1 ∨ (1 ≤ j ∧ j < A.list.length)) → j ≤ d → tiGo B.list.length B.list (sh a) (sh j) = tiGo A.list.length A.list a j
  | 0, j, hj, hd => by
    rcases hj with e | e
    · rw [e, sh_none, ti_none, ti_none]
    · omega
  | d + 1, j, hj, hd => by
    rcases hj with e | e
    · rw [e, sh_none, ti_none, ti_none]
    · obtain ⟨i, rfl⟩ : ∃ i : Nat, j = (i : Int) := ⟨j.toNat, by omega⟩
      have hi : i < A.list.length := by omega
      have hn := h.nd i (by omega) hi
      have hu := wa.up i (by omega) hi
      have hah := wa.ahead i hi
      have hla := wa.last i hi
      have he := h.ends wa wb A.list.length (i : Int) (.inr (by omega))
      rw [sh_nat] at he
      have hc : (((i + 1 : Nat) : Int) ≠ sh a ∧ endsM B.list ((i + 1 : Nat) : Int) = true) ↔ ((i : Int) ≠ a ∧ endsM A.list i = true) := by
        rw [he]
        have : ((i + 1 : Nat) : Int) ≠ sh a ↔ (i : Int) ≠ a := by unfold sh; split <;> omega
        rw [this]
      rw [sh_nat, ti_step wb (sh a) (by rw [h.len]; omega), ti_step wa a hi, hn]
      show (if ((i + 1 : Nat) : Int) ≠ sh a ∧ endsM B.list ((i + 1 : Nat) : Int) = true then false else if Go.Proofs.YtfgpephpkibbaaaGreatDoor.tkM B.list (sh (gN A.list i).last) = false then false else tiGo B.list.length B.list (sh a) (sh (gN A.list i).ahead)) = _
      rw [h.ti wa wb a ha d (gN A.list i).ahead (by omega) (by omega), h.tkM wa wb (gN A.list i).last (by omega)]
      by_cases c : (i : Int) ≠ a ∧ endsM A.list i = true
      · rw [if_pos c, if_pos (hc.2 c)]
      · rw [if_neg c, if_neg (fun q => c (hc.1 q))]
theorem Qr.tight {A B : St} (h : Qr A B) (wa : Wf A.list A.tip) (wb : Wf B.list B.tip) {i : Nat} (hi : i < A.list.length) : tightM B.list (i + 1) = tightM A.list i := by
  have hl := wa.last i hi
  have e := (h.fl hi).last
  unfold St.nd at e
  unfold tightM
  rw [e]
  exact h.ti wa wb _ (by omega) A.list.length _ (by omega) (by omega)
end Go.Proofs.YtfgpephpkibbaaaGreatDoor

/-
  Quoted lines and the lines, plainly: closing and adding blocks. No program in sight.
-/
namespace Go.Proofs.YtfgpephpkibbaaaGreatDoor
open Go Go.Lib

theorem Qr.define {A B : St} (h : Qr A B) {i : Nat} (h1 : 1 ≤ i) (hi : i < A.list.length) : Qr (defineM A i) (defineM B (i + 1)) := by
  have hn : B.nd (i + 1) = shN (A.nd i) := h.nd i h1 hi
  have hp := h.put h1 { A.nd i with text := trimL (dfrL (A.nd i).text) }
  have e : defineM B (i + 1) = { B.put (i + 1) (shN { A.nd i with text := trimL (dfrL (A.nd i).text) }) with refs := B.refs ++ dfsL (A.nd i).text } := by
    unfold defineM
    rw [hn]
    rfl
  rw [e]
  refine ⟨hp.len, hp.tip, ?_, hp.doc, hp.top, hp.nd, hp.line, hp.known, hp.deep⟩
  show B.refs ++ dfsL (A.nd i).text = A.refs ++ dfsL (A.nd i).text
  rw [h.refs]
/-- The tip goes. -/
theorem Qr.fewer {A B : St} (h : Qr A B) (wa : Wf A.list A.tip) (h0 : A.tip ≠ 0) {t u : Nat} (ht : t = (A.nd A.tip).up.toNat) (hu : u = (B.nd B.tip).up.toNat) : Qr { A with tip := t } { B with tip := u } := by
  refine ⟨h.len, ?_, h.refs, h.doc, h.top, h.nd, h.line, h.known, h.deep⟩
  show u = t + 1
  rw [ht, hu, h.tip]
  exact h.up wa (by omega) wa.tip
theorem Qr.drop {A B : St} (h : Qr A B) (wa : Wf A.list A.tip) {i : Nat} (h1 : 1 ≤ i) (hi : i < A.list.length) : Qr (A.put (A.nd i).up.toNat { A.nd (A.nd i).up.toNat with last := (A.nd i).ahead }) (B.put (B.nd (i + 1)).up.toNat { B.nd (B.nd (i + 1)).up.toNat with last := (B.nd (i + 1)).ahead }) := by
  have hu := wa.up i h1 hi
  have eu := h.up wa h1 hi
  have ea : (B.nd (i + 1)).ahead = sh (A.nd i).ahead := by
    show (gN B.list (i + 1)).ahead = _
    rw [h.nd i h1 hi]; rfl
  rw [eu, ea]
  generalize hv : (A.nd i).up.toNat = v
  have hvl : v < A.list.length := by
    rw [← hv]
    unfold St.nd
    omega
  by_cases h0 : v = 0
  · subst h0
    obtain ⟨la, x, y, e1, e2⟩ := h.top
    have q := h.put0 (by omega) (A.nd i).ahead x y
    have f1 : ({ A.nd 0 with last := (A.nd i).ahead } : Nd) = nD (A.nd i).ahead x := by
      show ({ gN A.list 0 with last := (A.nd i).ahead } : Nd) = _
      rw [e1]; rfl
    have f2 : ({ B.nd (0 + 1) with last := sh (A.nd i).ahead } : Nd) = nQ (sh (A.nd i).ahead) y := by
      show ({ gN B.list 1 with last := sh (A.nd i).ahead } : Nd) = _
      rw [e2]; rfl
    rw [f1, f2]
    exact q
  · have q := h.put (i := v) (by omega) { A.nd v with last := (A.nd i).ahead }
    have f : ({ B.nd (v + 1) with last := sh (A.nd i).ahead } : Nd) = shN { A.nd v with last := (A.nd i).ahead } := by
      have : B.nd (v + 1) = shN (A.nd v) := h.nd v (by omega) hvl
      rw [this]; rfl
    rw [f]
    exact q
theorem Qr.closed {A B : St} (h : Qr A B) (wa : Wf A.list A.tip) (wb : Wf B.list B.tip) {i : Nat} (h1 : 1 ≤ i) (hi : i < A.list.length) : Qr (closedM A i) (closedM B (i + 1)) := by
  have hn : B.nd (i + 1) = shN (A.nd i) := h.nd i h1 hi
  have ek : (B.nd (i + 1)).kind = (A.nd i).kind := by rw [hn]; rfl
  have ef : (B.nd (i + 1)).fence = (A.nd i).fence := by rw [hn]; rfl
  have et : (B.nd (i + 1)).text = (A.nd i).text := by rw [hn]; rfl
  have txt : Qr (A.put i { A.nd i with text := wblL (A.nd i).text }) (B.put (i + 1) { B.nd (i + 1) with text := wblL (B.nd (i + 1)).text }) := by
    have q := h.put h1 { A.nd i with text := wblL (A.nd i).text }
    rw [et, hn]
    exact q
  unfold closedM
  rw [ek, ef]
  split
  · unfold closeParaM
    have hd := h.define h1 hi
    have hdl : i < (defineM A i).list.length := by rw [define_len]; exact hi
    have hdn : (defineM B (i + 1)).nd (i + 1) = shN ((defineM A i).nd i) := hd.nd i h1 hdl
    have e2 : ((defineM B (i + 1)).nd (i + 1)).text = ((defineM A i).nd i).text := by rw [hdn]; rfl
    rw [e2]
    split
    · have wd : Wf (defineM A i).list (defineM A i).tip := wa.text i _ _
      exact hd.drop wd h1 hdl
    · exact hd
  split
  · split
    · exact txt
    · exact h
  split
  · exact txt
  split
  · have q := h.put h1 { A.nd i with tight := tightM A.list i }
    rw [h.tight wa wb hi, hn]
    exact q
  · exact h
theorem closed_tip (s : St) (i : Nat) : (closedM s i).tip = s.tip := by
  unfold closedM closeParaM defineM St.put
  (repeat' split) <;> rfl
theorem Qr.close {A B : St} (h : Qr A B) (wa : Wf A.list A.tip) (wb : Wf B.list B.tip) (h0 : A.tip ≠ 0) : Qr (closeM A) (closeM B) := by
  have hc := h.closed wa wb (i := A.tip) (by omega) wa.tip
  rw [← h.tip] at hc
  unfold closeM
  have eu : (B.nd B.tip).up.toNat = (A.nd A.tip).up.toNat + 1 := by rw [h.tip]; exact h.up wa (by omega) wa.tip
  exact ⟨hc.len, eu, hc.refs, hc.doc, hc.top, hc.nd, hc.line, hc.known, hc.deep⟩
theorem Qr.cw {A B : St} : ∀ (n : Nat) (_ : A.tip ≤ n) (_ : Qr A B) (_ : Wf A.list A.tip) (_ : Wf B.list B.tip) {i : Nat} (_ : On A.list A.tip i), Qr (cwM A i) (cwM B (i + 1)) := by
  intro n
  induction n generalizing A B with
  | zero =>
    intro hn h wa wb i o
    have := o.le wa
    rw [cw_stop (by omega), cw_stop (by rw [h.tip]; omega)]
    exact h
  | succ n ih =>
    intro hn h wa wb i o
    by_cases e : A.tip = i
    · rw [cw_stop e, cw_stop (by rw [h.tip, e])]
      exact h
    · have h0 : A.tip ≠ 0 := fun e0 => by have := o.le wa; omega
      have hu := wa.up A.tip (by omega) wa.tip
      have ob : On B.list B.tip (i + 1) := by rw [h.tip]; exact h.on wa wa.tip o
      have eb : B.tip ≠ i + 1 := by rw [h.tip]; omega
      have b0 : B.tip ≠ 0 := by rw [h.tip]; omega
      rw [cw_step wa o e, cw_step wb ob eb]
      exact ih (by rw [close_tip]; unfold St.nd; omega) (h.close wa wb h0) (wa.close h0) (wb.close b0) (o.closed e)
theorem Qr.closeTo {A B : St} (h : Qr A B) (wa : Wf A.list A.tip) (wb : Wf B.list B.tip) {i : Nat} (o : On A.list A.tip i) : Qr (cwM A i) (cwM B (i + 1)) := Qr.cw A.tip (Nat.le_refl _) h wa wb o
/-! Adding. -/
theorem Qr.addGo {A B : St} {k : Nat} (hk : k ≠ 4) : ∀ (n : Nat) (_ : A.tip ≤ n) (_ : Qr A B) (_ : Wf A.list A.tip) (_ : Wf B.list B.tip), Qr (Go.Proofs.YtfgpephpkibbaaaGreatDoor.addGo A.tip A k) (Go.Proofs.YtfgpephpkibbaaaGreatDoor.addGo B.tip B k) := by
  intro n
  induction n generalizing A B with
  | zero =>
    intro hn h wa wb
    have hh : holdsB (A.nd A.tip).kind k = true := doc_holds wa (by omega) hk
    have hb : holdsB (B.nd B.tip).kind k = true := by rw [h.tip, (h.fl wa.tip).hold]; exact hh
    rw [add_stop hh, add_stop hb]
    exact h
  | succ n ih =>
    intro hn h wa wb
    have hb : holdsB (B.nd B.tip).kind k = holdsB (A.nd A.tip).kind k := by rw [h.tip, (h.fl wa.tip).hold]
    by_cases e : holdsB (A.nd A.tip).kind k = true
    · rw [add_stop e, add_stop (by rw [hb]; exact e)]
      exact h
    · obtain ⟨h0, e1⟩ := add_step wa hk e
      obtain ⟨b0, e2⟩ := add_step wb hk (by rw [hb]; exact e)
      have hu := wa.up A.tip (by omega) wa.tip
      rw [e1, e2]
      exact ih (by rw [close_tip]; unfold St.nd; omega) (h.close wa wb h0) (wa.close h0) (wb.close b0)
theorem push_deep (s : St) (b : Nd) : (pushM s b).deep = (s.deep || decide (100 < (s.nd s.tip).depth + 1)) := rfl
theorem Qr.push {A B : St} (h : Qr A B) (wa : Wf A.list A.tip) (wb : Wf B.list B.tip) (b : Nd) : Qr (pushM A b) (pushM B b) := by
  have ht := wa.tip
  have hf := h.fl ht
  have la : (pushM A b).list.length = A.list.length + 1 := push_len A b
  have lb : (pushM B b).list.length = B.list.length + 1 := push_len B b
  refine ⟨by rw [la, lb, h.len], ?_, h.refs, ?_, ?_, fun j h1 hl => ?_, h.line, h.known, fun hd => ?_⟩
  · show B.list.length = A.list.length + 1
    exact h.len
  · obtain ⟨x, e⟩ := h.doc
    refine ⟨x, ?_⟩
    have := push_old B b (i := 0) (by rw [h.len]; omega) (by rw [h.tip]; omega)
    unfold St.nd at this
    rw [this]; exact e
  · obtain ⟨l0, x, y, e1, e2⟩ := h.top
    by_cases h0 : A.tip = 0
    · have ea := push_tip A b ht
      have eb := push_tip B b wb.tip
      unfold St.nd at ea eb
      rw [h0, e1] at ea
      rw [h.tip, h0, e2, h.len] at eb
      refine ⟨(A.list.length : Int), x, y, ea, ?_⟩
      rw [sh_nat]
      exact eb
    · have ea := push_old A b (i := 0) (by omega) (fun e => h0 e.symm)
      have eb := push_old B b (i := 1) (by rw [h.len]; omega) (by rw [h.tip]; omega)
      unfold St.nd at ea eb
      exact ⟨l0, x, y, ea.trans e1, eb.trans e2⟩
  · rw [la] at hl
    by_cases e : j = A.list.length
    · subst e
      have ea := push_new A b
      have eb := push_new B b
      unfold St.nd at ea eb
      have hl' := hf.last
      have hd' := hf.depth
      unfold St.nd at hl' hd'
      rw [h.len, h.tip, hl', hd'] at eb
      rw [ea, eb]
      rfl
    · have hj : j < A.list.length := by omega
      by_cases et : j = A.tip
      · subst et
        have ea := push_tip A b ht
        have eb := push_tip B b wb.tip
        unfold St.nd at ea eb
        rw [h.tip, h.nd A.tip h1 hj, h.len] at eb
        rw [ea, eb]
        show _ = ({ shN (gN A.list A.tip) with last := sh (A.list.length : Int) } : Nd)
        rw [sh_nat]
      · have ea := push_old A b hj et
        have eb := push_old B b (i := j + 1) (by rw [h.len]; omega) (by rw [h.tip]; omega)
        unfold St.nd at ea eb
        rw [ea, eb]
        exact h.nd j h1 hj
  · rw [push_deep] at hd ⊢
    have hdp := hf.depth
    rw [← h.tip] at hdp
    rw [Bool.or_eq_true] at hd ⊢
    rcases hd with q | q
    · exact .inl (h.deep q)
    · refine .inr ?_
      rw [decide_eq_true_eq] at q ⊢
      omega
theorem Qr.add {A B : St} (h : Qr A B) (wa : Wf A.list A.tip) (wb : Wf B.list B.tip) (b : Nd) (hk : b.kind ≠ 4) : Qr (addM A b) (addM B b) := by
  have q := Qr.addGo hk A.tip (Nat.le_refl _) h wa wb
  exact q.push (addGo_ok A.tip A b.kind (Nat.le_refl _) wa (.inl hk)).1 (addGo_ok B.tip B b.kind (Nat.le_refl _) wb (.inl hk)).1 b
theorem Qr.addIn {A B : St} (h : Qr A B) (wa : Wf A.list A.tip) (wb : Wf B.list B.tip) {i : Nat} (o : On A.list A.tip i) (b : Nd) (hk : b.kind ≠ 4) : Qr (addInM A i b) (addInM B (i + 1) b) := by
  have ob : On B.list B.tip (i + 1) := by rw [h.tip]; exact h.on wa wa.tip o
  exact (h.closeTo wa wb o).add (cw_wf wa o) (cw_wf wb ob) b hk
end Go.Proofs.YtfgpephpkibbaaaGreatDoor

/-
  Quoted lines and the lines, plainly: what goes on, and what begins. No program in sight.
-/
namespace Go.Proofs.YtfgpephpkibbaaaGreatDoor
open Go Go.Lib

theorem Qr.fence {A B : St} (h : Qr A B) {i : Nat} (hi : i < A.list.length) : endsFenceM B (i + 1) = endsFenceM A i := by
  have f := h.fl hi
  unfold endsFenceM
  rw [f.fence, f.count, h.line.ind, h.line.next]
theorem Qr.goes {A B : St} (h : Qr A B) (wa : Wf A.list A.tip) {i : Nat} (h1 : 1 ≤ i) (hi : i < A.list.length) : Lr (goesOnM A i).1 (goesOnM B (i + 1)).1 ∧ (goesOnM B (i + 1)).2 = (goesOnM A i).2 := by
  have hn : B.nd (i + 1) = shN (A.nd i) := h.nd i h1 hi
  have ek : (B.nd (i + 1)).kind = (A.nd i).kind := by rw [hn]; rfl
  have f := h.fl hi
  unfold goesOnM
  rw [ek]
  split
  · exact h.line.quote
  split
  · exact ⟨h.line, rfl⟩
  split
  · unfold itemOnM
    rw [h.line.next, h.line.ind, f.indent]
    split
    · refine ⟨h.line.skip _, ?_⟩
      have : decide ((B.nd (i + 1)).last = -1) = decide ((A.nd i).last = -1) := by
        rw [f.last]
        refine decide_eq_decide.2 (sh_eq ?_)
        have := wa.last i hi
        unfold St.nd
        omega
      rw [this]
    · exact h.line.inds _
  split
  · unfold codeOnM
    rw [h.line.next, f.fence, f.indent]
    split
    · exact ⟨h.line.skip _, rfl⟩
    split
    · exact ⟨h.line.skip _, rfl⟩
    · exact h.line.inds _
  split
  · rw [f.html, h.line.next]
    exact ⟨h.line, rfl⟩
  split
  · rw [h.line.next]
    exact ⟨h.line, rfl⟩
  · exact ⟨h.line, rfl⟩
/-- What is told of a step within a line: places are one further. -/
structure Qm (x y : St × Nat × Bool) : Prop where
  st : Qr x.1 y.1
  at_ : y.2.1 = x.2.1 + 1
  yes : y.2.2 = x.2.2
theorem Qr.match : ∀ (f : Nat) {A B : St} (_ : Qr A B) (_ : Wf A.list A.tip) (_ : Wf B.list B.tip) {i : Nat} (_ : On A.list A.tip i), Qm (matchGo f A i) (matchGo f B (i + 1))
  | 0, A, B, h, _, _, i, _ => ⟨h, rfl, rfl⟩
  | f + 1, A, B, h, wa, wb, i, o => by
    have hle := o.le wa
    have ht := wa.tip
    unfold matchGo
    by_cases e : i = A.tip
    · rw [if_pos e, if_pos (by rw [h.tip, e])]
      exact ⟨h, rfl, rfl⟩
    · rw [if_neg e, if_neg (show ¬ i + 1 = B.tip by rw [h.tip]; omega)]
      obtain ⟨y, e1, o2, hy, hyl⟩ := wa.child o e
      have hl : (A.nd i).last.toNat = y := by unfold St.nd; rw [e1]; rfl
      have hlb : (B.nd (i + 1)).last.toNat = y + 1 := by
        rw [(h.fl (i := i) (by omega)).last]
        unfold St.nd
        rw [e1, sh_nat]; rfl
      rw [hl, hlb, h.fence hyl]
      by_cases c : endsFenceM A y = true
      · rw [if_pos c, if_pos c]
        exact ⟨h.close wa wb (by omega), rfl, rfl⟩
      · rw [if_neg c, if_neg c]
        obtain ⟨g1, g2⟩ := h.goes wa (i := y) (by omega) hyl
        rw [g2]
        by_cases c2 : (goesOnM A y).2 = true
        · rw [if_pos c2, if_pos c2]
          exact Qr.match f (h.atL g1) wa wb o2
        · rw [if_neg c2, if_neg c2]
          exact ⟨h.atL g1, rfl, rfl⟩

/-! What begins. -/
theorem Qr.htmK {A B : St} (h : Qr A B) (wa : Wf A.list A.tip) : htmKM B = htmKM A := by
  unfold htmKM
  rw [h.line.next, h.tip, (h.fl wa.tip).dec (k := 5) (by decide)]
theorem Qr.under {A B : St} (h : Qr A B) {i : Nat} (hi : i < A.list.length) : Qr (bUnderM A i).1 (bUnderM B (i + 1)).1 ∧ (bUnderM B (i + 1)).2 = (bUnderM A i).2 := by
  have f := h.fl hi
  unfold bUnderM
  rw [h.line.next]
  by_cases c : underL A.line.next = 0 ∨ (A.nd i).kind ≠ 5
  · have cB : underL A.line.next = 0 ∨ (B.nd (i + 1)).kind ≠ 5 := by
      rcases c with c | c
      · exact .inl c
      · exact .inr (fun q => c ((f.kind 5 (by decide)).1 q))
    rw [if_pos c, if_pos cB]
    exact ⟨h, rfl⟩
  · have c5 : (A.nd i).kind = 5 := Decidable.byContradiction fun q => c (.inr q)
    have h1 : 1 ≤ i := by
      refine Nat.pos_of_ne_zero fun e => ?_
      subst e
      obtain ⟨la, x, y, e1, _⟩ := h.top
      unfold St.nd at c5
      rw [e1] at c5
      cases c5
    have cB : ¬ (underL A.line.next = 0 ∨ (B.nd (i + 1)).kind ≠ 5) := by
      rintro (q | q)
      · exact c (.inl q)
      · exact q ((f.kind 5 (by decide)).2 c5)
    rw [if_neg c, if_neg cB]
    have hd := h.define h1 hi
    have hdl : i < (defineM A i).list.length := by rw [define_len]; exact hi
    have hdn : (defineM B (i + 1)).nd (i + 1) = shN ((defineM A i).nd i) := hd.nd i h1 hdl
    have e2 : ((defineM B (i + 1)).nd (i + 1)).text = ((defineM A i).nd i).text := by rw [hdn]; rfl
    rw [e2]
    by_cases ct : ((defineM A i).nd i).text = []
    · rw [if_pos ct, if_pos ct]
      exact ⟨hd, rfl⟩
    · rw [if_neg ct, if_neg ct]
      have q := hd.put h1 { (defineM A i).nd i with kind := 6, level := underL A.line.next }
      refine ⟨?_, rfl⟩
      rw [hdn]
      exact q
theorem Qr.inItem {A B : St} (h : Qr A B) (wa : Wf A.list A.tip) (h0 : A.tip ≠ 0) (n : Nat) : Qr (inItemM A n) (inItemM B n) := by
  obtain ⟨m1, m2⟩ := h.line.mark n
  have hn : B.nd B.tip = shN (A.nd A.tip) := by rw [h.tip]; exact h.nd A.tip (by omega) wa.tip
  have q := (h.put (i := A.tip) (by omega) { A.nd A.tip with indent := (pastMarkM A.line n).2 }).atL m1
  unfold inItemM
  rw [m2, hn, h.tip]
  exact q
theorem Qr.list {A B : St} (h : Qr A B) (wa : Wf A.list A.tip) (wb : Wf B.list B.tip) (sg : Bool × Nat × Nat × Nat) : Qr (listM A sg) (listM B sg) := by
  have f := h.fl wa.tip
  have e : takesB B sg = takesB A sg := by
    unfold takesB
    rw [h.tip, f.dec (k := 3) (by decide), f.ord, f.mark]
  unfold listM
  rw [e]
  split
  · exact h
  · exact h.add wa wb _ (show (3 : Nat) ≠ 4 by decide)
theorem Qr.item {A B : St} (h : Qr A B) (wa : Wf A.list A.tip) (wb : Wf B.list B.tip) {i : Nat} (o : On A.list A.tip i) : Qr (bItemM A i).1 (bItemM B (i + 1)).1 ∧ (bItemM B (i + 1)).2 = (bItemM A i).2 := by
  have hi : i < A.list.length := by have := o.le wa; have := wa.tip; omega
  have ob : On B.list B.tip (i + 1) := by rw [h.tip]; exact h.on wa wa.tip o
  have e : itemB B (i + 1) = itemB A i := by
    unfold itemB
    rw [h.line.next, (h.fl hi).dec (k := 5) (by decide)]
  unfold bItemM
  rw [e, h.line.next]
  split
  · refine ⟨?_, rfl⟩
    have w1 := cw_wf wa o
    have v1 := cw_wf wb ob
    obtain ⟨w2, _, o2, _, _⟩ := list_ok w1 (lstL A.line.next) (a := (cwM A i).list.length) (b := phi (cwM A i)) ⟨Nat.le_refl _, Nat.le_refl _⟩
    obtain ⟨v2, _, p2, _, _⟩ := list_ok v1 (lstL A.line.next) (a := (cwM B (i + 1)).list.length) (b := phi (cwM B (i + 1))) ⟨Nat.le_refl _, Nat.le_refl _⟩
    have q := (h.closeTo wa wb o).list w1 v1 (lstL A.line.next)
    generalize listM (cwM A i) (lstL A.line.next) = s2 at *
    generalize listM (cwM B (i + 1)) (lstL A.line.next) = t2 at *
    have ea : addM s2 (blkN 4) = pushM s2 (blkN 4) := by unfold addM; rw [show (blkN 4).kind = 4 from rfl, add_stop o2]
    have eb : addM t2 (blkN 4) = pushM t2 (blkN 4) := by unfold addM; rw [show (blkN 4).kind = 4 from rfl, add_stop p2]
    rw [ea, eb]
    have w3 : Wf (pushM s2 (blkN 4)).list (pushM s2 (blkN 4)).tip := w2.push (blkN 4) (Nat.zero_le _)
    exact (q.push w2 v2 (blkN 4)).inItem w3 (by show s2.list.length ≠ 0; have := w2.tip; omega) _
  · exact ⟨h, rfl⟩
theorem Qr.begin {A B : St} {i : Nat} (h : Qr A B) (ka : Ok A i) (kb : Ok B (i + 1)) : Qr (beginM A i).1 (beginM B (i + 1)).1 ∧ (beginM B (i + 1)).2 = (beginM A i).2 := by
  have wa := ka.wf
  have wb := kb.wf
  obtain ⟨q1, q2⟩ := h.line.quote
  obtain ⟨u1, u2⟩ := h.under ka.lt
  unfold beginM
  rw [h.line.next, h.line.ind, q2, h.htmK wa, u2]
  by_cases c1 : A.line.next = []
  · rw [if_pos c1, if_pos c1]; exact ⟨h, rfl⟩
  rw [if_neg c1, if_neg c1]
  by_cases c2 : 4 ≤ A.line.ind
  · rw [if_pos c2, if_pos c2]
    unfold bCodeM
    have f := h.fl wa.tip
    rw [← h.tip] at f
    by_cases c : (A.nd A.tip).kind = 5
    · have cB : (B.nd B.tip).kind = 5 := (f.kind 5 (by decide)).2 c
      rw [if_pos c, if_pos cB]; exact ⟨h, rfl⟩
    · have cB : ¬ (B.nd B.tip).kind = 5 := fun q => c ((f.kind 5 (by decide)).1 q)
      rw [if_neg c, if_neg cB]
      exact ⟨(h.atL (h.line.skip 4)).addIn wa wb ka.on (blkN 7) (show (7 : Nat) ≠ 4 by decide), rfl⟩
  rw [if_neg c2, if_neg c2]
  by_cases c3 : (pastQuoteM A.line).2 = true
  · rw [if_pos c3, if_pos c3]
    exact ⟨(h.atL q1).addIn wa wb ka.on (blkN 2) (show (2 : Nat) ≠ 4 by decide), rfl⟩
  rw [if_neg c3, if_neg c3]
  by_cases c4 : headN A.line.next ≠ 0
  · rw [if_pos c4, if_pos c4]
    unfold bHeadM
    rw [h.line.next]
    exact ⟨h.addIn wa wb ka.on _ (show (6 : Nat) ≠ 4 by decide), rfl⟩
  rw [if_neg c4, if_neg c4]
  by_cases c5 : fenN A.line.next ≠ 0
  · rw [if_pos c5, if_pos c5]
    unfold bFenceM
    rw [h.line.next, h.line.ind]
    exact ⟨h.addIn wa wb ka.on _ (show (7 : Nat) ≠ 4 by decide), rfl⟩
  rw [if_neg c5, if_neg c5]
  by_cases c6 : htmKM A ≠ 0
  · rw [if_pos c6, if_pos c6]
    unfold bHtmlM
    rw [h.htmK wa]
    exact ⟨h.addIn wa wb ka.on _ (show (8 : Nat) ≠ 4 by decide), rfl⟩
  rw [if_neg c6, if_neg c6]
  by_cases c7 : (bUnderM A i).2 = true
  · rw [if_pos c7, if_pos c7]
    exact ⟨u1, rfl⟩
  rw [if_neg c7, if_neg c7]
  have a7 : (bUnderM A i).2 = false := by revert c7; cases (bUnderM A i).2 <;> simp
  have k1 := (ka.under a7).1
  have l1 := (kb.under (u2.trans a7)).1
  unfold bRestM
  rw [u1.line.next]
  split
  · exact ⟨u1.addIn k1.wf l1.wf k1.on _ (show (9 : Nat) ≠ 4 by decide), rfl⟩
  · obtain ⟨i1, i2⟩ := u1.item k1.wf l1.wf k1.on
    rw [i2]
    split
    · exact ⟨i1, rfl⟩
    · exact ⟨u1, rfl⟩
end Go.Proofs.YtfgpephpkibbaaaGreatDoor

/-
  Quoted lines and the lines, plainly: a line, and all of them. No program in sight.
-/
namespace Go.Proofs.YtfgpephpkibbaaaGreatDoor
open Go Go.Lib

/-- What begins is the same, one place further; or it is too deep. -/
def Qs (x y : St × Nat × Nat) : Prop := y.1.deep = true ∨ (Qr x.1 y.1 ∧ y.2.1 = x.2.1 + 1 ∧ y.2.2 = x.2.2)
theorem Qr.begun : ∀ (f g : Nat) {A B : St} {i z : Nat} (_ : Qr A B) (_ : Ok A i) (_ : Ok B (i + 1)) (_ : Lw z A.line) (_ : Lw z B.line) (_ : z ≤ 10000) (_ : A.list.length + 2 * A.line.rem.length ≤ 79000) (_ : B.list.length + 2 * B.line.rem.length ≤ 79000) (_ : A.line.rem.length < f) (_ : B.line.rem.length < g), Qs (begunGo f A i) (begunGo g B (i + 1))
  | 0, _, _, _, _, _, _, _, _, _, _, _, _, _, h, _ => by omega
  | _ + 1, 0, _, _, _, _, _, _, _, _, _, _, _, _, _, h => by omega
  | f + 1, g + 1, A, B, i, z, h, ka, kb, hza, hzb, hz, ha, hb, hf, hg => by
    obtain ⟨q1, q2⟩ := h.begin ka kb
    have ga := begin_bg ka (a := A.list.length) (b := phi A) ⟨Nat.le_refl _, Nat.le_refl _⟩ hza hz
    have gb := begin_bg kb (a := B.list.length) (b := phi B) ⟨Nat.le_refl _, Nat.le_refl _⟩ hzb hz
    unfold begunGo
    rw [q2]
    by_cases c0 : (beginM A i).2 = 0
    · rw [if_pos c0, if_pos c0]
      exact .inr ⟨q1, rfl, rfl⟩
    rw [if_neg c0, if_neg c0]
    by_cases cb : (beginM A i).2 ≠ 1 ∨ (beginM B (i + 1)).1.deep = true
    · rw [if_pos cb]
      by_cases ca : (beginM A i).2 ≠ 1 ∨ (beginM A i).1.deep = true
      · rw [if_pos ca]
        exact .inr ⟨q1, q1.tip, rfl⟩
      · rcases cb with c | c
        · exact absurd (.inl c) ca
        · exact .inl c
    · have ca : ¬ ((beginM A i).2 ≠ 1 ∨ (beginM A i).1.deep = true) := by
        rintro (c | c)
        · exact cb (.inl c)
        · exact cb (.inr (q1.deep c))
      rw [if_neg ca, if_neg cb]
      have e1 : (beginM A i).2 = 1 := Decidable.byContradiction fun q => ca (.inl q)
      obtain ⟨a2, a3⟩ := ga.one e1
      obtain ⟨b2, b3⟩ := gb.one (q2.trans e1)
      have a4 := a2 z hza
      have b4 := b2 z hzb
      have a5 := a3.len
      have a6 := a3.txt
      have b5 := b3.len
      have b6 := b3.txt
      have a7 := ka.phi
      have b7 := kb.phi
      rw [q1.tip]
      exact Qr.begun f g q1 ⟨ga.wf, .refl _, by omega, by omega⟩ ⟨gb.wf, by rw [← q1.tip]; exact .refl _, by omega, by omega⟩ (ga.lw z hza) (gb.lw z hzb) hz (by omega) (by omega) (by omega) (by omega)

/-! The rest. -/
theorem Qr.putM {A B : St} (h : Qr A B) {i : Nat} (h1 : 1 ≤ i) (hi : i < A.list.length) : Qr (Go.Proofs.YtfgpephpkibbaaaGreatDoor.putM A i) (Go.Proofs.YtfgpephpkibbaaaGreatDoor.putM B (i + 1)) := by
  have hn : B.nd (i + 1) = shN (A.nd i) := h.nd i h1 hi
  have q := h.put h1 { A.nd i with text := (A.nd i).text ++ lrestM A.line ++ [10] }
  unfold Go.Proofs.YtfgpephpkibbaaaGreatDoor.putM
  rw [h.line.rest, hn]
  exact q
theorem Qr.eb0 {A B : St} (h : Qr A B) (ha : 0 < A.list.length) {f g : Nat} (hf : 1 ≤ f) (hg : 2 ≤ g) (b c : Bool) : Qr { A with list := ebGo f A.list 0 b } { B with list := ebGo g B.list 1 c } := by
  obtain ⟨f, rfl⟩ : ∃ k, f = k + 1 := ⟨f - 1, by omega⟩
  obtain ⟨g, rfl⟩ : ∃ k, g = k + 1 + 1 := ⟨g - 2, by omega⟩
  obtain ⟨la, x, y, e1, e2⟩ := h.top
  obtain ⟨z, e0⟩ := h.doc
  have ea : ebGo (f + 1) A.list 0 b = A.list.set 0 (nD la b) := by
    rw [ebGo, if_neg (by decide)]
    show ebGo f (A.list.set 0 { gN A.list 0 with be := b }) (gN A.list 0).up b = _
    rw [e1]
    exact ebGo_neg _ _ _
  have eb : ebGo (g + 1 + 1) B.list 1 c = (B.list.set 1 (nQ (sh la) c)).set 0 (nD 1 c) := by
    rw [ebGo, if_neg (by decide)]
    show ebGo (g + 1) (B.list.set 1 { gN B.list 1 with be := c }) (gN B.list 1).up c = _
    rw [e2]
    show ebGo (g + 1) (B.list.set 1 (nQ (sh la) c)) 0 c = _
    rw [ebGo, if_neg (by decide)]
    show ebGo g ((B.list.set 1 (nQ (sh la) c)).set 0 { gN (B.list.set 1 (nQ (sh la) c)) 0 with be := c }) (gN (B.list.set 1 (nQ (sh la) c)) 0).up c = _
    rw [gN_ne (by decide), e0]
    exact ebGo_neg _ _ _
  rw [ea, eb]
  exact (h.put0 ha la b c).putD c
theorem Qr.eb : ∀ (n : Nat) {A B : St} (_ : Qr A B) (_ : Wf A.list A.tip) {i f g : Nat} (_ : i ≤ n) (_ : i < A.list.length) (_ : i + 1 ≤ f) (_ : i + 2 ≤ g) (b : Bool), Qr { A with list := ebGo f A.list i b } { B with list := ebGo g B.list ((i + 1 : Nat) : Int) b } := by
  intro n
  induction n with
  | zero =>
    intro A B h wa i f g hn hi hf hg b
    obtain rfl : i = 0 := by omega
    exact h.eb0 hi (by omega) (by omega) b b
  | succ n ih =>
    intro A B h wa i f g hn hi hf hg b
    by_cases h0 : i = 0
    · subst h0
      exact h.eb0 hi (by omega) (by omega) b b
    · obtain ⟨f, rfl⟩ : ∃ k, f = k + 1 := ⟨f - 1, by omega⟩
      obtain ⟨g, rfl⟩ : ∃ k, g = k + 1 := ⟨g - 1, by omega⟩
      have hu := wa.up i (by omega) hi
      have hn' : gN B.list (i + 1) = shN (gN A.list i) := h.nd i (by omega) hi
      have q := h.put (i := i) (by omega) { gN A.list i with be := b }
      have w2 : Wf (A.list.set i { gN A.list i with be := b }) A.tip := wa.set i _ ⟨rfl, rfl, rfl, rfl⟩ (fun e => absurd e h0) (wa.ind _)
      obtain ⟨u, hu2⟩ : ∃ u : Nat, (gN A.list i).up = (u : Int) := ⟨(gN A.list i).up.toNat, by omega⟩
      have ea : ebGo (f + 1) A.list i b = ebGo f (A.list.set i { gN A.list i with be := b }) (u : Int) b := by
        rw [ebGo, if_neg (by omega), Int.toNat_natCast, hu2]
      have eb : ebGo (g + 1) B.list ((i + 1 : Nat) : Int) b = ebGo g (B.list.set (i + 1) (shN { gN A.list i with be := b })) ((u + 1 : Nat) : Int) b := by
        rw [ebGo, if_neg (by omega), Int.toNat_natCast, hn']
        have : (shN (gN A.list i)).up = ((u + 1 : Nat) : Int) := by
          show (gN A.list i).up + 1 = _
          omega
        rw [this]
        rfl
      rw [ea, eb]
      exact ih (A := A.put i { gN A.list i with be := b }) (B := B.put (i + 1) (shN { gN A.list i with be := b })) q w2 (i := u) (by omega) (by show u < (A.list.set _ _).length; rw [List.length_set]; omega) (by omega) (by omega) b
theorem Qr.full {A B : St} (h : Qr A B) {i : Nat} (h1 : 1 ≤ i) (hi : i < A.list.length) : fullB B (i + 1) = fullB A i := by
  have hn : B.nd (i + 1) = shN (A.nd i) := h.nd i h1 hi
  have ek : (B.nd (i + 1)).kind = (A.nd i).kind := by rw [hn]; rfl
  have ef : (B.nd (i + 1)).fence = (A.nd i).fence := by rw [hn]; rfl
  unfold fullB
  rw [ek, ef, h.known i h1]
theorem Qr.endBlank {A B : St} (h : Qr A B) (wa : Wf A.list A.tip) {i : Nat} (hi : i < A.list.length) : Qr (endBlankM A i) (endBlankM B (i + 1)) := by
  have hl := wa.last i hi
  have el := (h.fl hi).last
  have key : ∃ A1 B1 : St, Qr A1 B1 ∧ Wf A1.list A1.tip ∧ A1 = { A with list := ebLast A i } ∧ B1 = { B with list := ebLast B (i + 1) } := by
    by_cases c : A.line.next = [] ∧ (A.nd i).last ≠ -1
    · have cB : B.line.next = [] ∧ (B.nd (i + 1)).last ≠ -1 := ⟨by rw [h.line.next]; exact c.1, fun q => c.2 (by
        rw [el] at q
        unfold St.nd at q ⊢
        exact (sh_eq (by omega)).1 q)⟩
      obtain ⟨y, hy⟩ : ∃ y : Nat, (A.nd i).last = (y : Int) := ⟨(A.nd i).last.toNat, by have := c.2; unfold St.nd at this ⊢; omega⟩
      have hyl : i < y ∧ y < A.list.length := by unfold St.nd at hy; omega
      have eB : (B.nd (i + 1)).last.toNat = y + 1 := by rw [el, hy, sh_nat]; rfl
      have eA : (A.nd i).last.toNat = y := by rw [hy]; rfl
      have hn : B.nd (y + 1) = shN (A.nd y) := h.nd y (by omega) hyl.2
      refine ⟨A.put y { A.nd y with be := true }, B.put (y + 1) (shN { A.nd y with be := true }), h.put (by omega) _, wa.set y _ ⟨rfl, rfl, rfl, rfl⟩ (fun e => by omega) (wa.ind _), ?_, ?_⟩
      · unfold ebLast
        rw [if_pos c, eA]; rfl
      · unfold ebLast
        rw [if_pos cB, eB, hn]; rfl
    · have cB : ¬ (B.line.next = [] ∧ (B.nd (i + 1)).last ≠ -1) := fun q => c ⟨by rw [← h.line.next]; exact q.1, fun e => q.2 (by rw [el, e]; rfl)⟩
      refine ⟨A, B, h, wa, ?_, ?_⟩
      · unfold ebLast; rw [if_neg c]
      · unfold ebLast; rw [if_neg cB]
  obtain ⟨A1, B1, q, w1, eA, eB⟩ := key
  have hl1 : A1.list.length = A.list.length := by
    rw [eA]
    show (ebLast A i).length = _
    unfold ebLast
    split
    · rw [List.length_set]
    · rfl
  have hb1 : B.list.length = A.list.length + 1 := h.len
  have e1 : endBlankM A i = { A1 with list := ebGo A.list.length A1.list i (decide (A.line.next = []) && !fullB A i) } := by rw [eA]; rfl
  have e2 : endBlankM B (i + 1) = { B1 with list := ebGo B.list.length B1.list ((i + 1 : Nat) : Int) (decide (B.line.next = []) && !fullB B (i + 1)) } := by rw [eB]; rfl
  rw [e1, e2, h.line.next]
  by_cases h0 : i = 0
  · subst h0
    exact q.eb0 (by omega) (by omega) (by omega) _ _
  · rw [h.full (by omega) hi]
    exact Qr.eb i q w1 (Nat.le_refl _) (by omega) (by omega) (by omega) _
theorem Qr.pos_of {A B : St} (h : Qr A B) {i k : Nat} (hk : (A.nd i).kind = k) (h3 : 2 ≤ k) : 1 ≤ i := by
  refine Nat.pos_of_ne_zero fun e => ?_
  subst e
  obtain ⟨la, x, y, e1, _⟩ := h.top
  unfold St.nd at hk
  rw [e1] at hk
  have : (1 : Nat) = k := hk
  omega
theorem Qr.fill {A B : St} (h : Qr A B) (wa : Wf A.list A.tip) (wb : Wf B.list B.tip) {i : Nat} (hi : i < A.list.length) (h8 : (A.nd i).kind = 8 → A.tip ≠ 0) : Qr (fillM A i) (fillM B (i + 1)) := by
  have f := h.fl hi
  unfold fillM
  by_cases c7 : (A.nd i).kind = 7
  · rw [if_pos c7, if_pos ((f.kind 7 (by decide)).2 c7 : (B.nd (i + 1)).kind = 7)]
    exact h.putM (h.pos_of c7 (by decide)) hi
  have d7 : ¬ (B.nd (i + 1)).kind = 7 := fun q => c7 ((f.kind 7 (by decide)).1 q)
  rw [if_neg c7, if_neg d7]
  by_cases c8 : (A.nd i).kind = 8
  · have d8 : (B.nd (i + 1)).kind = 8 := (f.kind 8 (by decide)).2 c8
    have q := h.putM (h.pos_of c8 (by decide)) hi
    rw [if_pos c8, if_pos d8, f.html, h.line.rest]
    split
    · exact q.close (put_wf wa i) (put_wf wb (i + 1)) (h8 c8)
    · exact q
  have d8 : ¬ (B.nd (i + 1)).kind = 8 := fun q => c8 ((f.kind 8 (by decide)).1 q)
  rw [if_neg c8, if_neg d8, h.line.next]
  split
  · exact h
  · have q := h.add wa wb (blkN 5) (show (5 : Nat) ≠ 4 by decide)
    have w2 := add_wf wa (blkN 5) (.inl (show (5 : Nat) ≠ 4 by decide)) (Nat.zero_le _)
    have h1 := q.pos_of (add_tip A (blkN 5)) (by decide)
    rw [q.tip]
    exact q.putM h1 w2.tip
theorem Qr.rest {A B : St} (h : Qr A B) (wa : Wf A.list A.tip) (wb : Wf B.list B.tip) {i : Nat} (o : On A.list A.tip i) (what : Nat) : Qr (restM A i what) (restM B (i + 1) what) := by
  have tail : ∀ A B : St, Qr A B → Wf A.list A.tip → Wf B.list B.tip → On A.list A.tip i → Qr (endBlankM (cwM A i) i) (endBlankM (cwM B (i + 1)) (i + 1)) ∧ Qr (fillM (endBlankM (cwM A i) i) i) (fillM (endBlankM (cwM B (i + 1)) (i + 1)) (i + 1)) := by
    intro A B h wa wb o
    have ob : On B.list B.tip (i + 1) := by rw [h.tip]; exact h.on wa wa.tip o
    have hc := cw_ok wa o
    have w1 := cw_wf wa o
    have v1 := cw_wf wb ob
    have ea := endBlank_keep w1 i
    have eb := endBlank_keep v1 (i + 1)
    have hi1 : i < (cwM A i).list.length := by have := w1.tip; rw [hc.2.1] at this; exact this
    have q := (h.closeTo wa wb o).endBlank w1 hi1
    refine ⟨q, q.fill (by rw [ea.2.2.2.2.1]; exact ea.1) (by rw [eb.2.2.2.2.1]; exact eb.1) (by rw [ea.2.1]; exact hi1) (fun k8 => ?_)⟩
    rw [ea.2.2.2.2.1, hc.2.1]
    have := q.pos_of k8 (by decide)
    omega
  unfold restM
  by_cases c0 : what = 0
  · rw [if_pos c0, if_pos c0, h.line.ind, h.line.next]
    have f := h.fl wa.tip
    rw [← h.tip] at f
    by_cases c5 : (A.nd A.tip).kind = 5 ∧ A.line.next ≠ []
    · have d5 : (B.nd B.tip).kind = 5 ∧ A.line.next ≠ [] := ⟨(f.kind 5 (by decide)).2 c5.1, c5.2⟩
      rw [if_pos c5, if_pos d5, h.tip]
      exact (h.atL (h.line.skip A.line.ind)).putM (h.pos_of c5.1 (by decide)) wa.tip
    · have d5 : ¬ ((B.nd B.tip).kind = 5 ∧ A.line.next ≠ []) := fun q => c5 ⟨(f.kind 5 (by decide)).1 q.1, q.2⟩
      rw [if_neg c5, if_neg d5]
      exact (tail _ _ (h.atL (h.line.skip A.line.ind)) wa wb o).2
  · rw [if_neg c0, if_neg c0]
    split
    · exact (tail A B h wa wb o).2
    · exact (tail A B h wa wb o).1

/-! What is too deep stays so. -/
theorem qcw_deep : ∀ (n : Nat) (s : St) (i : Nat), (cwGo n s i).deep = s.deep
  | 0, _, _ => rfl
  | n + 1, s, i => by
    unfold cwGo
    split
    · rfl
    · rw [qcw_deep n]; exact (close_rest s).2.2
theorem qadd_deep : ∀ (n : Nat) (s : St) (k : Nat), (addGo n s k).deep = s.deep
  | 0, _, _ => rfl
  | n + 1, s, k => by
    unfold addGo
    split
    · rfl
    · rw [qadd_deep n]; exact (close_rest s).2.2
theorem qaddM_deep {s : St} (h : s.deep = true) (b : Nd) : (addM s b).deep = true := by
  unfold addM
  rw [push_deep, qadd_deep, h]; rfl
theorem qfill_deep {s : St} (h : s.deep = true) (i : Nat) : (fillM s i).deep = true := by
  unfold fillM
  split
  · exact h
  split
  · split
    · rw [(close_rest (putM s i)).2.2]; exact h
    · exact h
  split
  · exact h
  · exact qaddM_deep h _
theorem qrest_deep {s : St} (h : s.deep = true) (i what : Nat) : (restM s i what).deep = true := by
  have c : ∀ s : St, s.deep = true → (endBlankM (cwM s i) i).deep = true := fun s h => by
    show (cwM s i).deep = true
    unfold cwM
    rw [qcw_deep]; exact h
  unfold restM
  split
  · split
    · exact h
    · exact qfill_deep (c (s.atL (skipBM s.line s.line.ind)) h) i
  split
  · exact qfill_deep (c s h) i
  · exact c s h
end Go.Proofs.YtfgpephpkibbaaaGreatDoor

