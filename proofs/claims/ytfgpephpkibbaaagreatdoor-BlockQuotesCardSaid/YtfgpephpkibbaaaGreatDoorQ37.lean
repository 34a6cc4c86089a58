/-
  Texts of the proof, one behind the other: Bkq, Bkl, Bkn, Bko, Bkp.
-/
import Derived.Test.YtfgpephpkibbaaaGreatDoorQ32
import Derived.Test.YtfgpephpkibbaaaGreatDoorQ16
import Derived.Test.YtfgpephpkibbaaaGreatDoorQ36
import Derived.Test.YtfgpephpkibbaaaGreatDoorQ33
import Derived.Test.YtfgpephpkibbaaaGreatDoorQ28
import Derived.Test.YtfgpephpkibbaaaGreatDoorQ35
import Derived.Test.YtfgpephpkibbaaaGreatDoorQ29
import Derived.Deep.RegionHeld3
/-
  The parser in memory: a struct that holds a list of blocks, their texts, definitions, a line; who owns which piece of memory; what a store or an append leaves.
-/
namespace Go.Proofs.YtfgpephpkibbaaaGreatDoor
open Go.RowKit Go.Lib

/-- A block's cells; t: the slice that holds its text. -/
def ndC (n : Nd) (t : Value) : List Value := [.int .i64 n.kind, .int .i64 n.level, .bool n.ord, .int .i64 n.start, .int .u8 n.mark, .bool n.tight, .string ⟨n.info.toArray⟩, .string ⟨#[]⟩, .slice none 0 0, .slice none 0 0,
  .int .i64 n.up, .int .i64 n.last, .int .i64 n.ahead, .int .i64 n.depth, t, .int .i64 n.indent, .int .u8 (n.fence.toNat : Nat), .int .i64 n.count, .int .i64 n.html, .bool n.be]
def boxC (lv rv : Value) (sb : ByteArray) (k : Nat) (s : St) : Array Value := #[lv, .int .i64 s.tip, rv, .string sb, .int .i64 k, .int .i64 s.line.c, .int .i64 s.line.f, .int .i64 s.line.ind, .string ⟨s.line.next.toArray⟩, .int .i64 s.known, .bool s.deep]
structure Mem (W : World) (B : Nat) (O : Nat → Option Nat) (s : St) (lv rv : Value) (tv : Nat → Value) (xs : List Value) (sb : ByteArray) (k : Nat) : Prop where
  box : Blk W B 53 (boxC lv rv sb k s)
  row : W.ownsRow 0 61 20 lv s.list.length xs
  cell : ∀ i, i < s.list.length → ∀ j, j < 20 → xs[i * 20 + j]? = (ndC (s.nd i) (tv i))[j]?
  refs : Refs 0 W rv s.refs
  txt : ∀ i, i < s.list.length → Tx W (tv i) (s.nd i).text
  oB : O B = some 0
  oL : ∀ g, lv.ownBlock = some g → O g = some 1
  oR : ∀ g, rv.ownBlock = some g → O g = some 2
  oT : ∀ i, i < s.list.length → ∀ g, (tv i).ownBlock = some g → O g = some (i + 3)
  lt : ∀ b, O b ≠ none → b < W.heap.size
  pos : sb.data.toList.drop k = s.line.rem
  ple : k ≤ sb.size
  siz : sb.size ≤ 10000
  lw : Lw sb.size s.line
  env : EnvM W O
def Par (W : World) (B : Nat) (O : Nat → Option Nat) (s : St) : Prop := ∃ lv rv tv xs sb k, Mem W B O s lv rv tv xs sb k

def Post (W : World) (B : Nat) (O : Nat → Option Nat) (s' : St) (W' : World) : Prop := ∃ O', Par W' B O' s' ∧ Chg W O W' O'

section
variable {W : World} {B : Nat} {O : Nat → Option Nat} {s : St} {lv rv : Value} {tv : Nat → Value} {xs : List Value} {sb : ByteArray} {k : Nat}
theorem Mem.other {W' : World} (h : Mem W B O s lv rv tv xs sb k) (c : Chg W O W' O) (hb : ∀ b, O b ≠ none → W'.heap[b]? = W.heap[b]?) : Mem W' B O s lv rv tv xs sb k where
  box := by
    unfold Blk
    rw [hb B (by rw [h.oB]; simp)]
    exact h.box
  row := row_same h.row fun g hg => hb g (by rw [h.oL g hg]; simp)
  cell := h.cell
  refs := row_same h.refs fun g hg => hb g (by rw [h.oR g hg]; simp)
  txt i hi := (h.txt i hi).same c.size fun g hg => hb g (by rw [h.oT i hi g hg]; simp)
  oB := h.oB
  oL := h.oL
  oR := h.oR
  oT := h.oT
  lt b hb := Nat.lt_of_lt_of_le (h.lt b hb) c.size
  pos := h.pos
  ple := h.ple
  siz := h.siz
  lw := h.lw
  env := h.env.chg c
theorem Mem.keep {W' : World} (h : Mem W B O s lv rv tv xs sb k) (q : Keeps W W') : Mem W' B O s lv rv tv xs sb k := h.other (Chg.keeps O q) fun b hb => q.block b (h.lt b hb)
theorem Par.keep {W' : World} (h : Par W B O s) (q : Keeps W W') : Par W' B O s := by
  obtain ⟨_, _, _, _, _, _, h⟩ := h
  exact ⟨_, _, _, _, _, _, h.keep q⟩
theorem Par.post {W' : World} (h : Par W B O s) (q : Keeps W W') : Post W B O s W' := ⟨O, h.keep q, Chg.keeps O q⟩
theorem Post.trans {W W1 W2 : World} {O O1 : Nat → Option Nat} {s2 : St} (c : Chg W O W1 O1) (h : Post W1 B O1 s2 W2) : Post W B O s2 W2 := by
  obtain ⟨O2, h1, h2⟩ := h
  exact ⟨O2, h1, c.trans h2⟩
theorem Post.keep {W' W2 : World} {s' : St} (h : Post W B O s' W') (q : Keeps W' W2) : Post W B O s' W2 := by
  obtain ⟨O2, h1, h2⟩ := h
  exact ⟨O2, h1.keep q, h2.trans (Chg.keeps O2 q)⟩
/-- Something is stored into the struct itself, the list, its texts and the definitions stay. -/
theorem Mem.boxed {W' : World} (h : Mem W B O s lv rv tv xs sb k) {s' : St} {sb' : ByteArray} {k' : Nat} (hl : s'.list = s.list) (hr : s'.refs = s.refs) (hb : Blk W' B 53 (boxC lv rv sb' k' s')) (hs : W'.heap.size = W.heap.size) (ho : ∀ b, b ≠ B → W'.heap[b]? = W.heap[b]?) (hc : Chg W O W' O)
    (pos : sb'.data.toList.drop k' = s'.line.rem) (ple : k' ≤ sb'.size) (siz : sb'.size ≤ 10000) (lw : Lw sb'.size s'.line) : Mem W' B O s' lv rv tv xs sb' k' := by
  have ne : ∀ g x, O g = some (x + 1) → g ≠ B := fun g x e e' => by rw [e', h.oB] at e; cases e
  have hnd : ∀ i, s'.nd i = s.nd i := fun i => by unfold St.nd; rw [hl]
  exact {
    box := hb
    row := by rw [hl]; exact row_same h.row fun g hg => ho g (ne g 0 (h.oL g hg))
    cell := by
      rw [hl]
      intro i hi j hj
      rw [hnd]
      exact h.cell i hi j hj
    refs := by rw [hr]; exact row_same h.refs fun g hg => ho g (ne g 1 (h.oR g hg))
    txt := by
      rw [hl]
      intro i hi
      rw [hnd]
      exact (h.txt i hi).same (by omega) fun g hg => ho g (ne g (i + 2) (h.oT i hi g hg))
    oB := h.oB
    oL := h.oL
    oR := h.oR
    oT := by rw [hl]; exact h.oT
    lt := fun b hb => by rw [hs]; exact h.lt b hb
    pos := pos
    ple := ple
    siz := siz
    lw := lw
    env := h.env.chg hc }
theorem Mem.chg1 (h : Mem W B O s lv rv tv xs sb k) (i : Nat) (v : Value) : Chg W O (W.setCell ⟨B, i, none⟩ v) O :=
  ⟨rfl, rfl, rfl, by rw [setCell_size]; exact Nat.le_refl _, fun _ _ => rfl, fun b _ h0 => heap_setCell_other W ⟨B, i, none⟩ b v (fun e => by rw [e, h.oB] at h0; cases h0)⟩
/-- .. one cell. -/
theorem Mem.set1 (h : Mem W B O s lv rv tv xs sb k) {s' : St} (i : Nat) (v : Value) (hl : s'.list = s.list) (hr : s'.refs = s.refs) (hn : s'.line = s.line) (hd : (boxC lv rv sb k s).setIfInBounds i v = boxC lv rv sb k s') : Mem (W.setCell ⟨B, i, none⟩ v) B O s' lv rv tv xs sb k :=
  h.boxed hl hr (h.box.set i v hd) (setCell_size _ _ _) (fun b hb => heap_setCell_other W ⟨B, i, none⟩ b v hb) (h.chg1 i v) (by rw [hn]; exact h.pos) h.ple h.siz (by rw [hn]; exact h.lw)

/-! ### The list's head and its cells -/
theorem Mem.head (h : Mem W B O s lv rv tv xs sb k) (h0 : 0 < s.list.length) : ∃ g cap, lv = .slice (some ⟨g, 0, none⟩) s.list.length cap ∧ s.list.length ≤ cap ∧ cap ≤ maxLen ∧ O g = some 1 := by
  rcases h.row.2 with ⟨_, h1⟩ | ⟨g, cap, cur, e, _, _, h1, h2, _⟩
  · omega
  · exact ⟨g, cap, e, h1, h2, h.oL g (by rw [e]; rfl)⟩
end

section
variable {W : World} {B : Nat} {O : Nat → Option Nat} {s : St} {rv : Value} {tv : Nat → Value} {xs : List Value} {sb : ByteArray} {k g n cap : Nat}
theorem Mem.at (h : Mem W B O s (.slice (some ⟨g, 0, none⟩) n cap) rv tv xs sb k) {i : Nat} (hi : i < s.list.length) (j : Nat) (hj : j < 20) : W.cell? ⟨g, i * 20 + j, none⟩ = (ndC (s.nd i) (tv i))[j]? := by
  rw [← h.cell i hi j hj]
  have hr := h.row
  have hn : n = s.list.length := by
    rcases hr.2 with ⟨e, _⟩ | ⟨_, _, _, e, _⟩
    · cases e
    · cases e; rfl
  subst hn
  exact hr.cellAt _ (by omega)
theorem Mem.free (h : Mem W B O s (.slice (some ⟨g, 0, none⟩) n cap) rv tv xs sb k) (j : Nat) : W.frozen? ⟨g, j, none⟩ = false := by
  have hr := h.row
  have hn : n = s.list.length := by
    rcases hr.2 with ⟨e, _⟩ | ⟨_, _, _, e, _⟩
    · cases e
    · cases e; rfl
  subst hn
  exact hr.frozenAt j
/-- A cell of a block is stored into; before that its text may have turned, or grown. -/
theorem Mem.text {W1 : World} (h : Mem W B O s (.slice (some ⟨g, 0, none⟩) n cap) rv tv xs sb k) {i : Nat} (hi : i < s.list.length) (t' : Value) (nd' : Nd) (j : Nat) (hj : j < 20) (z : Value)
    (hz : ∀ m, m < 20 → (ndC nd' t')[m]? = if m = j then some z else (ndC (s.nd i) (tv i))[m]?)
    (hg : W.grownBy W1 (tv i).ownBlock) (ht : Tx W1 t' nd'.text) (hl : t'.ownBlock = (tv i).ownBlock ∨ t'.ownBlock = some W.heap.size) :
    ∃ O', Mem (W1.setCell ⟨g, i * 20 + j, none⟩ z) B O' (s.put i nd') (.slice (some ⟨g, 0, none⟩) n cap) rv (upd tv i t') (xs.set (i * 20 + j) z) sb k ∧ Chg W O (W1.setCell ⟨g, i * 20 + j, none⟩ z) O' := by
  have hog : O g = some 1 := h.oL g rfl
  have hn : n = s.list.length := by
    rcases h.row.2 with ⟨e, _⟩ | ⟨_, _, _, e, _⟩
    · cases e
    · cases e; rfl
  -- who owns what, now
  have hO : ∃ O' : Nat → Option Nat, (∀ b, b < W.heap.size → O' b = O b) ∧ (∀ b, t'.ownBlock = some b → O' b = some (i + 3)) ∧ (∀ b, O' b ≠ none → b < W1.heap.size) := by
    rcases hl with e | e
    · exact ⟨O, fun _ _ => rfl, fun b hb => h.oT i hi b (by rw [← e]; exact hb), fun b hb => Nat.lt_of_lt_of_le (h.lt b hb) hg.size⟩
    · refine ⟨upd O W.heap.size (some (i + 3)), fun b hb => upd_ne _ _ (by omega), fun b hb => ?_, fun b hb => ?_⟩
      · rw [e] at hb; cases hb; exact upd_at _ _ _
      · by_cases hbe : b = W.heap.size
        · exact ht.lt b (by rw [e, hbe])
        · rw [upd_ne _ _ hbe] at hb
          exact Nat.lt_of_lt_of_le (h.lt b hb) hg.size
  obtain ⟨O', o1, o2, o3⟩ := hO
  -- all other owners' blocks are as they were
  have hlt : ∀ b x, O b = some x → b < W.heap.size := fun b x e => h.lt b (by rw [e]; simp)
  have same1 : ∀ b x, O b = some x → x ≠ i + 3 → W1.heap[b]? = W.heap[b]? := fun b x e hx => hg.block b (hlt b x e) (fun e' => hx (by have := h.oT i hi b e'.symm; rw [e] at this; cases this; rfl))
  have same2 : ∀ b, b ≠ g → (W1.setCell ⟨g, i * 20 + j, none⟩ z).heap[b]? = W1.heap[b]? := fun b hb => heap_setCell_other W1 ⟨g, i * 20 + j, none⟩ b z hb
  have same : ∀ b x, O b = some x → x ≠ i + 3 → x ≠ 1 → (W1.setCell ⟨g, i * 20 + j, none⟩ z).heap[b]? = W.heap[b]? := fun b x e hx h1 => (same2 b (fun e' => h1 (by rw [e', hog] at e; cases e; rfl))).trans (same1 b x e hx)
  have hrow1 := row_same (W' := W1) h.row fun b hb => same1 b 1 (h.oL b hb) (by omega)
  have hsize : (W1.setCell ⟨g, i * 20 + j, none⟩ z).heap.size = W1.heap.size := setCell_size _ _ _
  have hlen : (s.put i nd').list.length = s.list.length := by unfold St.put; simp
  have hnd : ∀ m, (s.put i nd').nd m = if m = i then nd' else s.nd m := fun m => by
    unfold St.nd St.put
    show gN (s.list.set i nd') m = _
    rw [gN_set]
    by_cases e : m = i
    · rw [if_pos ⟨e, hi⟩, if_pos e]
    · rw [if_neg (fun q => e q.1), if_neg e]
  have hC : Chg W O (W1.setCell ⟨g, i * 20 + j, none⟩ z) O' := ⟨hg.os, hg.tape, hg.output, by rw [hsize]; exact hg.size, o1, fun b hb h0 => (same2 b (fun e => by rw [e, hog] at h0; cases h0)).trans (hg.block b hb (fun e => by have := h.oT i hi b e.symm; rw [this] at h0; cases h0))⟩
  refine ⟨O', ?_, hC⟩
  · exact {
      box := by
        unfold Blk
        rw [same B 0 h.oB (by omega) (by omega)]
        exact h.box
      row := by
        rw [hlen]
        subst hn
        exact (hrow1.stored (i * 20 + j) z).1
      cell := by
        rw [hlen]
        intro m hm q hq
        rw [hnd, List.getElem?_set]
        have hxl := h.row.1
        by_cases e : m = i
        · subst e
          rw [if_pos rfl, upd_at, hz q hq]
          by_cases e2 : q = j
          · subst e2
            rw [if_pos rfl, if_pos rfl, if_pos (by rw [hxl]; omega)]
          · rw [if_neg (by omega), if_neg e2]
            exact h.cell m hm q hq
        · rw [if_neg e, upd_ne _ _ e, if_neg (by omega)]
          exact h.cell m hm q hq
      refs := row_same h.refs fun b hb => same b 2 (h.oR b hb) (by omega) (by omega)
      txt := by
        rw [hlen]
        intro m hm
        rw [hnd]
        by_cases e : m = i
        · subst e
          rw [if_pos rfl, upd_at]
          refine ht.same (by rw [hsize]; exact Nat.le_refl _) fun b hb => same2 b (fun e' => ?_)
          have := o2 b hb
          rw [e', o1 g (hlt g 1 hog), hog] at this
          cases this
        · rw [if_neg e, upd_ne _ _ e]
          exact (h.txt m hm).same (by rw [hsize]; exact hg.size) fun b hb => same b (m + 3) (h.oT m hm b hb) (by omega) (by omega)
      oB := by rw [o1 B (hlt B 0 h.oB)]; exact h.oB
      oL := fun b hb => by rw [o1 b (hlt b 1 (h.oL b hb))]; exact h.oL b hb
      oR := fun b hb => by rw [o1 b (hlt b 2 (h.oR b hb))]; exact h.oR b hb
      oT := by
        rw [hlen]
        intro m hm b hb
        by_cases e : m = i
        · subst e
          rw [upd_at] at hb
          exact o2 b hb
        · rw [upd_ne _ _ e] at hb
          rw [o1 b (hlt b (m + 3) (h.oT m hm b hb))]; exact h.oT m hm b hb
      lt := fun b hb => by rw [hsize]; exact o3 b hb
      pos := h.pos
      ple := h.ple
      siz := h.siz
      lw := h.lw
      env := h.env.chg hC }
/-- .. its text is let alone. -/
theorem Mem.store (h : Mem W B O s (.slice (some ⟨g, 0, none⟩) n cap) rv tv xs sb k) {i : Nat} (hi : i < s.list.length) (nd' : Nd) (j : Nat) (hj : j < 20) (z : Value)
    (hz : ∀ m, m < 20 → (ndC nd' (tv i))[m]? = if m = j then some z else (ndC (s.nd i) (tv i))[m]?) (ht : nd'.text = (s.nd i).text) :
    ∃ O', Mem (W.setCell ⟨g, i * 20 + j, none⟩ z) B O' (s.put i nd') (.slice (some ⟨g, 0, none⟩) n cap) rv (upd tv i (tv i)) (xs.set (i * 20 + j) z) sb k ∧ Chg W O (W.setCell ⟨g, i * 20 + j, none⟩ z) O' :=
  h.text hi (tv i) nd' j hj z hz (World.grownBy.refl W _) (by rw [ht]; exact h.txt i hi) (.inl rfl)
end

section
variable {W : World} {B : Nat} {O : Nat → Option Nat} {s : St} {lv rv : Value} {tv : Nat → Value} {xs : List Value} {sb : ByteArray} {k : Nat}
/-- Definitions are put behind. -/
theorem Mem.refd {W1 : World} (h : Mem W B O s lv rv tv xs sb k) (rv' : Value) (rs : List Rf) (hg : W.grownBy W1 rv.ownBlock) (hr : Refs 0 W1 rv' rs) (hl : rv'.ownBlock = rv.ownBlock ∨ rv'.ownBlock = some W.heap.size) :
    ∃ O', Mem (W1.setCell ⟨B, 2, none⟩ rv') B O' { s with refs := rs } lv rv' tv xs sb k ∧ Chg W O (W1.setCell ⟨B, 2, none⟩ rv') O' := by
  have hO : ∃ O' : Nat → Option Nat, (∀ b, b < W.heap.size → O' b = O b) ∧ (∀ b, rv'.ownBlock = some b → O' b = some 2) ∧ (∀ b, O' b ≠ none → b < W1.heap.size) := by
    rcases hl with e | e
    · exact ⟨O, fun _ _ => rfl, fun b hb => h.oR b (by rw [← e]; exact hb), fun b hb => Nat.lt_of_lt_of_le (h.lt b hb) hg.size⟩
    · refine ⟨upd O W.heap.size (some 2), fun b hb => upd_ne _ _ (by omega), fun b hb => ?_, fun b hb => ?_⟩
      · rw [e] at hb; cases hb; exact upd_at _ _ _
      · by_cases hbe : b = W.heap.size
        · exact (hr.lt b (by rw [e, hbe])).2
        · rw [upd_ne _ _ hbe] at hb
          exact Nat.lt_of_lt_of_le (h.lt b hb) hg.size
  obtain ⟨O', o1, o2, o3⟩ := hO
  have hlt : ∀ b x, O b = some x → b < W.heap.size := fun b x e => h.lt b (by rw [e]; simp)
  have same1 : ∀ b x, O b = some x → x ≠ 2 → W1.heap[b]? = W.heap[b]? := fun b x e hx => hg.block b (hlt b x e) (fun e' => hx (by have := h.oR b e'.symm; rw [e] at this; cases this; rfl))
  have same2 : ∀ b, b ≠ B → (W1.setCell ⟨B, 2, none⟩ rv').heap[b]? = W1.heap[b]? := fun b hb => heap_setCell_other W1 ⟨B, 2, none⟩ b rv' hb
  have same : ∀ b x, O b = some x → x ≠ 2 → x ≠ 0 → (W1.setCell ⟨B, 2, none⟩ rv').heap[b]? = W.heap[b]? := fun b x e hx h1 => (same2 b (fun e' => h1 (by rw [e', h.oB] at e; cases e; rfl))).trans (same1 b x e hx)
  have hsize : (W1.setCell ⟨B, 2, none⟩ rv').heap.size = W1.heap.size := setCell_size _ _ _
  have hbox : Blk W1 B 53 (boxC lv rv sb k s) := by
    unfold Blk
    rw [same1 B 0 h.oB (by omega)]
    exact h.box
  have hC : Chg W O (W1.setCell ⟨B, 2, none⟩ rv') O' := ⟨hg.os, hg.tape, hg.output, by rw [hsize]; exact hg.size, o1, fun b hb h0 => (same2 b (fun e => by rw [e, h.oB] at h0; cases h0)).trans (hg.block b hb (fun e => by have := h.oR b e.symm; rw [this] at h0; cases h0))⟩
  refine ⟨O', ?_, hC⟩
  · exact {
      box := hbox.set 2 rv' rfl
      row := row_same h.row fun b hb => same b 1 (h.oL b hb) (by omega) (by omega)
      cell := h.cell
      refs := row_same hr fun b hb => same2 b (fun e => by
        have := o2 b hb
        rw [e, o1 B (hlt B 0 h.oB), h.oB] at this
        cases this)
      txt := fun m hm => (h.txt m hm).same (by rw [hsize]; exact hg.size) fun b hb => same b (m + 3) (h.oT m hm b hb) (by omega) (by omega)
      oB := by rw [o1 B (hlt B 0 h.oB)]; exact h.oB
      oL := fun b hb => by rw [o1 b (hlt b 1 (h.oL b hb))]; exact h.oL b hb
      oR := o2
      oT := fun m hm b hb => by rw [o1 b (hlt b (m + 3) (h.oT m hm b hb))]; exact h.oT m hm b hb
      lt := fun b hb => by rw [hsize]; exact o3 b hb
      pos := h.pos
      ple := h.ple
      siz := h.siz
      lw := h.lw
      env := h.env.chg hC }
/-- A block is put behind. -/
theorem Mem.listed {W1 : World} (h : Mem W B O s lv rv tv xs sb k) (lv' : Value) (b' : Nd) (hb' : b'.text = []) (hg : W.grownBy W1 lv.ownBlock) (hr : W1.ownsRow 0 61 20 lv' (s.list.length + 1) (xs ++ ndC b' (.slice none 0 0)))
    (hl : lv'.ownBlock = lv.ownBlock ∨ lv'.ownBlock = some W.heap.size) :
    ∃ O', Mem (W1.setCell ⟨B, 0, none⟩ lv') B O' { s with list := s.list ++ [b'] } lv' rv (upd tv s.list.length (.slice none 0 0)) (xs ++ ndC b' (.slice none 0 0)) sb k ∧ Chg W O (W1.setCell ⟨B, 0, none⟩ lv') O' := by
  have hO : ∃ O' : Nat → Option Nat, (∀ b, b < W.heap.size → O' b = O b) ∧ (∀ b, lv'.ownBlock = some b → O' b = some 1) ∧ (∀ b, O' b ≠ none → b < W1.heap.size) := by
    rcases hl with e | e
    · exact ⟨O, fun _ _ => rfl, fun b hb => h.oL b (by rw [← e]; exact hb), fun b hb => Nat.lt_of_lt_of_le (h.lt b hb) hg.size⟩
    · refine ⟨upd O W.heap.size (some 1), fun b hb => upd_ne _ _ (by omega), fun b hb => ?_, fun b hb => ?_⟩
      · rw [e] at hb; cases hb; exact upd_at _ _ _
      · by_cases hbe : b = W.heap.size
        · exact (hr.lt b (by rw [e, hbe])).2
        · rw [upd_ne _ _ hbe] at hb
          exact Nat.lt_of_lt_of_le (h.lt b hb) hg.size
  obtain ⟨O', o1, o2, o3⟩ := hO
  have hlt : ∀ b x, O b = some x → b < W.heap.size := fun b x e => h.lt b (by rw [e]; simp)
  have same1 : ∀ b x, O b = some x → x ≠ 1 → W1.heap[b]? = W.heap[b]? := fun b x e hx => hg.block b (hlt b x e) (fun e' => hx (by have := h.oL b e'.symm; rw [e] at this; cases this; rfl))
  have same2 : ∀ b, b ≠ B → (W1.setCell ⟨B, 0, none⟩ lv').heap[b]? = W1.heap[b]? := fun b hb => heap_setCell_other W1 ⟨B, 0, none⟩ b lv' hb
  have same : ∀ b x, O b = some x → x ≠ 1 → x ≠ 0 → (W1.setCell ⟨B, 0, none⟩ lv').heap[b]? = W.heap[b]? := fun b x e hx h1 => (same2 b (fun e' => h1 (by rw [e', h.oB] at e; cases e; rfl))).trans (same1 b x e hx)
  have hsize : (W1.setCell ⟨B, 0, none⟩ lv').heap.size = W1.heap.size := setCell_size _ _ _
  have hbox : Blk W1 B 53 (boxC lv rv sb k s) := by
    unfold Blk
    rw [same1 B 0 h.oB (by omega)]
    exact h.box
  have hlen : (s.list ++ [b']).length = s.list.length + 1 := by simp
  have hxl := h.row.1
  have hC : Chg W O (W1.setCell ⟨B, 0, none⟩ lv') O' := ⟨hg.os, hg.tape, hg.output, by rw [hsize]; exact hg.size, o1, fun b hb h0 => (same2 b (fun e => by rw [e, h.oB] at h0; cases h0)).trans (hg.block b hb (fun e => by have := h.oL b e.symm; rw [this] at h0; cases h0))⟩
  refine ⟨O', ?_, hC⟩
  · exact {
      box := hbox.set 0 lv' rfl
      row := by
        show World.ownsRow _ _ _ _ _ (s.list ++ [b']).length _
        rw [hlen]
        exact row_same hr fun b hb => same2 b (fun e => by
          have := o2 b hb
          rw [e, o1 B (hlt B 0 h.oB), h.oB] at this
          cases this)
      cell := by
        show ∀ i, i < (s.list ++ [b']).length → _
        rw [hlen]
        intro m hm q hq
        unfold St.nd
        by_cases e : m = s.list.length
        · subst e
          show _ = (ndC (gN (s.list ++ [b']) s.list.length) _)[q]?
          rw [gN_new, upd_at, List.getElem?_append_right (by omega)]
          congr 1
          omega
        · show _ = (ndC (gN (s.list ++ [b']) m) _)[q]?
          rw [gN_app (by omega), upd_ne _ _ e, List.getElem?_append_left (by omega)]
          exact h.cell m (by omega) q hq
      refs := row_same h.refs fun b hb => same b 2 (h.oR b hb) (by omega) (by omega)
      txt := by
        show ∀ i, i < (s.list ++ [b']).length → _
        rw [hlen]
        intro m hm
        unfold St.nd
        by_cases e : m = s.list.length
        · subst e
          show Tx _ _ (gN (s.list ++ [b']) s.list.length).text
          rw [gN_new, upd_at, hb']
          exact Tx.nil _
        · show Tx _ _ (gN (s.list ++ [b']) m).text
          rw [gN_app (by omega), upd_ne _ _ e]
          exact (h.txt m (by omega)).same (by rw [hsize]; exact hg.size) fun b hb => same b (m + 3) (h.oT m (by omega) b hb) (by omega) (by omega)
      oB := by rw [o1 B (hlt B 0 h.oB)]; exact h.oB
      oL := o2
      oR := fun b hb => by rw [o1 b (hlt b 2 (h.oR b hb))]; exact h.oR b hb
      oT := by
        show ∀ i, i < (s.list ++ [b']).length → _
        rw [hlen]
        intro m hm b hb
        by_cases e : m = s.list.length
        · subst e
          rw [upd_at] at hb
          cases hb
        · rw [upd_ne _ _ e] at hb
          rw [o1 b (hlt b (m + 3) (h.oT m (by omega) b hb))]; exact h.oT m (by omega) b hb
      lt := fun b hb => by rw [hsize]; exact o3 b hb
      pos := h.pos
      ple := h.ple
      siz := h.siz
      lw := h.lw
      env := h.env.chg hC }
end
end Go.Proofs.YtfgpephpkibbaaaGreatDoor

/-
  Contracts of block's line: look, newLine, blank, rest, skip.
-/
namespace Go.Proofs.YtfgpephpkibbaaaGreatDoor
open Go.RowKit Go.Lib

/-- What a call leaves that doesn't make the list longer. -/
def NPost (W : World) (B : Nat) (O : Nat → Option Nat) (s' : St) (lv : Value) (W' : World) : Prop := ∃ O' rv tv xs sb k, Mem W' B O' s' lv rv tv xs sb k ∧ Chg W O W' O'
theorem NPost.post {W W' : World} {B : Nat} {O : Nat → Option Nat} {s' : St} {lv : Value} (h : NPost W B O s' lv W') : Post W B O s' W' := by
  obtain ⟨O', rv, tv, xs, sb, k, h1, h2⟩ := h
  exact ⟨O', ⟨lv, rv, tv, xs, sb, k, h1⟩, h2⟩
theorem NPost.trans {W W1 W2 : World} {B : Nat} {O O1 : Nat → Option Nat} {s2 : St} {lv : Value} (c : Chg W O W1 O1) (h : NPost W1 B O1 s2 lv W2) : NPost W B O s2 lv W2 := by
  obtain ⟨O2, rv, tv, xs, sb, k, h1, h2⟩ := h
  exact ⟨O2, rv, tv, xs, sb, k, h1, c.trans h2⟩
/-- Nothing but one block turns. -/
structure Off (B : Nat) (W W' : World) : Prop where
  os : W'.os = W.os
  tape : W'.tape = W.tape
  output : W'.output = W.output
  size : W.heap.size ≤ W'.heap.size
  block : ∀ b, b < W.heap.size → b ≠ B → W'.heap[b]? = W.heap[b]?
theorem Off.keeps {W W' : World} (B : Nat) (k : Keeps W W') : Off B W W' := ⟨k.os, k.tape, k.output, k.size, fun b hb _ => k.block b hb⟩
theorem Off.trans {B : Nat} {a b c : World} (h : Off B a b) (k : Off B b c) : Off B a c :=
  ⟨k.os.trans h.os, k.tape.trans h.tape, k.output.trans h.output, Nat.le_trans h.size k.size, fun i hi hb => (k.block i (Nat.lt_of_lt_of_le hi h.size) hb).trans (h.block i hi hb)⟩
theorem Off.set {B : Nat} {a b : World} (h : Off B a b) (i : Nat) (v : Value) : Off B a (b.setCell ⟨B, i, none⟩ v) :=
  ⟨h.os, h.tape, h.output, by rw [setCell_size]; exact h.size, fun j hj hb => (heap_setCell_other b ⟨B, i, none⟩ j v hb).trans (h.block j hj hb)⟩
theorem Off.then {B : Nat} {a b c : World} (h : Off B a b) (k : Keeps b c) : Off B a c := h.trans (Off.keeps B k)
theorem Off.drewN {B : Nat} {a b : World} (h : Off B a b) (n : Nat) : Off B a (b.drewN n) := ⟨h.os, h.tape, h.output, h.size, h.block⟩
/-- .. the parser's: the list, the definitions and the rest stay. -/
theorem Mem.off {W W' : World} {B : Nat} {O : Nat → Option Nat} {s : St} {lv rv : Value} {tv : Nat → Value} {xs : List Value} {sb : ByteArray} {k : Nat} (h : Mem W B O s lv rv tv xs sb k) {s' : St} {sb' : ByteArray} {k' : Nat} (hl : s'.list = s.list) (hr : s'.refs = s.refs)
    (hb : Blk W' B 53 (boxC lv rv sb' k' s')) (ho : Off B W W') (pos : sb'.data.toList.drop k' = s'.line.rem) (ple : k' ≤ sb'.size) (siz : sb'.size ≤ 10000) (lw : Lw sb'.size s'.line) : NPost W B O s' lv W' := by
  have ne : ∀ g x, O g = some (x + 1) → g < W.heap.size ∧ g ≠ B := fun g x e => ⟨h.lt g (by rw [e]; simp), fun e' => by rw [e', h.oB] at e; cases e⟩
  have same : ∀ g x, O g = some (x + 1) → W'.heap[g]? = W.heap[g]? := fun g x e => ho.block g (ne g x e).1 (ne g x e).2
  have hnd : ∀ i, s'.nd i = s.nd i := fun i => by unfold St.nd; rw [hl]
  have hC : Chg W O W' O := ⟨ho.os, ho.tape, ho.output, ho.size, fun _ _ => rfl, fun b hb h0 => ho.block b hb (fun e => by rw [e, h.oB] at h0; cases h0)⟩
  refine ⟨O, rv, tv, xs, sb', k', {
    box := hb
    row := by rw [hl]; exact row_same h.row fun g hg => same g 0 (h.oL g hg)
    cell := by
      rw [hl]
      intro i hi j hj
      rw [hnd]
      exact h.cell i hi j hj
    refs := by rw [hr]; exact row_same h.refs fun g hg => same g 1 (h.oR g hg)
    txt := by
      rw [hl]
      intro i hi
      rw [hnd]
      exact (h.txt i hi).same ho.size fun g hg => same g (i + 2) (h.oT i hi g hg)
    oB := h.oB
    oL := h.oL
    oR := h.oR
    oT := by rw [hl]; exact h.oT
    lt := fun b hb => Nat.lt_of_lt_of_le (h.lt b hb) ho.size
    pos := pos
    ple := ple
    siz := siz
    lw := lw
    env := h.env.chg hC }, hC⟩
theorem Mem.plc {W : World} {B : Nat} {O : Nat → Option Nat} {s : St} {lv rv : Value} {tv : Nat → Value} {xs : List Value} {sb : ByteArray} {k : Nat} (h : Mem W B O s lv rv tv xs sb k) : Plc sb k s.line.c s.line.f :=
  ⟨h.ple, by have := h.lw.bound; have := h.siz; omega, by rw [h.pos]; exact h.lw.ok⟩

set_option maxRecDepth 100000 in
set_option maxHeartbeats 1000000 in
theorem look_box (W : World) (B : Nat) (v0 v1 v2 v9 v10 : Value) (sb : ByteArray) (k c f : Nat) (i0 : Int) (n0 : ByteArray) (hB : Blk W B 53 #[v0, v1, v2, .string sb, .int .i64 k, .int .i64 c, .int .i64 f, .int .i64 i0, .string n0, v9, v10]) (h : Plc sb k c f) (hs : sb.size ≤ 100000) :
    Calls Tryz.prog 36 #[.pointer (some ⟨B, 3, none⟩)] W fun e w' => e = .returned (.tuple #[]) ∧ Blk w' B 53 #[v0, v1, v2, .string sb, .int .i64 k, .int .i64 c, .int .i64 f, .int .i64 (indL c f (sb.data.toList.drop k)), .string ⟨(nextL (sb.data.toList.drop k)).toArray⟩, v9, v10] ∧ Off B W w' := by
  have IN := Lib.hid (fun W => indent_any sb k c f h hs W)
  have NX := Lib.hid (fun W => next_any sb k c f h W)
  generalize indL c f (sb.data.toList.drop k) = i1 at *
  generalize nextL (sb.data.toList.drop k) = n1 at *
  have y3 := hB.cell 3 (v := .string sb) rfl
  have y4 := hB.cell 4 (v := .int .i64 k) rfl
  have y5 := hB.cell 5 (v := .int .i64 c) rfl
  have y6 := hB.cell 6 (v := .int .i64 f) rfl
  have HB := Lib.hid hB
  clear h hB
  go_enter Tryz.func36, Tryz.ntmps36
  go_wp2_with fail
  refine (IN.out _).mono ?_
  rintro e w1 ⟨rfl, k1⟩
  have H1 := Lib.hid (HB.out.keep k1)
  have F1 := Lib.hid (Off.keeps B k1)
  have z3 := H1.out.cell 3 (v := .string sb) rfl
  have z4 := H1.out.cell 4 (v := .int .i64 k) rfl
  have z5 := H1.out.cell 5 (v := .int .i64 c) rfl
  have z6 := H1.out.cell 6 (v := .int .i64 f) rfl
  have z7 := H1.out.cell 7 (v := .int .i64 i0) rfl
  have f7 := H1.out.free 7
  clear k1 y3 y4 y5 y6
  go_wp2_with fail
  refine (NX.out _).mono ?_
  rintro e w2 ⟨rfl, k2⟩
  have H2 := Lib.hid ((H1.out.set 7 (.int .i64 i1) rfl).keep k2)
  have F2 := Lib.hid ((F1.out.set 7 (.int .i64 i1)).then k2)
  have z8 := H2.out.cell 8 (v := .string n0) rfl
  have f8 := H2.out.free 8
  clear k2 z3 z4 z5 z6 z7 f7
  go_wp2_with fail
  go_end0
  exact ⟨rfl, H2.out.set 8 _ rfl, F2.out.set 8 _⟩
end Go.Proofs.YtfgpephpkibbaaaGreatDoor

/-
  Contracts of block's line within the parser: blank, rest, skip, pastIndent.
-/
namespace Go.Proofs.YtfgpephpkibbaaaGreatDoor
open Go.RowKit Go.Lib

section
variable {W : World} {B : Nat} {O : Nat → Option Nat} {s : St} {lv rv : Value} {tv : Nat → Value} {xs : List Value} {sb : ByteArray} {k : Nat}

set_option maxRecDepth 100000 in
set_option maxHeartbeats 1000000 in
theorem lblank_any (h : Mem W B O s lv rv tv xs sb k) :
    Calls Tryz.prog 42 #[.pointer (some ⟨B, 3, none⟩)] W fun e w' => e = .returned (.bool (decide (s.line.next = []))) ∧ W = w' := by
  have y8 := h.box.cell 8 (v := .string ⟨s.line.next.toArray⟩) rfl
  generalize s.line.next = z at *
  clear h
  by_cases hz : z = []
  · subst hz
    go_enter Tryz.func42, Tryz.ntmps42
    go_wp2_with fail
    go_ret
    exact ⟨rfl, rfl⟩
  · have hp : 0 < (⟨z.toArray⟩ : ByteArray).size := by
      have := List.length_pos_iff.2 hz
      show 0 < z.toArray.size
      simpa using this
    rw [decide_eq_false hz]
    clear hz
    generalize (⟨z.toArray⟩ : ByteArray) = Z at *
    have h1 := tl_empty hp
    have h2 := tl_ne hp
    go_enter Tryz.func42, Tryz.ntmps42
    go_wp2_with fail
    go_ret
    exact ⟨rfl, rfl⟩

set_option maxRecDepth 100000 in
set_option maxHeartbeats 1000000 in
theorem lrest_any (h : Mem W B O s lv rv tv xs sb k) :
    Calls Tryz.prog 65 #[.pointer (some ⟨B, 3, none⟩)] W fun e w' => e = .returned (.string ⟨(lrestM s.line).toArray⟩) ∧ Keeps W w' := by
  have RS := Lib.hid (fun W => rest_any sb k s.line.c s.line.f h.plc (by have := h.siz; omega) W)
  rw [h.pos] at RS
  unfold lrestM
  have y3 := h.box.cell 3 (v := .string sb) rfl
  have y4 := h.box.cell 4 (v := .int .i64 k) rfl
  have y5 := h.box.cell 5 (v := .int .i64 s.line.c) rfl
  have y6 := h.box.cell 6 (v := .int .i64 s.line.f) rfl
  generalize restL s.line.f s.line.rem = z at *
  generalize s.line.c = c at *
  generalize s.line.f = f at *
  clear h
  go_enter Tryz.func65, Tryz.ntmps65
  go_wp2_with fail
  refine (RS.out _).mono ?_
  rintro e w1 ⟨rfl, k1⟩
  go_wp2_with fail
  go_ret
  exact ⟨rfl, k1⟩

set_option maxRecDepth 100000 in
set_option maxHeartbeats 1000000 in
theorem lskip_any (h : Mem W B O s lv rv tv xs sb k) (n : Nat) (hn : n ≤ 1000000) :
    Calls Tryz.prog 40 #[.pointer (some ⟨B, 3, none⟩), .int .i64 n] W fun e w' => e = .returned (.tuple #[]) ∧ NPost W B O (s.atL (skipBM s.line n)) lv w' := by
  have SK := Lib.hid (fun W => skip_any sb k s.line.c s.line.f n (by omega) h.plc (by have := h.siz; omega) W)
  rw [h.pos, Int.toNat_natCast] at SK
  have hlen := skip_len n s.line.c s.line.f s.line.rem
  have hrl : s.line.rem.length = sb.size - k := by rw [← h.pos, List.length_drop, bytes_len]
  have hple := h.ple
  have hib := h.lw.bound.2
  have hsz := h.siz
  have FIN : Hid (∀ W', Blk W' B 53 #[lv, .int .i64 s.tip, rv, .string sb, .int .i64 (k + (skipL n s.line.c s.line.f s.line.rem).1 : Nat), .int .i64 (skipL n s.line.c s.line.f s.line.rem).2.1, .int .i64 (skipL n s.line.c s.line.f s.line.rem).2.2, .int .i64 (s.line.ind - n : Nat), .string ⟨s.line.next.toArray⟩, .int .i64 s.known, .bool s.deep] →
      Off B W W' → NPost W B O (s.atL (skipBM s.line n)) lv W') := Lib.hid fun W' hb ho => h.off rfl rfl hb ho (by
        show _ = s.line.rem.drop _
        rw [← h.pos, List.drop_drop]) (by omega) h.siz (h.lw.skip n)
  have HB := Lib.hid h.box
  unfold boxC at HB
  generalize k + (skipL n s.line.c s.line.f s.line.rem).1 = k1 at *
  generalize (skipL n s.line.c s.line.f s.line.rem).2.1 = c1 at *
  generalize (skipL n s.line.c s.line.f s.line.rem).2.2 = f1 at *
  generalize s.atL (skipBM s.line n) = s' at *
  clear h hlen hrl hple
  generalize s.line.c = c at *
  generalize s.line.f = f at *
  generalize s.line.ind = i at *
  generalize (⟨s.line.next.toArray⟩ : ByteArray) = z at *
  have y3 := HB.out.cell 3 (v := .string sb) rfl
  have y4 := HB.out.cell 4 (v := .int .i64 k) rfl
  have y5 := HB.out.cell 5 (v := .int .i64 c) rfl
  have y6 := HB.out.cell 6 (v := .int .i64 f) rfl
  by_cases hni : n ≤ i
  · have hmx : (i : Int) - (n : Int) = ((i - n : Nat) : Int) := by omega
    have hx0 : ¬ ((i : Int) - (n : Int) < 0) := by omega
    go_enter Tryz.func40, Tryz.ntmps40
    go_wp2_with fail
    refine (SK.out _).mono ?_
    rintro e w1 ⟨rfl, k1⟩
    have H1 := Lib.hid (HB.out.keep k1)
    have F1 := Lib.hid (Off.keeps B k1)
    have z3 := H1.out.cell 3 (v := .string sb) rfl
    have z4 := H1.out.cell 4 (v := .int .i64 k) rfl
    have z5 := H1.out.cell 5 (v := .int .i64 c) rfl
    have z6 := H1.out.cell 6 (v := .int .i64 f) rfl
    have f3 := H1.out.free 3
    have f4 := H1.out.free 4
    have f5 := H1.out.free 5
    have f6 := H1.out.free 6
    have f7 := H1.out.free 7
    have z7 := H1.out.cell 7 (v := .int .i64 i) rfl
    clear k1 y3 y4 y5 y6
    go_wp2_with fail
    go_end0
    exact ⟨rfl, FIN.out _ (((((H1.out.set 3 _ rfl).set 4 _ rfl).set 5 _ rfl).set 6 _ rfl).set 7 _ rfl) (((((F1.out.set 3 _).set 4 _).set 5 _).set 6 _).set 7 _)⟩
  · have e0 : i - n = 0 := by omega
    rw [e0] at FIN
    have hx0 : (i : Int) - (n : Int) < 0 := by omega
    clear e0
    go_enter Tryz.func40, Tryz.ntmps40
    go_wp2_with fail
    refine (SK.out _).mono ?_
    rintro e w1 ⟨rfl, k1⟩
    have H1 := Lib.hid (HB.out.keep k1)
    have F1 := Lib.hid (Off.keeps B k1)
    have z3 := H1.out.cell 3 (v := .string sb) rfl
    have z4 := H1.out.cell 4 (v := .int .i64 k) rfl
    have z5 := H1.out.cell 5 (v := .int .i64 c) rfl
    have z6 := H1.out.cell 6 (v := .int .i64 f) rfl
    have f3 := H1.out.free 3
    have f4 := H1.out.free 4
    have f5 := H1.out.free 5
    have f6 := H1.out.free 6
    have f7 := H1.out.free 7
    have z7 := H1.out.cell 7 (v := .int .i64 i) rfl
    clear k1 y3 y4 y5 y6
    go_wp2_with fail
    go_end0
    exact ⟨rfl, FIN.out _ (((((H1.out.set 3 _ rfl).set 4 _ rfl).set 5 _ rfl).set 6 _ rfl).set 7 _ (by rw [show max ((i : Int) - n) 0 = 0 by omega]; rfl)) (((((F1.out.set 3 _).set 4 _).set 5 _).set 6 _).set 7 _)⟩

set_option maxRecDepth 100000 in
set_option maxHeartbeats 1000000 in
theorem lpastIndent_any (h : Mem W B O s lv rv tv xs sb k) (n : Nat) (hn : n ≤ 1000000) :
    Calls Tryz.prog 78 #[.pointer (some ⟨B, 3, none⟩), .int .i64 n] W fun e w' => e = .returned (.bool (pastIndM s.line n).2) ∧ NPost W B O (s.atL (pastIndM s.line n).1) lv w' := by
  have SK := Lib.hid (lskip_any h n hn)
  have ID := Lib.hid (show NPost W B O (s.atL s.line) lv W from ⟨O, rv, tv, xs, sb, k, h, Chg.refl _ _⟩)
  have y7 := h.box.cell 7 (v := .int .i64 s.line.ind) rfl
  have hib := h.lw.bound.2
  have hsz := h.siz
  unfold pastIndM
  generalize s.line.ind = i at *
  clear h
  by_cases c : i < n
  · rw [if_pos c]
    have t1 : decide ((i : Int) < n) = true := decide_eq_true (by omega)
    go_enter Tryz.func78, Tryz.ntmps78
    go_wp2_with fail
    go_ret
    exact ⟨rfl, ID.out⟩
  · rw [if_neg c]
    have t1 : decide ((i : Int) < n) = false := decide_eq_false (by omega)
    clear ID
    go_enter Tryz.func78, Tryz.ntmps78
    go_wp2_with fail
    refine SK.out.mono ?_
    rintro e w1 ⟨rfl, k1⟩
    have K1 := Lib.hid k1
    clear k1 SK
    go_wp2_with fail
    go_ret
    exact ⟨rfl, K1.out⟩
end
end Go.Proofs.YtfgpephpkibbaaaGreatDoor

/-
  Contracts of block's line within the parser: move, pastQuote, pastMark; newLine.
-/
namespace Go.Proofs.YtfgpephpkibbaaaGreatDoor
open Go.RowKit Go.Lib

section
variable {W : World} {B : Nat} {O : Nat → Option Nat} {s : St} {lv rv : Value} {tv : Nat → Value} {xs : List Value} {sb : ByteArray} {k : Nat}

set_option maxRecDepth 100000 in
set_option maxHeartbeats 1000000 in
theorem lmove_any (h : Mem W B O s lv rv tv xs sb k) (n : Nat) (hn : n ≤ 1000000) :
    Calls Tryz.prog 77 #[.pointer (some ⟨B, 3, none⟩), .int .i64 n] W fun e w' => e = .returned (.tuple #[]) ∧ NPost W B O (s.atL (moveM s.line n)) lv w' := by
  have hib := h.lw.bound.2
  have hsz := h.siz
  have SK := Lib.hid (lskip_any h s.line.ind (by omega))
  have y7 := h.box.cell 7 (v := .int .i64 s.line.ind) rfl
  unfold moveM
  generalize skipBM s.line s.line.ind = L at *
  generalize s.line.ind = i at *
  clear h
  go_enter Tryz.func77, Tryz.ntmps77
  go_wp2_with fail
  refine SK.out.mono ?_
  rintro e w1 ⟨rfl, O1, rv1, tv1, xs1, sb1, k1, h1, c1⟩
  clear SK hib hsz y7
  have MV := Lib.hid (fun W => move_any sb1 k1 L.c L.f n (by omega) h1.plc (by have := h1.siz; omega) W)
  have lw1 : Lw sb1.size L := h1.lw
  have e1 : sb1.data.toList.drop k1 = L.rem := h1.pos
  rw [e1, Int.toNat_natCast] at MV
  have hhop := lw1.hop n
  have hrl : L.rem.length = sb1.size - k1 := by rw [← e1, List.length_drop, bytes_len]
  have hml := mov_le n L.rem
  have hple := h1.ple
  have hsz := h1.siz
  have LK := Lib.hid (fun (W' : World) v0 v1 v2 v9 v10 i0 n0 hb => look_box W' B v0 v1 v2 v9 v10 sb1 (k1 + (movL n L.rem).length) (L.c + (movL n L.rem).length) L.f i0 n0 hb ⟨by omega, by have := lw1.bound; omega, by
    have := hhop.1
    rw [← List.drop_drop, e1]
    exact this⟩ (by omega))
  have FIN : Hid (∀ W', Blk W' B 53 #[lv, .int .i64 s.tip, rv1, .string sb1, .int .i64 (k1 + (movL n L.rem).length : Nat), .int .i64 (L.c + (movL n L.rem).length : Nat), .int .i64 L.f, .int .i64 (indL (L.c + (movL n L.rem).length) L.f (sb1.data.toList.drop (k1 + (movL n L.rem).length))), .string ⟨(nextL (sb1.data.toList.drop (k1 + (movL n L.rem).length))).toArray⟩, .int .i64 s.known, .bool s.deep] →
      Off B w1 W' → NPost W B O (s.atL (lookM (hopM L n))) lv W') := Lib.hid fun W' hb ho => by
    refine NPost.trans c1 (h1.off (s' := s.atL (lookM (hopM L n))) (sb' := sb1) (k' := k1 + (movL n L.rem).length) rfl rfl ?_ ho ?_ (by omega) h1.siz ?_)
    · rw [← List.drop_drop, e1] at hb
      exact hb
    · rw [← List.drop_drop, e1]; rfl
    · exact ⟨hhop.1, hhop.2.1, hhop.2.2, rfl, rfl⟩
  have HB : Hid (Blk w1 B 53 #[lv, .int .i64 s.tip, rv1, .string sb1, .int .i64 k1, .int .i64 L.c, .int .i64 L.f, .int .i64 L.ind, .string ⟨L.next.toArray⟩, .int .i64 s.known, .bool s.deep]) := Lib.hid h1.box
  clear lw1 hhop hrl hml hple h1 c1
  generalize indL (L.c + (movL n L.rem).length) L.f (sb1.data.toList.drop (k1 + (movL n L.rem).length)) = i2 at *
  generalize nextL (sb1.data.toList.drop (k1 + (movL n L.rem).length)) = n2 at *
  generalize k1 + (movL n L.rem).length = k2 at *
  generalize L.c + (movL n L.rem).length = c2 at *
  generalize L.c = c at *
  generalize L.f = f at *
  have z3 := HB.out.cell 3 (v := .string sb1) rfl
  have z4 := HB.out.cell 4 (v := .int .i64 k1) rfl
  have z5 := HB.out.cell 5 (v := .int .i64 c) rfl
  have z6 := HB.out.cell 6 (v := .int .i64 f) rfl
  go_wp2_with fail
  refine (MV.out _).mono ?_
  rintro e w2 ⟨rfl, q2⟩
  have H2 := Lib.hid (HB.out.keep q2)
  have F2 := Lib.hid (Off.keeps B q2)
  clear z3 z4 z5 z6 q2 HB
  have z3 := H2.out.cell 3 (v := .string sb1) rfl
  have z4 := H2.out.cell 4 (v := .int .i64 k1) rfl
  have z5 := H2.out.cell 5 (v := .int .i64 c) rfl
  have z6 := H2.out.cell 6 (v := .int .i64 f) rfl
  have f3 := H2.out.free 3
  have f4 := H2.out.free 4
  have f5 := H2.out.free 5
  have f6 := H2.out.free 6
  go_wp2_with fail
  refine (LK.out _ _ _ _ _ _ _ _ ((((H2.out.set 3 _ rfl).set 4 _ rfl).set 5 _ rfl).set 6 _ rfl)).mono ?_
  rintro e w3 ⟨rfl, b3, o3⟩
  have R := Lib.hid (FIN.out w3 b3 (((((F2.out.set 3 _).set 4 _).set 5 _).set 6 _).trans o3))
  clear b3 o3 H2 F2 FIN z3 z4 z5 z6 f3 f4 f5 f6
  go_wp2_with fail
  go_end0
  exact ⟨rfl, R.out⟩

set_option maxRecDepth 100000 in
set_option maxHeartbeats 1000000 in
theorem lpastQuote_any (h : Mem W B O s lv rv tv xs sb k) :
    Calls Tryz.prog 53 #[.pointer (some ⟨B, 3, none⟩)] W fun e w' => e = .returned (.bool (pastQuoteM s.line).2) ∧ NPost W B O (s.atL (pastQuoteM s.line).1) lv w' := by
  have MV := Lib.hid (lmove_any h 1 (by omega))
  have ID := Lib.hid (show NPost W B O (s.atL s.line) lv W from ⟨O, rv, tv, xs, sb, k, h, Chg.refl _ _⟩)
  have HP := Lib.hid (fun W => Tryz.strings_HasPrefix ⟨s.line.next.toArray⟩ ⟨#[62]⟩ W)
  have y7 := h.box.cell 7 (v := .int .i64 s.line.ind) rfl
  have y8 := h.box.cell 8 (v := .string ⟨s.line.next.toArray⟩) rfl
  unfold pastQuoteM quoteB
  rw [show (⟨s.line.next.toArray⟩ : ByteArray).data.toList = s.line.next by simp, show (⟨#[62]⟩ : ByteArray).data.toList = [62] from rfl] at HP
  generalize hasPrefix s.line.next [62] = p at *
  generalize (⟨s.line.next.toArray⟩ : ByteArray) = z at *
  generalize moveM s.line 1 = L at *
  generalize s.line.ind = i at *
  clear h
  by_cases c : 4 ≤ i
  · rw [decide_eq_false (show ¬ i < 4 by omega), if_neg (by simp)]
    have t1 : decide ((4 : Int) ≤ i) = true := decide_eq_true (by omega)
    go_enter Tryz.func53, Tryz.ntmps53
    go_wp2_with fail
    go_ret
    exact ⟨rfl, ID.out⟩
  · rw [decide_eq_true (show i < 4 by omega)]
    have t1 : decide ((4 : Int) ≤ i) = false := decide_eq_false (by omega)
    cases p with
    | false =>
      rw [if_neg (by simp)]
      go_enter Tryz.func53, Tryz.ntmps53
      go_wp2_with fail
      refine (HP.out _).mono ?_
      rintro e w1 ⟨rfl, rfl⟩
      go_wp2_with fail
      go_ret
      exact ⟨rfl, ID.out⟩
    | true =>
      rw [if_pos (show (true && true) = true from rfl)]
      clear ID
      go_enter Tryz.func53, Tryz.ntmps53
      go_wp2_with fail
      refine (HP.out _).mono ?_
      rintro e w1 ⟨rfl, rfl⟩
      go_wp2_with fail
      refine MV.out.mono ?_
      rintro e w1 ⟨rfl, O1, rv1, tv1, xs1, sb1, k1, h1, c1⟩
      have SK := Lib.hid (lskip_any h1 1 (by omega))
      have C1 := Lib.hid c1
      clear MV c1 y7 y8 h1
      go_wp2_with fail
      refine SK.out.mono ?_
      rintro e w2 ⟨rfl, q2⟩
      have R := Lib.hid (NPost.trans C1.out q2)
      clear SK C1 q2
      go_wp2_with fail
      go_ret
      exact ⟨rfl, R.out⟩

set_option maxRecDepth 100000 in
set_option maxHeartbeats 1000000 in
theorem lpastMark_any (h : Mem W B O s lv rv tv xs sb k) (n : Nat) (hn : n ≤ 1000000) :
    Calls Tryz.prog 89 #[.pointer (some ⟨B, 3, none⟩), .int .i64 n] W fun e w' => e = .returned (.int .i64 (pastMarkM s.line n).2) ∧ NPost W B O (s.atL (pastMarkM s.line n).1) lv w' := by
  have MV := Lib.hid (lmove_any h n hn)
  have y7 := h.box.cell 7 (v := .int .i64 s.line.ind) rfl
  have hib := h.lw.bound.2
  have hsz := h.siz
  unfold pastMarkM
  generalize moveM s.line n = L at *
  generalize s.line.ind = i at *
  obtain ⟨m, hm⟩ : ∃ m, markB L = m := ⟨_, rfl⟩
  rw [hm]
  have HM := Lib.hid hm
  clear h hm
  go_enter Tryz.func89, Tryz.ntmps89
  go_wp2_with fail
  refine MV.out.mono ?_
  rintro e w1 ⟨rfl, O1, rv1, tv1, xs1, sb1, k1, h1, c1⟩
  have hib1 : L.ind ≤ 40000 := by have := h1.lw.bound.2; have := h1.siz; have e : (s.atL L).line.ind = L.ind := rfl; omega
  have SK1 := Lib.hid (lskip_any h1 1 (by omega))
  have SKI := Lib.hid (lskip_any h1 L.ind (by omega))
  have BL : Hid (Calls Tryz.prog 42 #[.pointer (some ⟨B, 3, none⟩)] w1 fun e w' => e = .returned (.bool (decide (L.next = []))) ∧ w1 = w') := Lib.hid (lblank_any h1)
  have y7' : w1.cell? ⟨B, 7, none⟩ = some (.int .i64 L.ind) := h1.box.cell 7 rfl
  have C1 := Lib.hid c1
  clear MV c1 y7 h1
  by_cases c4 : 4 < L.ind
  · have em : m = 1 := by rw [← HM.out]; unfold markB; rw [if_pos (.inl c4)]
    subst em
    have t1 : decide ((4 : Int) < L.ind) = true := decide_eq_true (by omega)
    generalize L.ind = j at *
    clear BL SKI
    go_wp2_with fail
    refine SK1.out.mono ?_
    rintro e w2 ⟨rfl, q2⟩
    have R := Lib.hid (NPost.trans C1.out q2)
    clear SK1 C1 q2
    go_wp2_with fail
    go_ret
    exact ⟨rfl, R.out⟩
  · have t1 : decide ((4 : Int) < L.ind) = false := decide_eq_false (by omega)
    by_cases cn : L.next = []
    · have em : m = 1 := by rw [← HM.out]; unfold markB; rw [if_pos (.inr cn)]
      subst em
      rw [decide_eq_true cn] at BL
      generalize L.ind = j at *
      clear SKI cn
      go_wp2_with fail
      refine BL.out.mono ?_
      rintro e w2 ⟨rfl, rfl⟩
      go_wp2_with fail
      refine SK1.out.mono ?_
      rintro e w2 ⟨rfl, q2⟩
      have R := Lib.hid (NPost.trans C1.out q2)
      clear SK1 C1 q2
      go_wp2_with fail
      go_ret
      exact ⟨rfl, R.out⟩
    · have em : L.ind = m := by rw [← HM.out]; unfold markB; rw [if_neg (fun e => e.elim c4 cn)]
      rw [decide_eq_false cn] at BL
      rw [em] at SKI y7' t1 hib1
      clear SK1 cn HM c4 em
      go_wp2_with fail
      refine BL.out.mono ?_
      rintro e w2 ⟨rfl, rfl⟩
      go_wp2_with fail
      refine SKI.out.mono ?_
      rintro e w2 ⟨rfl, q2⟩
      have R := Lib.hid (NPost.trans C1.out q2)
      clear SKI C1 q2
      go_wp2_with fail
      go_ret
      exact ⟨rfl, R.out⟩
end
end Go.Proofs.YtfgpephpkibbaaaGreatDoor

/-
  Contracts of block's newLine, fenced, tipIs, endsFence.
-/
namespace Go.Proofs.YtfgpephpkibbaaaGreatDoor
open Go.RowKit Go.Lib

set_option maxRecDepth 100000 in
set_option maxHeartbeats 1000000 in
theorem look_own (W : World) (B : Nat) (sb : ByteArray) (k c f : Nat) (i0 : Int) (n0 : ByteArray) (hB : Blk W B 51 #[.string sb, .int .i64 k, .int .i64 c, .int .i64 f, .int .i64 i0, .string n0]) (h : Plc sb k c f) (hs : sb.size ≤ 100000) :
    Calls Tryz.prog 36 #[.pointer (some ⟨B, 0, none⟩)] W fun e w' => e = .returned (.tuple #[]) ∧ Blk w' B 51 #[.string sb, .int .i64 k, .int .i64 c, .int .i64 f, .int .i64 (indL c f (sb.data.toList.drop k)), .string ⟨(nextL (sb.data.toList.drop k)).toArray⟩] ∧ Off B W w' := by
  have IN := Lib.hid (fun W => indent_any sb k c f h hs W)
  have NX := Lib.hid (fun W => next_any sb k c f h W)
  generalize indL c f (sb.data.toList.drop k) = i1 at *
  generalize nextL (sb.data.toList.drop k) = n1 at *
  have y3 := hB.cell 0 (v := .string sb) rfl
  have y4 := hB.cell 1 (v := .int .i64 k) rfl
  have y5 := hB.cell 2 (v := .int .i64 c) rfl
  have y6 := hB.cell 3 (v := .int .i64 f) rfl
  have HB := Lib.hid hB
  clear h hB
  go_enter Tryz.func36, Tryz.ntmps36
  go_wp2_with fail
  refine (IN.out _).mono ?_
  rintro e w1 ⟨rfl, k1⟩
  have H1 := Lib.hid (HB.out.keep k1)
  have F1 := Lib.hid (Off.keeps B k1)
  have z3 := H1.out.cell 0 (v := .string sb) rfl
  have z4 := H1.out.cell 1 (v := .int .i64 k) rfl
  have z5 := H1.out.cell 2 (v := .int .i64 c) rfl
  have z6 := H1.out.cell 3 (v := .int .i64 f) rfl
  have z7 := H1.out.cell 4 (v := .int .i64 i0) rfl
  have f7 := H1.out.free 4
  clear k1 y3 y4 y5 y6
  go_wp2_with fail
  refine (NX.out _).mono ?_
  rintro e w2 ⟨rfl, k2⟩
  have H2 := Lib.hid ((H1.out.set 4 (.int .i64 i1) rfl).keep k2)
  have F2 := Lib.hid ((F1.out.set 4 (.int .i64 i1)).then k2)
  have z8 := H2.out.cell 5 (v := .string n0) rfl
  have f8 := H2.out.free 5
  clear k2 z3 z4 z5 z6 z7 f7
  go_wp2_with fail
  go_end0
  exact ⟨rfl, H2.out.set 5 _ rfl, F2.out.set 5 _⟩

theorem Blk.off {W W' : World} {B b : Nat} {t : TypeId} {cs : Array Value} (h : Blk W b t cs) (o : Off B W W') (hb : b ≠ B) : Blk W' b t cs := by
  unfold Blk
  rw [o.block b h.lt hb]
  exact h
theorem Keeps.off {a W W' : World} {B : Nat} (h : Keeps a W) (o : Off B W W') (hb : a.heap.size ≤ B) : Keeps a W' :=
  ⟨o.os.trans h.os, o.tape.trans h.tape, o.output.trans h.output, Nat.le_trans h.size o.size, fun i hi => (o.block i (Nat.lt_of_lt_of_le hi h.size) (by omega)).trans (h.block i hi)⟩
/-- What newLine tells. -/
def lnV (t : ByteArray) : Value := .agg #[.string t, .int .i64 0, .int .i64 0, .int .i64 0, .int .i64 (indL 0 0 t.data.toList), .string ⟨(nextL t.data.toList).toArray⟩]
set_option maxRecDepth 100000 in
set_option maxHeartbeats 1000000 in
theorem newLine_any (t : ByteArray) (w : World) (hs : t.size ≤ 100000) :
    Calls Tryz.prog 28 #[.string t] w fun e w' => e = .returned (lnV t) ∧ Keeps w w' := by
  have NW := Lib.hid (fun W => new_any t W)
  have LK := Lib.hid (fun W' B i0 n0 hb => look_own W' B t 0 0 0 i0 n0 hb ⟨Nat.zero_le _, by omega, okP_nil _⟩ hs)
  unfold lnV
  rw [List.drop_zero] at LK
  generalize indL 0 0 t.data.toList = i1 at *
  generalize nextL t.data.toList = n1 at *
  go_enter Tryz.func28, Tryz.ntmps28
  go_wp2_with fail
  refine (NW.out _).mono ?_
  rintro e w1 ⟨rfl, k1⟩
  go_wp2_with fail
  have hs1 := k1.size
  have hsz : w.heap.size < w1.heap.size := by have := hs1; simp at this; omega
  have R1 := Lib.hid ((((Blk.new w 51 #[.string ⟨#[]⟩, .int .i64 0, .int .i64 0, .int .i64 0, .int .i64 0, .string ⟨#[]⟩]).keep k1).alloc (.cells #[.string t, .int .i64 0, .int .i64 0, .int .i64 0, .int .i64 0, .string ⟨#[]⟩] 51)))
  have K1 := Lib.hid ((((Keeps.refl w).alloc _).trans k1).alloc (.cells #[.string t, .int .i64 0, .int .i64 0, .int .i64 0, .int .i64 0, .string ⟨#[]⟩] 51))
  have N1 := Lib.hid (Blk.new w1 51 #[.string t, .int .i64 0, .int .i64 0, .int .i64 0, .int .i64 0, .string ⟨#[]⟩])
  clear k1 hs1
  refine (LK.out _ _ _ _ N1.out).mono ?_
  rintro e w2 ⟨rfl, b2, o2⟩
  have R2 := Lib.hid (R1.out.off o2 (by omega))
  have K2 := Lib.hid (K1.out.off o2 (by omega))
  have N2 := Lib.hid b2
  clear b2 o2 R1 K1 N1
  generalize w1.heap.size = g1 at *
  have z0 := N2.out.cell 0 (v := .string t) rfl
  have z1 := N2.out.cell 1 (v := .int .i64 0) rfl
  have z2 := N2.out.cell 2 (v := .int .i64 0) rfl
  have z3 := N2.out.cell 3 (v := .int .i64 0) rfl
  have z4 := N2.out.cell 4 (v := .int .i64 i1) rfl
  have z5 := N2.out.cell 5 (v := .string ⟨n1.toArray⟩) rfl
  have y0 := R2.out.cell 0 (v := .string ⟨#[]⟩) rfl
  have y1 := R2.out.cell 1 (v := .int .i64 0) rfl
  have y2 := R2.out.cell 2 (v := .int .i64 0) rfl
  have y3 := R2.out.cell 3 (v := .int .i64 0) rfl
  have y4 := R2.out.cell 4 (v := .int .i64 0) rfl
  have y5 := R2.out.cell 5 (v := .string ⟨#[]⟩) rfl
  have f0 := R2.out.free 0
  have f1 := R2.out.free 1
  have f2 := R2.out.free 2
  have f3 := R2.out.free 3
  have f4 := R2.out.free 4
  have f5 := R2.out.free 5
  go_wp2_with fail
  exact ret_blk rfl rfl rfl ((((((R2.out.set 0 _ rfl).set 1 _ rfl).set 2 _ rfl).set 3 _ rfl).set 4 _ rfl).set 5 _ rfl) Tryz.underlying51 (by kernel_rfl) ⟨rfl, ((((((K2.out.set (Nat.le_refl _) 0 _).set (Nat.le_refl _) 1 _).set (Nat.le_refl _) 2 _).set (Nat.le_refl _) 3 _).set (Nat.le_refl _) 4 _).set (Nat.le_refl _) 5 _)⟩

set_option maxRecDepth 100000 in
set_option maxHeartbeats 1000000 in
theorem fenced_any (W : World) (g o : Nat) (c : UInt8) (hc : W.cell? ⟨g, o + 16, none⟩ = some (.int .u8 (c.toNat : Nat))) :
    Calls Tryz.prog 47 #[.pointer (some ⟨g, o, none⟩)] W fun e w' => e = .returned (.bool (!decide (c = 0))) ∧ W = w' := by
  by_cases h : c = 0
  · subst h
    go_enter Tryz.func47, Tryz.ntmps47
    go_wp2
    go_ret
    exact ⟨rfl, rfl⟩
  · rw [decide_eq_false h]
    have h0 : c.toNat ≠ 0 := fun e => h (UInt8.toNat_inj.1 e)
    have t1 := beqF (show ¬ (c.toNat : Int) = 0 by omega)
    clear h
    generalize c.toNat = x at *
    clear h0
    go_enter Tryz.func47, Tryz.ntmps47
    go_wp2
    go_ret
    exact ⟨ret_bool (show ((x : Int) != 0) = true by rw [bne, t1]; rfl), rfl⟩

section
variable {W : World} {B : Nat} {O : Nat → Option Nat} {s : St} {rv : Value} {tv : Nat → Value} {xs : List Value} {sb : ByteArray} {k g n cap : Nat}
theorem Mem.num (h : Mem W B O s (.slice (some ⟨g, 0, none⟩) n cap) rv tv xs sb k) : n = s.list.length ∧ n ≤ cap ∧ cap ≤ maxLen := by
  rcases h.row.2 with ⟨e, _⟩ | ⟨_, _, _, e, _, _, h1, h2, _⟩
  · cases e
  · cases e; exact ⟨rfl, h1, h2⟩
set_option maxRecDepth 100000 in
set_option maxHeartbeats 1000000 in
theorem tipIs_any (h : Mem W B O s (.slice (some ⟨g, 0, none⟩) n cap) rv tv xs sb k) (ht : s.tip < s.list.length) (c : Nat) :
    Calls Tryz.prog 41 #[.pointer (some ⟨B, 0, none⟩), .int .i64 c] W fun e w' => e = .returned (.bool (decide ((s.nd s.tip).kind = c))) ∧ ∃ m, w' = W.drewN m := by
  obtain ⟨rfl, hc1, hc2⟩ := h.num
  have y0 := h.box.cell 0 (v := .slice (some ⟨g, 0, none⟩) s.list.length cap) rfl
  have y1 := h.box.cell 1 (v := .int .i64 s.tip) rfl
  have z0 : W.cell? ⟨g, s.tip * 20, none⟩ = some (.int .i64 (s.nd s.tip).kind) := h.at ht 0 (by decide)
  generalize (s.nd s.tip).kind = q at *
  generalize s.list.length = L at *
  generalize s.tip = t at *
  have ht2 : (t : Int) < (L : Int) := by omega
  have ht0 : (0 : Int) ≤ (t : Int) := by omega
  clear h hc1 hc2
  by_cases e : q = c
  · subst e
    rw [decide_eq_true rfl]
    go_enter Tryz.func41, Tryz.ntmps41
    go_wp2_with fail
    go_quiet (fail)
    go_wp2_with fail
    go_ret
    exact ⟨rfl, _, rfl⟩
  · rw [decide_eq_false e]
    have t1 := beqF (show ¬ (q : Int) = (c : Int) by omega)
    clear e
    go_enter Tryz.func41, Tryz.ntmps41
    go_wp2_with fail
    go_quiet (fail)
    go_wp2_with fail
    go_ret
    exact ⟨rfl, _, rfl⟩
end
end Go.Proofs.YtfgpephpkibbaaaGreatDoor

