/-
  Texts of the proof, one behind the other: Inp.
-/
import Derived.Test.YtklmgbkkjmfhcaaGreatDoorM30
import Derived.Test.YtklmgbkkjmfhcaaGreatDoorM5
import Derived.Test.YtklmgbkkjmfhcaaGreatDoorM21
import Derived.Test.YtklmgbkkjmfhcaaGreatDoorM13
import Derived.Maps.OwnSet
import Derived.Maps.OwnOps
/-
  Inline's parser in memory: who owns what; what stays, what a method leaves.
-/
namespace Go.Proofs.YtklmgbkkjmfhcaaGreatDoor
open Go.RowKit Go.Lib Go.Maps

def brC (b : Br) : List Value := [.int .i64 b.place, .int .i64 b.pos, .bool b.image]
def brR (l : List Br) : List Value := l.flatMap brC
def boxI (s : ByteArray) (p : Ps) (lv bv rv : Value) (fi : Nat) (pm tm em : Value) : Array Value := #[.string s, .int .i64 p.pos, lv, bv, .int .i64 p.dead, rv, .int .i64 fi, pm, tm, em]
theorem infoBr : (Tryz.prog.info? 63).map (fun i => (i.zero, i.size, i.bytes)) = some (some (.agg #[.int .i64 0, .int .i64 0, .bool false]), 3, 24) := by kernel_rfl
/-- Definitions, as they are read. -/
def RefV (W : World) (rv : Value) (rs : List Rf) : Prop := ∃ A c, rv = .slice A rs.length c ∧ rs.length ≤ c ∧ c ≤ maxLen ∧ (0 < rs.length → ∃ g o, A = some ⟨g, o, none⟩ ∧ ∀ k (h : k < rs.length), W.rangeAt g (o + k * 3) (refC rs[k]))
/-- A map of the parser's: none yet, or one whose entries are as F says. -/
def MapI (W : World) (O : Nat → Option Nat) (cls : Nat) (K : TypeId) (v : Value) (F : DataW Unit → Prop) : Prop := v = .map none ∨ ∃ m n D, v = .map (some m) ∧ O m = some cls ∧ W.ownsMap Tryz.prog K (plainElem Tryz.prog 3) m n D ∧ n ≤ 100000 ∧ F D
def i64D (n : Int) : DataW Unit := .lit (.int .i64 n)
def TickF (s : List UInt8) (D : DataW Unit) : Prop := ∀ c : Nat, c ≤ s.length → D.atKey (.int .i64 c) (i64D 0) = i64D (ltkM s c : Nat)
/-- What may stand behind raw HTML; how many of these a map has. -/
def fourE : List (List UInt8) := [[45, 45, 62], [63, 62], [93, 93, 62], [62]]
def cn4 (D : DataW Unit) : Nat := (fourE.filter fun t => Maps.has D (.string t)).length
def EndF (s : List UInt8) (D : DataW Unit) : Prop := (∀ t : List UInt8, Maps.has D (.string t) = true → D.atKey (.string t) (i64D 0) = i64D (lastIndex s t)) ∧ Maps.size D ≤ cn4 D
def PlcF (rs : List Rf) (D : DataW Unit) : Prop := ∀ t : List UInt8, t.length ≤ 100000 → (Maps.has D (.string t) = true → ∃ i : Nat, ∃ h : i < rs.length, D.atKey (.string t) (i64D 0) = i64D i ∧ fndL t rs = some rs[i]) ∧ (Maps.has D (.string t) = false → fndL t rs = none)
def Out (O : Nat → Option Nat) (W : World) (b : Nat) : Prop := O b = none ∧ b < W.heap.size
structure MemI (W : World) (B : Nat) (O : Nat → Option Nat) (s : ByteArray) (rs : List Rf) (p : Ps) (lv bv rv : Value) (fi : Nat) (pm tm em : Value) (L : List (Pc × Value)) : Prop where
  box : Blk W B 38 (boxI s p lv bv rv fi pm tm em)
  row : W.ownsRow 0 42 9 lv L.length (pcR L)
  eq : L.map Prod.fst = p.list
  kid : KidsAt W (Out O W) L
  brs : W.ownsRow 0 63 3 bv p.br.length (brR p.br)
  refs : RefV W rv rs
  oRf : ∀ g o n c, rv = .slice (some ⟨g, o, none⟩) n c → 0 < rs.length → O g = none
  plc : MapI W O 5 9 pm (PlcF rs)
  tic : MapI W O 3 3 tm (TickF s.data.toList)
  ens : MapI W O 4 9 em (EndF s.data.toList)
  fin : fi + p.br.length ≤ p.pos
  oB : O B = some 0
  oL : ∀ g, lv.ownBlock = some g → O g = some 1
  oK : ∀ g, bv.ownBlock = some g → O g = some 2
  lt : ∀ b, O b ≠ none → b < W.heap.size
  env : EnvM W O
  wf : WfC s.data.toList p
  siz : s.size ≤ 20000
  rsz : rs.length ≤ 100000 ∧ ∀ r ∈ rs, r.1.length ≤ maxLen
  fst : ∀ x ∈ p.list, x.first ≤ 1000000
def ParI (W : World) (B : Nat) (O : Nat → Option Nat) (s : ByteArray) (rs : List Rf) (p : Ps) : Prop := WfI s.data.toList p ∧ ∃ lv bv rv fi pm tm em L, MemI W B O s rs p lv bv rv fi pm tm em L
def PostI (W : World) (B : Nat) (O : Nat → Option Nat) (s : ByteArray) (rs : List Rf) (p' : Ps) (W' : World) : Prop := ∃ O', ParI W' B O' s rs p' ∧ Chg W O W' O'
theorem MapI.same {W W' : World} {O O' : Nat → Option Nat} {cls : Nat} {K : TypeId} {v : Value} {F : DataW Unit → Prop} (h : MapI W O cls K v F) (hO : ∀ b, O b = some cls → O' b = some cls) (hb : ∀ b, O b = some cls → W'.heap[b]? = W.heap[b]?) : MapI W' O' cls K v F := by
  rcases h with h | ⟨m, n, D, h1, h2, h3, h4, h5⟩
  · exact .inl h
  · refine .inr ⟨m, n, D, h1, hO m h2, ?_, h4, h5⟩
    obtain ⟨es, clock, q, r⟩ := h3
    exact ⟨es, clock, (hb m h2).trans q, r⟩
theorem RefV.same {W W' : World} {rv : Value} {rs : List Rf} (h : RefV W rv rs) (hb : ∀ g o n c, rv = .slice (some ⟨g, o, none⟩) n c → W'.heap[g]? = W.heap[g]?) : RefV W' rv rs := by
  obtain ⟨A, c, h1, h2, h3, h4⟩ := h
  refine ⟨A, c, h1, h2, h3, fun h0 => ?_⟩
  obtain ⟨g, o, hA, hc⟩ := h4 h0
  exact ⟨g, o, hA, fun k hk => range_same (hc k hk) (hb g o _ c (by rw [h1, hA]))⟩
section
variable {W : World} {B : Nat} {O : Nat → Option Nat} {s : ByteArray} {rs : List Rf} {p : Ps} {lv bv rv : Value} {fi : Nat} {pm tm em : Value} {L : List (Pc × Value)}
theorem refV_lt {W : World} {rv : Value} {rs : List Rf} (h : RefV W rv rs) : ∀ g o n c, rv = .slice (some ⟨g, o, none⟩) n c → 0 < rs.length → g < W.heap.size := fun g o n c e h0 => by
  obtain ⟨A, c', h1, _, _, h4⟩ := h
  obtain ⟨g', o', hA, hc⟩ := h4 h0
  rw [h1, hA] at e
  cases e
  exact range_lt (hc 0 h0) (by show 0 < 3; decide)
/-- Only new memory. -/
theorem MemI.keep {W' : World} (h : MemI W B O s rs p lv bv rv fi pm tm em L) (q : Keeps W W') : MemI W' B O s rs p lv bv rv fi pm tm em L where
  box := h.box.keep q
  row := row_below h.row q
  eq := h.eq
  kid := h.kid.same (fun b hb => ⟨hb.1, Nat.lt_of_lt_of_le hb.2 q.size⟩) fun b hb => q.block b hb.2
  brs := row_below h.brs q
  refs := by
    obtain ⟨A, c, h1, h2, h3, h4⟩ := h.refs
    refine ⟨A, c, h1, h2, h3, fun h0 => ?_⟩
    obtain ⟨g, o, hA, hc⟩ := h4 h0
    exact ⟨g, o, hA, fun k hk => range_same (hc k hk) (q.block g (range_lt (hc k hk) (by show 0 < 3; decide)))⟩
  oRf := h.oRf
  plc := h.plc.same (fun _ e => e) fun b e => q.block b (h.lt b (by rw [e]; simp))
  tic := h.tic.same (fun _ e => e) fun b e => q.block b (h.lt b (by rw [e]; simp))
  ens := h.ens.same (fun _ e => e) fun b e => q.block b (h.lt b (by rw [e]; simp))
  fin := h.fin
  oB := h.oB
  oL := h.oL
  oK := h.oK
  lt := fun b hb => Nat.lt_of_lt_of_le (h.lt b hb) q.size
  env := h.env.chg (Chg.keeps O q)
  wf := h.wf
  siz := h.siz
  rsz := h.rsz
  fst := h.fst
/-- The list, the brackets and the struct itself have turned. -/
theorem MemI.next {W' : World} (h : MemI W B O s rs p lv bv rv fi pm tm em L) {p' : Ps} {lv' bv' : Value} {fi' : Nat} {L' : List (Pc × Value)} (hos : W'.os = W.os) (htp : W'.tape = W.tape) (hout : W'.output = W.output) (hsz : W.heap.size ≤ W'.heap.size)
    (same : ∀ b, b < W.heap.size → O b ≠ some 0 → O b ≠ some 1 → O b ≠ some 2 → W'.heap[b]? = W.heap[b]?)
    (box : Blk W' B 38 (boxI s p' lv' bv' rv fi' pm tm em))
    (row : W'.ownsRow 0 42 9 lv' L'.length (pcR L')) (hl : lv'.ownBlock = lv.ownBlock ∨ ∃ b, W.heap.size ≤ b ∧ lv'.ownBlock = some b)
    (brs : W'.ownsRow 0 63 3 bv' p'.br.length (brR p'.br)) (hk : bv'.ownBlock = bv.ownBlock ∨ ∃ b, W.heap.size ≤ b ∧ bv'.ownBlock = some b ∧ lv'.ownBlock ≠ some b)
    (eq : L'.map Prod.fst = p'.list) (kid : KidsAt W' (fun b => O b = none ∧ b < W'.heap.size ∧ lv'.ownBlock ≠ some b ∧ bv'.ownBlock ≠ some b) L')
    (fin : fi' + p'.br.length ≤ p'.pos) (wf : WfC s.data.toList p') (fst : ∀ x ∈ p'.list, x.first ≤ 1000000) : ∃ O', MemI W' B O' s rs p' lv' bv' rv fi' pm tm em L' ∧ Chg W O W' O' := by
  have hOK : ∃ O' : Nat → Option Nat, (∀ b, b < W.heap.size → O' b = O b) ∧ (∀ g, lv'.ownBlock = some g → O' g = some 1) ∧ (∀ g, bv'.ownBlock = some g → O' g = some 2) ∧ (∀ b, O' b ≠ none → b < W'.heap.size) ∧ (∀ b, O b = none → lv'.ownBlock ≠ some b → bv'.ownBlock ≠ some b → O' b = none) := by
    have l0 : ∀ g, lv.ownBlock = some g → g < W.heap.size := fun g e => h.lt g (by rw [h.oL g e]; simp)
    have k0 : ∀ g, bv.ownBlock = some g → g < W.heap.size := fun g e => h.lt g (by rw [h.oK g e]; simp)
    rcases hl with hl | ⟨b1, hb1, hl⟩ <;> rcases hk with hk | ⟨b2, hb2, hk, hne⟩
    · exact ⟨O, fun _ _ => rfl, fun g e => h.oL g (by rw [← hl]; exact e), fun g e => h.oK g (by rw [← hk]; exact e), fun b hb => Nat.lt_of_lt_of_le (h.lt b hb) hsz, fun b e _ _ => e⟩
    · refine ⟨upd O b2 (some 2), fun b hb => upd_ne _ _ (by omega), fun g e => ?_, fun g e => ?_, fun b hb => ?_, fun b e _ n2 => ?_⟩
      · rw [hl] at e
        rw [upd_ne _ _ (by have := l0 g e; omega)]; exact h.oL g e
      · rw [hk] at e; cases e; exact upd_at _ _ _
      · by_cases hbe : b = b2
        · rw [hbe]; exact (brs.lt b2 hk).2
        · rw [upd_ne _ _ hbe] at hb; exact Nat.lt_of_lt_of_le (h.lt b hb) hsz
      · rw [upd_ne _ _ (fun q => n2 (by rw [q]; exact hk))]; exact e
    · refine ⟨upd O b1 (some 1), fun b hb => upd_ne _ _ (by omega), fun g e => ?_, fun g e => ?_, fun b hb => ?_, fun b e n1 _ => ?_⟩
      · rw [hl] at e; cases e; exact upd_at _ _ _
      · rw [hk] at e
        rw [upd_ne _ _ (by have := k0 g e; omega)]; exact h.oK g e
      · by_cases hbe : b = b1
        · rw [hbe]; exact (row.lt b1 hl).2
        · rw [upd_ne _ _ hbe] at hb; exact Nat.lt_of_lt_of_le (h.lt b hb) hsz
      · rw [upd_ne _ _ (fun q => n1 (by rw [q]; exact hl))]; exact e
    · have h12 : b1 ≠ b2 := fun q => hne (by rw [hl, q])
      refine ⟨upd (upd O b1 (some 1)) b2 (some 2), fun b hb => (upd_ne _ _ (by omega)).trans (upd_ne _ _ (by omega)), fun g e => ?_, fun g e => ?_, fun b hb => ?_, fun b e n1 n2 => ?_⟩
      · rw [hl] at e; cases e
        rw [upd_ne _ _ h12]; exact upd_at _ _ _
      · rw [hk] at e; cases e; exact upd_at _ _ _
      · by_cases hbe : b = b2
        · rw [hbe]; exact (brs.lt b2 hk).2
        · rw [upd_ne _ _ hbe] at hb
          by_cases hbe1 : b = b1
          · rw [hbe1]; exact (row.lt b1 hl).2
          · rw [upd_ne _ _ hbe1] at hb; exact Nat.lt_of_lt_of_le (h.lt b hb) hsz
      · rw [upd_ne _ _ (fun q => n2 (by rw [q]; exact hk)), upd_ne _ _ (fun q => n1 (by rw [q]; exact hl))]; exact e
  obtain ⟨O', o1, o2, o3, o4, o5⟩ := hOK
  have hlt : ∀ b x, O b = some x → b < W.heap.size := fun b x e => h.lt b (by rw [e]; simp)
  have hC : Chg W O W' O' := ⟨hos, htp, hout, hsz, o1, fun b hb e => same b hb (by rw [e]; simp) (by rw [e]; simp) (by rw [e]; simp)⟩
  refine ⟨O', ?_, hC⟩
  exact {
    box := box
    row := row
    eq := eq
    kid := kid.same (fun b hb => ⟨o5 b hb.1 hb.2.2.1 hb.2.2.2, hb.2.1⟩) fun _ _ => rfl
    brs := brs
    refs := by
      by_cases h0 : 0 < rs.length
      · exact h.refs.same fun g o n c e => by
          have hg := h.oRf g o n c e h0
          exact same g (refV_lt h.refs g o n c e h0) (by rw [hg]; simp) (by rw [hg]; simp) (by rw [hg]; simp)
      · obtain ⟨A, c, h1, h2, h3, h4⟩ := h.refs
        exact ⟨A, c, h1, h2, h3, fun q => absurd q h0⟩
    oRf := fun g o n c e h0 => by
      rw [o1 g (refV_lt h.refs g o n c e h0)]
      exact h.oRf g o n c e h0
    plc := h.plc.same (fun b e => by rw [o1 b (hlt b 5 e)]; exact e) fun b e => same b (hlt b 5 e) (by rw [e]; simp) (by rw [e]; simp) (by rw [e]; simp)
    tic := h.tic.same (fun b e => by rw [o1 b (hlt b 3 e)]; exact e) fun b e => same b (hlt b 3 e) (by rw [e]; simp) (by rw [e]; simp) (by rw [e]; simp)
    ens := h.ens.same (fun b e => by rw [o1 b (hlt b 4 e)]; exact e) fun b e => same b (hlt b 4 e) (by rw [e]; simp) (by rw [e]; simp) (by rw [e]; simp)
    fin := fin
    oB := by rw [o1 B (hlt B 0 h.oB)]; exact h.oB
    oL := o2
    oK := o3
    lt := o4
    env := h.env.chg hC
    wf := wf
    siz := h.siz
    rsz := h.rsz
    fst := fst }
end
end Go.Proofs.YtklmgbkkjmfhcaaGreatDoor

