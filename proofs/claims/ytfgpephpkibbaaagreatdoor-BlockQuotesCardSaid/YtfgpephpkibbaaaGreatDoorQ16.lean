/-
  Texts of the proof, one behind the other: Txr.
-/
import Derived.Test.YtfgpephpkibbaaaGreatDoorQ11
import Derived.Deep.AppendSrc
import Derived.Deep.Upon
import Derived.Laws.IdiomStrings
import Derived.Laws.IdiomCopy
/-
  A []byte that a struct holds, wherever it came from: nil, appended to, or made of a text ([]byte(s) lays a mark behind the last cell); by no layer.
-/
namespace Go.Proofs.YtfgpephpkibbaaaGreatDoor
open Go.RowKit Go.Lib

def u8L (l : List UInt8) : List Value := l.map fun b => Value.int .u8 b.toNat
theorem u8L_len (l : List UInt8) : (u8L l).length = l.length := by unfold u8L; simp
theorem u8L_app (a b : List UInt8) : u8L (a ++ b) = u8L a ++ u8L b := by unfold u8L; simp
theorem u8L_at {l : List UInt8} {j : Nat} (h : j < l.length) : (u8L l)[j]? = some (.int .u8 (l[j].toNat : Int)) := by
  unfold u8L
  rw [List.getElem?_map, List.getElem?_eq_getElem h]; rfl
/-- The slice v holds the bytes l. -/
def Tx (W : World) (v : Value) (l : List UInt8) : Prop := (v = .slice none 0 0 ∧ l = []) ∨ ∃ g cap, v = .slice (some ⟨g, 0, none⟩) l.length cap ∧ l.length ≤ cap ∧ cap ≤ maxLen ∧ g < W.heap.size ∧
  (∀ j u, (u8L l)[j]? = some u → W.cell? ⟨g, j, none⟩ = some u) ∧ ∀ j, j < cap → (W.cell? ⟨g, j, none⟩).isSome = true ∧ W.frozen? ⟨g, j, none⟩ = false
theorem Tx.nil (W : World) : Tx W (.slice none 0 0) [] := .inl ⟨rfl, rfl⟩
theorem Tx.lt {W : World} {v : Value} {l : List UInt8} (h : Tx W v l) : ∀ g, v.ownBlock = some g → g < W.heap.size := by
  intro g hg
  rcases h with ⟨rfl, _⟩ | ⟨g', cap, rfl, _, _, hl, _⟩
  · simp [Value.ownBlock] at hg
  · simp [Value.ownBlock] at hg; omega
/-- It looks at its own block alone. -/
theorem Tx.same {W W' : World} {v : Value} {l : List UInt8} (h : Tx W v l) (hs : W.heap.size ≤ W'.heap.size) (hb : ∀ g, v.ownBlock = some g → W'.heap[g]? = W.heap[g]?) : Tx W' v l := by
  rcases h with h | ⟨g, cap, rfl, h1, h2, h3, h4, h5⟩
  · exact .inl h
  · have e := hb g rfl
    exact .inr ⟨g, cap, rfl, h1, h2, by omega, fun j u hu => (World.cell?_of_block (a := ⟨g, j, none⟩) e).trans (h4 j u hu),
      fun j hj => ⟨by rw [World.cell?_of_block (a := ⟨g, j, none⟩) e]; exact (h5 j hj).1, (World.frozen?_of_block (a := ⟨g, j, none⟩) e).trans (h5 j hj).2⟩⟩
theorem Tx.form {W : World} {v : Value} {l : List UInt8} (h : Tx W v l) : ∃ ao cap, v = .slice ao l.length cap ∧ l.length ≤ cap ∧ cap ≤ maxLen := by
  rcases h with ⟨rfl, rfl⟩ | ⟨g, cap, rfl, h1, h2, _⟩
  · exact ⟨none, 0, rfl, Nat.le_refl _, by simp [maxLen]⟩
  · exact ⟨_, cap, rfl, h1, h2⟩
/-- string(b). -/
theorem Tx.back {P : Program} {W : World} {v : Value} {l : List UInt8} (h : Tx W v l) (src dst e : TypeId) (hs : P.underlying src = some (.slice e)) (he : P.underlying e = some (.int .u8)) (hd : P.underlying dst = some .string) :
    (convert src dst v).run P W = .ok (.string ⟨l.toArray⟩) W := by
  rcases h with ⟨rfl, rfl⟩ | ⟨g, cap, rfl, h1, h2, h3, h4, h5⟩
  · rw [run_convert_bytes_string W src dst e none 0 0 hs he hd]
    rfl
  · exact run_convert_bytes_back W src dst e ⟨g, 0, none⟩ cap l hs he hd (fun j hj => by
      rw [Addr.add_lit, Nat.zero_add]
      exact h4 j _ (u8L_at hj))
/-- b[:k]. -/
theorem Tx.take {W : World} {g cap : Nat} {l : List UInt8} (h : Tx W (.slice (some ⟨g, 0, none⟩) l.length cap) l) {k : Nat} (hk : k ≤ l.length) : Tx W (.slice (some ⟨g, 0, none⟩) k cap) (l.take k) := by
  rcases h with ⟨h, _⟩ | ⟨g', cap', h0, h1, h2, h3, h4, h5⟩
  · cases h
  · simp only [Value.slice.injEq, Option.some.injEq, Addr.mk.injEq, and_true, true_and] at h0
    obtain ⟨rfl, rfl⟩ := h0
    have e : (l.take k).length = k := by rw [List.length_take]; omega
    refine .inr ⟨g, cap, by rw [e], by omega, h2, h3, fun j u hu => h4 j u ?_, h5⟩
    unfold u8L at hu ⊢
    rw [List.map_take, List.getElem?_take] at hu
    split at hu
    · exact hu
    · cases hu
/-- []byte(s). -/
theorem Tx.made {P : Program} (W : World) (src dst e : TypeId) (l : List UInt8) (hl : l.length ≤ 1000000) (hs : P.underlying src = some .string) (hd : P.underlying dst = some (.slice e)) (he : P.underlying e = some (.int .u8)) :
    ∃ v o, (convert src dst (.string ⟨l.toArray⟩)).run P W = .ok v (W.drew.alloc o) ∧ Tx (W.drew.alloc o) v l ∧ v.ownBlock = some W.heap.size ∧ ∃ cap, v = .slice (some ⟨W.heap.size, 0, none⟩) l.length cap := by
  have hsz : (⟨l.toArray⟩ : ByteArray).size = l.length := by simp [ByteArray.size]
  have hge := grownCap_ge W l.length 0 e
  have hle := grownCap_le_maxLen W l.length 0 e (by simp only [maxLen]; omega)
  have r := run_bytes_of_string (P := P) W src dst e ⟨l.toArray⟩ hs hd he
  rw [hsz] at r
  generalize grownCap W l.length 0 e = C at *
  have hrow : (bytesRow ⟨l.toArray⟩ C).size = C := by
    unfold bytesRow
    rw [Array.size_append, Array.size_map, Array.size_replicate, hsz]
    show l.toArray.size + _ = _
    simp; omega
  refine ⟨_, _, r, .inr ⟨W.heap.size, C, rfl, hge, hle, by simp, fun j u hu => ?_, fun j hj => ⟨?_, ?_⟩⟩, rfl, C, rfl⟩
  · have hj : j < l.length := by have := (List.getElem?_eq_some_iff.1 hu).1; rwa [u8L_len] at this
    rw [u8L_at hj] at hu
    have e1 := heap_alloc_new W.drew (.cells (bytesRow ⟨l.toArray⟩ C) e ((bytesRow ⟨l.toArray⟩ C).size, (bytesRow ⟨l.toArray⟩ C).size + 1))
    have e2 : (W.drew.alloc (.cells (bytesRow ⟨l.toArray⟩ C) e ((bytesRow ⟨l.toArray⟩ C).size, (bytesRow ⟨l.toArray⟩ C).size + 1))).cell? ⟨W.heap.size, j, none⟩ = (bytesRow ⟨l.toArray⟩ C)[j]? := by
      have e1' : (W.drew.alloc (.cells (bytesRow ⟨l.toArray⟩ C) e ((bytesRow ⟨l.toArray⟩ C).size, (bytesRow ⟨l.toArray⟩ C).size + 1))).heap[W.heap.size]? = _ := e1
      simp only [World.cell?, e1']
      rfl
    rw [e2, bytesRow_at _ _ _ (by simpa using hj), ← hu]
    simp
  · have e1' : (W.drew.alloc (.cells (bytesRow ⟨l.toArray⟩ C) e ((bytesRow ⟨l.toArray⟩ C).size, (bytesRow ⟨l.toArray⟩ C).size + 1))).heap[W.heap.size]? = _ := heap_alloc_new W.drew _
    simp only [World.cell?, e1']
    rw [if_neg (by simp), Array.getElem?_eq_getElem (by omega)]
    rfl
  · have e1' : (W.drew.alloc (.cells (bytesRow ⟨l.toArray⟩ C) e ((bytesRow ⟨l.toArray⟩ C).size, (bytesRow ⟨l.toArray⟩ C).size + 1))).heap[W.heap.size]? = _ := heap_alloc_new W.drew _
    simp only [World.frozen?, e1']
    rw [hrow]
    have : decide (C ≤ j) = false := decide_eq_false (by omega)
    rw [this]; rfl
theorem grown_setCells (b : Nat) : ∀ (zs : List Value) (o : Nat) (w : World), w.grownBy (w.setCells b o zs) (some b)
  | [], _, w => ⟨rfl, rfl, rfl, Nat.le_refl _, fun _ _ _ => rfl⟩
  | z :: zs, o, w => by
    have h := grown_setCells b zs (o + 1) (w.setCell ⟨b, o, none⟩ z)
    refine ⟨h.os, h.tape, h.output, Nat.le_trans (by simp [World.setCell]) h.size, fun i hi hne => ?_⟩
    exact (h.block i (by simpa [World.setCell] using hi) hne).trans (Below.heap_setCell _ _ _ _ (fun e => hne (by rw [e])))
/-- append(b, ..), of a text or of a slice of bytes. -/
theorem Tx.append {P : Program} {W : World} {v : Value} {l : List UInt8} (h : Tx W v l) (t tx ty e : TypeId) (i : TypeInfo) (ht : P.underlying t = some (.slice e)) (hi : P.info? e = some i) (hz : i.zero = some (.int .u8 0)) (hsize : i.size = 1) (hby : i.bytes = 1)
    (x : Value) (m : List UInt8) (hs : Src P 1 tx x m.length (u8L m) W) (hl : l.length + m.length ≤ 1000000) :
    ∃ v' w', (Builtin.append_ #[t, tx] ty #[v, x]).run P W = .ok v' w' ∧ Tx w' v' (l ++ m) ∧ W.grownBy w' v.ownBlock ∧ (v'.ownBlock = v.ownBlock ∨ v'.ownBlock = some W.heap.size) := by
  have hml := u8L_len m
  have hll := u8L_len l
  -- a new row
  have grow : ∀ (bs : Option Addr) (sc : Nat), v = .slice bs l.length sc → sc < l.length + m.length → (Builtin.firstCells i.size l.length (.slice bs l.length sc)).run P W.drew = .ok (u8L l).toArray W.drew →
      ∃ v' w', (Builtin.append_ #[t, tx] ty #[v, x]).run P W = .ok v' w' ∧ Tx w' v' (l ++ m) ∧ W.grownBy w' v.ownBlock ∧ (v'.ownBlock = v.ownBlock ∨ v'.ownBlock = some W.heap.size) := by
    rintro bs sc rfl hg hold
    have hrun := run_append_grow_src (P := P) W t tx ty e i _ ht hi hz bs l.length sc (u8L l) hold x m.length (u8L m) (by rw [hsize]; exact hs) hg (by omega) (growslice_fits hg (by rw [hby]; omega))
    have hge := grownCap_ge W (l.length + m.length) sc e
    have hcm := grownCap_le_maxLen W (l.length + m.length) sc e (by simp only [maxLen]; omega)
    generalize grownCap W (l.length + m.length) sc e = C at *
    have hcell : ∀ j, (W.drew.alloc (.cells ((u8L l ++ u8L m).toArray ++ Builtin.zeroCells (Value.int .u8 0).cells (C - (l.length + m.length))) e)).cell? ⟨W.heap.size, j, none⟩ = _ := fun j => World.cell?_alloc_new W.drew _ _ j
    refine ⟨_, _, hrun, .inr ⟨W.heap.size, C, by rw [List.length_append], by rw [List.length_append]; exact hge, hcm, by simp, fun j u hu => ?_, fun j hj => ⟨?_, World.frozen?_alloc_new W.drew _ _ j⟩⟩, ?_, .inr rfl⟩
    · rw [u8L_app] at hu
      have hj := (List.getElem?_eq_some_iff.1 hu).1
      rw [hcell, Array.getElem?_append_left (by simpa using hj), List.getElem?_toArray]
      exact hu
    · rw [hcell]
      have hsz : ((u8L l ++ u8L m).toArray ++ Builtin.zeroCells (Value.int .u8 0).cells (C - (l.length + m.length))).size = C := by
        rw [Array.size_append, List.size_toArray, List.length_append, hll, hml, size_zeroCells]
        show _ + _ * 1 = _
        omega
      rw [Array.getElem?_eq_getElem (by rw [hsz]; exact hj)]
      rfl
    · exact ⟨rfl, rfl, rfl, by simp, fun k hk _ => Below.heap_alloc W.drew _ k hk⟩
  rcases h with ⟨rfl, rfl⟩ | ⟨g, cap, rfl, h1, h2, h3, h4, h5⟩
  · by_cases h0 : m.length = 0
    · have hm : m = [] := List.eq_nil_of_length_eq_zero h0
      subst hm
      refine ⟨_, W, run_append_nothing (P := P) W t tx ty e i ht hi none 0 0 (Nat.le_refl _) x (by rw [hsize]; exact hs), .inl ⟨rfl, rfl⟩, ⟨rfl, rfl, rfl, Nat.le_refl _, fun _ _ _ => rfl⟩, .inl rfl⟩
    · exact grow none 0 rfl (by simpa using Nat.pos_of_ne_zero h0) (run_firstCells_none W.drew i.size 0 0 0)
  · by_cases hr : l.length + m.length ≤ cap
    · have hrun := run_append_room_src (P := P) W t tx ty e i ht hi g 0 l.length cap x m.length (u8L m) (by rw [hsize]; exact hs) hr
        (fun j hj => by rw [hsize]; simpa using (h5 (l.length * 1 + j) (by omega)).1) (fun j hj => by rw [hsize]; simpa using (h5 (l.length * 1 + j) (by omega)).2)
      rw [hsize, Nat.zero_add, Nat.mul_one] at hrun
      have hsm : ∀ j, j < (u8L m).length → (W.cell? ⟨g, l.length + j, none⟩).isSome = true := fun j hj => (h5 _ (by omega)).1
      have hgr := grown_setCells g (u8L m) l.length W
      refine ⟨_, _, hrun, .inr ⟨g, cap, by rw [List.length_append], by rw [List.length_append]; exact hr, h2, by have := hgr.size; omega, fun j u hu => ?_, fun j hj => ⟨?_, ?_⟩⟩, hgr, .inl rfl⟩
      · rw [u8L_app] at hu
        by_cases hj : j < (u8L l).length
        · rw [List.getElem?_append_left hj] at hu
          rw [World.cell?_setCells_out g _ _ _ _ (fun _ _ => Or.inl (by show j < l.length; omega))]
          exact h4 j u hu
        · rw [List.getElem?_append_right (by omega)] at hu
          obtain ⟨hj2, rfl⟩ := List.getElem?_eq_some_iff.1 hu
          have := World.cell?_setCells_in g (u8L m) l.length W hsm (j - (u8L l).length) hj2
          rw [show l.length + (j - (u8L l).length) = j by omega] at this
          exact this
      · by_cases hj2 : l.length ≤ j ∧ j < l.length + m.length
        · have := World.cell?_setCells_in g (u8L m) l.length W hsm (j - l.length) (by omega)
          rw [show l.length + (j - l.length) = j by omega] at this
          rw [this]; rfl
        · rw [World.cell?_setCells_out g _ _ _ _ (fun _ _ => by show j < l.length ∨ l.length + (u8L m).length ≤ j; omega)]
          exact (h5 j hj).1
      · rw [World.frozen?_setCells]
        exact (h5 j hj).2
    · refine grow _ cap rfl (by omega) ?_
      rw [hsize]
      exact run_firstCells_some W.drew 1 l.length ⟨g, 0, none⟩ l.length cap (u8L l) (by rw [hll, Nat.mul_one]) (fun j u hu => by
        rw [Addr.add_lit, Nat.zero_add]
        exact h4 j u hu)
end Go.Proofs.YtfgpephpkibbaaaGreatDoor

