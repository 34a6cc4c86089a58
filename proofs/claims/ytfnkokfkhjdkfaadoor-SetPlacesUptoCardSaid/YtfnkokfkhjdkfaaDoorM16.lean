/-
  Texts of the proof, one behind the other: Itb, Isat, Srn, Im6.
-/
import Derived.Test.YtfnkokfkhjdkfaaDoorM3
import Derived.Test.YtfnkokfkhjdkfaaDoorM15
import Derived.Test.YtfnkokfkhjdkfaaDoorM5
/-
  Lists of items in memory: a struct whose first field owns the row.
-/
namespace Go.Proofs.YtfnkokfkhjdkfaaDoor
open Go.RowKit Go.Lib Go.Maps

def itC (x : It) : List Value := [.int .i64 x.kind, .int .i64 x.width, .int .i64 x.grow, .int .i64 x.shrink, .int .i64 x.cost, .string ⟨x.codes.toArray⟩, .int .i64 x.font, .int .i64 x.size, .int .i64 x.link]
def itR (l : List It) : List Value := l.flatMap itC
def zeroIt : Array Value := #[.int .i64 0, .int .i64 0, .int .i64 0, .int .i64 0, .int .i64 0, .string ⟨#[]⟩, .int .i64 0, .int .i64 0, .int .i64 0]
theorem infoIt : (Tryd.prog.info? 42).map (fun i => (i.zero, i.size, i.bytes)) = some (some (.agg zeroIt), 9, 80) := by kernel_rfl
theorem itC_arr (x : It) : (itC x).toArray = #[.int .i64 x.kind, .int .i64 x.width, .int .i64 x.grow, .int .i64 x.shrink, .int .i64 x.cost, .string ⟨x.codes.toArray⟩, .int .i64 x.font, .int .i64 x.size, .int .i64 x.link] := rfl
theorem itC_len (x : It) : (itC x).length = 9 := rfl
theorem itC_one (x : It) : ∀ u ∈ itC x, u.oneCell' = true := by
  intro u hu
  simp only [itC, List.mem_cons, List.not_mem_nil, or_false] at hu
  rcases hu with rfl | rfl | rfl | rfl | rfl | rfl | rfl | rfl | rfl <;> rfl
theorem itR_len (L : List It) : (itR L).length = L.length * 9 := by
  unfold itR
  induction L with
  | nil => rfl
  | cons x L ih => rw [List.flatMap_cons, List.length_append, ih, itC_len, List.length_cons]; omega
theorem itR_app (a b : List It) : itR (a ++ b) = itR a ++ itR b := List.flatMap_append
theorem itR_at : ∀ (L : List It) (k : Nat) (h : k < L.length) (j : Nat), j < 9 → (itR L)[k * 9 + j]? = (itC L[k])[j]?
  | x :: L, 0, h, j, hj => by
    unfold itR
    rw [List.flatMap_cons, Nat.zero_mul, Nat.zero_add, List.getElem?_append_left (by rw [itC_len]; exact hj)]; rfl
  | x :: L, k + 1, h, j, hj => by
    unfold itR
    rw [List.flatMap_cons, List.getElem?_append_right (by rw [itC_len]; omega), itC_len, show (k + 1) * 9 + j - 9 = k * 9 + j by omega]
    exact itR_at L k (by simpa using h) j hj
theorem itR_take (L : List It) (k : Nat) : itR (L.take k) = (itR L).take (k * 9) := by
  induction L generalizing k with
  | nil => simp [itR]
  | cons x L ih =>
    cases k with
    | zero => simp [itR]
    | succ k =>
      rw [List.take_succ_cons]
      show itC x ++ itR (L.take k) = (itC x ++ itR L).take ((k + 1) * 9)
      rw [ih, List.take_append, itC_len, show (k + 1) * 9 - 9 = k * 9 by omega, List.take_of_length_le (l := itC x) (by rw [itC_len]; omega)]

/-- What an operation on the list of the struct at B may do: its own two blocks turn; its row stays where it was, or is a new block. -/
structure Mvd (w w' : World) (B : Nat) (v v' : Value) : Prop where
  os : w'.os = w.os
  tape : w'.tape = w.tape
  output : w'.output = w.output
  size : w.heap.size ≤ w'.heap.size
  block : ∀ k, k < w.heap.size → k ≠ B → some k ≠ v.ownBlock → w'.heap[k]? = w.heap[k]?
  lies : v'.ownBlock = v.ownBlock ∨ ∃ g, v'.ownBlock = some g ∧ w.heap.size ≤ g
theorem Mvd.refl (w : World) (B : Nat) (v : Value) : Mvd w w B v v := ⟨rfl, rfl, rfl, Nat.le_refl _, fun _ _ _ _ => rfl, .inl rfl⟩
theorem Mvd.trans {a b c : World} {B : Nat} {u v x : Value} (h : Mvd a b B u v) (k : Mvd b c B v x) : Mvd a c B u x :=
  ⟨k.os.trans h.os, k.tape.trans h.tape, k.output.trans h.output, Nat.le_trans h.size k.size, fun i hi hB hu => (k.block i (Nat.lt_of_lt_of_le hi h.size) hB (by
    rcases h.lies with e | ⟨g, e, hg⟩
    · rw [e]; exact hu
    · rw [e]; intro e'; cases e'; omega)).trans (h.block i hi hB hu), by
    rcases k.lies with e | ⟨g, e, hg⟩
    · rw [e]; exact h.lies
    · exact .inr ⟨g, e, Nat.le_trans h.size hg⟩⟩
theorem Mvd.keep {w w' : World} {B : Nat} {v : Value} (k : Keeps w w') : Mvd w w' B v v := ⟨k.os, k.tape, k.output, k.size, fun i hi _ _ => k.block i hi, .inl rfl⟩
theorem Mvd.blk {w w' : World} {B : Nat} {v v' : Value} (h : Mvd w w' B v v') {b : Nat} {t : TypeId} {cs : Array Value} (hb : Blk w b t cs) (h0 : b ≠ B) (h1 : v.ownBlock ≠ some b) : Blk w' b t cs := by
  unfold Blk
  rw [h.block b hb.lt h0 (fun e => h1 e.symm)]
  exact hb
theorem Mvd.below {n₀ : Nat} {w w' : World} {B : Nat} {v v' : Value} (h : Mvd w w' B v v') (hB : n₀ ≤ B) (hr : ∀ g, v.ownBlock = some g → n₀ ≤ g) (hn : n₀ ≤ w.heap.size) : Below n₀ w w' :=
  ⟨h.os, h.tape, h.output, h.size, fun k hk => h.block k (by omega) (by omega) (fun e => by have := hr k e.symm; omega)⟩

/-- Block B is a struct of type t: the slice v, which owns the items its, and cs behind. -/
structure Own (n₀ : Nat) (t : TypeId) (W : World) (B : Nat) (cs : List Value) (v : Value) (its : List It) : Prop where
  box : Blk W B t (v :: cs).toArray
  low : n₀ ≤ B
  row : W.ownsRow n₀ 42 9 v its.length (itR its)
  ne : v.ownBlock ≠ some B
section
variable {n₀ : Nat} {t : TypeId} {W : World} {B : Nat} {cs : List Value} {v : Value} {its : List It}
theorem Own.rowLow (h : Own n₀ t W B cs v its) : ∀ g, v.ownBlock = some g → n₀ ≤ g := fun g e => (h.row.lt g e).1
theorem Own.keep {W' : World} (h : Own n₀ t W B cs v its) (k : Keeps W W') : Own n₀ t W' B cs v its := ⟨h.box.keep k, h.low, row_below h.row k, h.ne⟩
theorem Own.below {W' : World} {v' : Value} (h : Own n₀ t W B cs v its) (k : Mvd W W' B v v') (hn : n₀ ≤ W.heap.size) : Below n₀ W W' := k.below h.low h.rowLow hn
theorem Own.new (W : World) (t : TypeId) (cs : List Value) {n₀ : Nat} (h : n₀ ≤ W.heap.size) : Own n₀ t (W.alloc (.cells (Value.slice none 0 0 :: cs).toArray t)) W.heap.size cs (.slice none 0 0) [] :=
  ⟨Blk.new W t _, h, World.ownsRow_nil _ _ _ _, fun e => by cases e⟩
/-- Another field is written. -/
theorem Own.set (h : Own n₀ t W B cs v its) (i : Nat) (x : Value) (ds : List Value) (hd : cs.set i x = ds) : Own n₀ t (W.setCell ⟨B, i + 1, none⟩ x) B ds v its ∧ Mvd W (W.setCell ⟨B, i + 1, none⟩ x) B v v := by
  have same : ∀ b, b ≠ B → (W.setCell ⟨B, i + 1, none⟩ x).heap[b]? = W.heap[b]? := fun b hb => heap_setCell_other W ⟨B, i + 1, none⟩ b _ hb
  refine ⟨⟨h.box.set (i + 1) x (by subst hd; simp), h.low, row_same h.row fun g e => same g (fun q => h.ne (by rw [← q]; exact e)), h.ne⟩, ?_⟩
  exact ⟨rfl, rfl, rfl, by rw [setCell_size]; exact Nat.le_refl _, fun b _ hb _ => same b hb, .inl rfl⟩
/-- One item is made, and put behind the others. -/
theorem Own.made (h : Own n₀ t W B cs v its) (x : It) (hlen : its.length ≤ 1000000) (hn : n₀ ≤ W.heap.size) :
    ∃ A8 c8 w8, (Builtin.append_ #[27, 27] 27 #[v, .slice (some ⟨W.heap.size, 0, none⟩) 1 1]).run Tryd.prog (W.alloc (.cells #[.int .i64 x.kind, .int .i64 x.width, .int .i64 x.grow, .int .i64 x.shrink, .int .i64 x.cost, .string ⟨x.codes.toArray⟩, .int .i64 x.font, .int .i64 x.size, .int .i64 x.link] 42)) = .ok (.slice A8 (its.length + 1) c8) w8 ∧
      Blk w8 B t (v :: cs).toArray ∧
      Own n₀ t (w8.setCell ⟨B, 0, none⟩ (.slice A8 (its.length + 1) c8)) B cs (.slice A8 (its.length + 1) c8) (its ++ [x]) ∧
      Mvd W (w8.setCell ⟨B, 0, none⟩ (.slice A8 (its.length + 1) c8)) B v (.slice A8 (its.length + 1) c8) := by
  obtain ⟨i0, hi0, hz0, hz1, hz2⟩ := info_parts infoIt
  have KA : Keeps W (W.alloc (.cells (itC x).toArray 42)) := (Keeps.refl _).alloc _
  have hrow := row_below h.row KA
  obtain ⟨v8, w8, ra, o8, g8, _, l8⟩ := run_append_own_at (P := Tryd.prog) (W.alloc (.cells (itC x).toArray 42)) n₀ 27 27 42 i0 (.agg zeroIt) 9 80 Tryd.underlying27 hi0 hz0 hz1 hz2 rfl (by decide) _ _ _ hrow ⟨W.heap.size, 0, none⟩ 1 1 (itC x) rfl (cells_new W (itC x) 42) (itC_one x) (by simp only [maxLen]; omega) (by omega) (Nat.le_trans hn KA.size)
  obtain ⟨A8, c8, e8, _⟩ := row_form o8
  subst e8
  have b8 : Blk w8 B t (v :: cs).toArray := by
    unfold Blk
    rw [g8.block B (by have := h.box.lt; have := KA.size; omega) (fun e => h.ne e.symm)]
    exact h.box.keep KA
  have hnB : (Value.slice A8 (its.length + 1) c8).ownBlock ≠ some B := fun e => by
    rcases l8 with q | q
    · exact h.ne (q.symm.trans e)
    · rw [q] at e
      have := h.box.lt
      have hs := KA.size
      cases e
      omega
  have same : ∀ b, b ≠ B → (w8.setCell ⟨B, 0, none⟩ (.slice A8 (its.length + 1) c8)).heap[b]? = w8.heap[b]? := fun b hb => heap_setCell_other w8 ⟨B, 0, none⟩ b _ hb
  refine ⟨A8, c8, w8, ra, b8, ⟨b8.set 0 _ rfl, h.low, ?_, hnB⟩, ?_⟩
  · rw [List.length_append, List.length_singleton, itR_app, show itR [x] = itC x from List.append_nil _]
    exact row_same o8 fun g e => same g (fun q => hnB (by rw [← q]; exact e))
  · refine ⟨g8.os.trans KA.os, g8.tape.trans KA.tape, g8.output.trans KA.output, ?_, fun b hb h0 h1 => ?_, ?_⟩
    · have := g8.size; have := KA.size; rw [setCell_size]; omega
    · rw [same b h0, g8.block b (Nat.lt_of_lt_of_le hb KA.size) h1, KA.block b hb]
    · rcases l8 with q | q
      · exact .inl q
      · exact .inr ⟨_, q, KA.size⟩
/-- A list that isn't empty lies in a block. -/
theorem Own.at_ (h : Own n₀ t W B cs v its) (h0 : 0 < its.length) : ∃ g cap, v = .slice (some ⟨g, 0, none⟩) its.length cap ∧ its.length ≤ cap ∧ cap ≤ maxLen := by
  rcases h.row.2 with ⟨_, e⟩ | ⟨g, cap, cur, e, _, _, h1, h2, _⟩
  · omega
  · exact ⟨g, cap, e, h1, h2⟩
theorem Own.cell {g cap : Nat} (h : Own n₀ t W B cs (.slice (some ⟨g, 0, none⟩) its.length cap) its) {i : Nat} (hi : i < its.length) (j : Nat) (hj : j < 9) : W.cell? ⟨g, i * 9 + j, none⟩ = (itC its[i])[j]? := by
  rw [← itR_at its i hi j hj]
  exact h.row.cellAt _ (by omega)
/-- The last item goes. -/
theorem Own.pop {A : Option Addr} {cap : Nat} (h : Own n₀ t W B cs (.slice A its.length cap) its) (h0 : 0 < its.length) :
    Own n₀ t (W.setCell ⟨B, 0, none⟩ (.slice A (its.length - 1) cap)) B cs (.slice A (its.length - 1) cap) its.dropLast ∧ Mvd W (W.setCell ⟨B, 0, none⟩ (.slice A (its.length - 1) cap)) B (.slice A its.length cap) (.slice A (its.length - 1) cap) := by
  obtain ⟨g, cap', e, hc, hm⟩ := h.at_ h0
  simp only [Value.slice.injEq, true_and] at e
  obtain ⟨rfl, rfl⟩ := e
  have hne : (Value.slice (some ⟨g, 0, none⟩) (its.length - 1) cap).ownBlock ≠ some B := h.ne
  have same : ∀ b, b ≠ B → (W.setCell ⟨B, 0, none⟩ (.slice (some ⟨g, 0, none⟩) (its.length - 1) cap)).heap[b]? = W.heap[b]? := fun b hb => heap_setCell_other W ⟨B, 0, none⟩ b _ hb
  refine ⟨⟨h.box.set 0 _ rfl, h.low, ?_, hne⟩, ⟨rfl, rfl, rfl, (by rw [setCell_size]; exact Nat.le_refl _), fun b _ hb _ => same b hb, .inl rfl⟩⟩
  refine row_same ?_ fun b e => same b (fun q => hne (by rw [← q]; exact e))
  obtain ⟨h1, h2⟩ := h.row
  rcases h2 with ⟨h2, _⟩ | ⟨g', cap', cur, h2, hb, hg, hn, hm, hs, ht⟩
  · cases h2
  · simp only [Value.slice.injEq, Option.some.injEq, Addr.mk.injEq, and_true, true_and] at h2
    obtain ⟨rfl, rfl⟩ := h2
    refine ⟨by rw [itR_len], .inr ⟨g, cap, cur, by rw [List.length_dropLast], hb, hg, by rw [List.length_dropLast]; omega, hm, hs, ?_⟩⟩
    rw [List.length_dropLast, List.dropLast_eq_take, itR_take, ← ht, List.take_take]
    congr 1
    omega
end
end Go.Proofs.YtfnkokfkhjdkfaaDoor

/-
  Items in memory, as they are read.
-/
namespace Go.Proofs.YtfnkokfkhjdkfaaDoor
open Go.RowKit Go.Lib Go.Maps

/-- The slice v holds the items l, as they are read. -/
def IsAt (W : World) (l : List It) (v : Value) : Prop := ∃ A cap, v = .slice A l.length cap ∧ l.length ≤ cap ∧ cap ≤ maxLen ∧ (0 < l.length → ∃ g o, A = some ⟨g, o, none⟩ ∧ ∀ i (h : i < l.length), W.rangeAt g (o + i * 9) (itC l[i]))
theorem IsAt.keep {W W' : World} {l : List It} {v : Value} (h : IsAt W l v) (k : Keeps W W') : IsAt W' l v := by
  obtain ⟨A, cap, h1, h2, h3, h4⟩ := h
  refine ⟨A, cap, h1, h2, h3, fun h0 => ?_⟩
  obtain ⟨g, o, e, hc⟩ := h4 h0
  exact ⟨g, o, e, fun i hi => range_same (hc i hi) (k.block g (range_lt (hc i hi) (by rw [itC_len]; decide)))⟩
end Go.Proofs.YtfnkokfkhjdkfaaDoor

/-
  Runs, and lines of runs, in memory.
-/
namespace Go.Proofs.YtfnkokfkhjdkfaaDoor
open Go.RowKit Go.Lib Go.Maps

def rnC (x : Rn) : List Value := [.int .i64 x.x, .int .i64 x.y, .int .i64 x.width, .int .i64 x.font, .int .i64 x.size, .string ⟨x.codes.toArray⟩, .int .i64 x.link]
def rnR (l : List Rn) : List Value := l.flatMap rnC
theorem infoRn : (Tryd.prog.info? 45).map (fun i => (i.zero, i.size, i.bytes)) = some (some (.agg #[.int .i64 0, .int .i64 0, .int .i64 0, .int .i64 0, .int .i64 0, .string ⟨#[]⟩, .int .i64 0]), 7, 64) := by kernel_rfl
theorem rnC_len (x : Rn) : (rnC x).length = 7 := rfl
theorem rnC_one (x : Rn) : ∀ u ∈ rnC x, u.oneCell' = true := by
  intro u hu
  simp only [rnC, List.mem_cons, List.not_mem_nil, or_false] at hu
  rcases hu with rfl | rfl | rfl | rfl | rfl | rfl | rfl <;> rfl
theorem rnR_len (L : List Rn) : (rnR L).length = L.length * 7 := by
  unfold rnR
  induction L with
  | nil => rfl
  | cons x L ih => rw [List.flatMap_cons, List.length_append, ih, rnC_len, List.length_cons]; omega
theorem rnR_app (a b : List Rn) : rnR (a ++ b) = rnR a ++ rnR b := List.flatMap_append
theorem rnR_at : ∀ (L : List Rn) (k : Nat) (h : k < L.length) (j : Nat), j < 7 → (rnR L)[k * 7 + j]? = (rnC L[k])[j]?
  | x :: L, 0, h, j, hj => by
    unfold rnR
    rw [List.flatMap_cons, Nat.zero_mul, Nat.zero_add, List.getElem?_append_left (by rw [rnC_len]; exact hj)]; rfl
  | x :: L, k + 1, h, j, hj => by
    unfold rnR
    rw [List.flatMap_cons, List.getElem?_append_right (by rw [rnC_len]; omega), rnC_len, show (k + 1) * 7 + j - 7 = k * 7 + j by omega]
    exact rnR_at L k (by simpa using h) j hj

/-- The slice v holds the runs rs; the call owns it. -/
def RnsAt (n₀ : Nat) (W : World) (v : Value) (rs : List Rn) : Prop := W.ownsRow n₀ 45 7 v rs.length (rnR rs)
theorem RnsAt.keep {n₀ : Nat} {W W' : World} {v : Value} {rs : List Rn} (h : RnsAt n₀ W v rs) (k : Keeps W W') : RnsAt n₀ W' v rs := row_below h k
theorem RnsAt.nil (n₀ : Nat) (W : World) : RnsAt n₀ W (.slice none 0 0) [] := World.ownsRow_nil _ _ _ _
theorem RnsAt.form {n₀ : Nat} {W : World} {v : Value} {rs : List Rn} (h : RnsAt n₀ W v rs) : ∃ A cap, v = .slice A rs.length cap ∧ rs.length ≤ cap ∧ cap ≤ maxLen ∧ (0 < rs.length → ∃ g, A = some ⟨g, 0, none⟩) := by
  rcases h.2 with ⟨rfl, h0⟩ | ⟨g, cap, cur, rfl, _, _, h1, h2, _⟩
  · exact ⟨none, 0, by rw [h0], by omega, Nat.zero_le _, fun q => by omega⟩
  · exact ⟨_, cap, rfl, h1, h2, fun _ => ⟨g, rfl⟩⟩
theorem RnsAt.cell {n₀ : Nat} {W : World} {rs : List Rn} {g cap : Nat} (h : RnsAt n₀ W (.slice (some ⟨g, 0, none⟩) rs.length cap) rs) {i : Nat} (hi : i < rs.length) (j : Nat) (hj : j < 7) : W.cell? ⟨g, i * 7 + j, none⟩ = (rnC rs[i])[j]? := by
  rw [← rnR_at rs i hi j hj]
  exact World.ownsRow.cellAt h _ (by omega)
/-- One run is made and put behind the others. -/
theorem rns_made {w0 W : World} {u : Value} {rs : List Rn} (hr : RnsAt w0.heap.size W u rs) (hk : Keeps w0 W) (x : Rn) (hlen : rs.length ≤ 1000000) :
    ∃ A8 c8 w8, (Builtin.append_ #[43, 43] 43 #[u, .slice (some ⟨W.heap.size, 0, none⟩) 1 1]).run Tryd.prog (W.alloc (.cells #[.int .i64 x.x, .int .i64 x.y, .int .i64 x.width, .int .i64 x.font, .int .i64 x.size, .string ⟨x.codes.toArray⟩, .int .i64 x.link] 45)) = .ok (.slice A8 (rs.length + 1) c8) w8 ∧
      RnsAt w0.heap.size w8 (.slice A8 (rs.length + 1) c8) (rs ++ [x]) ∧ Keeps w0 w8 := by
  obtain ⟨i0, hi0, hz0, hz1, hz2⟩ := info_parts infoRn
  have hn := hk.size
  have KA : Keeps W (W.alloc (.cells (rnC x).toArray 45)) := (Keeps.refl _).alloc _
  have hrow := row_below hr KA
  obtain ⟨v8, w8, ra, o8, g8, _, l8⟩ := run_append_own_at (P := Tryd.prog) (W.alloc (.cells (rnC x).toArray 45)) w0.heap.size 43 43 45 i0 _ 7 64 Tryd.underlying43 hi0 hz0 hz1 hz2 rfl (by decide) _ _ _ hrow ⟨W.heap.size, 0, none⟩ 1 1 (rnC x) rfl (cells_new W (rnC x) 45) (rnC_one x) (by simp only [maxLen]; omega) (by omega) (Nat.le_trans hn KA.size)
  obtain ⟨A8, c8, e8, _⟩ := row_form o8
  subst e8
  refine ⟨A8, c8, w8, ra, ?_, Below.grown (hk.trans KA) g8 (Nat.le_trans hn KA.size) (fun i hi => (hrow.lt i hi).1)⟩
  unfold RnsAt
  rw [List.length_append, List.length_singleton, rnR_app, show rnR [x] = rnC x from List.append_nil _]
  exact o8
/-- The slice v holds lines, each a slice of runs. -/
structure LnsAt (n₀ : Nat) (W : World) (v : Value) (ls : List (List Rn × Value)) : Prop where
  row : W.ownsRow n₀ 43 1 v ls.length (ls.map Prod.snd)
  at_ : ∀ x ∈ ls, RnsAt n₀ W x.2 x.1 ∧ (x.2.ownBlock ≠ v.ownBlock ∨ x.2.ownBlock = none)
theorem infoLn : (Tryd.prog.info? 43).map (fun i => (i.zero, i.size, i.bytes)) = some (some (.slice none 0 0), 1, 24) := by kernel_rfl
theorem LnsAt.nil (n₀ : Nat) (W : World) : LnsAt n₀ W (.slice none 0 0) [] := ⟨World.ownsRow_nil _ _ _ _, fun x hx => by cases hx⟩
theorem LnsAt.keep {n₀ : Nat} {W W' : World} {v : Value} {ls : List (List Rn × Value)} (h : LnsAt n₀ W v ls) (k : Keeps W W') : LnsAt n₀ W' v ls :=
  ⟨row_below h.row k, fun x hx => ⟨(h.at_ x hx).1.keep k, (h.at_ x hx).2⟩⟩
theorem LnsAt.form {n₀ : Nat} {W : World} {v : Value} {ls : List (List Rn × Value)} (h : LnsAt n₀ W v ls) : ∃ A cap, v = .slice A ls.length cap ∧ ls.length ≤ cap ∧ cap ≤ maxLen ∧ (0 < ls.length → ∃ g, A = some ⟨g, 0, none⟩) := by
  rcases h.row.2 with ⟨rfl, h0⟩ | ⟨g, cap, cur, rfl, _, _, h1, h2, _⟩
  · exact ⟨none, 0, by rw [h0], by omega, Nat.zero_le _, fun q => by omega⟩
  · exact ⟨_, cap, rfl, h1, h2, fun _ => ⟨g, rfl⟩⟩
theorem LnsAt.cell {n₀ : Nat} {W : World} {ls : List (List Rn × Value)} {g cap : Nat} (h : LnsAt n₀ W (.slice (some ⟨g, 0, none⟩) ls.length cap) ls) {i : Nat} (hi : i < ls.length) : W.cell? ⟨g, i, none⟩ = some ls[i].2 := by
  have := World.ownsRow.cellAt h.row i (by omega)
  rw [this, List.getElem?_map, List.getElem?_eq_getElem hi]
  rfl
theorem rns_one {n₀ : Nat} {W : World} {v : Value} {rs : List Rn} (h : RnsAt n₀ W v rs) : v.oneCell' = true := row_one h
/-- One line is put behind the others. -/
theorem lns_made {w0 W : World} {u y : Value} {ls : List (List Rn × Value)} {rs : List Rn} (hr : LnsAt w0.heap.size W u ls) (hy : RnsAt w0.heap.size W y rs) (hny : y.ownBlock ≠ u.ownBlock ∨ y.ownBlock = none) (hk : Keeps w0 W) (hlen : ls.length ≤ 1000000) :
    ∃ A8 c8 w8, (Builtin.append_ #[39, 39] 39 #[u, .slice (some ⟨W.heap.size, 0, none⟩) 1 1]).run Tryd.prog (W.alloc (.cells #[y] 43)) = .ok (.slice A8 (ls.length + 1) c8) w8 ∧
      LnsAt w0.heap.size w8 (.slice A8 (ls.length + 1) c8) (ls ++ [(rs, y)]) ∧ Keeps w0 w8 := by
  obtain ⟨i0, hi0, hz0, hz1, hz2⟩ := info_parts infoLn
  have hn := hk.size
  have KA : Keeps W (W.alloc (.cells #[y] 43)) := (Keeps.refl _).alloc _
  have hrow := row_below hr.row KA
  obtain ⟨v8, w8, ra, o8, g8, _, l8⟩ := run_append_own_at (P := Tryd.prog) (W.alloc (.cells #[y] 43)) w0.heap.size 39 39 43 i0 (.slice none 0 0) 1 24 Tryd.underlying39 hi0 hz0 hz1 hz2 rfl (by decide) _ _ _ hrow ⟨W.heap.size, 0, none⟩ 1 1 [y] rfl (cells_new W [y] 43) (fun q hq => by rw [List.mem_singleton] at hq; subst hq; exact rns_one hy) (by simp only [maxLen]; omega) (by omega) (Nat.le_trans hn KA.size)
  obtain ⟨A8, c8, e8, _⟩ := row_form o8
  subst e8
  have old : ∀ {v : Value} {rs : List Rn}, RnsAt w0.heap.size W v rs → (v.ownBlock ≠ u.ownBlock ∨ v.ownBlock = none) → RnsAt w0.heap.size w8 v rs ∧ (v.ownBlock ≠ (Value.slice A8 (ls.length + 1) c8).ownBlock ∨ v.ownBlock = none) := by
    intro v rs hv hb
    have hlt : ∀ g, v.ownBlock = some g → g < W.heap.size := fun g e => (World.ownsRow.lt hv g e).2
    refine ⟨row_same hv fun g e => ?_, ?_⟩
    · have hg := hlt g e
      rw [g8.block g (Nat.lt_of_lt_of_le hg KA.size) (fun q => by
        rcases hb with hb | hb
        · exact hb (e.trans q)
        · rw [e] at hb; cases hb), KA.block g hg]
    · rcases hb with hb | hb
      · rcases l8 with q | q
        · exact .inl (fun e => hb (e.trans q))
        · refine .inl (fun e => ?_)
          rw [q] at e
          have := hlt _ e
          have hs := KA.size
          omega
      · exact .inr hb
  refine ⟨A8, c8, w8, ra, ⟨?_, fun x hx => ?_⟩, Below.grown (hk.trans KA) g8 (Nat.le_trans hn KA.size) (fun i hi => (hrow.lt i hi).1)⟩
  · rw [List.length_append, List.length_singleton, List.map_append]
    exact o8
  · rcases List.mem_append.1 hx with hx | hx
    · exact old (hr.at_ x hx).1 (hr.at_ x hx).2
    · rw [List.mem_singleton] at hx
      subst hx
      exact old hy hny
end Go.Proofs.YtfnkokfkhjdkfaaDoor

/-
  One item of a list in memory gets a link; the boxes from a place on, one by one.
-/
namespace Go.Proofs.YtfnkokfkhjdkfaaDoor
open Go.RowKit Go.Lib Go.Maps

theorem itR_link : ∀ (L : List It) (k : Nat) (h : k < L.length) (lk : Int), (itR L).set (k * 9 + 8) (.int .i64 lk) = itR (L.set k { L[k] with link := lk })
  | x :: L, 0, h, lk => by
    unfold itR
    rw [List.flatMap_cons, List.set_append_left _ _ (by rw [itC_len]; omega), List.set_cons_zero, List.flatMap_cons]
    rfl
  | x :: L, k + 1, h, lk => by
    have ih := itR_link L k (by simpa using h) lk
    unfold itR at *
    rw [List.flatMap_cons, List.set_append_right _ _ (by rw [itC_len]; omega), itC_len, show (k + 1) * 9 + 8 - 9 = k * 9 + 8 by omega, ih, List.set_cons_succ, List.flatMap_cons]
    rfl
section
variable {n₀ : Nat} {t : TypeId} {W : World} {B : Nat} {cs : List Value} {its : List It}
theorem Own.link {g cap : Nat} (h : Own n₀ t W B cs (.slice (some ⟨g, 0, none⟩) its.length cap) its) {i : Nat} (hi : i < its.length) (lk : Int) :
    Own n₀ t (W.setCell ⟨g, i * 9 + 8, none⟩ (.int .i64 lk)) B cs (.slice (some ⟨g, 0, none⟩) its.length cap) (its.set i { its[i] with link := lk }) ∧ Mvd W (W.setCell ⟨g, i * 9 + 8, none⟩ (.int .i64 lk)) B (.slice (some ⟨g, 0, none⟩) its.length cap) (.slice (some ⟨g, 0, none⟩) its.length cap) := by
  have hgB : B ≠ g := fun e => h.ne (by rw [e]; rfl)
  have same : ∀ b, b ≠ g → (W.setCell ⟨g, i * 9 + 8, none⟩ (.int .i64 lk)).heap[b]? = W.heap[b]? := fun b hb => heap_setCell_other W ⟨g, i * 9 + 8, none⟩ b _ hb
  refine ⟨⟨h.box.other hgB _ _, h.low, ?_, h.ne⟩, ⟨rfl, rfl, rfl, (by rw [setCell_size]; exact Nat.le_refl _), fun b _ _ h1 => same b (fun e => h1 (by rw [e]; rfl)), .inl rfl⟩⟩
  obtain ⟨h1, h2⟩ := h.row
  rw [List.length_set]
  refine ⟨by rw [itR_len, List.length_set], .inr ?_⟩
  rcases h2 with ⟨e, _⟩ | ⟨g', cap', cur, e, hb, hg, hn, hm, hs, ht⟩
  · cases e
  · simp only [Value.slice.injEq, Option.some.injEq, Addr.mk.injEq, and_true, true_and] at e
    obtain ⟨rfl, rfl⟩ := e
    have hB : Blk W g 42 cur := hg
    refine ⟨g, cap, _, rfl, hb, hB.set (i * 9 + 8) (.int .i64 lk) rfl, hn, hm, by simp [hs], ?_⟩
    rw [Array.toList_setIfInBounds, List.take_set, ht, itR_link its i hi lk]
end
/-- The boxes from n up to i have got the link. -/
def relT (n i : Nat) (lk : Int) (L : List It) : List It := (L.take n ++ ((L.drop n).take (i - n)).map (relB lk)) ++ L.drop i
theorem relT_start (n : Nat) (lk : Int) (L : List It) : relT n n lk L = L := by
  unfold relT
  rw [Nat.sub_self, List.take_zero, List.map_nil, List.append_nil, List.take_append_drop]
theorem relT_end (n : Nat) (lk : Int) (L : List It) : relT n L.length lk L = relL n lk L := by
  unfold relT relL
  rw [List.drop_length, List.append_nil, List.take_of_length_le (l := L.drop n) (by rw [List.length_drop]; exact Nat.le_refl _)]
theorem relT_pre_len {n i : Nat} {lk : Int} {L : List It} (h : n ≤ i) (hi : i ≤ L.length) : (L.take n ++ ((L.drop n).take (i - n)).map (relB lk)).length = i := by
  rw [List.length_append, List.length_take, List.length_map, List.length_take, List.length_drop]
  omega
theorem relT_len {n i : Nat} {lk : Int} {L : List It} (h : n ≤ i) (hi : i ≤ L.length) : (relT n i lk L).length = L.length := by
  unfold relT
  rw [List.length_append, relT_pre_len h hi, List.length_drop]
  omega
theorem relT_get {n i : Nat} {lk : Int} {L : List It} (h : n ≤ i) (hi : i < L.length) : (relT n i lk L)[i]? = some L[i] := by
  unfold relT
  rw [List.getElem?_append_right (by rw [relT_pre_len h (by omega)]; exact Nat.le_refl _), relT_pre_len h (by omega), Nat.sub_self, List.drop_eq_getElem_cons hi]
  rfl
theorem relT_next {n i : Nat} {lk : Int} {L : List It} (h : n ≤ i) (hi : i < L.length) : relT n (i + 1) lk L = (relT n i lk L).set i (relB lk L[i]) := by
  unfold relT
  have e : (L.drop n).take (i + 1 - n) = (L.drop n).take (i - n) ++ [L[i]] := by
    rw [show i + 1 - n = (i - n) + 1 by omega, List.take_succ_eq_append_getElem (by rw [List.length_drop]; omega), List.getElem_drop]
    simp only [show n + (i - n) = i by omega]
  rw [List.set_append_right _ _ (by rw [relT_pre_len h (by omega)]; exact Nat.le_refl _), relT_pre_len h (by omega), Nat.sub_self, e, List.map_append]
  simp only [List.map_cons, List.map_nil]
  rw [List.drop_eq_getElem_cons hi, List.set_cons_zero]
  simp
end Go.Proofs.YtfnkokfkhjdkfaaDoor

