/-
  Texts of the proof, one behind the other: Row, Bltw, Nsr.
-/
import Derived.Test.YtfnkokfkhjdkfaaDoorM9
import Derived.Maps.AppendAt
import Derived.Maps.OwnSet
import Derived.Maps.OwnOps
import Derived.OwnWalk
import Derived.OneCell
import Derived.Laws.OwnMore
import Derived.Laws.AppendOwnNone
import Derived.Lib.SmallJoins
import Derived.Deep.MidRow
import Derived.Deep.WholeRow
import Derived.Deep.RegionLaw
import Derived.Laws.MakeOwn
/-
  Rows of structs that a call owns: what stays of them; by no layer.
-/
namespace Go.Proofs.YtfnkokfkhjdkfaaDoor
open Go.RowKit Go.Lib

/-- A block of three cells of the call's own, written anew. -/
theorem ref_fin {w w' : World} {B : Nat} {t : TypeId} {a b c : Value} (hb : Blk w' B t #[a, b, c]) (k : Keeps w w') (hB : w.heap.size ≤ B) (v0 v1 v2 : Value) :
    Blk (((w'.setCell ⟨B, 0, none⟩ v0).setCell ⟨B, 1, none⟩ v1).setCell ⟨B, 2, none⟩ v2) B t #[v0, v1, v2] ∧ Keeps w (((w'.setCell ⟨B, 0, none⟩ v0).setCell ⟨B, 1, none⟩ v1).setCell ⟨B, 2, none⟩ v2) :=
  ⟨((hb.set 0 v0 rfl).set 1 v1 rfl).set 2 v2 rfl, ((k.set hB 0 v0).set hB 1 v1).set hB 2 v2⟩
theorem row_below {W W' : World} {n₀ n z : Nat} {e : TypeId} {v : Value} {vs : List Value} (h : W.ownsRow n₀ e z v n vs) (b : Below W.heap.size W W') : W'.ownsRow n₀ e z v n vs := by
  refine ⟨h.1, ?_⟩
  rcases h.2 with hn | ⟨g, cap, cur, rfl, hb, hgg, rest⟩
  · exact .inl hn
  · exact .inr ⟨g, cap, cur, rfl, hb, (b.block g (Array.getElem?_eq_some_iff.1 hgg).1).trans hgg, rest⟩
theorem row_same {W W' : World} {n₀ n z : Nat} {e : TypeId} {v : Value} {vs : List Value} (h : W.ownsRow n₀ e z v n vs) (b : ∀ g, v.ownBlock = some g → W'.heap[g]? = W.heap[g]?) : W'.ownsRow n₀ e z v n vs := by
  refine ⟨h.1, ?_⟩
  rcases h.2 with hn | ⟨g, cap, cur, rfl, hb, hgg, rest⟩
  · exact .inl hn
  · exact .inr ⟨g, cap, cur, rfl, hb, (b g rfl).trans hgg, rest⟩
theorem rows_grown {w W W' : World} {n z : Nat} {e : TypeId} {v : Value} {vs : List Value} (h : W.ownsRow w.heap.size e z v n vs) (k : Keeps w W) (g : W.grownBy W' v.ownBlock) : Keeps w W' :=
  Below.grown k g k.size (fun i hi => (h.lt i hi).1)
theorem keeps_grown {a b : World} (k : Keeps a b) (r : Option Nat) : a.grownBy b r := ⟨k.os, k.tape, k.output, k.size, fun i hi _ => k.block i hi⟩
theorem cells_new (w : World) (cs : List Value) (t : TypeId) : ∀ j u, cs[j]? = some u → (w.alloc (.cells cs.toArray t)).cell? ((⟨w.heap.size, 0, none⟩ : Addr).add j) = some u := by
  intro j u hj
  rw [Addr.add_mid, Nat.zero_add]
  exact (Blk.new w t cs.toArray).cell j (by rw [List.getElem?_toArray]; exact hj)
theorem row_one {w : World} {n₀ n z : Nat} {e : TypeId} {v : Value} {vs : List Value} (h : w.ownsRow n₀ e z v n vs) : v.oneCell' = true := by
  rcases h.2 with ⟨rfl, _⟩ | ⟨_, _, _, rfl, _⟩ <;> rfl

theorem range_same {W W' : World} {g o : Nat} {cs : List Value} (h : W.rangeAt g o cs) (e : W'.heap[g]? = W.heap[g]?) : W'.rangeAt g o cs := fun j v hv => (World.cell?_of_block e).trans (h j v hv)
theorem range_lt {W : World} {g o : Nat} {cs : List Value} (h : W.rangeAt g o cs) (h0 : 0 < cs.length) : g < W.heap.size := World.block_lt_of_cell? W _ (h 0 _ (List.getElem?_eq_getElem h0))
/-- A slice of the call's own, its form. -/
theorem row_form {w : World} {n₀ n z : Nat} {e : TypeId} {v : Value} {vs : List Value} (h : w.ownsRow n₀ e z v n vs) : ∃ A cap, v = .slice A n cap ∧ n ≤ cap ∧ cap ≤ maxLen := by
  rcases h.2 with ⟨rfl, rfl⟩ | ⟨g, cap, cur, rfl, _, _, h1, h2, _⟩
  · exact ⟨none, 0, rfl, Nat.le_refl _, by unfold maxLen; omega⟩
  · exact ⟨_, cap, rfl, h1, h2⟩
theorem bytes_same (s : ByteArray) : (⟨s.data.toList.toArray⟩ : ByteArray) = s := by cases s; rfl
theorem Keeps.cell2 {W W' : World} {b i : Nat} {v : Value} (k : Keeps W W') (h : W.cell? ⟨b, i, none⟩ = some v) : W'.cell? ⟨b, i, none⟩ = some v := by
  rw [k.cell (World.block_lt_of_cell? W _ h)]
  exact h
theorem setCell_size (w : World) (a : Addr) (v : Value) : (w.setCell a v).heap.size = w.heap.size := by unfold World.setCell; split <;> simp
theorem step_append_run' {P : Program} {w : World} {ops : Array Oper} {o : Oper} {a : Act} {K : Act → World → Prop} {Q : Exit → Act → World → Prop} {E : Prop} (hgd : o.guard = none) (s x : Operand) (t tx : TypeId)
    (ho : o.op = .call { callee := .builtin .append, args := #[s, x], argTypes := #[t, tx] }) (v u : Value) (hs : a.eval s = v) (hx : a.eval x = u) (v' : Value) (w' : World)
    (hr : (Builtin.append_ #[t, tx] o.type #[v, u]).run P w = .ok v' w') (h : K (a.put o.dst v') w') :
    if Region.wanted o (yielded ops a.tmps) = true then Oper.wp P o a w K Q else E := by
  have hw : Region.wanted o (yielded ops a.tmps) = true := by simp [Region.wanted, hgd]
  rw [if_pos hw]
  unfold Oper.wp execOp
  simp only [ho, resolve, invoke, builtin, Sem.run_bind, Sem.run_pure, Result.andThen_ok, List.map_toArray, List.map_cons, List.map_nil, hs, hx, hr]
  exact h
/-- .. and in a region that draws no order. -/
theorem wpList_append_run {P : Program} {w : World} {ops : Array Oper} {rest : List Oper} {o : Oper} {a : Act} {Q : Exit → Act → World → Prop} (hgd : o.guard = none) (s x : Operand) (t tx : TypeId)
    (ho : o.op = .call { callee := .builtin .append, args := #[s, x], argTypes := #[t, tx] }) (v u : Value) (hs : a.eval s = v) (hx : a.eval x = u) (v' : Value) (w' : World)
    (hr : (Builtin.append_ #[t, tx] o.type #[v, u]).run P w = .ok v' w') (h : wpList P ops Q rest (a.put o.dst v') w') : wpList P ops Q (o :: rest) a w :=
  wpList_plain hgd fun _ hK => by
    unfold Oper.wp execOp
    simp only [ho, resolve, invoke, builtin, Sem.run_bind, Sem.run_pure, Result.andThen_ok, List.map_toArray, List.map_cons, List.map_nil, hs, hx, hr]
    exact hK _ _ h
end Go.Proofs.YtfnkokfkhjdkfaaDoor

/-
  Two blocks just made; a row of one's own that is written; by no layer.
-/
namespace Go.Proofs.YtfnkokfkhjdkfaaDoor
open Go.RowKit Go.Lib

theorem blk_two (w : World) (o : Obj) (t : TypeId) (cs : Array Value) : Blk ((w.alloc o).alloc (.cells cs t)) (w.heap.size + 1) t cs := by
  have := Blk.new (w.alloc o) t cs
  rwa [show (w.alloc o).heap.size = w.heap.size + 1 by simp] at this
theorem blk_three (w : World) (o o2 : Obj) (t : TypeId) (cs : Array Value) : Blk (((w.alloc o).alloc o2).alloc (.cells cs t)) (w.heap.size + 2) t cs := by
  have := Blk.new ((w.alloc o).alloc o2) t cs
  rwa [show ((w.alloc o).alloc o2).heap.size = w.heap.size + 2 by simp] at this
theorem keeps_two (w : World) (o o2 : Obj) : Keeps w ((w.alloc o).alloc o2) := ((Keeps.refl w).alloc o).alloc o2
theorem blk_old (w : World) (o : Obj) (t : TypeId) (cs : Array Value) : Blk ((w.alloc (.cells cs t)).alloc o) w.heap.size t cs := (Blk.new w t cs).alloc o
theorem keeps_row {W W1 : World} {g : Nat} {cs : Array Value} (h : Keeps W W1) (hg : W.heap.size ≤ g) : Keeps W (W1.setRow g cs) :=
  ⟨h.os, h.tape, h.output, by have := h.size; unfold World.setRow; simpa using this, fun b hb => (setRow_other W1 g b cs (by omega)).trans (h.block b hb)⟩
end Go.Proofs.YtfnkokfkhjdkfaaDoor

/-
  Rows of ints in memory; by no layer.
-/
namespace Go.Proofs.YtfnkokfkhjdkfaaDoor
open Go.RowKit Go.Lib Go.Maps

/-- The slice v holds these numbers. -/
def NsAt (W : World) (es : List Nat) (v : Value) : Prop := ∃ A cap, v = .slice A es.length cap ∧ es.length ≤ cap ∧ cap ≤ maxLen ∧ (0 < es.length → ∃ g o, A = some ⟨g, o, none⟩ ∧ ∀ i (h : i < es.length), W.cell? ⟨g, o + i, none⟩ = some (.int .i64 (es[i] : Nat)))
theorem NsAt.keep {W W' : World} {es : List Nat} {v : Value} (h : NsAt W es v) (k : Keeps W W') : NsAt W' es v := by
  obtain ⟨A, cap, h1, h2, h3, h4⟩ := h
  refine ⟨A, cap, h1, h2, h3, fun h0 => ?_⟩
  obtain ⟨g, o, e, hc⟩ := h4 h0
  exact ⟨g, o, e, fun i hi => k.cell2 (hc i hi)⟩
theorem NsAt.nil (W : World) : NsAt W [] (.slice none 0 0) := ⟨none, 0, rfl, Nat.le_refl _, by unfold maxLen; omega, fun h => absurd h (by simp)⟩
theorem NsAt.one (w : World) (n : Nat) (t : TypeId) : NsAt (w.alloc (.cells #[.int .i64 (n : Nat)] t)) [n] (.slice (some ⟨w.heap.size, 0, none⟩) 1 1) := by
  refine ⟨_, 1, rfl, Nat.le_refl _, by unfold maxLen; omega, fun _ => ⟨_, 0, rfl, fun i hi => ?_⟩⟩
  have : i = 0 := by simpa using hi
  subst this
  exact (Blk.new w t _).cell 0 rfl
def nsR (es : List Nat) : List Value := es.map fun e => .int .i64 (e : Nat)
theorem infoNs : (Tryd.prog.info? 3).map (fun i => (i.zero, i.size, i.bytes)) = some (some (.int .i64 0), 1, 8) := by kernel_rfl
theorem keeps_cells {a : World} {g : Nat} (hg : a.heap.size ≤ g) : ∀ (vs : List Value) (o : Nat) (b : World), Keeps a b → Keeps a (b.setCells g o vs)
  | [], _, _, h => h
  | v :: vs, o, _, h => keeps_cells hg vs (o + 1) _ (h.set hg o v)
/-- One number is put behind the others. -/
theorem ns_made {w0 W : World} {u : Value} {dn : List Nat} (hr : W.ownsRow w0.heap.size 3 1 u dn.length (nsR dn)) (hk : Keeps w0 W) (x : Nat) (hlen : dn.length ≤ 1000000) :
    ∃ A8 c8 w8, (Builtin.append_ #[36, 36] 36 #[u, .slice (some ⟨W.heap.size, 0, none⟩) 1 1]).run Tryd.prog (W.alloc (.cells #[.int .i64 (x : Nat)] 3)) = .ok (.slice A8 (dn.length + 1) c8) w8 ∧
      w8.ownsRow w0.heap.size 3 1 (.slice A8 (dn.length + 1) c8) (dn ++ [x]).length (nsR (dn ++ [x])) ∧ Keeps w0 w8 := by
  obtain ⟨i0, hi0, hz0, hz1, hz2⟩ := info_parts infoNs
  have hn := hk.size
  have KA : Keeps W (W.alloc (.cells (nsR [x]).toArray 3)) := (Keeps.refl _).alloc _
  have hrow := row_below hr KA
  obtain ⟨v8, w8, ra, o8, g8, _, l8⟩ := run_append_own_at (P := Tryd.prog) (W.alloc (.cells (nsR [x]).toArray 3)) w0.heap.size 36 36 3 i0 (.int .i64 0) 1 8 Tryd.underlying36 hi0 hz0 hz1 hz2 rfl (by decide) _ _ _ hrow ⟨W.heap.size, 0, none⟩ 1 1 (nsR [x]) rfl (cells_new W (nsR [x]) 3) (by intro q hq; simp only [nsR, List.map_cons, List.map_nil, List.mem_singleton] at hq; subst hq; rfl) (by simp only [maxLen]; omega) (by omega) (Nat.le_trans hn KA.size)
  obtain ⟨A8, c8, e8, _⟩ := row_form o8
  subst e8
  refine ⟨A8, c8, w8, ra, ?_, Below.grown (hk.trans KA) g8 (Nat.le_trans hn KA.size) (fun i hi => (hrow.lt i hi).1)⟩
  rw [List.length_append, List.length_singleton, show nsR (dn ++ [x]) = nsR dn ++ nsR [x] from List.map_append]
  exact o8
/-- A row of ints, whole. -/
def intC (L : List Int) : Array Value := (L.map (Value.int .i64)).toArray
theorem intC_at {L : List Int} {i : Nat} {x : Int} (h : L[i]? = some x) : (intC L)[i]? = some (.int .i64 x) := by
  unfold intC
  rw [List.getElem?_toArray, List.getElem?_map, h]
  rfl
theorem intC_set (L : List Int) (i : Nat) (v : Int) : (intC L).setIfInBounds i (.int .i64 v) = intC (L.set i v) := by
  unfold intC
  rw [List.map_set]
  simp
theorem made_ints (N : Nat) : madeCells #[.int .i64 0] N = intC (List.replicate N 0) := by
  apply Array.ext
  · rw [size_madeCells]
    simp [intC]
  · intro i h1 h2
    simp [madeCells, intC, Nat.mod_one]
/-- One number ahead of the others. -/
theorem ns_front {w0 W : World} {u : Value} {es : List Nat} (hr : W.ownsRow w0.heap.size 3 1 u es.length (nsR es)) (hk : Keeps w0 W) (x : Nat) (hlen : es.length ≤ 1000000) :
    ∃ A8 c8 w8, (Builtin.append_ #[36, 36] 36 #[.slice (some ⟨W.heap.size, 0, none⟩) 1 1, u]).run Tryd.prog (W.alloc (.cells #[.int .i64 (x : Nat)] 3)) = .ok (.slice A8 (x :: es).length c8) w8 ∧
      w8.ownsRow w0.heap.size 3 1 (.slice A8 (x :: es).length c8) (x :: es).length (nsR (x :: es)) ∧ Keeps W w8 ∧ (x :: es).length ≤ c8 ∧ c8 ≤ maxLen := by
  obtain ⟨i0, hi0, hz0, hz1, hz2⟩ := info_parts infoNs
  have hn := hk.size
  have KA : Keeps W (W.alloc (.cells #[.int .i64 (x : Nat)] 3)) := (Keeps.refl _).alloc _
  have hrow := row_below hr KA
  have hd := World.ownsRow_lit (base := W.heap.size) (e := 3) (size := 1) W #[.int .i64 (x : Nat)] 1 (Nat.le_refl _) (by decide) rfl
  have hlw : ∀ i : Nat, (Value.slice (some ⟨W.heap.size, 0, none⟩) 1 1).ownBlock = some i → W.heap.size ≤ i := fun i hi => by
    have hi : some W.heap.size = some i := hi
    injection hi with hi
    omega
  rcases hrow.2 with ⟨rfl, h0⟩ | ⟨g, cap, cur, rfl, hg, hh, q1, q2, _⟩
  · have hx0 : es = [] := List.length_eq_zero_iff.1 h0
    subst hx0
    exact ⟨_, 1, _, run_append_owned_none _ W.heap.size _ _ 3 i0 1 Tryd.underlying36 hi0 _ 1 _ hd, Go.Joins.ownsRow_le hd hn, KA, Nat.le_refl _, by decide⟩
  · obtain ⟨v8, w8, ra, o8, g8, _, l8⟩ := run_append_own_at (P := Tryd.prog) (W.alloc (.cells #[.int .i64 (x : Nat)] 3)) W.heap.size 36 36 3 i0 (.int .i64 0) 1 8 Tryd.underlying36 hi0 hz0 hz1 hz2 rfl (by decide) _ 1 _ hd ⟨g, 0, none⟩ es.length cap (nsR es) (by unfold nsR; simp) (fun j u hj => by
      rw [Addr.add_mid, Nat.zero_add]
      have hjl := (List.getElem?_eq_some_iff.1 hj).1
      rw [hrow.cellAt j (by unfold nsR at hjl; rw [List.length_map] at hjl; omega)]
      exact hj) (by intro q hq; unfold nsR at hq; obtain ⟨z, _, rfl⟩ := List.mem_map.1 hq; rfl) (by simp only [maxLen]; omega) (by omega) KA.size
    obtain ⟨A8, c8, e8, q3, q4⟩ := row_form o8
    subst e8
    have e1 : 1 + es.length = (x :: es).length := by rw [List.length_cons]; omega
    rw [e1] at ra o8 q3
    exact ⟨A8, c8, w8, ra, Go.Joins.ownsRow_le o8 hn, Below.grown KA g8 KA.size hlw, q3, q4⟩
end Go.Proofs.YtfnkokfkhjdkfaaDoor

