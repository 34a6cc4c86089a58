/-
  Texts of the proof, one behind the other: Row, Bltw.
-/
import Derived.Test.YtoanknepbjofjaaDoorM6
import Derived.Maps.AppendAt
import Derived.Maps.OwnSet
import Derived.Maps.OwnOps
import Derived.OwnWalk
import Derived.OneCell
import Derived.Laws.OwnMore
import Derived.Laws.AppendOwnNone
import Derived.Lib.SmallJoins
import Derived.Deep.MidRow
import Derived.Deep.WholeRow
import Derived.Deep.RegionLaw
/-
  Rows of structs that a call owns: what stays of them; by no layer.
-/
namespace Go.Proofs.YtoanknepbjofjaaDoor
open Go.RowKit Go.Lib

/-- A block of three cells of the call's own, written anew. -/
theorem ref_fin {w w' : World} {B : Nat} {t : TypeId} {a b c : Value} (hb : Blk w' B t #[a, b, c]) (k : Keeps w w') (hB : w.heap.size ≤ B) (v0 v1 v2 : Value) :
    Blk (((w'.setCell ⟨B, 0, none⟩ v0).setCell ⟨B, 1, none⟩ v1).setCell ⟨B, 2, none⟩ v2) B t #[v0, v1, v2] ∧ Keeps w (((w'.setCell ⟨B, 0, none⟩ v0).setCell ⟨B, 1, none⟩ v1).setCell ⟨B, 2, none⟩ v2) :=
  ⟨((hb.set 0 v0 rfl).set 1 v1 rfl).set 2 v2 rfl, ((k.set hB 0 v0).set hB 1 v1).set hB 2 v2⟩
theorem row_below {W W' : World} {n₀ n z : Nat} {e : TypeId} {v : Value} {vs : List Value} (h : W.ownsRow n₀ e z v n vs) (b : Below W.heap.size W W') : W'.ownsRow n₀ e z v n vs := by
  refine ⟨h.1, ?_⟩
  rcases h.2 with hn | ⟨g, cap, cur, rfl, hb, hgg, rest⟩
  · exact .inl hn
  · exact .inr ⟨g, cap, cur, rfl, hb, (b.block g (Array.getElem?_eq_some_iff.1 hgg).1).trans hgg, rest⟩
theorem row_same {W W' : World} {n₀ n z : Nat} {e : TypeId} {v : Value} {vs : List Value} (h : W.ownsRow n₀ e z v n vs) (b : ∀ g, v.ownBlock = some g → W'.heap[g]? = W.heap[g]?) : W'.ownsRow n₀ e z v n vs := by
  refine ⟨h.1, ?_⟩
  rcases h.2 with hn | ⟨g, cap, cur, rfl, hb, hgg, rest⟩
  · exact .inl hn
  · exact .inr ⟨g, cap, cur, rfl, hb, (b g rfl).trans hgg, rest⟩
theorem rows_grown {w W W' : World} {n z : Nat} {e : TypeId} {v : Value} {vs : List Value} (h : W.ownsRow w.heap.size e z v n vs) (k : Keeps w W) (g : W.grownBy W' v.ownBlock) : Keeps w W' :=
  Below.grown k g k.size (fun i hi => (h.lt i hi).1)
theorem keeps_grown {a b : World} (k : Keeps a b) (r : Option Nat) : a.grownBy b r := ⟨k.os, k.tape, k.output, k.size, fun i hi _ => k.block i hi⟩
theorem cells_new (w : World) (cs : List Value) (t : TypeId) : ∀ j u, cs[j]? = some u → (w.alloc (.cells cs.toArray t)).cell? ((⟨w.heap.size, 0, none⟩ : Addr).add j) = some u := by
  intro j u hj
  rw [Addr.add_mid, Nat.zero_add]
  exact (Blk.new w t cs.toArray).cell j (by rw [List.getElem?_toArray]; exact hj)
theorem row_one {w : World} {n₀ n z : Nat} {e : TypeId} {v : Value} {vs : List Value} (h : w.ownsRow n₀ e z v n vs) : v.oneCell' = true := by
  rcases h.2 with ⟨rfl, _⟩ | ⟨_, _, _, rfl, _⟩ <;> rfl

theorem range_same {W W' : World} {g o : Nat} {cs : List Value} (h : W.rangeAt g o cs) (e : W'.heap[g]? = W.heap[g]?) : W'.rangeAt g o cs := fun j v hv => (World.cell?_of_block e).trans (h j v hv)
theorem range_lt {W : World} {g o : Nat} {cs : List Value} (h : W.rangeAt g o cs) (h0 : 0 < cs.length) : g < W.heap.size := World.block_lt_of_cell? W _ (h 0 _ (List.getElem?_eq_getElem h0))
/-- A slice of the call's own, its form. -/
theorem row_form {w : World} {n₀ n z : Nat} {e : TypeId} {v : Value} {vs : List Value} (h : w.ownsRow n₀ e z v n vs) : ∃ A cap, v = .slice A n cap ∧ n ≤ cap ∧ cap ≤ maxLen := by
  rcases h.2 with ⟨rfl, rfl⟩ | ⟨g, cap, cur, rfl, _, _, h1, h2, _⟩
  · exact ⟨none, 0, rfl, Nat.le_refl _, by unfold maxLen; omega⟩
  · exact ⟨_, cap, rfl, h1, h2⟩
theorem bytes_same (s : ByteArray) : (⟨s.data.toList.toArray⟩ : ByteArray) = s := by cases s; rfl
theorem Keeps.cell2 {W W' : World} {b i : Nat} {v : Value} (k : Keeps W W') (h : W.cell? ⟨b, i, none⟩ = some v) : W'.cell? ⟨b, i, none⟩ = some v := by
  rw [k.cell (World.block_lt_of_cell? W _ h)]
  exact h
theorem setCell_size (w : World) (a : Addr) (v : Value) : (w.setCell a v).heap.size = w.heap.size := by unfold World.setCell; split <;> simp
theorem step_append_run' {P : Program} {w : World} {ops : Array Oper} {o : Oper} {a : Act} {K : Act → World → Prop} {Q : Exit → Act → World → Prop} {E : Prop} (hgd : o.guard = none) (s x : Operand) (t tx : TypeId)
    (ho : o.op = .call { callee := .builtin .append, args := #[s, x], argTypes := #[t, tx] }) (v u : Value) (hs : a.eval s = v) (hx : a.eval x = u) (v' : Value) (w' : World)
    (hr : (Builtin.append_ #[t, tx] o.type #[v, u]).run P w = .ok v' w') (h : K (a.put o.dst v') w') :
    if Region.wanted o (yielded ops a.tmps) = true then Oper.wp P o a w K Q else E := by
  have hw : Region.wanted o (yielded ops a.tmps) = true := by simp [Region.wanted, hgd]
  rw [if_pos hw]
  unfold Oper.wp execOp
  simp only [ho, resolve, invoke, builtin, Sem.run_bind, Sem.run_pure, Result.andThen_ok, List.map_toArray, List.map_cons, List.map_nil, hs, hx, hr]
  exact h
/-- .. and in a region that draws no order. -/
theorem wpList_append_run {P : Program} {w : World} {ops : Array Oper} {rest : List Oper} {o : Oper} {a : Act} {Q : Exit → Act → World → Prop} (hgd : o.guard = none) (s x : Operand) (t tx : TypeId)
    (ho : o.op = .call { callee := .builtin .append, args := #[s, x], argTypes := #[t, tx] }) (v u : Value) (hs : a.eval s = v) (hx : a.eval x = u) (v' : Value) (w' : World)
    (hr : (Builtin.append_ #[t, tx] o.type #[v, u]).run P w = .ok v' w') (h : wpList P ops Q rest (a.put o.dst v') w') : wpList P ops Q (o :: rest) a w :=
  wpList_plain hgd fun _ hK => by
    unfold Oper.wp execOp
    simp only [ho, resolve, invoke, builtin, Sem.run_bind, Sem.run_pure, Result.andThen_ok, List.map_toArray, List.map_cons, List.map_nil, hs, hx, hr]
    exact hK _ _ h
end Go.Proofs.YtoanknepbjofjaaDoor

/-
  Two blocks just made; a row of one's own that is written; by no layer.
-/
namespace Go.Proofs.YtoanknepbjofjaaDoor
open Go.RowKit Go.Lib

theorem blk_two (w : World) (o : Obj) (t : TypeId) (cs : Array Value) : Blk ((w.alloc o).alloc (.cells cs t)) (w.heap.size + 1) t cs := by
  have := Blk.new (w.alloc o) t cs
  rwa [show (w.alloc o).heap.size = w.heap.size + 1 by simp] at this
theorem blk_three (w : World) (o o2 : Obj) (t : TypeId) (cs : Array Value) : Blk (((w.alloc o).alloc o2).alloc (.cells cs t)) (w.heap.size + 2) t cs := by
  have := Blk.new ((w.alloc o).alloc o2) t cs
  rwa [show ((w.alloc o).alloc o2).heap.size = w.heap.size + 2 by simp] at this
theorem keeps_two (w : World) (o o2 : Obj) : Keeps w ((w.alloc o).alloc o2) := ((Keeps.refl w).alloc o).alloc o2
theorem blk_old (w : World) (o : Obj) (t : TypeId) (cs : Array Value) : Blk ((w.alloc (.cells cs t)).alloc o) w.heap.size t cs := (Blk.new w t cs).alloc o
theorem keeps_row {W W1 : World} {g : Nat} {cs : Array Value} (h : Keeps W W1) (hg : W.heap.size ≤ g) : Keeps W (W1.setRow g cs) :=
  ⟨h.os, h.tape, h.output, by have := h.size; unfold World.setRow; simpa using this, fun b hb => (setRow_other W1 g b cs (by omega)).trans (h.block b hb)⟩
end Go.Proofs.YtoanknepbjofjaaDoor

