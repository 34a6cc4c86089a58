/-
  Texts of the proof, one behind the other: Row, Lbq, Lbv.
-/
import Derived.Test.YtfgpephpkibbaaaGreatDoorQ11
import Derived.Maps.AppendAt
import Derived.Maps.OwnSet
import Derived.Maps.OwnOps
import Derived.OwnWalk
import Derived.OneCell
import Derived.Laws.OwnMore
import Derived.Laws.AppendOwnNone
import Derived.Lib.SmallJoins
import Derived.Deep.MidRow
import Derived.Deep.WholeRow
import Derived.Deep.RegionLaw
import Derived.Test.YtfgpephpkibbaaaGreatDoorQ4
/-
  Rows of structs that a call owns: what stays of them; by no layer.
-/
namespace Go.Proofs.YtfgpephpkibbaaaGreatDoor
open Go.RowKit Go.Lib

/-- A block of three cells of the call's own, written anew. -/
theorem ref_fin {w w' : World} {B : Nat} {t : TypeId} {a b c : Value} (hb : Blk w' B t #[a, b, c]) (k : Keeps w w') (hB : w.heap.size ≤ B) (v0 v1 v2 : Value) :
    Blk (((w'.setCell ⟨B, 0, none⟩ v0).setCell ⟨B, 1, none⟩ v1).setCell ⟨B, 2, none⟩ v2) B t #[v0, v1, v2] ∧ Keeps w (((w'.setCell ⟨B, 0, none⟩ v0).setCell ⟨B, 1, none⟩ v1).setCell ⟨B, 2, none⟩ v2) :=
  ⟨((hb.set 0 v0 rfl).set 1 v1 rfl).set 2 v2 rfl, ((k.set hB 0 v0).set hB 1 v1).set hB 2 v2⟩
theorem row_below {W W' : World} {n₀ n z : Nat} {e : TypeId} {v : Value} {vs : List Value} (h : W.ownsRow n₀ e z v n vs) (b : Below W.heap.size W W') : W'.ownsRow n₀ e z v n vs := by
  refine ⟨h.1, ?_⟩
  rcases h.2 with hn | ⟨g, cap, cur, rfl, hb, hgg, rest⟩
  · exact .inl hn
  · exact .inr ⟨g, cap, cur, rfl, hb, (b.block g (Array.getElem?_eq_some_iff.1 hgg).1).trans hgg, rest⟩
theorem row_same {W W' : World} {n₀ n z : Nat} {e : TypeId} {v : Value} {vs : List Value} (h : W.ownsRow n₀ e z v n vs) (b : ∀ g, v.ownBlock = some g → W'.heap[g]? = W.heap[g]?) : W'.ownsRow n₀ e z v n vs := by
  refine ⟨h.1, ?_⟩
  rcases h.2 with hn | ⟨g, cap, cur, rfl, hb, hgg, rest⟩
  · exact .inl hn
  · exact .inr ⟨g, cap, cur, rfl, hb, (b g rfl).trans hgg, rest⟩
theorem rows_grown {w W W' : World} {n z : Nat} {e : TypeId} {v : Value} {vs : List Value} (h : W.ownsRow w.heap.size e z v n vs) (k : Keeps w W) (g : W.grownBy W' v.ownBlock) : Keeps w W' :=
  Below.grown k g k.size (fun i hi => (h.lt i hi).1)
theorem keeps_grown {a b : World} (k : Keeps a b) (r : Option Nat) : a.grownBy b r := ⟨k.os, k.tape, k.output, k.size, fun i hi _ => k.block i hi⟩
theorem cells_new (w : World) (cs : List Value) (t : TypeId) : ∀ j u, cs[j]? = some u → (w.alloc (.cells cs.toArray t)).cell? ((⟨w.heap.size, 0, none⟩ : Addr).add j) = some u := by
  intro j u hj
  rw [Addr.add_mid, Nat.zero_add]
  exact (Blk.new w t cs.toArray).cell j (by rw [List.getElem?_toArray]; exact hj)
theorem row_one {w : World} {n₀ n z : Nat} {e : TypeId} {v : Value} {vs : List Value} (h : w.ownsRow n₀ e z v n vs) : v.oneCell' = true := by
  rcases h.2 with ⟨rfl, _⟩ | ⟨_, _, _, rfl, _⟩ <;> rfl

theorem range_same {W W' : World} {g o : Nat} {cs : List Value} (h : W.rangeAt g o cs) (e : W'.heap[g]? = W.heap[g]?) : W'.rangeAt g o cs := fun j v hv => (World.cell?_of_block e).trans (h j v hv)
theorem range_lt {W : World} {g o : Nat} {cs : List Value} (h : W.rangeAt g o cs) (h0 : 0 < cs.length) : g < W.heap.size := World.block_lt_of_cell? W _ (h 0 _ (List.getElem?_eq_getElem h0))
/-- A slice of the call's own, its form. -/
theorem row_form {w : World} {n₀ n z : Nat} {e : TypeId} {v : Value} {vs : List Value} (h : w.ownsRow n₀ e z v n vs) : ∃ A cap, v = .slice A n cap ∧ n ≤ cap ∧ cap ≤ maxLen := by
  rcases h.2 with ⟨rfl, rfl⟩ | ⟨g, cap, cur, rfl, _, _, h1, h2, _⟩
  · exact ⟨none, 0, rfl, Nat.le_refl _, by unfold maxLen; omega⟩
  · exact ⟨_, cap, rfl, h1, h2⟩
theorem bytes_same (s : ByteArray) : (⟨s.data.toList.toArray⟩ : ByteArray) = s := by cases s; rfl
theorem Keeps.cell2 {W W' : World} {b i : Nat} {v : Value} (k : Keeps W W') (h : W.cell? ⟨b, i, none⟩ = some v) : W'.cell? ⟨b, i, none⟩ = some v := by
  rw [k.cell (World.block_lt_of_cell? W _ h)]
  exact h
theorem setCell_size (w : World) (a : Addr) (v : Value) : (w.setCell a v).heap.size = w.heap.size := by unfold World.setCell; split <;> simp
theorem step_append_run' {P : Program} {w : World} {ops : Array Oper} {o : Oper} {a : Act} {K : Act → World → Prop} {Q : Exit → Act → World → Prop} {E : Prop} (hgd : o.guard = none) (s x : Operand) (t tx : TypeId)
    (ho : o.op = .call { callee := .builtin .append, args := #[s, x], argTypes := #[t, tx] }) (v u : Value) (hs : a.eval s = v) (hx : a.eval x = u) (v' : Value) (w' : World)
    (hr : (Builtin.append_ #[t, tx] o.type #[v, u]).run P w = .ok v' w') (h : K (a.put o.dst v') w') :
    if Region.wanted o (yielded ops a.tmps) = true then Oper.wp P o a w K Q else E := by
  have hw : Region.wanted o (yielded ops a.tmps) = true := by simp [Region.wanted, hgd]
  rw [if_pos hw]
  unfold Oper.wp execOp
  simp only [ho, resolve, invoke, builtin, Sem.run_bind, Sem.run_pure, Result.andThen_ok, List.map_toArray, List.map_cons, List.map_nil, hs, hx, hr]
  exact h
/-- .. and in a region that draws no order. -/
theorem wpList_append_run {P : Program} {w : World} {ops : Array Oper} {rest : List Oper} {o : Oper} {a : Act} {Q : Exit → Act → World → Prop} (hgd : o.guard = none) (s x : Operand) (t tx : TypeId)
    (ho : o.op = .call { callee := .builtin .append, args := #[s, x], argTypes := #[t, tx] }) (v u : Value) (hs : a.eval s = v) (hx : a.eval x = u) (v' : Value) (w' : World)
    (hr : (Builtin.append_ #[t, tx] o.type #[v, u]).run P w = .ok v' w') (h : wpList P ops Q rest (a.put o.dst v') w') : wpList P ops Q (o :: rest) a w :=
  wpList_plain hgd fun _ hK => by
    unfold Oper.wp execOp
    simp only [ho, resolve, invoke, builtin, Sem.run_bind, Sem.run_pure, Result.andThen_ok, List.map_toArray, List.map_cons, List.map_nil, hs, hx, hr]
    exact hK _ _ h
end Go.Proofs.YtfgpephpkibbaaaGreatDoor

/-
  Lists of definitions in memory: a slice of structs of three texts that the call owns; what stays of it.
-/
namespace Go.Proofs.YtfgpephpkibbaaaGreatDoor
open Go.RowKit Go.Lib

/-- A definition, as a value. -/
def refV (r : Rf) : Value := .agg #[.string ⟨r.1.toArray⟩, .string ⟨r.2.1.toArray⟩, .string ⟨r.2.2.toArray⟩]
theorem infoRf : (Tryz.prog.info? 42).map (fun i => (i.zero, i.size, i.bytes)) = some (some (.agg #[.string ⟨#[]⟩, .string ⟨#[]⟩, .string ⟨#[]⟩]), 3, 48) := by kernel_rfl
def refC (r : Rf) : List Value := [.string ⟨r.1.toArray⟩, .string ⟨r.2.1.toArray⟩, .string ⟨r.2.2.toArray⟩]
/-- The slice v is the call's own, and holds the definitions rs. -/
def Refs (n₀ : Nat) (W : World) (v : Value) (rs : List Rf) : Prop := W.ownsRow n₀ 42 3 v rs.length (rs.flatMap refC)
theorem Refs.keep {W W' : World} {n₀ : Nat} {v : Value} {rs : List Rf} (h : Refs n₀ W v rs) (k : Keeps W W') : Refs n₀ W' v rs := row_below h k
end Go.Proofs.YtfgpephpkibbaaaGreatDoor

/-
  Lists of definitions in memory, their form and their cells.
-/
namespace Go.Proofs.YtfgpephpkibbaaaGreatDoor
open Go.RowKit Go.Lib

theorem refs_form {W : World} {n₀ : Nat} {v : Value} {rs : List Rf} (h : Refs n₀ W v rs) : ∃ ao cap, v = .slice ao rs.length cap ∧ rs.length ≤ cap ∧ cap ≤ maxLen := by
  rcases h.2 with ⟨rfl, h0⟩ | ⟨g, cap, cur, rfl, _, _, hn, hm, _⟩
  · exact ⟨none, 0, by rw [h0], by omega, by simp [maxLen]⟩
  · exact ⟨_, cap, rfl, hn, hm⟩
theorem refC_at (rs : List Rf) : ∀ (k : Nat) (h : k < rs.length) (j : Nat), j < 3 → (rs.flatMap refC)[k * 3 + j]? = (refC rs[k])[j]? := by
  induction rs with
  | nil => intro k h; simp at h
  | cons r rs ih =>
    intro k h j hj
    rw [List.flatMap_cons]
    cases k with
    | zero =>
      rw [Nat.zero_mul, Nat.zero_add, List.getElem?_append_left (by simp only [refC, List.length_cons, List.length_nil]; omega)]
      rfl
    | succ k =>
      rw [List.getElem?_append_right (by simp only [refC, List.length_cons, List.length_nil]; omega), show (k + 1) * 3 + j - (refC r).length = k * 3 + j by simp only [refC, List.length_cons, List.length_nil]; omega]
      exact ih k (by simpa using h) j hj
theorem refs_cell {W : World} {n₀ : Nat} {ao : Option Addr} {n cap : Nat} {rs : List Rf} (h : Refs n₀ W (.slice ao n cap) rs) (hn : 0 < rs.length) :
    ∃ g, ao = some ⟨g, 0, none⟩ ∧ ∀ k (hk : k < rs.length), W.cell? ⟨g, k * 3, none⟩ = some (.string ⟨rs[k].1.toArray⟩) ∧ W.cell? ⟨g, k * 3 + 1, none⟩ = some (.string ⟨rs[k].2.1.toArray⟩) ∧ W.cell? ⟨g, k * 3 + 2, none⟩ = some (.string ⟨rs[k].2.2.toArray⟩) := by
  unfold Refs at h
  rcases h.2 with ⟨_, h0⟩ | ⟨g, c, cur, hv, _⟩
  · omega
  · cases hv
    refine ⟨g, rfl, fun k hk => ?_⟩
    have hc := h.cells (g := g) rfl
    have e : ∀ j, (⟨g, 0, none⟩ : Addr).add j = ⟨g, j, none⟩ := fun j => by
      unfold Addr.add
      split
      · next h => rw [h]
      · simp
    refine ⟨?_, ?_, ?_⟩
    · have := hc (k * 3) _ (by have := refC_at rs k hk 0 (by decide); rw [Nat.add_zero] at this; exact this)
      rwa [e] at this
    · have := hc (k * 3 + 1) _ (refC_at rs k hk 1 (by decide))
      rwa [e] at this
    · have := hc (k * 3 + 2) _ (refC_at rs k hk 2 (by decide))
      rwa [e] at this
end Go.Proofs.YtfgpephpkibbaaaGreatDoor

