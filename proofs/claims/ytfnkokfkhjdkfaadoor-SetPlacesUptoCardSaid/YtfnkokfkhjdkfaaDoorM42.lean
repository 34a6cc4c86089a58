/-
  Texts of the proof, one behind the other: Asp.
-/
import Derived.Test.YtfnkokfkhjdkfaaDoorM30
import Derived.Test.YtfnkokfkhjdkfaaDoorRows
import Derived.ProofKit
import Derived.OpenShut
import Derived.ChangeMaps5
import Derived.Carry
import Derived.Deep.Strs
import Derived.Deep.MidRow
/-
  Arguments out of their readings: a slice of spans, kids within kids.
-/
namespace Go.Proofs.YtfnkokfkhjdkfaaDoor
open Go Go.ChangeShapes Go.WideShapes Go.ChangeAt Go.RowKit Go.ChangeMaps

instance : Inhabited St := ⟨.mk 0 [] [] [] []⟩
theorem cellsSt : Tryd.prog.cellsOf 48 = 5 := by kernel_rfl
theorem cellsStInt : Tryd.prog.cellsOf 3 = 1 := by kernel_rfl
theorem cellsStStr : Tryd.prog.cellsOf 9 = 1 := by kernel_rfl
theorem cellsStKids : Tryd.prog.cellsOf 22 = 1 := by kernel_rfl
section
variable {H : Type}
theorem bulk_at {xs : List (DataW H × List MemPlace)} {i : Nat} {y : DataW H × List MemPlace} (h : xs[i]? = some y) : Rows.uptoBulk y.1 ≤ Rows.uptoBulkAll (xs.map (·.1)) := by
  induction xs generalizing i with
  | nil => simp at h
  | cons x r ih =>
    simp only [List.map_cons, Rows.uptoBulkAll]
    cases i with
    | zero => simp only [List.getElem?_cons_zero, Option.some.injEq] at h; subst h; omega
    | succ i => have := ih (i := i) (by simpa using h); omega
theorem bulk_two {xs : List (DataW H × List MemPlace)} {i j : Nat} {y z : DataW H × List MemPlace} (h : xs[i]? = some y) (k : xs[j]? = some z) (hij : i < j) : Rows.uptoBulk y.1 + Rows.uptoBulk z.1 ≤ Rows.uptoBulkAll (xs.map (·.1)) := by
  induction xs generalizing i j with
  | nil => simp at h
  | cons x r ih =>
    simp only [List.map_cons, Rows.uptoBulkAll]
    cases j with
    | zero => omega
    | succ j =>
      cases i with
      | zero =>
        simp only [List.getElem?_cons_zero, Option.some.injEq] at h
        subst h
        have := bulk_at (xs := r) (i := j) (by simpa using k)
        omega
      | succ i =>
        have := ih (i := i) (j := j) (by simpa using h) (by simpa using k) (by omega)
        omega
theorem bulk_cat (a b : List (DataW H)) : Rows.uptoBulkAll (a ++ b) = Rows.uptoBulkAll a + Rows.uptoBulkAll b := by
  induction a with
  | nil => simp [Rows.uptoBulkAll]
  | cons x a ih => rw [List.cons_append]; simp only [Rows.uptoBulkAll]; omega
theorem wL_cat (a b : List St) : wL (a ++ b) = wL a + wL b := by
  induction a with
  | nil => simp [wL]
  | cons x a ih => rw [List.cons_append, wL, wL, ih]; omega
theorem bulk_sum (f : Nat → St) (elems : List (DataW H × List MemPlace)) : ∀ len, elems.length = len → (∀ i, i < len → wS (f i) ≤ 10 * Rows.uptoBulk (elems.getD i (.nil, [])).1) → wL ((List.range len).map f) ≤ 10 * Rows.uptoBulkAll (elems.map (·.1)) := by
  have key : ∀ n, n ≤ elems.length → (∀ i, i < n → wS (f i) ≤ 10 * Rows.uptoBulk (elems.getD i (.nil, [])).1) → wL ((List.range n).map f) ≤ 10 * Rows.uptoBulkAll ((elems.take n).map (·.1)) := by
    intro n
    induction n with
    | zero => intro _ _; simp [wL]
    | succ n ih =>
      intro hn h
      have h1 := ih (by omega) (fun i hi => h i (by omega))
      have h2 := h n (by omega)
      rw [List.range_succ, List.map_append, wL_cat, List.take_succ_eq_append_getElem (by omega), List.map_append, bulk_cat]
      rw [List.getD_eq_getElem?_getD, List.getElem?_eq_getElem (by omega), Option.getD_some] at h2
      simp only [List.map_cons, List.map_nil, wL, Rows.uptoBulkAll]
      omega
  intro len hl h
  have := key len (by omega) h
  rwa [List.take_of_length_le (by omega)] at this
end
set_option maxRecDepth 100000 in
theorem open_spans {H : Type} {enc : TypeId × Value → H} {W : World} {base : Nat} {sp : Nat → Bool} {held : Bool} : ∀ (fuel : Nat) (cs : List Value) (x : DataW H × List MemPlace), DataW.trod enc Tryd.prog W base sp held fuel 22 cs = some x →
    ∃ (l : List St) (v : Value), cs = [v] ∧ StAt W l v ∧ wL l ≤ 10 * Rows.uptoBulk x.1 := by
  intro fuel
  induction fuel using Nat.strongRecOn with
  | _ fuel ih =>
  intro cs x h
  rcases DataW.trod_slice Tryd.underlying22 h with ⟨rfl, _⟩ | ⟨a, len, cap, elems, rest, n, rfl, rfl, hxq, _, hl, hm, hlen, hel, _, _⟩
  · exact ⟨[], _, rfl, StAt.nil W, by rw [wL]; omega⟩
  · have one : ∀ i, i < len → ∃ r : St × Value, (∀ k t d ti ks, r.1 = .mk k t d ti ks → W.cell? (a.add (i * 5)) = some (.int .i64 k) ∧ W.cell? ((a.add (i * 5)).add 1) = some (.string ⟨t.toArray⟩) ∧ W.cell? ((a.add (i * 5)).add 2) = some (.string ⟨d.toArray⟩) ∧ W.cell? ((a.add (i * 5)).add 3) = some (.string ⟨ti.toArray⟩) ∧ W.cell? ((a.add (i * 5)).add 4) = some r.2) ∧ StAt W r.1.kids r.2 ∧ wS r.1 ≤ 10 * Rows.uptoBulk (elems.getD i (.nil, [])).1 := fun i hi => by
      have key := hel i hi
      rw [cellsSt, List.getElem?_eq_getElem (by omega)] at key
      obtain ⟨cs', hc1, hc2⟩ := Option.bind_eq_some_iff.1 key
      obtain ⟨_, hln, hcell⟩ := World.cells?_some hc1
      obtain ⟨xs, n2, e2, ex, hl2, hxs, hf⟩ := DataW.trod_struct Tryd.underlying48 hc2
      subst e2
      rw [cellsSt] at hl2
      match cs', hl2 with
      | [c0, c1, c2, c3, c4], _ =>
        have hx : ∀ j, j < 5 → ∃ y, xs[j]? = some y := fun j hj => ⟨xs[j]'(by rw [hxs]; exact hj), List.getElem?_eq_getElem _⟩
        obtain ⟨y0, hy0⟩ := hx 0 (by decide)
        obtain ⟨y1, hy1⟩ := hx 1 (by decide)
        obtain ⟨y2, hy2⟩ := hx 2 (by decide)
        obtain ⟨y3, hy3⟩ := hx 3 (by decide)
        obtain ⟨y4, hy4⟩ := hx 4 (by decide)
        have g0 : DataW.trod enc Tryd.prog W base sp held n2 3 (([c0, c1, c2, c3, c4].drop 0).take (Tryd.prog.cellsOf 3)) = xs[0]? := hf 0 _ rfl
        rw [cellsStInt, hy0] at g0
        have g1 : DataW.trod enc Tryd.prog W base sp held n2 9 (([c0, c1, c2, c3, c4].drop 1).take (Tryd.prog.cellsOf 9)) = xs[1]? := hf 1 _ rfl
        rw [cellsStStr, hy1] at g1
        have g2 : DataW.trod enc Tryd.prog W base sp held n2 9 (([c0, c1, c2, c3, c4].drop 2).take (Tryd.prog.cellsOf 9)) = xs[2]? := hf 2 _ rfl
        rw [cellsStStr, hy2] at g2
        have g3 : DataW.trod enc Tryd.prog W base sp held n2 9 (([c0, c1, c2, c3, c4].drop 3).take (Tryd.prog.cellsOf 9)) = xs[3]? := hf 3 _ rfl
        rw [cellsStStr, hy3] at g3
        have g4 : DataW.trod enc Tryd.prog W base sp held n2 22 (([c0, c1, c2, c3, c4].drop 4).take (Tryd.prog.cellsOf 22)) = xs[4]? := hf 4 _ rfl
        rw [cellsStKids, hy4] at g4
        obtain ⟨k, e0, _, _⟩ := DataW.trod_int Tryd.underlying3 g0
        obtain ⟨s1, e1, ey1, _⟩ := DataW.trod_string Tryd.underlying9 g1
        obtain ⟨s2, e2, _, _⟩ := DataW.trod_string Tryd.underlying9 g2
        obtain ⟨s3, e3, _, _⟩ := DataW.trod_string Tryd.underlying9 g3
        obtain ⟨ks, kv, e4, hk, hbk⟩ := ih n2 (by omega) _ _ g4
        simp only [List.drop_zero, List.drop_succ_cons, List.take_succ_cons, List.take_zero, List.cons.injEq, and_true] at e0 e1 e2 e3 e4
        subst e0 e1 e2 e3 e4
        refine ⟨(.mk k s1.data.toList s2.data.toList s3.data.toList ks, c4), fun k' t d ti ks' e => ?_, hk, ?_⟩
        rotate_left
        · rw [wS_mk, List.getD_eq_getElem?_getD, List.getElem?_eq_getElem (show i < elems.length by omega), Option.getD_some, ex]
          have b1 := bulk_at hy1
          have b4 := bulk_two hy1 hy4 (by decide)
          rw [ey1] at b4
          simp only [Rows.uptoBulk] at b4 ⊢
          omega
        injection e with a1 a2 a3 a4 a5
        subst a1 a2 a3 a4 a5
        rw [bytes_same, bytes_same, bytes_same]
        refine ⟨?_, hcell 1 (by decide), hcell 2 (by decide), hcell 3 (by decide), hcell 4 (by decide)⟩
        have := hcell 0 (by decide)
        simpa [Addr.add] using this
    obtain ⟨f, hfs⟩ := Go.Deep.choose_lt one
    obtain ⟨b, off, spot⟩ := a
    refine ⟨((List.range len).map f).map Prod.fst, _, rfl, ?_, ?_⟩
    rotate_left
    · have := bulk_sum (fun i => (f i).1) elems len hlen (fun i hi => (hfs i hi).2.2)
      rw [hxq]
      show wL _ ≤ 10 * Rows.uptoBulk (DataW.slice (elems.map (·.1)) (rest.map (·.1)))
      simp only [Rows.uptoBulk]
      rw [List.map_map]
      have e : wL ((List.range len).map (Prod.fst ∘ f)) = wL ((List.range len).map fun i => (f i).1) := rfl
      omega
    have hL : ((List.range len).map f).length = len := by simp
    have key := StAt.mk (W := W) ((List.range len).map f) (some ⟨b, off, spot⟩) cap (by rw [hL]; exact hl) hm (fun h0 => ?_) (fun x hx => ?_)
    · rw [hL] at key
      exact key
    · rw [hL] at h0
      obtain ⟨k0, t0, d0, i0, ks0, er⟩ : ∃ k t d ti ks, (f 0).1 = .mk k t d ti ks := by
        cases (f 0).1 with
        | mk k t d ti ks => exact ⟨k, t, d, ti, ks, rfl⟩
      have hspot : spot = none := by simpa [Addr.add] using World.cell?_spot ((hfs 0 h0).1 _ _ _ _ _ er).1
      subst hspot
      refine ⟨b, off, rfl, fun i hi k t d ti ks e => ?_⟩
      have hi' : i < len := by simpa using hi
      rw [List.getElem_map, List.getElem_range] at e ⊢
      have q := (hfs i hi').1 k t d ti ks e
      rw [Addr.add_mid, Addr.add_mid, Addr.add_mid, Addr.add_mid, Addr.add_mid] at q
      exact ⟨q.1, q.2.1, q.2.2.1, q.2.2.2.1, q.2.2.2.2⟩
    · obtain ⟨i, hi, rfl⟩ := List.mem_map.1 hx
      exact (hfs i (List.mem_range.1 hi)).2.1
/-- .. as an argument's reading has it. -/
theorem open_spansT {H : Type} {enc : TypeId × Value → H} {W : World} {base : Nat} {sp : Nat → Bool} {held : Bool} {a : Option Addr} {len cap : Nat} {d : DataW H} {ps : List MemPlace} (h : DataW.Trod enc Tryd.prog W base sp held 22 (.slice a len cap) d ps) : ∃ l : List St, StAt W l (.slice a len cap) ∧ wL l ≤ 10 * Rows.uptoBulk d := by
  obtain ⟨fuel, hf⟩ := h
  obtain ⟨l, v', e, hA, hb⟩ := open_spans _ _ _ hf
  simp [Value.cells] at e
  subst e
  exact ⟨l, hA, hb⟩
end Go.Proofs.YtfnkokfkhjdkfaaDoor

