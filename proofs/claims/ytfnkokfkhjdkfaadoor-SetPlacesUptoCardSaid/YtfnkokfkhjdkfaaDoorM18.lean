/-
  Texts of the proof, one behind the other: Hld.
-/
import Derived.StillTail
import Derived.OrdersHeld
import Derived.Deep.RegionHeld
import Derived.Laws.Tables
import Derived.Test.YtfnkokfkhjdkfaaDoorM15
/-
  A region whose last operation writes what the others read: all but the last go in whatever order, in worlds that meet one condition; the last one behind them. By no layer.
-/
namespace Go.Proofs.YtfnkokfkhjdkfaaDoor
open Go Go.RowKit Go.Lib

section
variable {P : Program} {md : Region.Mode} {ops : Array Oper} {Q : Exit → Act → World → Prop} {S : World → Prop} {L : Act → World → Prop} {n : Nat}

/-- So many operations ahead of number n, in whatever order, each leaving S; then L, where n alone may come. -/
def headed (P : Program) (md : Region.Mode) (ops : Array Oper) (Q : Exit → Act → World → Prop) (S : World → Prop) (n : Nat) (L : Act → World → Prop) : Nat → Array Bool → Act → World → Prop
  | 0, listed, a, w => Region.seqB md ops 1 n listed = true ∧ L a w
  | f + 1, listed, a, w => Region.ready md ops listed ≠ [] ∧ ∀ i ∈ Region.ready md ops listed, i < n ∧ wpOp P ops Q i (fun a' w' => S w' ∧ headed P md ops Q S n L f (listed.setIfInBounds i true) a' w') a w
theorem headed_any {o : Oper} (ho : ops[n]? = some o) (hn : n + 1 = ops.size) : ∀ (f : Nat) (listed : Array Bool) (a : Act) (w : World), headed P md ops Q S n (fun a w => wpList P ops Q [o] a w) f listed a w → wpAny P md ops Q (f + 1) listed a w
  | 0, listed, a, w, h => by
    rw [Nat.zero_add]
    refine wpAny_of_seq [o] n listed a w (fun j => ?_) h.1 h.2
    cases j with
    | zero => simpa using ho.symm
    | succ j =>
      rw [Array.getElem?_eq_none (by omega)]
      simp
  | f + 1, listed, a, w, h => ⟨fun e => absurd e h.1, fun i hi => wpOp_mono (fun _ _ x => headed_any ho hn f _ _ _ x.2) (h.2 i hi).2⟩

/-- What is looked at ahead of a take. -/
def headOk (md : Region.Mode) (ops : Array Oper) (n : Nat) (listed : Array Bool) : Bool :=
  Region.noSelect ops && decide (n < ops.size) && Region.sinkB md ops n && Region.chainB md ops n && decide (listed.size = ops.size) &&
    ((List.range ops.size).all fun j => !listed.getD j false || match ops[j]? with
      | some o => o.after.all fun e => !Region.binds md e || listed.getD e.on false
      | none => true) && ((List.range ops.size).all fun t => decide (t < n) || !listed.getD t true)
theorem headOk_inv {listed : Array Bool} (h : headOk md ops n listed = true) : Region.noSelect ops = true ∧ n < ops.size ∧ Region.sinkB md ops n = true ∧ Region.chainB md ops n = true ∧ HeadInv md ops n listed := by
  unfold headOk at h
  simp only [Bool.and_eq_true, decide_eq_true_eq] at h
  obtain ⟨⟨⟨⟨⟨⟨h1, h2⟩, h3⟩, h4⟩, h5⟩, h6⟩, h7⟩ := h
  refine ⟨h1, h2, h3, h4, h5, fun j oj hj hl e he hb => ?_, fun t ht ht' => ?_⟩
  · have hjl := (Array.getElem?_eq_some_iff.1 hj).1
    have := List.all_eq_true.1 h6 j (List.mem_range.2 hjl)
    rw [hl, hj] at this
    simp only [Bool.not_true, Bool.false_or] at this
    have := Array.all_eq_true'.1 this e he
    rw [hb] at this
    simpa using this
  · have := List.all_eq_true.1 h7 t (List.mem_range.2 ht')
    simp only [Bool.or_eq_true, decide_eq_true_eq, Bool.not_eq_true'] at this
    rcases this with h | h
    · omega
    · exact h
/-- An operation that yields its value in every world that meets S, and leaves the world as it is, may be taken first. -/
theorem headed_first {i : Nat} {oi : Oper} {v : Value} (hi : ops[i]? = some oi) (hin : i < n) (hsel : Region.noSelect ops = true) (hn : n < ops.size) (hs : Region.sinkB md ops n = true) (hc : Region.chainB md ops n = true)
    (hQ : ∀ c a w, Q (.panic c) (a.put oi.dst v) w → Q (.panic c) a w) : ∀ (f : Nat) (listed : Array Bool) (a : Act) (w : World), HeadInv md ops n listed →
      (∀ j oj, ops[j]? = some oj → j ≠ i → listed.getD j true = false → (∀ e ∈ oj.after, Region.binds md e = true → e.on ≠ i) → oi.apart ops oj = true) →
      i ∈ Region.ready md ops listed → YieldsIf P ops S oi v a → S w → headed P md ops Q S n L f (listed.setIfInBounds i true) (a.put oi.dst v) w → headed P md ops Q S n L (f + 1) listed a w := by
  have sel := Region.noSelect_spec hsel
  intro f
  induction f with
  | zero =>
    intro listed a w inv _ hr hy hS H
    refine ⟨fun e => (by rw [e] at hr; cases hr), fun j hj => ?_⟩
    have hjn : j < n := by
      rcases Nat.lt_or_ge j n with h | h
      · exact h
      · exact absurd hj (tail_waits hs hc hn inv _ i rfl hin (mem_ready.1 hr).1 j h)
    refine ⟨hjn, ?_⟩
    by_cases e : j = i
    · subst e; exact hy.wpOp hi hS ⟨hS, H⟩
    · have := seqB_ready H.1 j (ready_mono hj e)
      omega
  | succ f ih =>
    intro listed a w inv hfree hr hy hS H
    have hun := (mem_ready.1 hr).1
    refine ⟨fun e => (by rw [e] at hr; cases hr), fun j hj => ?_⟩
    have hjn : j < n := by
      rcases Nat.lt_or_ge j n with h | h
      · exact h
      · exact absurd hj (tail_waits hs hc hn inv _ i rfl hin hun j h)
    refine ⟨hjn, ?_⟩
    by_cases e : j = i
    · subst e; exact hy.wpOp hi hS ⟨hS, H⟩
    · obtain ⟨hju, oj, hoj, hall⟩ := mem_ready.1 hj
      have hnot : ∀ x ∈ oj.after, Region.binds md x = true → x.on ≠ i := fun x hx hb he => by
        have := hall x hx hb
        rw [he, getD_both hun] at this
        cases this
      have step := wpOp_putIf hoj (hfree j oj hoj e hju hnot) (fun cs b => sel i oi cs b hi) (fun cs b => sel j oj cs b hoj) hQ hy (H.2 j (ready_mono hj e)).2
      refine wpOp_mono (fun a' w' x => ⟨x.2.1, ih _ a' w' (inv.set hj hjn) (fun k ok hk hki hku hno => ?_) (ready_mono hr (Ne.symm e)) x.1 x.2.1 ?_⟩) step
      · refine hfree k ok hk hki ?_ hno
        by_cases hjk : j = k
        · rw [← hjk]; exact hju
        · rw [getD_set_ne true hjk] at hku; exact hku
      · rw [Array.setIfInBounds_comm _ _ e]
        exact x.2.2
theorem headed_take {i : Nat} {oi : Oper} {v : Value} {f : Nat} {listed : Array Bool} {a : Act} {w : World} (hi : ops[i]? = some oi) (hk : (headOk md ops n listed && decide (i < n) && Region.free md ops listed i && (Region.ready md ops listed).contains i) = true)
    (hQ : ∀ c a w, Q (.panic c) (a.put oi.dst v) w → Q (.panic c) a w) (hy : YieldsIf P ops S oi v a) (hS : S w) (h : headed P md ops Q S n L f (listed.setIfInBounds i true) (a.put oi.dst v) w) : headed P md ops Q S n L (f + 1) listed a w := by
  simp only [Bool.and_eq_true, decide_eq_true_eq] at hk
  obtain ⟨⟨⟨h1, h2⟩, h3⟩, h4⟩ := hk
  obtain ⟨c1, c2, c3, c4, inv⟩ := headOk_inv h1
  exact headed_first hi h2 c1 c2 c3 c4 hQ f listed a w inv (Region.free_spec hi h3) (by simpa using h4) hy hS h
/-- The only one that may come: S is to be shown behind it. -/
theorem headed_one {i : Nat} {o : Oper} {f : Nat} {listed : Array Bool} {a : Act} {w : World} (ho : ops[i]? = some o) (hr : Region.ready md ops listed = [i]) (hin : decide (i < n) = true)
    (h : ∀ K' : Act → World → Prop, Shut (∀ a w, S w → (S w → headed P md ops Q S n L f (listed.setIfInBounds i true) a w) → K' a w) → if Region.wanted o (yielded ops a.tmps) = true then Oper.wp P o a w K' Q else K' (a.put o.dst undef) w) : headed P md ops Q S n L (f + 1) listed a w := by
  refine ⟨by rw [hr]; simp, fun j hj => ?_⟩
  rw [hr] at hj
  have e : j = i := by simpa using hj
  subst e
  exact ⟨of_decide_eq_true hin, wpOp_step ho (fun K' hK => h K' (fun a w hS hW => hK a w ⟨hS, hW hS⟩))⟩
/-- Two may come: either. -/
theorem headed_two {i j : Nat} {oi oj : Oper} {f : Nat} {listed : Array Bool} {a : Act} {w : World} (hoi : ops[i]? = some oi) (hoj : ops[j]? = some oj) (hr : Region.ready md ops listed = [i, j]) (hin : (decide (i < n) && decide (j < n)) = true)
    (h1 : ∀ K' : Act → World → Prop, Shut (∀ a w, S w → (S w → headed P md ops Q S n L f (listed.setIfInBounds i true) a w) → K' a w) → if Region.wanted oi (yielded ops a.tmps) = true then Oper.wp P oi a w K' Q else K' (a.put oi.dst undef) w)
    (h2 : ∀ K' : Act → World → Prop, Shut (∀ a w, S w → (S w → headed P md ops Q S n L f (listed.setIfInBounds j true) a w) → K' a w) → if Region.wanted oj (yielded ops a.tmps) = true then Oper.wp P oj a w K' Q else K' (a.put oj.dst undef) w) : headed P md ops Q S n L (f + 1) listed a w := by
  rw [Bool.and_eq_true, decide_eq_true_eq, decide_eq_true_eq] at hin
  refine ⟨by rw [hr]; simp, fun k hk => ?_⟩
  rw [hr] at hk
  rcases List.mem_cons.1 hk with rfl | hk
  · exact ⟨hin.1, wpOp_step hoi (fun K' hK => h1 K' (fun a w hS hW => hK a w ⟨hS, hW hS⟩))⟩
  · have e : k = j := by simpa using hk
    subst e
    exact ⟨hin.2, wpOp_step hoj (fun K' hK => h2 K' (fun a w hS hW => hK a w ⟨hS, hW hS⟩))⟩
theorem headed_last {listed : Array Bool} {a : Act} {w : World} (h : Region.seqB md ops 1 n listed = true) (hL : L a w) : headed P md ops Q S n L 0 listed a w := ⟨h, hL⟩
theorem region_headed {id : Nat} {l : List Oper} {o : Oper} {a : Act} {w : World} (hm : P.follows .mixedOrders = true) (ho : l.toArray[n]? = some o) (hn : decide (n + 1 = l.toArray.size) = true) (hS : S w.drew)
    (h : S w.drew → headed P .any l.toArray Q S n (fun a w => wpList P l.toArray Q [o] a w) n (Array.replicate l.toArray.size false) a w.drew) : (Code.region id l.toArray true).wp P Q a w := by
  refine wp_region_any hm ?_
  have := headed_any ho (of_decide_eq_true hn) n _ _ _ (h hS)
  rw [← of_decide_eq_true hn]
  rw [← of_decide_eq_true hn] at this
  exact this
end
/-- Only block X has been written. -/
structure OnlyX (X : Nat) (a b : World) : Prop where
  os : b.os = a.os
  tape : b.tape = a.tape
  output : b.output = a.output
  size : b.heap.size = a.heap.size
  block : ∀ k, k ≠ X → b.heap[k]? = a.heap[k]?
theorem OnlyX.refl (X : Nat) (a : World) : OnlyX X a a := ⟨rfl, rfl, rfl, rfl, fun _ _ => rfl⟩
theorem OnlyX.set {X : Nat} {a b : World} (h : OnlyX X a b) (i : Nat) (u : Value) : OnlyX X a (b.setCell ⟨X, i, none⟩ u) :=
  ⟨h.os, h.tape, h.output, (setCell_size _ _ _).trans h.size, fun k hk => (heap_setCell_other b ⟨X, i, none⟩ k _ hk).trans (h.block k hk)⟩
theorem OnlyX.row (w : World) (g : Nat) (cs : Array Value) : OnlyX g w (w.setRow g cs) :=
  ⟨rfl, rfl, rfl, by unfold World.setRow; simp, fun k hk => setRow_other w g k cs hk⟩
/-- A whole struct is stored, in a region that draws no order, or as its last operation. -/
theorem wpList_store_row {P : Program} {ops : Array Oper} {rest : List Oper} {o : Oper} {a : Act} {w : World} {Q : Exit → Act → World → Prop} (hgd : o.guard = none) (ty : TypeId) (x y : Operand) (ho : o.op = .store ty x y)
    (g : Nat) (cells : Array Value) (hx : a.eval x = .pointer (some ⟨g, 0, none⟩)) (hy : a.eval y = .agg cells) (t : TypeId) (old : Array Value) (hg : w.heap[g]? = some (.cells old t (0, 0))) (hi : (P.info? ty).map (·.size) = some cells.size)
    (hold : old.size = cells.size) (h1 : cells.all (·.oneCell') = true) (h : wpList P ops Q rest (a.put o.dst undef) (w.setRow g cells)) : wpList P ops Q (o :: rest) a w :=
  wpList_plain hgd fun _ hK => wp_store_row ty x y ho g cells hx hy t old hg hi hold h1 (hK _ _ h)
end Go.Proofs.YtfnkokfkhjdkfaaDoor

