/-
  Pile[int]'s iterators, All and Down: whoever ranges over one of them is told the pile's things, from the bottom on, or from the top on, or the first of these.
-/
import Derived.Test.YtafklopkjbdlkaaPilc
import Derived.RangeFuncNested
import Derived.RangeFuncBound
import Derived.RangeFuncCalls
import Derived.RangeFuncLeaves
import Derived.RangeFuncBox
import Derived.Shelf.Abstract
import Derived.OwnWalkIn
import Derived.TacticsInMore
import Derived.LoopNIn
import Derived.LoopIn
namespace Go.Proofs.Ytafklopkjbdlkaa
open Go.RowKit Go.Lib Go.Shelf

attribute [local go_sem] Oper.semAt_some

/-- The pointer p, a nil one or a pile's, has the things xs; all of it lies below n₀. -/
def Lie (n₀ : Nat) (W : World) (p : Option Addr) (xs : List Int) : Prop :=
  (p = none ∧ xs = []) ∨ ∃ m B v, p = some ⟨B, 0, none⟩ ∧ PI m W B v xs ∧ B < n₀ ∧ ∀ g, v.ownBlock = some g → g < n₀

theorem Lie.below {n₀ : Nat} {W W' : World} {p : Option Addr} {xs : List Int} (h : Lie n₀ W p xs) (b : Below n₀ W W') : Lie n₀ W' p xs := by
  rcases h with h | ⟨m, B, v, rfl, k, hB, hg⟩
  · exact .inl h
  · refine .inr ⟨m, B, v, rfl, ⟨(b.block B hB).trans k.box, k.low, k.row.1, ?_⟩, hB, hg⟩
    rcases k.row.2 with hn | ⟨g, cap, cur, rfl, hb, hgg, rest⟩
    · exact .inl hn
    · exact .inr ⟨g, cap, cur, rfl, hb, (b.block g (hg g rfl)).trans hgg, rest⟩
theorem Lie.of {n₀ m B : Nat} {W : World} {v : Value} {xs : List Int} (k : PI m W B v xs) (h : W.heap.size ≤ n₀) : Lie n₀ W (some ⟨B, 0, none⟩) xs :=
  .inr ⟨m, B, v, rfl, k, Nat.lt_of_lt_of_le k.box.lt h, fun g hg => Nat.lt_of_lt_of_le (k.row.lt g hg).2 h⟩
theorem Lie.nil (n₀ : Nat) (W : World) : Lie n₀ W none [] := .inl ⟨rfl, rfl⟩

theorem len_lie {n₀ : Nat} {W : World} {p : Option Addr} {xs : List Int} (h : Lie n₀ W p xs) :
    Calls Try.prog 18 #[.pointer p] W fun e w' => e = .returned (.int .i64 (xs.length : Int)) ∧ W = w' := by
  rcases h with ⟨rfl, rfl⟩ | ⟨m, B, v, rfl, k, _, _⟩
  · exact lenI_nil W
  · exact lenI_any k
theorem at_lie {n₀ : Nat} {W : World} {p : Option Addr} {xs : List Int} (h : Lie n₀ W p xs) (k : Nat) (hk : k < xs.length) :
    Calls Try.prog 15 #[.pointer p, .int .i64 (k : Int)] W fun e w' => e = .returned (.tuple #[.int .i64 (xs[k]?.getD 0), .bool true]) ∧ W = w' := by
  rcases h with ⟨rfl, rfl⟩ | ⟨m, B, v, rfl, h, _, _⟩
  · exact absurd hk (by simp)
  · refine (atI_hit h k hk).mono fun e w' ⟨he, hw⟩ => ⟨?_, hw⟩
    rw [he, List.getD]

/-- The first k things that f tells. -/
def upto {α : Type} (f : Nat → α) (k : Nat) : List α := (List.range k).map f
theorem upto_succ {α : Type} (f : Nat → α) (k : Nat) : upto f (k + 1) = upto f k ++ [f k] := by simp [upto, List.range_succ]
theorem upto_length {α : Type} (f : Nat → α) (k : Nat) : (upto f k).length = k := by simp [upto]

/-- What a round that goes on keeps: whatever lies below n₀, and the block Bn, which holds the pointer. -/
def Kept (n₀ Bn : Nat) (W W' : World) : Prop := Below n₀ W W' ∧ W'.heap[Bn]? = W.heap[Bn]?
theorem Kept.refl (n₀ Bn : Nat) (W : World) : Kept n₀ Bn W W := ⟨Below.refl _ _, rfl⟩
theorem Kept.trans {n₀ Bn : Nat} {A B C : World} (h : Kept n₀ Bn A B) (k : Kept n₀ Bn B C) : Kept n₀ Bn A C := ⟨h.1.trans k.1, k.2.trans h.2⟩
theorem Kept.box {n₀ Bn : Nat} {W W' : World} (h : Kept n₀ Bn W W') : W'.cell? ⟨Bn, 0, none⟩ = W.cell? ⟨Bn, 0, none⟩ := World.cell?_of_block (w := W) h.2
theorem kept_b {n₀ Bn : Nat} {w : World} (hn : n₀ ≤ w.heap.size) (hB : Bn < w.heap.size) (W : World) (l : Nat) (o o' : Obj) (hl : w.heap.size ≤ l) (h : W.heap[l]? = some o) (h1 : o.isCells = false) (h2 : o.isWalk = false) : Kept n₀ Bn W (W.putObj l o') :=
  ⟨belowK_b hn W l o o' hl h h1 h2, World.putObj_heap_other (by omega)⟩

set_option maxRecDepth 100000 in
set_option maxHeartbeats 2000000 in
theorem all1_in (n : Nat) (hn : 1 ≤ n) (l Bn n₀ : Nat) (p : Option Addr) (xs : List Int) (hl : xs.length ≤ 1000) (J Jx : List (Nat × Int) → World → Prop)
    (hY : ∀ pre x W, J pre W → pre.length < xs.length → YieldAt Fence.wide (n - 1) Try.prog l #[.int .i64 (x.1 : Int), .int .i64 x.2] W fun e W' =>
      (e = .returned (.bool true) ∧ J (pre ++ [x]) W' ∧ Kept n₀ Bn W W') ∨ (e = .returned (.bool false) ∧ Jx (pre ++ [x]) W'))
    (W : World) (hBn : W.cell? ⟨Bn, 0, none⟩ = some (.pointer p)) (hL : Lie n₀ W p xs) (h0 : J [] W) :
    CallsIn Fence.wide n Try.prog 27 #[.func (.yield l) #[] #[], .pointer (some ⟨Bn, 0, none⟩)] W fun e W' => (∃ v, e = .returned v) ∧
      ((∃ ys, ys = upto (fun j => (j, xs[j]?.getD 0)) xs.length ∧ J ys W') ∨ (∃ pre, (∃ k, k ≤ xs.length ∧ pre = upto (fun j => (j, xs[j]?.getD 0)) k) ∧ Jx pre W')) := by
  have LN := Lib.hid (len_lie hL)
  refine callsIn_of_wp Try.func27 rfl trivial ?_ rfl
  simp only [Try.ntmps27, List.size_toArray, List.length_cons, List.length_nil, Nat.reduceAdd, Nat.reduceSub, Array.replicate_succ, Array.replicate_zero, List.push_toArray, List.append_toArray, List.nil_append, List.cons_append]
  gi_wp2_with fail
  refine ⟨trivial, (callsIn_wide.2 LN.out).mono ?_⟩
  rintro e w1 ⟨rfl, rfl⟩
  gi_wp2_with fail
  gi_loopw [8] (fun i wr => ∃ k : Nat, k ≤ xs.length ∧ i = .int .i64 k ∧ J (upto (fun j => (j, xs[j]?.getD 0)) k) wr ∧ Kept n₀ Bn W wr)
    (fun i _ => xs.length - (RowKit.intOf i).toNat)
  case atStart => exact ⟨0, Nat.zero_le _, rfl, h0, Kept.refl _ _ _⟩
  case round =>
    obtain ⟨k, hk, rfl, hJs, hnx⟩ := hrel
    have hbc : wr.cell? ⟨Bn, 0, none⟩ = some (.pointer p) := hnx.box.trans hBn
    by_cases hlt : k < xs.length
    · obtain ⟨x, HX⟩ : ∃ x, Hid (xs[k]?.getD 0 = x) := ⟨_, rfl⟩
      obtain ⟨fn, tmps, assign, body, hy, hR⟩ := hY _ (k, x) wr hJs (by rw [upto_length]; exact hlt)
      dsimp only at hy
      have at' := at_lie (hL.below hnx.1) k hlt
      rw [HX.out] at at'
      have AT := Lib.hid at'
      clear at'
      gi_wp2_with fail
      refine ⟨trivial, (callsIn_wide.2 AT.out).mono ?_⟩
      rintro e w1 ⟨rfl, rfl⟩
      gi_wp2_with fail
      refine hR.mono ?_
      rintro e W3 (⟨rfl, hJ3, hk3⟩ | ⟨rfl, hJx3⟩)
      · gi_wp2_with fail
        go_roundw
        case rel => exact ⟨k + 1, by omega, by go_num, by rw [upto_succ, HX.out]; exact hJ3, hnx.trans hk3⟩
        case measure => simp [RowKit.intOf]; omega
      · gi_wp2_with fail
        refine bodyPost_ret (results_none rfl _ _ _) rfl ?_
        exact ⟨⟨_, rfl⟩, .inr ⟨_, ⟨k + 1, by omega, by rw [upto_succ, HX.out]⟩, hJx3⟩⟩
    · obtain rfl : k = xs.length := by omega
      gi_wp2_with fail
      go_end0
      exact ⟨⟨_, rfl⟩, .inl ⟨_, rfl, hJs⟩⟩

set_option maxRecDepth 100000 in
set_option maxHeartbeats 2000000 in
theorem down1_in (n : Nat) (hn : 1 ≤ n) (l Bn n₀ : Nat) (p : Option Addr) (xs : List Int) (hl : xs.length ≤ 1000) (J Jx : List Int → World → Prop)
    (hY : ∀ pre x W, J pre W → pre.length < xs.length → YieldAt Fence.wide (n - 1) Try.prog l #[.int .i64 x] W fun e W' =>
      (e = .returned (.bool true) ∧ J (pre ++ [x]) W' ∧ Kept n₀ Bn W W') ∨ (e = .returned (.bool false) ∧ Jx (pre ++ [x]) W'))
    (W : World) (hBn : W.cell? ⟨Bn, 0, none⟩ = some (.pointer p)) (hL : Lie n₀ W p xs) (h0 : J [] W) :
    CallsIn Fence.wide n Try.prog 28 #[.func (.yield l) #[] #[], .pointer (some ⟨Bn, 0, none⟩)] W fun e W' => (∃ v, e = .returned v) ∧
      ((∃ ys, ys = upto (fun j => xs[xs.length - 1 - j]?.getD 0) xs.length ∧ J ys W') ∨ (∃ pre, (∃ k, k ≤ xs.length ∧ pre = upto (fun j => xs[xs.length - 1 - j]?.getD 0) k) ∧ Jx pre W')) := by
  have LN := Lib.hid (len_lie hL)
  obtain ⟨f, HF⟩ : ∃ f : Nat → Int, Hid ((fun j => xs[xs.length - 1 - j]?.getD 0) = f) := ⟨_, rfl⟩
  rw [HF.out]
  refine callsIn_of_wp Try.func28 rfl trivial ?_ rfl
  simp only [Try.ntmps28, List.size_toArray, List.length_cons, List.length_nil, Nat.reduceAdd, Nat.reduceSub, Array.replicate_succ, Array.replicate_zero, List.push_toArray, List.append_toArray, List.nil_append, List.cons_append]
  gi_wp2_with fail
  refine ⟨trivial, (callsIn_wide.2 LN.out).mono ?_⟩
  rintro e w1 ⟨rfl, rfl⟩
  gi_wp2_with fail
  gi_loopw [3] (fun i wr => ∃ r : Nat, r ≤ xs.length ∧ i = .int .i64 ((r : Int) - 1) ∧ J (upto f (xs.length - r)) wr ∧ Kept n₀ Bn W wr)
    (fun i _ => ((RowKit.intOf i) + 1).toNat)
  case atStart => exact ⟨xs.length, Nat.le_refl _, rfl, by rw [Nat.sub_self]; exact h0, Kept.refl _ _ _⟩
  case round =>
    obtain ⟨r, hr, rfl, hJs, hnx⟩ := hrel
    have hbc : wr.cell? ⟨Bn, 0, none⟩ = some (.pointer p) := hnx.box.trans hBn
    cases r with
    | succ r =>
      have e1 : ((r + 1 : Nat) : Int) - 1 = (r : Int) := by omega
      rw [e1]
      obtain ⟨x, HX⟩ : ∃ x, Hid (xs[r]?.getD 0 = x) := ⟨_, rfl⟩
      obtain ⟨fn, tmps, assign, body, hy, hR⟩ := hY _ x wr hJs (by rw [upto_length]; omega)
      have at' := at_lie (hL.below hnx.1) r (by omega)
      rw [HX.out] at at'
      have AT := Lib.hid at'
      have HK : Hid (upto f (xs.length - r) = upto f (xs.length - (r + 1)) ++ [x]) := by
        show _ = _
        rw [show xs.length - r = (xs.length - (r + 1)) + 1 by omega, upto_succ, ← HF.out]
        show _ ++ [xs[xs.length - 1 - (xs.length - (r + 1))]?.getD 0] = _
        rw [show xs.length - 1 - (xs.length - (r + 1)) = r by omega, HX.out]
      clear at' e1
      gi_wp2_with fail
      refine ⟨trivial, (callsIn_wide.2 AT.out).mono ?_⟩
      rintro e w1 ⟨rfl, rfl⟩
      gi_wp2_with fail
      refine hR.mono ?_
      rintro e W3 (⟨rfl, hJ3, hk3⟩ | ⟨rfl, hJx3⟩)
      · gi_wp2_with fail
        go_roundw
        case rel => exact ⟨r, by omega, rfl, by rw [HK.out]; exact hJ3, hnx.trans hk3⟩
        case measure => simp [RowKit.intOf]
      · gi_wp2_with fail
        refine bodyPost_ret (results_none rfl _ _ _) rfl ?_
        exact ⟨⟨_, rfl⟩, .inr ⟨_, ⟨xs.length - r, by omega, HK.out.symm⟩, hJx3⟩⟩
    | zero =>
      gi_wp2_with fail
      go_end0
      exact ⟨⟨_, rfl⟩, .inl ⟨_, rfl, hJs⟩⟩

set_option maxHeartbeats 1000000 in
theorem all_in (n : Nat) (p : Option Addr) (w : World) :
    CallsIn Fence.wide n Try.prog 25 #[.pointer p] w fun e w' => e = .returned (.func (.func 27) #[] #[.pointer (some ⟨w.heap.size, 0, none⟩)]) ∧ w' = w.alloc (.cells #[.pointer p] 47) := by
  refine callsIn_of_wp Try.func25 rfl trivial ?_ rfl
  simp only [Try.ntmps25, List.size_toArray, List.length_cons, List.length_nil, Nat.reduceAdd, Nat.reduceSub, Array.replicate_succ, Array.replicate_zero, List.push_toArray, List.append_toArray, List.nil_append, List.cons_append]
  gi_wp2_with fail
  go_ret
  exact ⟨rfl, rfl⟩
set_option maxHeartbeats 1000000 in
theorem down_in (n : Nat) (p : Option Addr) (w : World) :
    CallsIn Fence.wide n Try.prog 26 #[.pointer p] w fun e w' => e = .returned (.func (.func 28) #[] #[.pointer (some ⟨w.heap.size, 0, none⟩)]) ∧ w' = w.alloc (.cells #[.pointer p] 47) := by
  refine callsIn_of_wp Try.func26 rfl trivial ?_ rfl
  simp only [Try.ntmps26, List.size_toArray, List.length_cons, List.length_nil, Nat.reduceAdd, Nat.reduceSub, Array.replicate_succ, Array.replicate_zero, List.push_toArray, List.append_toArray, List.nil_append, List.cons_append]
  gi_wp2_with fail
  go_ret
  exact ⟨rfl, rfl⟩

/-- A function value isn't nil. -/
theorem cmpAll (lb : Array Value) (W : World) : (binOp BinOp.eql 55 (.func (.func 27) #[] lb) .nilFunc).run Try.prog W = .ok (.bool false) W := by kernel_rfl
theorem cmpDown (lb : Array Value) (W : World) : (binOp BinOp.eql 58 (.func (.func 28) #[] lb) .nilFunc).run Try.prog W = .ok (.bool false) W := by kernel_rfl

/-- What All hands back: a pile's places and things, in order; all of them, or the first k. n₀: the heap's size when the loop's function, or what it calls, had laid the pointer's box. -/
theorem all_stops (n : Nat) (hn : 1 ≤ n) (Bn n₀ : Nat) (p : Option Addr) (xs : List Int) (hl : xs.length ≤ 1000) (w : World) (hBl : Bn < w.heap.size) (hn₀ : n₀ ≤ w.heap.size) (hc : w.cell? ⟨Bn, 0, none⟩ = some (.pointer p)) (hL : Lie n₀ w p xs) :
    SeqStopsK Fence.wide n Try.prog 27 #[.pointer (some ⟨Bn, 0, none⟩)] (fun x : Nat × Int => #[Value.int .i64 (x.1 : Int), Value.int .i64 x.2]) (Kept n₀ Bn)
      (fun ys => ys = upto (fun j => (j, xs[j]?.getD 0)) xs.length) (fun pre => ∃ k, k ≤ xs.length ∧ pre = upto (fun j => (j, xs[j]?.getD 0)) k) xs.length w := fun l J Jx W hW _ _ hY h0 =>
  all1_in n hn l Bn n₀ p xs hl J Jx hY W ((hW.cell (p := ⟨Bn, 0, none⟩) hBl).trans hc) (hL.below (hW.mono hn₀)) h0
theorem down_stops (n : Nat) (hn : 1 ≤ n) (Bn n₀ : Nat) (p : Option Addr) (xs : List Int) (hl : xs.length ≤ 1000) (w : World) (hBl : Bn < w.heap.size) (hn₀ : n₀ ≤ w.heap.size) (hc : w.cell? ⟨Bn, 0, none⟩ = some (.pointer p)) (hL : Lie n₀ w p xs) :
    SeqStopsK Fence.wide n Try.prog 28 #[.pointer (some ⟨Bn, 0, none⟩)] (fun x : Int => #[Value.int .i64 x]) (Kept n₀ Bn)
      (fun ys => ys = upto (fun j => xs[xs.length - 1 - j]?.getD 0) xs.length) (fun pre => ∃ k, k ≤ xs.length ∧ pre = upto (fun j => xs[xs.length - 1 - j]?.getD 0) k) xs.length w := fun l J Jx W hW _ _ hY h0 =>
  down1_in n hn l Bn n₀ p xs hl J Jx hY W ((hW.cell (p := ⟨Bn, 0, none⟩) hBl).trans hc) (hL.below (hW.mono hn₀)) h0
end Go.Proofs.Ytafklopkjbdlkaa
