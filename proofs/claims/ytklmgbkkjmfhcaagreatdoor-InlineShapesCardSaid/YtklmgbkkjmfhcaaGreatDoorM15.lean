/-
  Texts of the proof, one behind the other: Box.
-/
import Derived.Test.YtklmgbkkjmfhcaaGreatDoorM10
import Derived.RangeFuncNested
import Derived.RangeFuncBound
import Derived.RangeFuncCalls
import Derived.RangeFuncLeaves
import Derived.RangeFuncBox
import Derived.Shelf.Abstract
import Derived.OwnWalkIn
import Derived.TacticsInMore
import Derived.LoopNIn
import Derived.LoopIn
/-
  A loop over an iterator that keeps its place in a box of its own; by no layer. (The library's laws let an iterator turn no cell.)
-/
namespace Go.Proofs.YtklmgbkkjmfhcaaGreatDoor
open Go.RowKit Go.Lib Go.Shelf

/-- What may turn while such a loop goes on: block b; blocks from n on. -/
structure Turns (b n : Nat) (A B : World) : Prop where
  os : B.os = A.os
  tape : B.tape = A.tape
  output : B.output = A.output
  size : A.heap.size ≤ B.heap.size
  block : ∀ k, k < n → k ≠ b → B.heap[k]? = A.heap[k]?
theorem Turns.refl (b n : Nat) (A : World) : Turns b n A A := ⟨rfl, rfl, rfl, Nat.le_refl _, fun _ _ _ => rfl⟩
theorem Turns.trans {b n : Nat} {A B C : World} (h : Turns b n A B) (k : Turns b n B C) : Turns b n A C :=
  ⟨k.os.trans h.os, k.tape.trans h.tape, k.output.trans h.output, Nat.le_trans h.size k.size, fun i hi hb => (k.block i hi hb).trans (h.block i hi hb)⟩
theorem Turns.keeps {b n : Nat} {A B : World} (h : Keeps A B) (hn : n ≤ A.heap.size) : Turns b n A B := ⟨h.os, h.tape, h.output, h.size, fun k hk _ => h.block k (by omega)⟩
theorem Turns.put {b n : Nat} (A : World) {r : Nat} (o : Obj) (hr : n ≤ r) : Turns b n A (A.putObj r o) := ⟨rfl, rfl, rfl, by simp, fun _ hk _ => World.putObj_heap_other (by omega)⟩
theorem Turns.box {b n : Nat} (A : World) (v : Value) : Turns b n A (A.setCell ⟨b, 0, none⟩ v) :=
  ⟨rfl, rfl, rfl, by show A.heap.size ≤ (A.heap.modify _ _).size; rw [Array.size_modify]; exact Nat.le_refl _, fun k _ hb => Below.heap_setCell A ⟨b, 0, none⟩ v k hb⟩
/-- .. and what is thrown away: nothing at all, ahead of w's end but b. -/
theorem Turns.below {b n n₀ : Nat} {w A B : World} (h : Below n₀ w A) (k : Turns b n A B) (h1 : n₀ ≤ n) (h2 : n₀ ≤ b) : Below n₀ w B :=
  ⟨k.os.trans h.os, k.tape.trans h.tape, k.output.trans h.output, Nat.le_trans h.size k.size, fun i hi => (k.block i (by omega) (by omega)).trans (h.block i hi)⟩

theorem Keeps.put {A B : World} (h : Keeps A B) {D : Nat} (hD : A.heap.size ≤ D) (o : Obj) : Keeps A (B.putObj D o) :=
  ⟨h.os, h.tape, h.output, by simpa using h.size, fun k hk => (World.putObj_heap_other (by omega)).trans (h.block k hk)⟩

/-- An iterator's word, where it keeps its place in block b of w: J, Jx don't mind what it does with that; each x is Ok; a round that goes on leaves w's blocks as they lie. -/
def SeqBox {α : Type} (n : Nat) (P : Program) (g : Nat) (lb : Array Value) (encs : α → Array Value) (Ok : α → Prop) (b : Nat) (S Sp : List α → Prop) (w : World) : Prop :=
  ∀ (l : Nat) (J Jx : List α → World → Prop) (W : World), Keeps w W →
    (∀ xs A v, J xs A → J xs (A.setCell ⟨b, 0, none⟩ v)) → (∀ xs A v, Jx xs A → Jx xs (A.setCell ⟨b, 0, none⟩ v)) →
    (∀ pre x A, Ok x → J pre A → YieldAt Fence.wide (n - 1) P l (encs x) A fun e B =>
      (e = .returned (.bool true) ∧ J (pre ++ [x]) B ∧ ∀ k, k < w.heap.size → B.heap[k]? = A.heap[k]?) ∨ (e = .returned (.bool false) ∧ Jx (pre ++ [x]) B)) →
    J [] W →
    CallsIn Fence.wide n P g (#[.func (.yield l) #[] #[]] ++ lb) W fun e B => (∃ v, e = .returned v) ∧ ((∃ xs, S xs ∧ J xs B) ∨ (∃ pre, Sp pre ∧ Jx pre B))

/-- How a round of such a loop may be left: it goes on, and has turned nothing that lay; it returns, and has turned nothing from n on. -/
def boxPost {α : Type} (n : Nat) (I Ix : List α → World → Prop) (xs : List α) (A : World) : Exit → Act → World → Prop
  | .normal, _, B => Keeps A B ∧ I xs B
  | .ret, _, B => (∀ k, n ≤ k → k < A.heap.size → B.heap[k]? = A.heap[k]?) ∧ Ix xs B
  | _, _, _ => False

theorem wpIn_rangeBox {α : Type} {n : Nat} {P : Program} {g : Operand} {ps : Array Tmp} {assign body : Code} {Q : Exit → Act → World → Prop} {a : Act} {w : World}
    (h1 : 1 ≤ n) {gf : Nat} {lb : Array Value} (hg : a.eval g = .func (.func gf) #[] lb) (eg : ∀ args w, (callFunc gf args).run P w = .ok (.enter gf args) w)
    {encs : α → Array Value} {Ok : α → Prop} {b : Nat} {S Sp : List α → Prop} (hseq : SeqBox (n - 1) P gf lb encs Ok b S Sp w) (hb : b < w.heap.size) (hps : ∀ x, (encs x).size = ps.size)
    (I Ix : List α → World → Prop) (hI : ∀ xs A B, I xs A → Turns b w.heap.size A B → I xs B) (hIx : ∀ xs A B, Ix xs A → Turns b w.heap.size A B → Ix xs B) (h0 : I [] w) (a₁ : α → Act)
    (hassign : ∀ (l : Nat) (x : α) (W : World) (K : Act → World → Prop), K (a₁ x) W →
      assign.wpIn (Fence.wide.inRound l) (n - 1 - 1) P (Exit.then K (fun _ _ _ => False)) { tmps := (ps.zip (encs x)).foldl (fun t (p, v) => t.setIfInBounds p v) a.tmps, defers := [] } W)
    (hbody : ∀ (l : Nat) (pre : List α) (x : α) (W : World), Ok x → I pre W → w.heap.size ≤ W.heap.size → body.wpIn (Fence.wide.inRound l) (n - 1 - 1) P (boxPost w.heap.size I Ix (pre ++ [x]) W) (a₁ x) W)
    (hdone : ∀ (D : Nat) (xs : List α) (W : World), w.heap.size ≤ D → S xs → I xs W → W.heap[D]? = some (.deferred (some [])) → Q .normal { a with defers := { target := .collected D, args := #[] } :: a.defers } W)
    (hstop : ∀ (D : Nat) (pre : List α) (W : World), w.heap.size ≤ D → Sp pre → Ix pre W → W.heap[D]? = some (.deferred (some [])) → Code.ret.wpIn Fence.wide n P Q { a with defers := { target := .collected D, args := #[] } :: a.defers } W) :
    (Code.rangeFunc g ps assign body).wpIn Fence.wide n P Q a w := by
  refine wpIn_rangeFunc fun fn hfn => ?_
  obtain ⟨N, hN⟩ : ∃ N, w.heap.size = N := ⟨_, rfl⟩
  rw [hN] at hb hI hIx hdone hstop hbody
  obtain ⟨R, hR⟩ : ∃ R : LoopState → Option Code → Loop, R = fun st pe => { state := st, pending := pe, fn, tmps := a.tmps, params := ps, assign, body, defers := N } := ⟨_, rfl⟩
  have hRs : ∀ st pe, (R st pe).state = st ∧ (R st pe).pending = pe ∧ (R st pe).fn = fn ∧ (R st pe).tmps = a.tmps ∧ (R st pe).params = ps ∧ (R st pe).assign = assign ∧ (R st pe).body = body := fun st pe => by rw [hR]; exact ⟨rfl, rfl, rfl, rfl, rfl, rfl, rfl⟩
  have hRu : ∀ st pe st', { R st pe with state := st' } = R st' pe := fun st pe st' => by rw [hR]
  have hRv : ∀ st pe st' pe', { R st pe with state := st', pending := pe' } = R st' pe' := fun st pe st' pe' => by rw [hR]
  obtain ⟨W1, hW1⟩ : ∃ W1, (w.alloc (.deferred (some []))).alloc (.loop (R .ready none)) = W1 := ⟨_, rfl⟩
  have hK : Keeps w W1 := by rw [← hW1]; exact ((Keeps.refl w).alloc _).alloc _
  have hD1 : W1.heap[N]? = some (.deferred (some [])) := by
    rw [← hW1, ← hN]
    exact (Below.heap_alloc _ _ _ (by simp)).trans (World.alloc_heap_new w _)
  have hL1 : W1.heap[N + 1]? = some (.loop (R .ready none)) := by
    have := World.alloc_heap_new (w.alloc (.deferred (some []))) (.loop (R .ready none))
    rwa [World.size_alloc, hW1, hN] at this
  have en : (Instr.enterLoop fn a.tmps ps assign body none).run P w = .ok (N + 1, [{ target := .collected N, args := #[] }]) W1 := by
    have := run_enterLoop_outer (P := P) (w := w) fn a.tmps ps assign body
    rw [← hW1, hR, ← hN]
    exact this
  refine ⟨N + 1, [{ target := .collected N, args := #[] }], W1, { target := .fn (.func gf) lb, args := #[.func (.yield (N + 1)) #[] #[]] }, W1, gf, #[.func (.yield (N + 1)) #[] #[]] ++ lb, W1, en, ?_, fun _ _ => trivial, ?_, fun _ => h1, ?_⟩
  · simp only [resolve, hg]
    simp [go_sem]
  · simp [invoke, go_sem, eg]
  -- the two blocks of the loop's book-keeping
  have hset : ∀ (A : World) (v : Value) (k : Nat), N ≤ k → (A.setCell ⟨b, 0, none⟩ v).heap[k]? = A.heap[k]? := fun A v k hk => Below.heap_setCell A ⟨b, 0, none⟩ v k (by show k ≠ b; omega)
  refine (hseq (N + 1)
    (fun pre W => I pre W ∧ N ≤ W.heap.size ∧ W.heap[N + 1]? = some (.loop (R .ready none)) ∧ W.heap[N]? = some (.deferred (some [])))
    (fun pre W => Ix pre W ∧ W.heap[N + 1]? = some (.loop (R .done (some .ret))) ∧ W.heap[N]? = some (.deferred (some [])))
    W1 hK
    (fun xs A v hs => ⟨hI _ _ _ hs.1 (Turns.box A v), Nat.le_trans hs.2.1 (Turns.box (n := N) A v).size, (hset A v _ (by omega)).trans hs.2.2.1, (hset A v _ (Nat.le_refl _)).trans hs.2.2.2⟩)
    (fun xs A v hs => ⟨hIx _ _ _ hs.1 (Turns.box A v), (hset A v _ (by omega)).trans hs.2.1, (hset A v _ (Nat.le_refl _)).trans hs.2.2⟩)
    ?_ ⟨hI _ _ _ h0 (Turns.keeps hK (by omega)), by rw [← hN]; exact hK.size, hL1, hD1⟩).mono ?_
  · rintro pre x A hok ⟨hi, hz, hl, hd⟩
    obtain ⟨r1, r2, r3, r4, r5, r6, r7⟩ := hRs .ready none
    have hlt : N + 1 < A.heap.size := (Array.getElem?_eq_some_iff.1 hl).1
    have hy := run_yield (P := P) (args := encs x) hl (by rw [r5]; exact hps x)
    rw [r3, r4, r5, r6, r7] at hy
    have hbr := run_beginRound (P := P) hl r1
    rw [hRu] at hbr
    refine ⟨fn, _, assign, body, hy, roundIn_of_wpIn hfn (hassign _ x A _ ⟨_, hbr, ?_⟩)⟩
    have hl2 : (A.putObj (N + 1) (.loop (R .busy none))).heap[N + 1]? = some (.loop (R .busy none)) := World.putObj_heap_same hlt
    have hd2 : (A.putObj (N + 1) (.loop (R .busy none))).heap[N]? = some (.deferred (some [])) := (World.putObj_heap_other (by omega)).trans hd
    refine wpIn_mono (hbody _ pre x _ hok (hI _ _ _ hi (Turns.put A _ (by omega))) (by simpa using hz)) ?_
    rintro e a3 C hp
    have ended : ∀ (jump : Option Code), (∀ k, N ≤ k → k < A.heap.size → C.heap[k]? = (A.putObj (N + 1) (.loop (R .busy none))).heap[k]?) →
        (Instr.endRound (N + 1) jump).run P C = .ok (.bool jump.isNone) (C.putObj (N + 1) (.loop (R (if jump.isNone then .ready else .done) jump))) ∧
        (C.putObj (N + 1) (.loop (R (if jump.isNone then .ready else .done) jump))).heap[N + 1]? = some (.loop (R (if jump.isNone then .ready else .done) jump)) ∧
        (C.putObj (N + 1) (.loop (R (if jump.isNone then .ready else .done) jump))).heap[N]? = some (.deferred (some [])) := fun jump hk => by
      have hl3 := (hk (N + 1) (by omega) hlt).trans hl2
      have := run_endRound (P := P) jump hl3
      rw [hRv] at this
      exact ⟨this, World.putObj_heap_same (Array.getElem?_eq_some_iff.1 hl3).1, (World.putObj_heap_other (by omega)).trans ((hk N (Nat.le_refl _) (by omega)).trans hd2)⟩
    cases e with
    | normal =>
      obtain ⟨hk3, hi3⟩ := hp
      obtain ⟨hr, hl4, hd4⟩ := ended none (fun k _ hk => hk3.block k (by simpa using hk))
      have hz3 : N ≤ C.heap.size := Nat.le_trans hz (Nat.le_trans (by simp) hk3.size)
      exact ⟨_, _, hr, .inl ⟨rfl, ⟨hI _ _ _ hi3 (Turns.put C _ (by omega)), by simpa using hz3, hl4, hd4⟩, fun k hk => by
        rw [hN] at hk
        exact (World.putObj_heap_other (by omega)).trans ((hk3.block k (by simp; omega)).trans (World.putObj_heap_other (by omega)))⟩⟩
    | ret =>
      obtain ⟨hk3, hi3⟩ := hp
      obtain ⟨hr, hl4, hd4⟩ := ended (some .ret) (fun k hn hk => hk3 k hn (by simpa using hk))
      exact ⟨_, _, hr, .inr ⟨rfl, hIx _ _ _ hi3 (Turns.put C _ (by omega)), hl4, hd4⟩⟩
    | exit id => exact hp.elim
    | goto t => exact hp.elim
    | panic ch => exact hp.elim
    | outgrown => exact hp.elim
  · rintro e W2 ⟨⟨v, rfl⟩, (⟨xs, hS, hi, _, hl, hd⟩ | ⟨pre, hSp, hi, hl, hd⟩)⟩
    · have r := hRs .ready none
      have he := run_endLoop (P := P) hl (by rw [r.1]; simp)
      rw [r.2.1] at he
      exact ⟨none, _, he, hdone _ xs _ (Nat.le_refl _) hS (hI _ _ _ hi (Turns.put W2 _ (by omega))) ((World.putObj_heap_other (by omega)).trans hd)⟩
    · have r := hRs .done (some .ret)
      have he := run_endLoop (P := P) hl (by rw [r.1]; simp)
      rw [r.2.1] at he
      exact ⟨some .ret, _, he, hstop _ pre _ (Nat.le_refl _) hSp (hIx _ _ _ hi (Turns.put W2 _ (by omega))) ((World.putObj_heap_other (by omega)).trans hd)⟩
end Go.Proofs.YtklmgbkkjmfhcaaGreatDoor

