/-
  Three piles side by side, of numbers, of texts, and the document's: each operation of one leaves the others as they were.
-/
import Derived.Test.YtafklopkjbdlkaaPaw
import Derived.Test.YtafklopkjbdlkaaPilq
import Derived.Lib.AppendIntMem
namespace Go.Proofs.Ytafklopkjbdlkaa
open Go.RowKit Go.Lib

/-- Numbers xs at P, texts ys at S, the document's numbers zs at R; what lay in w0 lies as it lay. -/
structure Tri (w0 : World) (P S R : Nat) (W : World) (xs : List Int) (ys : List ByteArray) (zs : List Int) (v u r : Value) : Prop where
  hp : PI w0.heap.size W P v xs
  hs : PS w0.heap.size W S u ys
  hr : PR w0.heap.size W R r zs
  ps : Apart P v S u
  pr : Apart P v R r
  sr : Apart S u R r
  bel : Below w0.heap.size w0 W

variable {w0 W : World} {P S R : Nat} {xs : List Int} {ys : List ByteArray} {zs : List Int} {v u r : Value}

theorem Tri.setP (h : Tri w0 P S R W xs ys zs v u r) {w1 : World} {v' : Value} {xs' : List Int} (k : PI w0.heap.size w1 P v' xs') (m : Moved W w1 P v v') : Tri w0 P S R w1 xs' ys zs v' u r :=
  ⟨k, h.hs.other m h.ps, h.hr.other m h.pr, h.ps.moved m h.hs, h.pr.moved m h.hr, h.sr, h.bel.trans (m.bel h.hp h.bel.size)⟩
theorem Tri.setS (h : Tri w0 P S R W xs ys zs v u r) {w1 : World} {u' : Value} {ys' : List ByteArray} (k : PS w0.heap.size w1 S u' ys') (m : Moved W w1 S u u') : Tri w0 P S R w1 xs ys' zs v u' r :=
  ⟨h.hp.other m h.ps.symm, k, h.hr.other m h.sr, (h.ps.symm.moved m h.hp).symm, h.pr, h.sr.moved m h.hr, h.bel.trans (m.bel h.hs h.bel.size)⟩
theorem Tri.setR (h : Tri w0 P S R W xs ys zs v u r) {w1 : World} {r' : Value} {zs' : List Int} (k : PR w0.heap.size w1 R r' zs') (m : Moved W w1 R r r') : Tri w0 P S R w1 xs ys zs' v u r' :=
  ⟨h.hp.other m h.pr.symm, h.hs.other m h.sr.symm, k, h.ps, (h.pr.symm.moved m h.hp).symm, (h.sr.symm.moved m h.hs).symm, h.bel.trans (m.bel h.hr h.bel.size)⟩
theorem Tri.below (h : Tri w0 P S R W xs ys zs v u r) {w1 : World} (k : Below W.heap.size W w1) : Tri w0 P S R w1 xs ys zs v u r :=
  ⟨h.hp.keep k, h.hs.keep k, h.hr.keep k, h.ps, h.pr, h.sr, h.bel.trans (k.mono h.bel.size)⟩

/-- The same, whatever the slices are. -/
def Tris (w0 : World) (P S R : Nat) (W : World) (xs : List Int) (ys : List ByteArray) (zs : List Int) : Prop := ∃ v u r, Tri w0 P S R W xs ys zs v u r
theorem Tris.below (h : Tris w0 P S R W xs ys zs) {w1 : World} (k : Below W.heap.size W w1) : Tris w0 P S R w1 xs ys zs := by
  obtain ⟨v, u, r, h⟩ := h
  exact ⟨v, u, r, h.below k⟩
theorem Tris.bel (h : Tris w0 P S R W xs ys zs) : Below w0.heap.size w0 W := by
  obtain ⟨v, u, r, h⟩ := h
  exact h.bel

theorem Tris.start (w : World) : Tris w w.heap.size (w.heap.size + 1) (w.heap.size + 2) (((w.alloc (.cells #[.slice none 0 0] 25)).alloc (.cells #[.slice none 0 0] 28)).alloc (.cells #[.slice none 0 0] 30)) [] [] [] := by
  refine ⟨_, _, _, ⟨((Boxed.new w _ _).alloc _).alloc _, Nat.le_refl _, World.ownsRow_nil _ _ _ _⟩, ⟨?_, by omega, World.ownsRow_nil _ _ _ _⟩, ⟨?_, by omega, World.ownsRow_nil _ _ _ _⟩, ⟨by omega, by simp [Value.ownBlock], by simp [Value.ownBlock], by simp [Value.ownBlock]⟩, ⟨by omega, by simp [Value.ownBlock], by simp [Value.ownBlock], by simp [Value.ownBlock]⟩, ⟨by omega, by simp [Value.ownBlock], by simp [Value.ownBlock], by simp [Value.ownBlock]⟩, ?_⟩
  · have := (Boxed.new (w.alloc (.cells #[.slice none 0 0] 25)) 28 (.slice none 0 0)).alloc (.cells #[.slice none 0 0] 30)
    rwa [World.size_alloc] at this
  · have := Boxed.new ((w.alloc (.cells #[.slice none 0 0] 25)).alloc (.cells #[.slice none 0 0] 28)) 30 (.slice none 0 0)
    rwa [World.size_alloc, World.size_alloc] at this
  · exact (((Below.refl _ w).alloc (Nat.le_refl _) _).alloc (by simp) _).alloc (by simp; omega) _

theorem triPush (h : Tris w0 P S R W xs ys zs) (hl : xs.length ≤ 1000) (x : Int) :
    Calls Try.prog 6 #[.pointer (some ⟨P, 0, none⟩), .int .i64 x] W fun e w' => e = .returned (.tuple #[]) ∧ Tris w0 P S R w' (xs ++ [x]) ys zs := by
  obtain ⟨v, u, r, h⟩ := h
  exact (pushI_any h.hp h.bel.size hl x).mono fun e w' ⟨he, v', k, m⟩ => ⟨he, _, _, _, h.setP k m⟩
theorem triPushS (h : Tris w0 P S R W xs ys zs) (hl : ys.length ≤ 1000) (x : ByteArray) :
    Calls Try.prog 7 #[.pointer (some ⟨S, 0, none⟩), .string x] W fun e w' => e = .returned (.tuple #[]) ∧ Tris w0 P S R w' xs (ys ++ [x]) zs := by
  obtain ⟨v, u, r, h⟩ := h
  exact (pushS_any h.hs h.bel.size hl x).mono fun e w' ⟨he, v', k, m⟩ => ⟨he, _, _, _, h.setS k m⟩
theorem triPushR (h : Tris w0 P S R W xs ys zs) (hl : zs.length ≤ 1000) (x : Int) :
    Calls Try.prog 8 #[.pointer (some ⟨R, 0, none⟩), .int .i64 x] W fun e w' => e = .returned (.tuple #[]) ∧ Tris w0 P S R w' xs ys (zs ++ [x]) := by
  obtain ⟨v, u, r, h⟩ := h
  exact (pushR_any h.hr h.bel.size hl x).mono fun e w' ⟨he, v', k, m⟩ => ⟨he, _, _, _, h.setR k m⟩
theorem triCut (h : Tris w0 P S R W xs ys zs) (i : Int) :
    Calls Try.prog 12 #[.pointer (some ⟨P, 0, none⟩), .int .i64 i] W fun e w' => e = .returned (.tuple #[]) ∧ Tris w0 P S R w' (cutI xs i) ys zs := by
  obtain ⟨v, u, r, h⟩ := h
  exact (cutI_any h.hp i).mono fun e w' ⟨he, v', k, m⟩ => ⟨he, _, _, _, h.setP k m⟩
theorem triCutS (h : Tris w0 P S R W xs ys zs) (i : Int) :
    Calls Try.prog 13 #[.pointer (some ⟨S, 0, none⟩), .int .i64 i] W fun e w' => e = .returned (.tuple #[]) ∧ Tris w0 P S R w' xs (cutS ys i) zs := by
  obtain ⟨v, u, r, h⟩ := h
  exact (cutS_any h.hs i).mono fun e w' ⟨he, v', k, m⟩ => ⟨he, _, _, _, h.setS k m⟩
theorem triCutR (h : Tris w0 P S R W xs ys zs) (hl : zs.length ≤ 1000) (i : Int) :
    Calls Try.prog 14 #[.pointer (some ⟨R, 0, none⟩), .int .i64 i] W fun e w' => e = .returned (.tuple #[]) ∧ Tris w0 P S R w' xs ys (cutI zs i) := by
  obtain ⟨v, u, r, h⟩ := h
  exact (cutR_any h.hr h.bel.size hl i).mono fun e w' ⟨he, v', k, m⟩ => ⟨he, _, _, _, h.setR k m⟩
theorem triPop (h : Tris w0 P S R W xs ys zs) :
    Calls Try.prog 9 #[.pointer (some ⟨P, 0, none⟩)] W fun e w' => e = .returned (.tuple #[.int .i64 (atI xs ((xs.length : Int) - 1)), .bool (is xs.length ((xs.length : Int) - 1))]) ∧ Tris w0 P S R w' (cutI xs ((xs.length : Int) - 1)) ys zs := by
  obtain ⟨v, u, r, h⟩ := h
  exact (popI_any h.hp).mono fun e w' ⟨he, v', k, m⟩ => ⟨he, _, _, _, h.setP k m⟩
theorem triPopS (h : Tris w0 P S R W xs ys zs) :
    Calls Try.prog 11 #[.pointer (some ⟨S, 0, none⟩)] W fun e w' => e = .returned (.tuple #[.string (atS ys ((ys.length : Int) - 1)), .bool (is ys.length ((ys.length : Int) - 1))]) ∧ Tris w0 P S R w' xs (cutS ys ((ys.length : Int) - 1)) zs := by
  obtain ⟨v, u, r, h⟩ := h
  exact (popS_any h.hs).mono fun e w' ⟨he, v', k, m⟩ => ⟨he, _, _, _, h.setS k m⟩
theorem triPopR (h : Tris w0 P S R W xs ys zs) (hl : zs.length ≤ 1000) :
    Calls Try.prog 10 #[.pointer (some ⟨R, 0, none⟩)] W fun e w' => e = .returned (.tuple #[.int .i64 (atI zs ((zs.length : Int) - 1)), .bool (is zs.length ((zs.length : Int) - 1))]) ∧ Tris w0 P S R w' xs ys (cutI zs ((zs.length : Int) - 1)) := by
  obtain ⟨v, u, r, h⟩ := h
  exact (popR_any h.hr h.bel.size hl).mono fun e w' ⟨he, v', k, m⟩ => ⟨he, _, _, _, h.setR k m⟩
theorem triAt (h : Tris w0 P S R W xs ys zs) (i : Int) :
    Calls Try.prog 15 #[.pointer (some ⟨P, 0, none⟩), .int .i64 i] W fun e w' => e = .returned (.tuple #[.int .i64 (atI xs i), .bool (is xs.length i)]) ∧ W = w' := by
  obtain ⟨v, u, r, h⟩ := h
  exact atI_any h.hp i
theorem triAtS (h : Tris w0 P S R W xs ys zs) (i : Int) :
    Calls Try.prog 17 #[.pointer (some ⟨S, 0, none⟩), .int .i64 i] W fun e w' => e = .returned (.tuple #[.string (atS ys i), .bool (is ys.length i)]) ∧ W = w' := by
  obtain ⟨v, u, r, h⟩ := h
  exact atS_any h.hs i
theorem triAtR (h : Tris w0 P S R W xs ys zs) (i : Int) :
    Calls Try.prog 16 #[.pointer (some ⟨R, 0, none⟩), .int .i64 i] W fun e w' => e = .returned (.tuple #[.int .i64 (atI zs i), .bool (is zs.length i)]) ∧ W = w' := by
  obtain ⟨v, u, r, h⟩ := h
  exact atR_any h.hr i
theorem triLen (h : Tris w0 P S R W xs ys zs) :
    Calls Try.prog 18 #[.pointer (some ⟨P, 0, none⟩)] W fun e w' => e = .returned (.int .i64 (xs.length : Int)) ∧ W = w' := by
  obtain ⟨v, u, r, h⟩ := h
  exact lenI_any h.hp
theorem triLenS (h : Tris w0 P S R W xs ys zs) :
    Calls Try.prog 20 #[.pointer (some ⟨S, 0, none⟩)] W fun e w' => e = .returned (.int .i64 (ys.length : Int)) ∧ W = w' := by
  obtain ⟨v, u, r, h⟩ := h
  exact lenS_any h.hs
theorem triLenR (h : Tris w0 P S R W xs ys zs) :
    Calls Try.prog 19 #[.pointer (some ⟨R, 0, none⟩)] W fun e w' => e = .returned (.int .i64 (zs.length : Int)) ∧ W = w' := by
  obtain ⟨v, u, r, h⟩ := h
  exact lenR_any h.hr

/-- The text of one byte that a number comes to. -/
def chr (x : Int) : ByteArray := ⟨#[UInt8.ofNat (x % 256).toNat]⟩
theorem one_byte {P : Program} (W : World) (src dst e : TypeId) (c : UInt8) (n : Int) (hn : n = (c.toNat : Int)) (hs : P.underlying src = some (.slice e)) (he : P.underlying e = some (.int .u8)) (hd : P.underlying dst = some .string) :
    (convert src dst (.slice (some ⟨W.heap.size, 0, none⟩) 1 1)).run P (W.alloc (.cells #[.int .u8 n] e)) = .ok (.string ⟨#[c]⟩) (W.alloc (.cells #[.int .u8 n] e)) := by
  subst hn
  refine run_convert_bytes_back _ src dst e ⟨W.heap.size, 0, none⟩ 1 [c] hs he hd (fun j hj => ?_)
  have : j = 0 := by simpa using hj
  subst this
  simp [Addr.add, World.cell?_alloc_new]
theorem chr_run (W : World) (x : Int) : (convert 35 9 (.slice (some ⟨W.heap.size, 0, none⟩) 1 1)).run Try.prog (W.alloc (.cells #[.int .u8 (x % 256)] 5)) = .ok (.string (chr x)) (W.alloc (.cells #[.int .u8 (x % 256)] 5)) :=
  one_byte W _ _ _ _ _ (by
    have h1 := Int.emod_nonneg x (show (256 : Int) ≠ 0 by omega)
    have h2 := Int.emod_lt_of_pos x (show (0 : Int) < 256 by omega)
    rw [UInt8.toNat_ofNat']; omega) Try.underlying35 Try.underlying5 Try.underlying9
theorem cut_chr (xs : List Int) (i : Int) : cutS (xs.map chr) i = (cutI xs i).map chr := by
  unfold cutS cutI
  split
  · rw [List.map_take]
  · rfl
theorem at_chr (xs : List Int) (i : Int) (h : is xs.length i = true) : atS (xs.map chr) i = chr (atI xs i) := by
  have h' : 0 ≤ i ∧ i < (xs.length : Int) := by simpa [is] using h
  unfold atS atI
  rw [if_pos (by simpa using h'), if_pos h']
  simp [List.getD, List.getElem?_eq_getElem (show i.toNat < xs.length by omega)]
theorem cut_len (xs : List Int) (i : Int) : (cutI xs i).length ≤ xs.length := by
  unfold cutI
  split
  · rw [List.length_take]; omega
  · exact Nat.le_refl _
end Go.Proofs.Ytafklopkjbdlkaa
