/-
  awake, of the statements of layer 2, returns true.
-/
import Derived.Test.YtafklopkjbdlkaaPilt
namespace Go.Proofs.Ytafklopkjbdlkaa
open Go.RowKit Go.Lib

theorem Moved.bel {n₀ : Nat} {t e : TypeId} {w w' : World} {B : Nat} {v v' : Value} {vs : List Value} (h : Moved w w' B v v') (k : Pil n₀ t e w B v vs) (hn : n₀ ≤ w.heap.size) : Below n₀ w w' := h.below k.low k.row hn

set_option maxHeartbeats 800000 in
theorem awake_any (w : World) : Calls Try.prog 21 #[] w fun e w' => e = .returned (.bool true) ∧ Below w.heap.size w w' := by
  have PU := Lib.hid (fun (v : Value) (xs : List ByteArray) (W : World) (h : PS w.heap.size W w.heap.size v xs) (hn : w.heap.size ≤ W.heap.size) (hl : xs.length ≤ 1000) (x : ByteArray) => pushS_any h hn hl x)
  have AT := Lib.hid (fun (v : Value) (xs : List ByteArray) (W : World) (h : PS w.heap.size W w.heap.size v xs) (i : Int) => atS_any h i)
  have PO := Lib.hid (fun (v : Value) (xs : List ByteArray) (W : World) (h : PS w.heap.size W w.heap.size v xs) => popS_any h)
  have LE := Lib.hid (fun (v : Value) (xs : List ByteArray) (W : World) (h : PS w.heap.size W w.heap.size v xs) => lenS_any h)
  have H0 := Lib.hid (Pil.new w 28 9 (Nat.le_refl w.heap.size))
  have b0 := Lib.hid ((Below.refl w.heap.size w).alloc (Nat.le_refl _) (.cells #[.slice none 0 0] 28))
  have a0 : atS [⟨#[97]⟩, ⟨#[98]⟩] 0 = ⟨#[97]⟩ := rfl
  have i0 : is 2 0 = true := rfl
  have a1 : atS [⟨#[97]⟩, ⟨#[98]⟩] 1 = ⟨#[98]⟩ := rfl
  have i1 : is 2 1 = true := rfl
  have c1 : cutS [⟨#[97]⟩, ⟨#[98]⟩] 1 = [⟨#[97]⟩] := rfl
  have i2 : is 1 1 = false := rfl
  go_enter Try.func21, Try.ntmps21
  go_wp2_with fail
  refine (PU.out _ [] _ H0.out b0.out.size (by simp) ⟨#[97]⟩).mono ?_
  rintro e w1 ⟨rfl, v1, h1, m1⟩
  have b1 := Lib.hid (b0.out.trans (m1.bel H0.out b0.out.size))
  have H1 := Lib.hid h1
  clear h1 m1
  go_wp2_with fail
  refine (PU.out _ _ _ H1.out b1.out.size (by simp) ⟨#[98]⟩).mono ?_
  rintro e w2 ⟨rfl, v2, h2, m2⟩
  have b2 := Lib.hid (b1.out.trans (m2.bel H1.out b1.out.size))
  have H2 := Lib.hid h2
  clear h2 m2
  go_wp2_with fail
  refine (AT.out _ _ _ H2.out 0).mono ?_
  rintro e w3 ⟨rfl, rfl⟩
  go_wp2_with fail
  refine (PO.out _ _ _ H2.out).mono ?_
  rintro e w3 ⟨rfl, v3, h3, m3⟩
  have b3 := Lib.hid (b2.out.trans (m3.bel H2.out b2.out.size))
  have H3 := Lib.hid h3
  clear h3 m3
  go_wp2_with fail
  refine (AT.out _ _ _ H3.out 1).mono ?_
  rintro e w4 ⟨rfl, rfl⟩
  go_wp2_with fail
  refine (LE.out _ _ _ H3.out).mono ?_
  rintro e w4 ⟨rfl, rfl⟩
  go_wp2_with fail
  go_ret
  exact ⟨rfl, b3.out⟩
end Go.Proofs.Ytafklopkjbdlkaa
