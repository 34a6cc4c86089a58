/-
  Arguments out of their readings: a slice of items.
-/
import Derived.Test.YtjkkinccehfmoaaIsat
import Derived.ProofKit
import Derived.OpenShut
import Derived.ChangeMaps5
import Derived.Carry
import Derived.Deep.Strs
import Derived.Deep.MidRow
namespace Go.Proofs.Ytjkkinccehfmoaa
open Go Go.ChangeShapes Go.WideShapes Go.ChangeAt Go.RowKit Go.ChangeMaps

instance : Inhabited It := ⟨⟨0, 0, 0, 0, 0, [], 0, 0, 0⟩⟩
theorem cellsIt : Try.prog.cellsOf 32 = 9 := by kernel_rfl
theorem cellsItInt : Try.prog.cellsOf 3 = 1 := by kernel_rfl
theorem cellsItStr : Try.prog.cellsOf 9 = 1 := by kernel_rfl
set_option maxRecDepth 100000 in
theorem open_items {H : Type} {enc : TypeId × Value → H} {W : World} {base : Nat} {sp : Nat → Bool} {held : Bool} (fuel : Nat) (cs : List Value) (x : DataW H × List MemPlace) (h : DataW.trod enc Try.prog W base sp held fuel 22 cs = some x) :
    ∃ (l : List It) (v : Value), cs = [v] ∧ IsAt W l v := by
  rcases DataW.trod_slice Try.underlying22 h with ⟨rfl, _⟩ | ⟨a, len, cap, elems, rest, n, rfl, rfl, hxq, _, hl, hm, hlen, hel, _, _⟩
  · exact ⟨[], _, rfl, none, 0, rfl, Nat.le_refl _, by unfold maxLen; omega, fun h => absurd h (by simp)⟩
  · have one : ∀ i, i < len → ∃ r : It, ∀ j u, (itC r)[j]? = some u → W.cell? ((a.add (i * 9)).add j) = some u := fun i hi => by
      have key := hel i hi
      rw [cellsIt, List.getElem?_eq_getElem (by omega)] at key
      obtain ⟨cs', hc1, hc2⟩ := Option.bind_eq_some_iff.1 key
      obtain ⟨_, hln, hcell⟩ := World.cells?_some hc1
      obtain ⟨xs, n2, e2, ex, hl2, hxs, hf⟩ := DataW.trod_struct Try.underlying32 hc2
      subst e2
      rw [cellsIt] at hl2
      match cs', hl2 with
      | [c0, c1, c2, c3, c4, c5, c6, c7, c8], _ =>
        have hx : ∀ j, j < 9 → ∃ y, xs[j]? = some y := fun j hj => ⟨xs[j]'(by rw [hxs]; exact hj), List.getElem?_eq_getElem _⟩
        obtain ⟨y0, hy0⟩ := hx 0 (by decide)
        obtain ⟨y1, hy1⟩ := hx 1 (by decide)
        obtain ⟨y2, hy2⟩ := hx 2 (by decide)
        obtain ⟨y3, hy3⟩ := hx 3 (by decide)
        obtain ⟨y4, hy4⟩ := hx 4 (by decide)
        obtain ⟨y5, hy5⟩ := hx 5 (by decide)
        obtain ⟨y6, hy6⟩ := hx 6 (by decide)
        obtain ⟨y7, hy7⟩ := hx 7 (by decide)
        obtain ⟨y8, hy8⟩ := hx 8 (by decide)
        have g0 : DataW.trod enc Try.prog W base sp held n2 3 (([c0, c1, c2, c3, c4, c5, c6, c7, c8].drop 0).take (Try.prog.cellsOf 3)) = xs[0]? := hf 0 _ rfl
        rw [cellsItInt, hy0] at g0
        have g1 : DataW.trod enc Try.prog W base sp held n2 3 (([c0, c1, c2, c3, c4, c5, c6, c7, c8].drop 1).take (Try.prog.cellsOf 3)) = xs[1]? := hf 1 _ rfl
        rw [cellsItInt, hy1] at g1
        have g2 : DataW.trod enc Try.prog W base sp held n2 3 (([c0, c1, c2, c3, c4, c5, c6, c7, c8].drop 2).take (Try.prog.cellsOf 3)) = xs[2]? := hf 2 _ rfl
        rw [cellsItInt, hy2] at g2
        have g3 : DataW.trod enc Try.prog W base sp held n2 3 (([c0, c1, c2, c3, c4, c5, c6, c7, c8].drop 3).take (Try.prog.cellsOf 3)) = xs[3]? := hf 3 _ rfl
        rw [cellsItInt, hy3] at g3
        have g4 : DataW.trod enc Try.prog W base sp held n2 3 (([c0, c1, c2, c3, c4, c5, c6, c7, c8].drop 4).take (Try.prog.cellsOf 3)) = xs[4]? := hf 4 _ rfl
        rw [cellsItInt, hy4] at g4
        have g5 : DataW.trod enc Try.prog W base sp held n2 9 (([c0, c1, c2, c3, c4, c5, c6, c7, c8].drop 5).take (Try.prog.cellsOf 9)) = xs[5]? := hf 5 _ rfl
        rw [cellsItStr, hy5] at g5
        have g6 : DataW.trod enc Try.prog W base sp held n2 3 (([c0, c1, c2, c3, c4, c5, c6, c7, c8].drop 6).take (Try.prog.cellsOf 3)) = xs[6]? := hf 6 _ rfl
        rw [cellsItInt, hy6] at g6
        have g7 : DataW.trod enc Try.prog W base sp held n2 3 (([c0, c1, c2, c3, c4, c5, c6, c7, c8].drop 7).take (Try.prog.cellsOf 3)) = xs[7]? := hf 7 _ rfl
        rw [cellsItInt, hy7] at g7
        have g8 : DataW.trod enc Try.prog W base sp held n2 3 (([c0, c1, c2, c3, c4, c5, c6, c7, c8].drop 8).take (Try.prog.cellsOf 3)) = xs[8]? := hf 8 _ rfl
        rw [cellsItInt, hy8] at g8
        obtain ⟨k0, e0, _, _⟩ := DataW.trod_int Try.underlying3 g0
        obtain ⟨k1, e1, _, _⟩ := DataW.trod_int Try.underlying3 g1
        obtain ⟨k2, e2, _, _⟩ := DataW.trod_int Try.underlying3 g2
        obtain ⟨k3, e3, _, _⟩ := DataW.trod_int Try.underlying3 g3
        obtain ⟨k4, e4, _, _⟩ := DataW.trod_int Try.underlying3 g4
        obtain ⟨k5, e5, _, _⟩ := DataW.trod_string Try.underlying9 g5
        obtain ⟨k6, e6, _, _⟩ := DataW.trod_int Try.underlying3 g6
        obtain ⟨k7, e7, _, _⟩ := DataW.trod_int Try.underlying3 g7
        obtain ⟨k8, e8, _, _⟩ := DataW.trod_int Try.underlying3 g8
        simp only [List.drop_zero, List.drop_succ_cons, List.take_succ_cons, List.take_zero, List.cons.injEq, and_true] at e0 e1 e2 e3 e4 e5 e6 e7 e8
        subst e0 e1 e2 e3 e4 e5 e6 e7 e8
        refine ⟨⟨k0, k1, k2, k3, k4, k5.data.toList, k6, k7, k8⟩, fun j u hj => ?_⟩
        have hj9 : j < 9 := by
          have := (List.getElem?_eq_some_iff.1 hj).1
          rwa [itC_len] at this
        have hb : (⟨k5.data.toList.toArray⟩ : ByteArray) = k5 := bytes_same k5
        have e : itC ⟨k0, k1, k2, k3, k4, k5.data.toList, k6, k7, k8⟩ = [.int .i64 k0, .int .i64 k1, .int .i64 k2, .int .i64 k3, .int .i64 k4, .string k5, .int .i64 k6, .int .i64 k7, .int .i64 k8] := by
          unfold itC
          simp only [hb]
        rw [e] at hj
        have := hcell j hj9
        rw [hj] at this
        exact this
    obtain ⟨f, hfs⟩ := Go.Deep.choose_lt one
    obtain ⟨b, off, spot⟩ := a
    have hL : ((List.range len).map f).length = len := by simp
    refine ⟨(List.range len).map f, _, rfl, some ⟨b, off, spot⟩, cap, by rw [hL], by rw [hL]; exact hl, hm, fun h0 => ?_⟩
    rw [hL] at h0
    have hspot : spot = none := by simpa [Addr.add] using World.cell?_spot (hfs 0 h0 0 _ rfl)
    subst hspot
    refine ⟨b, off, rfl, fun i hi j u hj => ?_⟩
    have hi' : i < len := by simpa using hi
    rw [List.getElem_map, List.getElem_range] at hj
    have q := hfs i hi' j u hj
    rwa [Addr.add_mid, Addr.add_mid] at q
/-- .. as an argument's reading has it. -/
theorem open_itemsT {H : Type} {enc : TypeId × Value → H} {W : World} {base : Nat} {sp : Nat → Bool} {held : Bool} {a : Option Addr} {len cap : Nat} {d : DataW H} {ps : List MemPlace} (h : DataW.Trod enc Try.prog W base sp held 22 (.slice a len cap) d ps) : ∃ l : List It, IsAt W l (.slice a len cap) := by
  obtain ⟨fuel, hf⟩ := h
  obtain ⟨l, v', e, hA⟩ := open_items _ _ _ hf
  simp [Value.cells] at e
  subst e
  exact ⟨l, hA⟩
end Go.Proofs.Ytjkkinccehfmoaa
