/-
  Texts of the proof, one behind the other: Arf.
-/
import Derived.Test.YtklmgbkkjmfhcaaGreatDoorChecked
import Derived.ProofKit
import Derived.OpenShut
import Derived.ChangeMaps5
import Derived.Carry
import Derived.Deep.Strs
import Derived.Deep.MidRow
/-
  Arguments out of their readings: a slice of structs of three texts.
-/
namespace Go.Proofs.YtklmgbkkjmfhcaaGreatDoor
open Go Go.ChangeShapes Go.WideShapes Go.ChangeAt Go.RowKit Go.ChangeMaps

/-- The texts of one struct of three texts at an address. -/
def txAt (W : World) (b o : Nat) (r : ByteArray × ByteArray × ByteArray) : Prop :=
  W.cell? ⟨b, o, none⟩ = some (.string r.1) ∧ W.cell? ⟨b, o + 1, none⟩ = some (.string r.2.1) ∧ W.cell? ⟨b, o + 2, none⟩ = some (.string r.2.2)
/-- A slice of structs of three texts: its texts, cell by cell. -/
theorem open_threes {P : Program} {H : Type} {enc : TypeId × Value → H} {W : World} {sp : Nat → Bool} {held : Bool} {t e z : TypeId} {f0 f1 f2 : Field} {a : Option Addr} {len cap : Nat} {d : DataW H} {ps : List MemPlace}
    (ht : P.underlying t = some (.slice e)) (he : P.underlying e = some (.struct #[f0, f1, f2])) (hz : P.underlying z = some .string) (hc : P.cellsOf e = 3) (hz1 : P.cellsOf z = 1)
    (h0 : f0.type = z ∧ f0.offset = 0) (h1 : f1.type = z ∧ f1.offset = 1) (h2 : f2.type = z ∧ f2.offset = 2) (h : DataW.Trod enc P W 0 sp held t (.slice a len cap) d ps) :
    ∃ xs : List (ByteArray × ByteArray × ByteArray), xs.length = len ∧ (∀ x ∈ xs, x.1.size ≤ maxLen ∧ x.2.1.size ≤ maxLen ∧ x.2.2.size ≤ maxLen) ∧ len ≤ cap ∧ cap ≤ maxLen ∧
      (0 < len → ∃ b off, a = some ⟨b, off, none⟩ ∧ ∀ k (hk : k < xs.length), txAt W b (off + k * 3) xs[k]) := by
  obtain ⟨fuel, hf⟩ := h
  rcases Go.Deep.open_slice ht hf with ⟨hcs, _⟩ | ⟨a', len', cap', m, n, D, Pl, hcs, _, hl, hm, hmm, _, hx⟩
  · simp [Value.cells] at hcs
    obtain ⟨rfl, rfl, rfl⟩ := hcs
    exact ⟨[], rfl, by simp, Nat.le_refl _, Nat.zero_le _, fun k => absurd k (by decide)⟩
  · simp [Value.cells] at hcs
    obtain ⟨rfl, rfl, rfl⟩ := hcs
    have hlz : len ≤ m := by rw [hmm]; split <;> omega
    have one : ∀ i, i < len → ∃ r : ByteArray × ByteArray × ByteArray, (r.1.size ≤ maxLen ∧ r.2.1.size ≤ maxLen ∧ r.2.2.size ≤ maxLen) ∧ W.cell? (a'.add (i * 3)) = some (.string r.1) ∧ W.cell? ((a'.add (i * 3)).add 1) = some (.string r.2.1) ∧ W.cell? ((a'.add (i * 3)).add 2) = some (.string r.2.2) := fun i hi => by
      obtain ⟨cs', hc1, hc2⟩ := hx i (by omega)
      rw [hc] at hc1
      obtain ⟨_, hln, hcell⟩ := World.cells?_some hc1
      obtain ⟨y0, y1, y2, n', _, _, g0, g1, g2⟩ := Go.Deep.trod_struct3 he hc2
      rw [h0.1, h0.2, hz1] at g0
      rw [h1.1, h1.2, hz1] at g1
      rw [h2.1, h2.2, hz1] at g2
      obtain ⟨s0, e0, _, w0⟩ := DataW.trod_string hz g0
      obtain ⟨s1, e1, _, w1⟩ := DataW.trod_string hz g1
      obtain ⟨s2, e2, _, w2⟩ := DataW.trod_string hz g2
      have c0 : cs'[0]? = some (.string s0) := by have := congrArg (·[0]?) e0; simpa using this
      have c1 : cs'[1]? = some (.string s1) := by have := congrArg (·[0]?) e1; simpa using this
      have c2 : cs'[2]? = some (.string s2) := by have := congrArg (·[0]?) e2; simpa using this
      refine ⟨(s0, s1, s2), ⟨w0, w1, w2⟩, ?_, ?_, ?_⟩
      · have := hcell 0 (by decide)
        rw [c0] at this
        simpa [Addr.add] using this
      · exact (hcell 1 (by decide)).trans c1
      · exact (hcell 2 (by decide)).trans c2
    obtain ⟨f, hfs⟩ := Go.Deep.choose_lt one
    obtain ⟨b, off, spot⟩ := a'
    refine ⟨(List.range len).map f, by simp, fun x h => ?_, hl, hm, fun h0 => ?_⟩
    · obtain ⟨i, hi, rfl⟩ := List.mem_map.1 h
      exact (hfs i (List.mem_range.1 hi)).1
    · have hspot : spot = none := by simpa [Addr.add] using World.cell?_spot (hfs 0 h0).2.1
      subst hspot
      refine ⟨b, off, rfl, fun k hk => ?_⟩
      have hk' : k < len := by simpa using hk
      have q := (hfs k hk').2
      rw [List.getElem_map, List.getElem_range]
      rw [Addr.add_mid, Addr.add_mid, Addr.add_mid] at q
      exact q
end Go.Proofs.YtklmgbkkjmfhcaaGreatDoor

