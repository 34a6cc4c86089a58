/-
  A slice literal of texts, every place written: nothing of its length is reckoned but one comparison of two lists. Of no layer.
-/
import Derived.Test.YtmljngahlkhihaaDoorBas
import Derived.Great.BuildSlice
namespace Go.Proofs.YtmljngahlkhihaaDoor
open Go.RowKit Go.Lib

/-- A list of texts, as values. -/
def strVals (zs : List (List UInt8)) : List Value := zs.map fun z => Value.string ⟨z.toArray⟩
theorem wpList_buildTexts {P : Program} {ops : Array Oper} {rest : List Oper} {o : Oper} {a : Act} {w : World} {Q : Exit → Act → World → Prop} (hg : o.guard = none) (t e : TypeId) (len : Nat) (parts : Array (Nat × Operand)) (ho : o.op = .buildSlice t len parts)
    (zs : List (List UInt8))
    (hu : P.underlying t = some (.slice e)) (hsz : (P.info? e).map (·.size) = some 1) (hz : ((P.info? e).bind (·.zero)).isSome = true)
    (hlen : len = zs.length) (hpos : 0 < len) (hsmall : len ≤ 2 ^ 24)
    (hparts : parts.toList = ((strVals zs).zipIdx 0).map fun x => (x.2, Operand.const x.1))
    (h : wpList P ops Q rest (a.put o.dst (.slice (some ⟨w.heap.size, 0, none⟩) len len)) (w.alloc (.cells (strVals zs).toArray e))) : wpList P ops Q (o :: rest) a w := by
  cases hie : P.info? e with
  | none => simp [hie] at hsz
  | some ie =>
    simp only [hie, Option.map_some, Option.some.injEq, Option.bind_some] at hsz hz
    obtain ⟨z, hzz⟩ := Option.isSome_iff_exists.1 hz
    refine wpList_buildSlice hg t e len parts ho _ ie z hu hie hzz (by rw [hsz]; omega) (by rw [hsz]; omega) ?_ h
    have hp : (parts.map fun (i, x) => (i, a.eval x)).toList = ((strVals zs).zipIdx 0).map fun x => (x.2, x.1) := by
      rw [Array.toList_map, hparts, List.map_map]
      rfl
    rw [hp, hsz]
    exact Great.fill_flat _ _ (fun v hv => by obtain ⟨n, _, rfl⟩ := List.mem_map.1 hv; rfl) (by simp [hlen, strVals])
end Go.Proofs.YtmljngahlkhihaaDoor
