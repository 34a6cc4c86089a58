/-
  No cell of these rows narrows 'for every input' (looked for: loops, veiled, ifaces, maps, wideKeys, modest, calm, conditions, laid).
  DERIVED. THE GIVEN ROWS OF THIS SEAT. 5 by the template 'for every input the law returns true; each argument reads behind the call as it read before'; 0 by the template 'total and deterministic' (their statements: YtbnoiakhpmgeaaaTotals.lean).
  GIVEN WITH THE SEED: the statements are not yours to turn. If you find one false, say at which input.
  Laid BY PROGRAM, IN A SANDBOX (cutbox-rows.mjs): the forced cells as the released guide's own fill.sh prints them over the translation 878be5a74b9a0656… (all of the seat's roots in one cut). By AI agents, Wed Nov 11 2026. No macro, syntax, notation, axiom, sorry.
-/
import Derived.Test.YtbnoiakhpmgeaaaChecked
import GoSem.Claim
import GoSem.ClaimJoined
import GoSem.ClaimMapViews
import Derived.JoinedTies
import Derived.KernelRfl
namespace Go.Proofs.Ytbnoiakhpmgeaaa
/- THE CELL 'sum', in the pinned program and in every row, IS THE sha256 OF THE DUMP (.gsa) THAT YtbnoiakhpmgeaaaProg.lean LOADS. Nothing in Lean hashes anything: it is a label: what it is worth is what the hold of that sum in a sandbox is worth. -/
noncomputable def Try.pinned : Pinned := { name := "ytbnoiakhpmgeaaa", sum := "878be5a74b9a06568fc76d724a9e7f1cfa9656e9c6ce0c6555528a1defa3d968", checked := Try.checked }
namespace Rows
def none {H : Type} : Left H := { results := [], args := [] }

/-- 'compositorlaw03.SourceTells': WHATEVER THE INPUT: true; the input reads as it did. -/
def sourceTellsSpec : ChangeSpec := { name := "sourceTells", fn := fun _ => fun
  | [d] => { results := [.lit (.bool true)], args := [d] }
  | _ => none }
def sourceTellsRow : OpenClaim := { program := "ytbnoiakhpmgeaaa", sum := "878be5a74b9a06568fc76d724a9e7f1cfa9656e9c6ce0c6555528a1defa3d968", func := "compositor/compositorlaw03.SourceTells", spec := "sourceTells", inPlace := ["internal/abi.NoEscape", "internal/bytealg.MakeNoZero"], apart := false }
def SourceTellsSaid : Prop := sourceTellsRow.holds Try.pinned (OpenSpec.ofChange sourceTellsSpec)

/-- ITS FALSE NEIGHBOUR: 'it returns false'. Refute it at one input. -/
def sourceTellsWrong : ChangeSpec := { name := "sourceTells", fn := fun _ => fun
  | [d] => { results := [.lit (.bool false)], args := [d] }
  | _ => none }
def SourceTellsWrongFalsely : Prop := sourceTellsRow.holds Try.pinned (OpenSpec.ofChange sourceTellsWrong)

/-- 'compositorlaw03.SourceOnce': WHATEVER THE INPUT: true; the input reads as it did. -/
def sourceOnceSpec : ChangeSpec := { name := "sourceOnce", fn := fun _ => fun
  | [d] => { results := [.lit (.bool true)], args := [d] }
  | _ => none }
def sourceOnceRow : OpenClaim := { program := "ytbnoiakhpmgeaaa", sum := "878be5a74b9a06568fc76d724a9e7f1cfa9656e9c6ce0c6555528a1defa3d968", func := "compositor/compositorlaw03.SourceOnce", spec := "sourceOnce", inPlace := ["internal/abi.NoEscape", "internal/bytealg.MakeNoZero"], apart := false }
def SourceOnceSaid : Prop := sourceOnceRow.holds Try.pinned (OpenSpec.ofChange sourceOnceSpec)

/-- ITS FALSE NEIGHBOUR: 'it returns false'. Refute it at one input. -/
def sourceOnceWrong : ChangeSpec := { name := "sourceOnce", fn := fun _ => fun
  | [d] => { results := [.lit (.bool false)], args := [d] }
  | _ => none }
def SourceOnceWrongFalsely : Prop := sourceOnceRow.holds Try.pinned (OpenSpec.ofChange sourceOnceWrong)

/-- 'compositorlaw03.SourceLines': WHATEVER THE INPUT: true; the input reads as it did. -/
def sourceLinesSpec : ChangeSpec := { name := "sourceLines", fn := fun _ => fun
  | [d] => { results := [.lit (.bool true)], args := [d] }
  | _ => none }
def sourceLinesRow : OpenClaim := { program := "ytbnoiakhpmgeaaa", sum := "878be5a74b9a06568fc76d724a9e7f1cfa9656e9c6ce0c6555528a1defa3d968", func := "compositor/compositorlaw03.SourceLines", spec := "sourceLines", inPlace := ["internal/abi.NoEscape", "internal/bytealg.MakeNoZero"], apart := false }
def SourceLinesSaid : Prop := sourceLinesRow.holds Try.pinned (OpenSpec.ofChange sourceLinesSpec)

/-- ITS FALSE NEIGHBOUR: 'it returns false'. Refute it at one input. -/
def sourceLinesWrong : ChangeSpec := { name := "sourceLines", fn := fun _ => fun
  | [d] => { results := [.lit (.bool false)], args := [d] }
  | _ => none }
def SourceLinesWrongFalsely : Prop := sourceLinesRow.holds Try.pinned (OpenSpec.ofChange sourceLinesWrong)

/-- 'compositorlaw03.SourceTrims': WHATEVER THE INPUT: true; the input reads as it did. -/
def sourceTrimsSpec : ChangeSpec := { name := "sourceTrims", fn := fun _ => fun
  | [d] => { results := [.lit (.bool true)], args := [d] }
  | _ => none }
def sourceTrimsRow : OpenClaim := { program := "ytbnoiakhpmgeaaa", sum := "878be5a74b9a06568fc76d724a9e7f1cfa9656e9c6ce0c6555528a1defa3d968", func := "compositor/compositorlaw03.SourceTrims", spec := "sourceTrims", inPlace := ["internal/abi.NoEscape", "internal/bytealg.MakeNoZero"], apart := false }
def SourceTrimsSaid : Prop := sourceTrimsRow.holds Try.pinned (OpenSpec.ofChange sourceTrimsSpec)

/-- ITS FALSE NEIGHBOUR: 'it returns false'. Refute it at one input. -/
def sourceTrimsWrong : ChangeSpec := { name := "sourceTrims", fn := fun _ => fun
  | [d] => { results := [.lit (.bool false)], args := [d] }
  | _ => none }
def SourceTrimsWrongFalsely : Prop := sourceTrimsRow.holds Try.pinned (OpenSpec.ofChange sourceTrimsWrong)

/-- 'compositorlaw03.SourceJoins': WHATEVER THE INPUT: true; the input reads as it did. -/
def sourceJoinsSpec : ChangeSpec := { name := "sourceJoins", fn := fun _ => fun
  | [d1, d2] => { results := [.lit (.bool true)], args := [d1, d2] }
  | _ => none }
def sourceJoinsRow : OpenClaim := { program := "ytbnoiakhpmgeaaa", sum := "878be5a74b9a06568fc76d724a9e7f1cfa9656e9c6ce0c6555528a1defa3d968", func := "compositor/compositorlaw03.SourceJoins", spec := "sourceJoins", inPlace := ["internal/abi.NoEscape", "internal/bytealg.MakeNoZero"], apart := false }
def SourceJoinsSaid : Prop := sourceJoinsRow.holds Try.pinned (OpenSpec.ofChange sourceJoinsSpec)

/-- ITS FALSE NEIGHBOUR: 'it returns false'. Refute it at one input. -/
def sourceJoinsWrong : ChangeSpec := { name := "sourceJoins", fn := fun _ => fun
  | [d1, d2] => { results := [.lit (.bool false)], args := [d1, d2] }
  | _ => none }
def SourceJoinsWrongFalsely : Prop := sourceJoinsRow.holds Try.pinned (OpenSpec.ofChange sourceJoinsWrong)

/- THE SECOND FORM. 'bulk': how many values and letters a reading holds, each counted each time it is reached (what is shared counts as often as it is met; a slice's spare places count too). A statement '..UptoSaid' is the law's where the arguments, and the package variables that the reading takes, are together of bulk at most 1048576: NARROWER than '..Said'. Prove '..Said' where nothing that the law and all that it calls make is longer than what came in: it says more and counts as full. Else prove '..UptoSaid'. A law counts once. -/
mutual
def uptoBulk {H : Type} : DataW H → Nat
  | .lit (.string bytes) => bytes.length + 1
  | .lit _ => 1
  | .nil => 1
  | .ptr d => uptoBulk d + 1
  | .slice elems spare => uptoBulkAll elems + uptoBulkAll spare + 1
  | .agg parts => uptoBulkAll parts + 1
  | .iface _ d => uptoBulk d + 1
  | .map entries => uptoBulkEntries entries + 1
  | .held _ => 1
def uptoBulkAll {H : Type} : List (DataW H) → Nat
  | [] => 0
  | d :: r => uptoBulk d + uptoBulkAll r
def uptoBulkEntries {H : Type} : List (Lit × DataW H) → Nat
  | [] => 0
  | x :: r => uptoBulkEntry x + uptoBulkEntries r
def uptoBulkEntry {H : Type} : Lit × DataW H → Nat
  | (.string bytes, d) => bytes.length + uptoBulk d + 1
  | (_, d) => uptoBulk d + 1
 end
def uptoSmall : (H : Type) → List (DataW H) → Bool := fun _ ds => decide (uptoBulkAll ds ≤ 1048576)
def OpenSpec.upto (s : _root_.Go.ChangeSpec) : _root_.Go.OpenSpec := { _root_.Go.OpenSpec.ofChange s with cond := some uptoSmall }

/-- 'compositorlaw03.SourceTells', WHERE WHAT IT READS IS OF BULK AT MOST 1048576: true; the input reads as it did. -/
def sourceTellsUptoRow : OpenClaim := { program := "ytbnoiakhpmgeaaa", sum := "878be5a74b9a06568fc76d724a9e7f1cfa9656e9c6ce0c6555528a1defa3d968", func := "compositor/compositorlaw03.SourceTells", spec := "sourceTells", inPlace := ["internal/abi.NoEscape", "internal/bytealg.MakeNoZero"], apart := false, narrowed := true }
def SourceTellsUptoSaid : Prop := sourceTellsUptoRow.holds Try.pinned (OpenSpec.upto sourceTellsSpec)

/-- 'compositorlaw03.SourceOnce', WHERE WHAT IT READS IS OF BULK AT MOST 1048576: true; the input reads as it did. -/
def sourceOnceUptoRow : OpenClaim := { program := "ytbnoiakhpmgeaaa", sum := "878be5a74b9a06568fc76d724a9e7f1cfa9656e9c6ce0c6555528a1defa3d968", func := "compositor/compositorlaw03.SourceOnce", spec := "sourceOnce", inPlace := ["internal/abi.NoEscape", "internal/bytealg.MakeNoZero"], apart := false, narrowed := true }
def SourceOnceUptoSaid : Prop := sourceOnceUptoRow.holds Try.pinned (OpenSpec.upto sourceOnceSpec)

/-- 'compositorlaw03.SourceLines', WHERE WHAT IT READS IS OF BULK AT MOST 1048576: true; the input reads as it did. -/
def sourceLinesUptoRow : OpenClaim := { program := "ytbnoiakhpmgeaaa", sum := "878be5a74b9a06568fc76d724a9e7f1cfa9656e9c6ce0c6555528a1defa3d968", func := "compositor/compositorlaw03.SourceLines", spec := "sourceLines", inPlace := ["internal/abi.NoEscape", "internal/bytealg.MakeNoZero"], apart := false, narrowed := true }
def SourceLinesUptoSaid : Prop := sourceLinesUptoRow.holds Try.pinned (OpenSpec.upto sourceLinesSpec)

/-- 'compositorlaw03.SourceTrims', WHERE WHAT IT READS IS OF BULK AT MOST 1048576: true; the input reads as it did. -/
def sourceTrimsUptoRow : OpenClaim := { program := "ytbnoiakhpmgeaaa", sum := "878be5a74b9a06568fc76d724a9e7f1cfa9656e9c6ce0c6555528a1defa3d968", func := "compositor/compositorlaw03.SourceTrims", spec := "sourceTrims", inPlace := ["internal/abi.NoEscape", "internal/bytealg.MakeNoZero"], apart := false, narrowed := true }
def SourceTrimsUptoSaid : Prop := sourceTrimsUptoRow.holds Try.pinned (OpenSpec.upto sourceTrimsSpec)

/-- 'compositorlaw03.SourceJoins', WHERE WHAT IT READS IS OF BULK AT MOST 1048576: true; the input reads as it did. -/
def sourceJoinsUptoRow : OpenClaim := { program := "ytbnoiakhpmgeaaa", sum := "878be5a74b9a06568fc76d724a9e7f1cfa9656e9c6ce0c6555528a1defa3d968", func := "compositor/compositorlaw03.SourceJoins", spec := "sourceJoins", inPlace := ["internal/abi.NoEscape", "internal/bytealg.MakeNoZero"], apart := false, narrowed := true }
def SourceJoinsUptoSaid : Prop := sourceJoinsUptoRow.holds Try.pinned (OpenSpec.upto sourceJoinsSpec)

end Rows
end Go.Proofs.Ytbnoiakhpmgeaaa
