/-
  No cell of these rows narrows 'for every input' (looked for: loops, veiled, ifaces, maps, wideKeys, modest, calm, conditions, laid).
  DERIVED. THE GIVEN ROWS OF THIS SEAT. 3 by the template 'for every input the law returns true; each argument reads behind the call as it read before'; 0 by the template 'total and deterministic' (their statements: YtjfbemoageeobaaTotals.lean).
  GIVEN WITH THE SEED: the statements are not yours to turn. If you find one false, say at which input.
  Laid BY PROGRAM, IN A SANDBOX (cutbox-rows.mjs): the forced cells as the released guide's own fill.sh prints them over the translation 62e91e71c1c38076… (all of the seat's roots in one cut). By AI agents, Wed Nov 11 2026. No macro, syntax, notation, axiom, sorry.
-/
import Derived.Test.YtjfbemoageeobaaChecked
import GoSem.Claim
import GoSem.ClaimJoined
import GoSem.ClaimMapViews
import Derived.JoinedTies
import Derived.KernelRfl
namespace Go.Proofs.Ytjfbemoageeobaa
/- THE CELL 'sum', in the pinned program and in every row, IS THE sha256 OF THE DUMP (.gsa) THAT YtjfbemoageeobaaProg.lean LOADS. Nothing in Lean hashes anything: it is a label: what it is worth is what the hold of that sum in a sandbox is worth. -/
noncomputable def Try.pinned : Pinned := { name := "ytjfbemoageeobaa", sum := "62e91e71c1c38076bf3fd80dd2915ff06999e91a2dcd37a9fa3431ff52bc84cf", checked := Try.checked }
namespace Rows
def none {H : Type} : Left H := { results := [], args := [] }

/-- 'compositorlaw13.RunSides': WHATEVER THE INPUT: true; the input reads as it did. -/
def runSidesSpec : ChangeSpec := { name := "runSides", fn := fun _ => fun
  | [d1, d2] => { results := [.lit (.bool true)], args := [d1, d2] }
  | _ => none }
def runSidesRow : OpenClaim := { program := "ytjfbemoageeobaa", sum := "62e91e71c1c38076bf3fd80dd2915ff06999e91a2dcd37a9fa3431ff52bc84cf", func := "compositor/compositorlaw13.RunSides", spec := "runSides", apart := false }
def RunSidesSaid : Prop := runSidesRow.holds Try.pinned (OpenSpec.ofChange runSidesSpec)

/-- ITS FALSE NEIGHBOUR: 'it returns false'. Refute it at one input. -/
def runSidesWrong : ChangeSpec := { name := "runSides", fn := fun _ => fun
  | [d1, d2] => { results := [.lit (.bool false)], args := [d1, d2] }
  | _ => none }
def RunSidesWrongFalsely : Prop := runSidesRow.holds Try.pinned (OpenSpec.ofChange runSidesWrong)

/-- 'compositorlaw13.RunEdges': WHATEVER THE INPUT: true; the input reads as it did. -/
def runEdgesSpec : ChangeSpec := { name := "runEdges", fn := fun _ => fun
  | [d1, d2] => { results := [.lit (.bool true)], args := [d1, d2] }
  | _ => none }
def runEdgesRow : OpenClaim := { program := "ytjfbemoageeobaa", sum := "62e91e71c1c38076bf3fd80dd2915ff06999e91a2dcd37a9fa3431ff52bc84cf", func := "compositor/compositorlaw13.RunEdges", spec := "runEdges", apart := false }
def RunEdgesSaid : Prop := runEdgesRow.holds Try.pinned (OpenSpec.ofChange runEdgesSpec)

/-- ITS FALSE NEIGHBOUR: 'it returns false'. Refute it at one input. -/
def runEdgesWrong : ChangeSpec := { name := "runEdges", fn := fun _ => fun
  | [d1, d2] => { results := [.lit (.bool false)], args := [d1, d2] }
  | _ => none }
def RunEdgesWrongFalsely : Prop := runEdgesRow.holds Try.pinned (OpenSpec.ofChange runEdgesWrong)

/-- 'compositorlaw13.RunTurns': WHATEVER THE INPUT: true; the input reads as it did. -/
def runTurnsSpec : ChangeSpec := { name := "runTurns", fn := fun _ => fun
  | [d1, d2, d3] => { results := [.lit (.bool true)], args := [d1, d2, d3] }
  | _ => none }
def runTurnsRow : OpenClaim := { program := "ytjfbemoageeobaa", sum := "62e91e71c1c38076bf3fd80dd2915ff06999e91a2dcd37a9fa3431ff52bc84cf", func := "compositor/compositorlaw13.RunTurns", spec := "runTurns", apart := false }
def RunTurnsSaid : Prop := runTurnsRow.holds Try.pinned (OpenSpec.ofChange runTurnsSpec)

/-- ITS FALSE NEIGHBOUR: 'it returns false'. Refute it at one input. -/
def runTurnsWrong : ChangeSpec := { name := "runTurns", fn := fun _ => fun
  | [d1, d2, d3] => { results := [.lit (.bool false)], args := [d1, d2, d3] }
  | _ => none }
def RunTurnsWrongFalsely : Prop := runTurnsRow.holds Try.pinned (OpenSpec.ofChange runTurnsWrong)

/- THE SECOND FORM. 'bulk': how many values and letters a reading holds, each counted each time it is reached (what is shared counts as often as it is met; a slice's spare places count too). A statement '..UptoSaid' is the law's where the arguments, and the package variables that the reading takes, are together of bulk at most 1048576: NARROWER than '..Said'. Prove '..Said' where nothing that the law and all that it calls make is longer than what came in: it says more and counts as full. Else prove '..UptoSaid'. A law counts once. -/
mutual
def uptoBulk {H : Type} : DataW H → Nat
  | .lit (.string bytes) => bytes.length + 1
  | .lit _ => 1
  | .nil => 1
  | .ptr d => uptoBulk d + 1
  | .slice elems spare => uptoBulkAll elems + uptoBulkAll spare + 1
  | .agg parts => uptoBulkAll parts + 1
  | .iface _ d => uptoBulk d + 1
  | .map entries => uptoBulkEntries entries + 1
  | .held _ => 1
def uptoBulkAll {H : Type} : List (DataW H) → Nat
  | [] => 0
  | d :: r => uptoBulk d + uptoBulkAll r
def uptoBulkEntries {H : Type} : List (Lit × DataW H) → Nat
  | [] => 0
  | x :: r => uptoBulkEntry x + uptoBulkEntries r
def uptoBulkEntry {H : Type} : Lit × DataW H → Nat
  | (.string bytes, d) => bytes.length + uptoBulk d + 1
  | (_, d) => uptoBulk d + 1
 end
def uptoSmall : (H : Type) → List (DataW H) → Bool := fun _ ds => decide (uptoBulkAll ds ≤ 1048576)
def OpenSpec.upto (s : _root_.Go.ChangeSpec) : _root_.Go.OpenSpec := { _root_.Go.OpenSpec.ofChange s with cond := some uptoSmall }

/-- 'compositorlaw13.RunSides', WHERE WHAT IT READS IS OF BULK AT MOST 1048576: true; the input reads as it did. -/
def runSidesUptoRow : OpenClaim := { program := "ytjfbemoageeobaa", sum := "62e91e71c1c38076bf3fd80dd2915ff06999e91a2dcd37a9fa3431ff52bc84cf", func := "compositor/compositorlaw13.RunSides", spec := "runSides", apart := false, narrowed := true }
def RunSidesUptoSaid : Prop := runSidesUptoRow.holds Try.pinned (OpenSpec.upto runSidesSpec)

/-- 'compositorlaw13.RunEdges', WHERE WHAT IT READS IS OF BULK AT MOST 1048576: true; the input reads as it did. -/
def runEdgesUptoRow : OpenClaim := { program := "ytjfbemoageeobaa", sum := "62e91e71c1c38076bf3fd80dd2915ff06999e91a2dcd37a9fa3431ff52bc84cf", func := "compositor/compositorlaw13.RunEdges", spec := "runEdges", apart := false, narrowed := true }
def RunEdgesUptoSaid : Prop := runEdgesUptoRow.holds Try.pinned (OpenSpec.upto runEdgesSpec)

/-- 'compositorlaw13.RunTurns', WHERE WHAT IT READS IS OF BULK AT MOST 1048576: true; the input reads as it did. -/
def runTurnsUptoRow : OpenClaim := { program := "ytjfbemoageeobaa", sum := "62e91e71c1c38076bf3fd80dd2915ff06999e91a2dcd37a9fa3431ff52bc84cf", func := "compositor/compositorlaw13.RunTurns", spec := "runTurns", apart := false, narrowed := true }
def RunTurnsUptoSaid : Prop := runTurnsUptoRow.holds Try.pinned (OpenSpec.upto runTurnsSpec)

end Rows
end Go.Proofs.Ytjfbemoageeobaa
