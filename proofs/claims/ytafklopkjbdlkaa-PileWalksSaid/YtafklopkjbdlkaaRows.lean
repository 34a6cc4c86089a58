/-
  No cell of these rows narrows 'for every input' (looked for: loops, veiled, ifaces, maps, wideKeys, modest, calm, conditions, laid).
  DERIVED. THE GIVEN ROWS OF THIS SEAT. 3 by the template 'for every input the law returns true; each argument reads behind the call as it read before'; 0 by the template 'total and deterministic' (their statements: YtafklopkjbdlkaaTotals.lean).
  GIVEN WITH THE SEED: the statements are not yours to turn. If you find one false, say at which input.
  Laid BY PROGRAM, IN A SANDBOX (cutbox-rows.mjs): the forced cells as the released guide's own fill.sh prints them over the translation 6079d76dddfc0e4b… (all of the seat's roots in one cut). By AI agents, Wed Nov 11 2026. No macro, syntax, notation, axiom, sorry.
-/
import Derived.Test.YtafklopkjbdlkaaChecked
import GoSem.Claim
import GoSem.ClaimJoined
import GoSem.ClaimMapViews
import Derived.JoinedTies
import Derived.KernelRfl
namespace Go.Proofs.Ytafklopkjbdlkaa
/- THE CELL 'sum', in the pinned program and in every row, IS THE sha256 OF THE DUMP (.gsa) THAT YtafklopkjbdlkaaProg.lean LOADS. Nothing in Lean hashes anything: it is a label: what it is worth is what the hold of that sum in a sandbox is worth. -/
noncomputable def Try.pinned : Pinned := { name := "ytafklopkjbdlkaa", sum := "6079d76dddfc0e4bd424f848c1d9293cfe36ff44e75f22f9f2a17274224bc14c", checked := Try.checked }
namespace Rows
def none {H : Type} : Left H := { results := [], args := [] }

/-- 'compositorlaw02.PilePlays': WHATEVER THE INPUT: true; the input reads as it did. -/
def pilePlaysSpec : ChangeSpec := { name := "pilePlays", fn := fun _ => fun
  | [d] => { results := [.lit (.bool true)], args := [d] }
  | _ => none }
def pilePlaysRow : OpenClaim := { program := "ytafklopkjbdlkaa", sum := "6079d76dddfc0e4bd424f848c1d9293cfe36ff44e75f22f9f2a17274224bc14c", func := "compositor/compositorlaw02.PilePlays", spec := "pilePlays", apart := false }
def PilePlaysSaid : Prop := pilePlaysRow.holds Try.pinned (OpenSpec.ofChange pilePlaysSpec)

/-- ITS FALSE NEIGHBOUR: 'it returns false'. Refute it at one input. -/
def pilePlaysWrong : ChangeSpec := { name := "pilePlays", fn := fun _ => fun
  | [d] => { results := [.lit (.bool false)], args := [d] }
  | _ => none }
def PilePlaysWrongFalsely : Prop := pilePlaysRow.holds Try.pinned (OpenSpec.ofChange pilePlaysWrong)

/-- 'compositorlaw02.PileWalks': WHATEVER THE INPUT: true; the input reads as it did. -/
def pileWalksSpec : ChangeSpec := { name := "pileWalks", fn := fun _ => fun
  | [d1, d2] => { results := [.lit (.bool true)], args := [d1, d2] }
  | _ => none }
def pileWalksRow : OpenClaim := { program := "ytafklopkjbdlkaa", sum := "6079d76dddfc0e4bd424f848c1d9293cfe36ff44e75f22f9f2a17274224bc14c", func := "compositor/compositorlaw02.PileWalks", spec := "pileWalks", unfollowed := true, recurses := true, apart := false }
def PileWalksSaid : Prop := pileWalksRow.holds Try.pinned (OpenSpec.ofChange pileWalksSpec)

/-- ITS FALSE NEIGHBOUR: 'it returns false'. Refute it at one input. -/
def pileWalksWrong : ChangeSpec := { name := "pileWalks", fn := fun _ => fun
  | [d1, d2] => { results := [.lit (.bool false)], args := [d1, d2] }
  | _ => none }
def PileWalksWrongFalsely : Prop := pileWalksRow.holds Try.pinned (OpenSpec.ofChange pileWalksWrong)

/-- 'compositorlaw02.PileNil': WHATEVER THE INPUT: true; the input reads as it did. -/
def pileNilSpec : ChangeSpec := { name := "pileNil", fn := fun _ => fun
  | [d] => { results := [.lit (.bool true)], args := [d] }
  | _ => none }
def pileNilRow : OpenClaim := { program := "ytafklopkjbdlkaa", sum := "6079d76dddfc0e4bd424f848c1d9293cfe36ff44e75f22f9f2a17274224bc14c", func := "compositor/compositorlaw02.PileNil", spec := "pileNil", unfollowed := true, recurses := true, apart := false }
def PileNilSaid : Prop := pileNilRow.holds Try.pinned (OpenSpec.ofChange pileNilSpec)

/-- ITS FALSE NEIGHBOUR: 'it returns false'. Refute it at one input. -/
def pileNilWrong : ChangeSpec := { name := "pileNil", fn := fun _ => fun
  | [d] => { results := [.lit (.bool false)], args := [d] }
  | _ => none }
def PileNilWrongFalsely : Prop := pileNilRow.holds Try.pinned (OpenSpec.ofChange pileNilWrong)

/- THE SECOND FORM. 'bulk': how many values and letters a reading holds, each counted each time it is reached (what is shared counts as often as it is met; a slice's spare places count too). A statement '..UptoSaid' is the law's where the arguments, and the package variables that the reading takes, are together of bulk at most 1048576: NARROWER than '..Said'. Prove '..Said' where nothing that the law and all that it calls make is longer than what came in: it says more and counts as full. Else prove '..UptoSaid'. A law counts once. -/
mutual
def uptoBulk {H : Type} : DataW H → Nat
  | .lit (.string bytes) => bytes.length + 1
  | .lit _ => 1
  | .nil => 1
  | .ptr d => uptoBulk d + 1
  | .slice elems spare => uptoBulkAll elems + uptoBulkAll spare + 1
  | .agg parts => uptoBulkAll parts + 1
  | .iface _ d => uptoBulk d + 1
  | .map entries => uptoBulkEntries entries + 1
  | .held _ => 1
def uptoBulkAll {H : Type} : List (DataW H) → Nat
  | [] => 0
  | d :: r => uptoBulk d + uptoBulkAll r
def uptoBulkEntries {H : Type} : List (Lit × DataW H) → Nat
  | [] => 0
  | x :: r => uptoBulkEntry x + uptoBulkEntries r
def uptoBulkEntry {H : Type} : Lit × DataW H → Nat
  | (.string bytes, d) => bytes.length + uptoBulk d + 1
  | (_, d) => uptoBulk d + 1
 end
def uptoSmall : (H : Type) → List (DataW H) → Bool := fun _ ds => decide (uptoBulkAll ds ≤ 1048576)
def OpenSpec.upto (s : _root_.Go.ChangeSpec) : _root_.Go.OpenSpec := { _root_.Go.OpenSpec.ofChange s with cond := some uptoSmall }

/-- 'compositorlaw02.PilePlays', WHERE WHAT IT READS IS OF BULK AT MOST 1048576: true; the input reads as it did. -/
def pilePlaysUptoRow : OpenClaim := { program := "ytafklopkjbdlkaa", sum := "6079d76dddfc0e4bd424f848c1d9293cfe36ff44e75f22f9f2a17274224bc14c", func := "compositor/compositorlaw02.PilePlays", spec := "pilePlays", apart := false, narrowed := true }
def PilePlaysUptoSaid : Prop := pilePlaysUptoRow.holds Try.pinned (OpenSpec.upto pilePlaysSpec)

/-- 'compositorlaw02.PileWalks', WHERE WHAT IT READS IS OF BULK AT MOST 1048576: true; the input reads as it did. -/
def pileWalksUptoRow : OpenClaim := { program := "ytafklopkjbdlkaa", sum := "6079d76dddfc0e4bd424f848c1d9293cfe36ff44e75f22f9f2a17274224bc14c", func := "compositor/compositorlaw02.PileWalks", spec := "pileWalks", unfollowed := true, recurses := true, apart := false, narrowed := true }
def PileWalksUptoSaid : Prop := pileWalksUptoRow.holds Try.pinned (OpenSpec.upto pileWalksSpec)

/-- 'compositorlaw02.PileNil', WHERE WHAT IT READS IS OF BULK AT MOST 1048576: true; the input reads as it did. -/
def pileNilUptoRow : OpenClaim := { program := "ytafklopkjbdlkaa", sum := "6079d76dddfc0e4bd424f848c1d9293cfe36ff44e75f22f9f2a17274224bc14c", func := "compositor/compositorlaw02.PileNil", spec := "pileNil", unfollowed := true, recurses := true, apart := false, narrowed := true }
def PileNilUptoSaid : Prop := pileNilUptoRow.holds Try.pinned (OpenSpec.upto pileNilSpec)

end Rows
end Go.Proofs.Ytafklopkjbdlkaa
