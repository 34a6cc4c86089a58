/-
  No cell of these rows narrows 'for every input' (looked for: loops, veiled, ifaces, maps, wideKeys, modest, calm, conditions, laid).
  DERIVED. THE GIVEN ROWS OF THIS SEAT. 3 by the template 'for every input the law returns true; each argument reads behind the call as it read before'; 0 by the template 'total and deterministic' (their statements: YtjkkinccehfmoaaTotals.lean).
  GIVEN WITH THE SEED: the statements are not yours to turn. If you find one false, say at which input.
  Laid BY PROGRAM, IN A SANDBOX (cutbox-rows.mjs): the forced cells as the released guide's own fill.sh prints them over the translation badfdb96706d2a97… (all of the seat's roots in one cut). By AI agents, Wed Nov 11 2026. No macro, syntax, notation, axiom, sorry.
-/
import Derived.Test.YtjkkinccehfmoaaChecked
import GoSem.Claim
import GoSem.ClaimJoined
import GoSem.ClaimMapViews
import Derived.JoinedTies
import Derived.KernelRfl
namespace Go.Proofs.Ytjkkinccehfmoaa
/- THE CELL 'sum', in the pinned program and in every row, IS THE sha256 OF THE DUMP (.gsa) THAT YtjkkinccehfmoaaProg.lean LOADS. Nothing in Lean hashes anything: it is a label: what it is worth is what the hold of that sum in a sandbox is worth. -/
noncomputable def Try.pinned : Pinned := { name := "ytjkkinccehfmoaa", sum := "badfdb96706d2a970b99b99af08eec1898f3bb6cceb5ccdf6a53115b727a88d5", checked := Try.checked }
namespace Rows
def none {H : Type} : Left H := { results := [], args := [] }

/-- 'compositorlaw18.WrapFits': WHATEVER THE INPUT: true; the input reads as it did. -/
def wrapFitsSpec : ChangeSpec := { name := "wrapFits", fn := fun _ => fun
  | [d1, d2] => { results := [.lit (.bool true)], args := [d1, d2] }
  | _ => none }
def wrapFitsRow : OpenClaim := { program := "ytjkkinccehfmoaa", sum := "badfdb96706d2a970b99b99af08eec1898f3bb6cceb5ccdf6a53115b727a88d5", func := "compositor/compositorlaw18.WrapFits", spec := "wrapFits", named := ["math/bits.divideError", "math/bits.overflowError"], apart := false }
def WrapFitsSaid : Prop := wrapFitsRow.holds Try.pinned (OpenSpec.ofChange wrapFitsSpec)

/-- ITS FALSE NEIGHBOUR: 'it returns false'. Refute it at one input. -/
def wrapFitsWrong : ChangeSpec := { name := "wrapFits", fn := fun _ => fun
  | [d1, d2] => { results := [.lit (.bool false)], args := [d1, d2] }
  | _ => none }
def WrapFitsWrongFalsely : Prop := wrapFitsRow.holds Try.pinned (OpenSpec.ofChange wrapFitsWrong)

/-- 'compositorlaw18.WrapWords': WHATEVER THE INPUT: true; the input reads as it did. -/
def wrapWordsSpec : ChangeSpec := { name := "wrapWords", fn := fun _ => fun
  | [d1, d2] => { results := [.lit (.bool true)], args := [d1, d2] }
  | _ => none }
def wrapWordsRow : OpenClaim := { program := "ytjkkinccehfmoaa", sum := "badfdb96706d2a970b99b99af08eec1898f3bb6cceb5ccdf6a53115b727a88d5", func := "compositor/compositorlaw18.WrapWords", spec := "wrapWords", named := ["math/bits.divideError", "math/bits.overflowError"], apart := false }
def WrapWordsSaid : Prop := wrapWordsRow.holds Try.pinned (OpenSpec.ofChange wrapWordsSpec)

/-- ITS FALSE NEIGHBOUR: 'it returns false'. Refute it at one input. -/
def wrapWordsWrong : ChangeSpec := { name := "wrapWords", fn := fun _ => fun
  | [d1, d2] => { results := [.lit (.bool false)], args := [d1, d2] }
  | _ => none }
def WrapWordsWrongFalsely : Prop := wrapWordsRow.holds Try.pinned (OpenSpec.ofChange wrapWordsWrong)

/-- 'compositorlaw18.WrapAlone': WHATEVER THE INPUT: true; the input reads as it did. -/
def wrapAloneSpec : ChangeSpec := { name := "wrapAlone", fn := fun _ => fun
  | [d1, d2] => { results := [.lit (.bool true)], args := [d1, d2] }
  | _ => none }
def wrapAloneRow : OpenClaim := { program := "ytjkkinccehfmoaa", sum := "badfdb96706d2a970b99b99af08eec1898f3bb6cceb5ccdf6a53115b727a88d5", func := "compositor/compositorlaw18.WrapAlone", spec := "wrapAlone", named := ["math/bits.divideError", "math/bits.overflowError"], apart := false }
def WrapAloneSaid : Prop := wrapAloneRow.holds Try.pinned (OpenSpec.ofChange wrapAloneSpec)

/-- ITS FALSE NEIGHBOUR: 'it returns false'. Refute it at one input. -/
def wrapAloneWrong : ChangeSpec := { name := "wrapAlone", fn := fun _ => fun
  | [d1, d2] => { results := [.lit (.bool false)], args := [d1, d2] }
  | _ => none }
def WrapAloneWrongFalsely : Prop := wrapAloneRow.holds Try.pinned (OpenSpec.ofChange wrapAloneWrong)

/- THE SECOND FORM. 'bulk': how many values and letters a reading holds, each counted each time it is reached (what is shared counts as often as it is met; a slice's spare places count too). A statement '..UptoSaid' is the law's where the arguments, and the package variables that the reading takes, are together of bulk at most 1048576: NARROWER than '..Said'. Prove '..Said' where nothing that the law and all that it calls make is longer than what came in: it says more and counts as full. Else prove '..UptoSaid'. A law counts once. -/
mutual
def uptoBulk {H : Type} : DataW H → Nat
  | .lit (.string bytes) => bytes.length + 1
  | .lit _ => 1
  | .nil => 1
  | .ptr d => uptoBulk d + 1
  | .slice elems spare => uptoBulkAll elems + uptoBulkAll spare + 1
  | .agg parts => uptoBulkAll parts + 1
  | .iface _ d => uptoBulk d + 1
  | .map entries => uptoBulkEntries entries + 1
  | .held _ => 1
def uptoBulkAll {H : Type} : List (DataW H) → Nat
  | [] => 0
  | d :: r => uptoBulk d + uptoBulkAll r
def uptoBulkEntries {H : Type} : List (Lit × DataW H) → Nat
  | [] => 0
  | x :: r => uptoBulkEntry x + uptoBulkEntries r
def uptoBulkEntry {H : Type} : Lit × DataW H → Nat
  | (.string bytes, d) => bytes.length + uptoBulk d + 1
  | (_, d) => uptoBulk d + 1
 end
def uptoSmall : (H : Type) → List (DataW H) → Bool := fun _ ds => decide (uptoBulkAll ds ≤ 1048576)
def OpenSpec.upto (s : _root_.Go.ChangeSpec) : _root_.Go.OpenSpec := { _root_.Go.OpenSpec.ofChange s with cond := some uptoSmall }

/-- 'compositorlaw18.WrapFits', WHERE WHAT IT READS IS OF BULK AT MOST 1048576: true; the input reads as it did. -/
def wrapFitsUptoRow : OpenClaim := { program := "ytjkkinccehfmoaa", sum := "badfdb96706d2a970b99b99af08eec1898f3bb6cceb5ccdf6a53115b727a88d5", func := "compositor/compositorlaw18.WrapFits", spec := "wrapFits", named := ["math/bits.divideError", "math/bits.overflowError"], apart := false, narrowed := true }
def WrapFitsUptoSaid : Prop := wrapFitsUptoRow.holds Try.pinned (OpenSpec.upto wrapFitsSpec)

/-- 'compositorlaw18.WrapWords', WHERE WHAT IT READS IS OF BULK AT MOST 1048576: true; the input reads as it did. -/
def wrapWordsUptoRow : OpenClaim := { program := "ytjkkinccehfmoaa", sum := "badfdb96706d2a970b99b99af08eec1898f3bb6cceb5ccdf6a53115b727a88d5", func := "compositor/compositorlaw18.WrapWords", spec := "wrapWords", named := ["math/bits.divideError", "math/bits.overflowError"], apart := false, narrowed := true }
def WrapWordsUptoSaid : Prop := wrapWordsUptoRow.holds Try.pinned (OpenSpec.upto wrapWordsSpec)

/-- 'compositorlaw18.WrapAlone', WHERE WHAT IT READS IS OF BULK AT MOST 1048576: true; the input reads as it did. -/
def wrapAloneUptoRow : OpenClaim := { program := "ytjkkinccehfmoaa", sum := "badfdb96706d2a970b99b99af08eec1898f3bb6cceb5ccdf6a53115b727a88d5", func := "compositor/compositorlaw18.WrapAlone", spec := "wrapAlone", named := ["math/bits.divideError", "math/bits.overflowError"], apart := false, narrowed := true }
def WrapAloneUptoSaid : Prop := wrapAloneUptoRow.holds Try.pinned (OpenSpec.upto wrapAloneSpec)

end Rows
end Go.Proofs.Ytjkkinccehfmoaa
