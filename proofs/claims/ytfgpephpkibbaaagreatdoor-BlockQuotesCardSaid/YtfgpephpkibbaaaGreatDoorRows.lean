/-
  NARROWER THAN 'FOR EVERY INPUT', by the rows' own cells (each row's printed sentence says how): BlockShapes: laid · BlockQuotes: laid · BlockFenced: laid · BlockRefs: laid.
  DERIVED. THE GIVEN ROWS OF THIS SEAT. 4 by the template 'for every input the law returns true; each argument reads behind the call as it read before'; 0 by the template 'total and deterministic' (their statements: YtfgpephpkibbaaaGreatDoorTotals.lean).
  GIVEN WITH THE SEED: the statements are not yours to turn. If you find one false, say at which input.
  Laid BY PROGRAM, IN A SANDBOX (cutbox-rows.mjs): the forced cells as the released guide's own fill.sh prints them over the translation 8e49b657e59f1cb2… (all of the seat's roots in one cut). By AI agents, Wed Nov 11 2026. No macro, syntax, notation, axiom, sorry.
-/
import Derived.Test.YtfgpephpkibbaaaGreatDoorChecked
import GoSem.PinnedTables
import GoSem.Claim
import GoSem.ClaimJoined
import GoSem.ClaimMapViews
import Derived.JoinedTies
import Derived.KernelRfl
namespace Go.Proofs.YtfgpephpkibbaaaGreatDoor
/- THE CELL 'sum', in the pinned program and in every row, IS THE sha256 OF THE DUMP (.gsa) THAT YtfgpephpkibbaaaGreatDoorProg.lean LOADS. Nothing in Lean hashes anything: it is a label: what it is worth is what the hold of that sum in a sandbox is worth. -/
noncomputable def Tryz.pinned : Pinned := { name := "ytfgpephpkibbaaagreatdoor", sum := "8e49b657e59f1cb2c2cb476ab69fe738a5125744d01c708f8ffae653ca8d87fb", checked := Tryz.checked }
namespace Rows
def none {H : Type} : Left H := { results := [], args := [] }

/- WHAT THE LISTED PACKAGE-LEVEL VARIABLES READ AS WHEN THE CALL BEGINS. Each datum BY PROGRAM (the guide's laid-datum.mjs) off the statement by which the dump's own 'gosem.cut.vars' lays the variable. In a bare row this is a premise. The card (YtfgpephpkibbaaaGreatDoorCards.lean) ties it to the program's text. -/
def laid_unicode_utf8_acceptRanges {H : Type} : DataW H := .agg [.agg [.lit (.int .u8 128), .lit (.int .u8 191)], .agg [.lit (.int .u8 160), .lit (.int .u8 191)], .agg [.lit (.int .u8 128), .lit (.int .u8 159)], .agg [.lit (.int .u8 144), .lit (.int .u8 191)], .agg [.lit (.int .u8 128), .lit (.int .u8 143)], .agg [.lit (.int .u8 0), .lit (.int .u8 0)], .agg [.lit (.int .u8 0), .lit (.int .u8 0)], .agg [.lit (.int .u8 0), .lit (.int .u8 0)], .agg [.lit (.int .u8 0), .lit (.int .u8 0)], .agg [.lit (.int .u8 0), .lit (.int .u8 0)], .agg [.lit (.int .u8 0), .lit (.int .u8 0)], .agg [.lit (.int .u8 0), .lit (.int .u8 0)], .agg [.lit (.int .u8 0), .lit (.int .u8 0)], .agg [.lit (.int .u8 0), .lit (.int .u8 0)], .agg [.lit (.int .u8 0), .lit (.int .u8 0)], .agg [.lit (.int .u8 0), .lit (.int .u8 0)]]
def laid_compositor_named_listed {H : Type} : DataW H := .agg [.lit (.string [110, 98, 115, 112]), .lit (.string [105, 101, 120, 99, 108]), .lit (.string [99, 101, 110, 116]), .lit (.string [112, 111, 117, 110, 100]), .lit (.string [99, 117, 114, 114, 101, 110]), .lit (.string [121, 101, 110]), .lit (.string [98, 114, 118, 98, 97, 114]), .lit (.string [115, 101, 99, 116]), .lit (.string [117, 109, 108]), .lit (.string [99, 111, 112, 121]), .lit (.string [111, 114, 100, 102]), .lit (.string [108, 97, 113, 117, 111]), .lit (.string [110, 111, 116]), .lit (.string [115, 104, 121]), .lit (.string [114, 101, 103]), .lit (.string [109, 97, 99, 114]), .lit (.string [100, 101, 103]), .lit (.string [112, 108, 117, 115, 109, 110]), .lit (.string [115, 117, 112, 50]), .lit (.string [115, 117, 112, 51]), .lit (.string [97, 99, 117, 116, 101]), .lit (.string [109, 105, 99, 114, 111]), .lit (.string [112, 97, 114, 97]), .lit (.string [109, 105, 100, 100, 111, 116]), .lit (.string [99, 101, 100, 105, 108]), .lit (.string [115, 117, 112, 49]), .lit (.string [111, 114, 100, 109]), .lit (.string [114, 97, 113, 117, 111]), .lit (.string [102, 114, 97, 99, 49, 52]), .lit (.string [102, 114, 97, 99, 49, 50]), .lit (.string [102, 114, 97, 99, 51, 52]), .lit (.string [105, 113, 117, 101, 115, 116]), .lit (.string [65, 103, 114, 97, 118, 101]), .lit (.string [65, 97, 99, 117, 116, 101]), .lit (.string [65, 99, 105, 114, 99]), .lit (.string [65, 116, 105, 108, 100, 101]), .lit (.string [65, 117, 109, 108]), .lit (.string [65, 114, 105, 110, 103]), .lit (.string [65, 69, 108, 105, 103]), .lit (.string [67, 99, 101, 100, 105, 108]), .lit (.string [69, 103, 114, 97, 118, 101]), .lit (.string [69, 97, 99, 117, 116, 101]), .lit (.string [69, 99, 105, 114, 99]), .lit (.string [69, 117, 109, 108]), .lit (.string [73, 103, 114, 97, 118, 101]), .lit (.string [73, 97, 99, 117, 116, 101]), .lit (.string [73, 99, 105, 114, 99]), .lit (.string [73, 117, 109, 108]), .lit (.string [69, 84, 72]), .lit (.string [78, 116, 105, 108, 100, 101]), .lit (.string [79, 103, 114, 97, 118, 101]), .lit (.string [79, 97, 99, 117, 116, 101]), .lit (.string [79, 99, 105, 114, 99]), .lit (.string [79, 116, 105, 108, 100, 101]), .lit (.string [79, 117, 109, 108]), .lit (.string [116, 105, 109, 101, 115]), .lit (.string [79, 115, 108, 97, 115, 104]), .lit (.string [85, 103, 114, 97, 118, 101]), .lit (.string [85, 97, 99, 117, 116, 101]), .lit (.string [85, 99, 105, 114, 99]), .lit (.string [85, 117, 109, 108]), .lit (.string [89, 97, 99, 117, 116, 101]), .lit (.string [84, 72, 79, 82, 78]), .lit (.string [115, 122, 108, 105, 103]), .lit (.string [97, 103, 114, 97, 118, 101]), .lit (.string [97, 97, 99, 117, 116, 101]), .lit (.string [97, 99, 105, 114, 99]), .lit (.string [97, 116, 105, 108, 100, 101]), .lit (.string [97, 117, 109, 108]), .lit (.string [97, 114, 105, 110, 103]), .lit (.string [97, 101, 108, 105, 103]), .lit (.string [99, 99, 101, 100, 105, 108]), .lit (.string [101, 103, 114, 97, 118, 101]), .lit (.string [101, 97, 99, 117, 116, 101]), .lit (.string [101, 99, 105, 114, 99]), .lit (.string [101, 117, 109, 108]), .lit (.string [105, 103, 114, 97, 118, 101]), .lit (.string [105, 97, 99, 117, 116, 101]), .lit (.string [105, 99, 105, 114, 99]), .lit (.string [105, 117, 109, 108]), .lit (.string [101, 116, 104]), .lit (.string [110, 116, 105, 108, 100, 101]), .lit (.string [111, 103, 114, 97, 118, 101]), .lit (.string [111, 97, 99, 117, 116, 101]), .lit (.string [111, 99, 105, 114, 99]), .lit (.string [111, 116, 105, 108, 100, 101]), .lit (.string [111, 117, 109, 108]), .lit (.string [100, 105, 118, 105, 100, 101]), .lit (.string [111, 115, 108, 97, 115, 104]), .lit (.string [117, 103, 114, 97, 118, 101]), .lit (.string [117, 97, 99, 117, 116, 101]), .lit (.string [117, 99, 105, 114, 99]), .lit (.string [117, 117, 109, 108]), .lit (.string [121, 97, 99, 117, 116, 101]), .lit (.string [116, 104, 111, 114, 110]), .lit (.string [121, 117, 109, 108])]
/-- One of Go's own tables, pinned by name: the form's constant. -/
def laid_unicode_CaseRanges : DataW Unit := Go.Pinned.caseRanges
/-- One of Go's own tables, pinned by name: the form's constant. -/
def laid_unicode_utf8_first : DataW Unit := Go.Pinned.utf8First

/-- 'compositorlaw12.BlockShapes': WHATEVER THE INPUT: true; the input reads as it did. -/
def blockShapesSpec : ChangeSpec := { name := "blockShapes", fn := fun _ => fun
  | [d] => { results := [.lit (.bool true)], args := [d] }
  | _ => none }
def blockShapesRow : OpenClaim := { program := "ytfgpephpkibbaaagreatdoor", sum := "8e49b657e59f1cb2c2cb476ab69fe738a5125744d01c708f8ffae653ca8d87fb", func := "compositor/compositorlaw12.BlockShapes", spec := "blockShapes", inPlace := ["internal/bytealg.IndexByteString", "internal/bytealg.IndexString", "internal/abi.NoEscape", "internal/bytealg.MakeNoZero"], unfollowed := true, recurses := true, named := ["unicode/utf8.first", "unicode/utf8.acceptRanges", "compositor/named.listed", "internal/bytealg.MaxLen", "unicode.CaseRanges"], apart := false, laid := [("unicode/utf8.acceptRanges", laid_unicode_utf8_acceptRanges), ("compositor/named.listed", laid_compositor_named_listed), ("unicode.CaseRanges", laid_unicode_CaseRanges), ("unicode/utf8.first", laid_unicode_utf8_first)] }
def BlockShapesSaid : Prop := blockShapesRow.holds Tryz.pinned (OpenSpec.ofChange blockShapesSpec)

/-- ITS FALSE NEIGHBOUR: 'it returns false'. Refute it at one input. -/
def blockShapesWrong : ChangeSpec := { name := "blockShapes", fn := fun _ => fun
  | [d] => { results := [.lit (.bool false)], args := [d] }
  | _ => none }
def BlockShapesWrongFalsely : Prop := blockShapesRow.holds Tryz.pinned (OpenSpec.ofChange blockShapesWrong)

/-- 'compositorlaw12.BlockQuotes': WHATEVER THE INPUT: true; the input reads as it did. -/
def blockQuotesSpec : ChangeSpec := { name := "blockQuotes", fn := fun _ => fun
  | [d] => { results := [.lit (.bool true)], args := [d] }
  | _ => none }
def blockQuotesRow : OpenClaim := { program := "ytfgpephpkibbaaagreatdoor", sum := "8e49b657e59f1cb2c2cb476ab69fe738a5125744d01c708f8ffae653ca8d87fb", func := "compositor/compositorlaw12.BlockQuotes", spec := "blockQuotes", inPlace := ["internal/bytealg.IndexByteString", "internal/bytealg.IndexString", "internal/abi.NoEscape", "internal/bytealg.MakeNoZero"], unfollowed := true, recurses := true, named := ["unicode/utf8.first", "unicode/utf8.acceptRanges", "compositor/named.listed", "internal/bytealg.MaxLen", "unicode.CaseRanges"], apart := false, laid := [("unicode/utf8.acceptRanges", laid_unicode_utf8_acceptRanges), ("compositor/named.listed", laid_compositor_named_listed), ("unicode.CaseRanges", laid_unicode_CaseRanges), ("unicode/utf8.first", laid_unicode_utf8_first)] }
def BlockQuotesSaid : Prop := blockQuotesRow.holds Tryz.pinned (OpenSpec.ofChange blockQuotesSpec)

/-- ITS FALSE NEIGHBOUR: 'it returns false'. Refute it at one input. -/
def blockQuotesWrong : ChangeSpec := { name := "blockQuotes", fn := fun _ => fun
  | [d] => { results := [.lit (.bool false)], args := [d] }
  | _ => none }
def BlockQuotesWrongFalsely : Prop := blockQuotesRow.holds Tryz.pinned (OpenSpec.ofChange blockQuotesWrong)

/-- 'compositorlaw12.BlockFenced': WHATEVER THE INPUT: true; the input reads as it did. -/
def blockFencedSpec : ChangeSpec := { name := "blockFenced", fn := fun _ => fun
  | [d1, d2] => { results := [.lit (.bool true)], args := [d1, d2] }
  | _ => none }
def blockFencedRow : OpenClaim := { program := "ytfgpephpkibbaaagreatdoor", sum := "8e49b657e59f1cb2c2cb476ab69fe738a5125744d01c708f8ffae653ca8d87fb", func := "compositor/compositorlaw12.BlockFenced", spec := "blockFenced", inPlace := ["internal/bytealg.IndexByteString", "internal/bytealg.IndexString", "internal/abi.NoEscape", "internal/bytealg.MakeNoZero"], unfollowed := true, recurses := true, named := ["unicode/utf8.first", "unicode/utf8.acceptRanges", "compositor/named.listed", "internal/bytealg.MaxLen", "unicode.CaseRanges"], apart := false, laid := [("unicode/utf8.acceptRanges", laid_unicode_utf8_acceptRanges), ("compositor/named.listed", laid_compositor_named_listed), ("unicode.CaseRanges", laid_unicode_CaseRanges), ("unicode/utf8.first", laid_unicode_utf8_first)] }
def BlockFencedSaid : Prop := blockFencedRow.holds Tryz.pinned (OpenSpec.ofChange blockFencedSpec)

/-- ITS FALSE NEIGHBOUR: 'it returns false'. Refute it at one input. -/
def blockFencedWrong : ChangeSpec := { name := "blockFenced", fn := fun _ => fun
  | [d1, d2] => { results := [.lit (.bool false)], args := [d1, d2] }
  | _ => none }
def BlockFencedWrongFalsely : Prop := blockFencedRow.holds Tryz.pinned (OpenSpec.ofChange blockFencedWrong)

/-- 'compositorlaw12.BlockRefs': WHATEVER THE INPUT: true; the input reads as it did. -/
def blockRefsSpec : ChangeSpec := { name := "blockRefs", fn := fun _ => fun
  | [d] => { results := [.lit (.bool true)], args := [d] }
  | _ => none }
def blockRefsRow : OpenClaim := { program := "ytfgpephpkibbaaagreatdoor", sum := "8e49b657e59f1cb2c2cb476ab69fe738a5125744d01c708f8ffae653ca8d87fb", func := "compositor/compositorlaw12.BlockRefs", spec := "blockRefs", inPlace := ["internal/bytealg.IndexByteString", "internal/bytealg.IndexString", "internal/abi.NoEscape", "internal/bytealg.MakeNoZero"], unfollowed := true, recurses := true, named := ["unicode/utf8.first", "unicode/utf8.acceptRanges", "compositor/named.listed", "internal/bytealg.MaxLen", "unicode.CaseRanges"], apart := false, laid := [("unicode/utf8.acceptRanges", laid_unicode_utf8_acceptRanges), ("compositor/named.listed", laid_compositor_named_listed), ("unicode.CaseRanges", laid_unicode_CaseRanges), ("unicode/utf8.first", laid_unicode_utf8_first)] }
def BlockRefsSaid : Prop := blockRefsRow.holds Tryz.pinned (OpenSpec.ofChange blockRefsSpec)

/-- ITS FALSE NEIGHBOUR: 'it returns false'. Refute it at one input. -/
def blockRefsWrong : ChangeSpec := { name := "blockRefs", fn := fun _ => fun
  | [d] => { results := [.lit (.bool false)], args := [d] }
  | _ => none }
def BlockRefsWrongFalsely : Prop := blockRefsRow.holds Tryz.pinned (OpenSpec.ofChange blockRefsWrong)

/- THE SECOND FORM. 'bulk': how many values and letters a reading holds, each counted each time it is reached (what is shared counts as often as it is met; a slice's spare places count too). A statement '..UptoSaid' is the law's where the arguments, and the package variables that the reading takes, are together of bulk at most 1048576: NARROWER than '..Said'. Prove '..Said' where nothing that the law and all that it calls make is longer than what came in: it says more and counts as full. Else prove '..UptoSaid'. A law counts once. -/
mutual
def uptoBulk {H : Type} : DataW H → Nat
  | .lit (.string bytes) => bytes.length + 1
  | .lit _ => 1
  | .nil => 1
  | .ptr d => uptoBulk d + 1
  | .slice elems spare => uptoBulkAll elems + uptoBulkAll spare + 1
  | .agg parts => uptoBulkAll parts + 1
  | .iface _ d => uptoBulk d + 1
  | .map entries => uptoBulkEntries entries + 1
  | .held _ => 1
def uptoBulkAll {H : Type} : List (DataW H) → Nat
  | [] => 0
  | d :: r => uptoBulk d + uptoBulkAll r
def uptoBulkEntries {H : Type} : List (Lit × DataW H) → Nat
  | [] => 0
  | x :: r => uptoBulkEntry x + uptoBulkEntries r
def uptoBulkEntry {H : Type} : Lit × DataW H → Nat
  | (.string bytes, d) => bytes.length + uptoBulk d + 1
  | (_, d) => uptoBulk d + 1
 end
def uptoSmall : (H : Type) → List (DataW H) → Bool := fun _ ds => decide (uptoBulkAll ds ≤ 1048576)
def OpenSpec.upto (s : _root_.Go.ChangeSpec) : _root_.Go.OpenSpec := { _root_.Go.OpenSpec.ofChange s with cond := some uptoSmall }

/-- 'compositorlaw12.BlockShapes', WHERE WHAT IT READS IS OF BULK AT MOST 1048576: true; the input reads as it did. -/
def blockShapesUptoRow : OpenClaim := { program := "ytfgpephpkibbaaagreatdoor", sum := "8e49b657e59f1cb2c2cb476ab69fe738a5125744d01c708f8ffae653ca8d87fb", func := "compositor/compositorlaw12.BlockShapes", spec := "blockShapes", inPlace := ["internal/bytealg.IndexByteString", "internal/bytealg.IndexString", "internal/abi.NoEscape", "internal/bytealg.MakeNoZero"], unfollowed := true, recurses := true, named := ["unicode/utf8.first", "unicode/utf8.acceptRanges", "compositor/named.listed", "internal/bytealg.MaxLen", "unicode.CaseRanges"], apart := false, laid := [("unicode/utf8.acceptRanges", laid_unicode_utf8_acceptRanges), ("compositor/named.listed", laid_compositor_named_listed), ("unicode.CaseRanges", laid_unicode_CaseRanges), ("unicode/utf8.first", laid_unicode_utf8_first)], narrowed := true }
def BlockShapesUptoSaid : Prop := blockShapesUptoRow.holds Tryz.pinned (OpenSpec.upto blockShapesSpec)

/-- 'compositorlaw12.BlockQuotes', WHERE WHAT IT READS IS OF BULK AT MOST 1048576: true; the input reads as it did. -/
def blockQuotesUptoRow : OpenClaim := { program := "ytfgpephpkibbaaagreatdoor", sum := "8e49b657e59f1cb2c2cb476ab69fe738a5125744d01c708f8ffae653ca8d87fb", func := "compositor/compositorlaw12.BlockQuotes", spec := "blockQuotes", inPlace := ["internal/bytealg.IndexByteString", "internal/bytealg.IndexString", "internal/abi.NoEscape", "internal/bytealg.MakeNoZero"], unfollowed := true, recurses := true, named := ["unicode/utf8.first", "unicode/utf8.acceptRanges", "compositor/named.listed", "internal/bytealg.MaxLen", "unicode.CaseRanges"], apart := false, laid := [("unicode/utf8.acceptRanges", laid_unicode_utf8_acceptRanges), ("compositor/named.listed", laid_compositor_named_listed), ("unicode.CaseRanges", laid_unicode_CaseRanges), ("unicode/utf8.first", laid_unicode_utf8_first)], narrowed := true }
def BlockQuotesUptoSaid : Prop := blockQuotesUptoRow.holds Tryz.pinned (OpenSpec.upto blockQuotesSpec)

/-- 'compositorlaw12.BlockFenced', WHERE WHAT IT READS IS OF BULK AT MOST 1048576: true; the input reads as it did. -/
def blockFencedUptoRow : OpenClaim := { program := "ytfgpephpkibbaaagreatdoor", sum := "8e49b657e59f1cb2c2cb476ab69fe738a5125744d01c708f8ffae653ca8d87fb", func := "compositor/compositorlaw12.BlockFenced", spec := "blockFenced", inPlace := ["internal/bytealg.IndexByteString", "internal/bytealg.IndexString", "internal/abi.NoEscape", "internal/bytealg.MakeNoZero"], unfollowed := true, recurses := true, named := ["unicode/utf8.first", "unicode/utf8.acceptRanges", "compositor/named.listed", "internal/bytealg.MaxLen", "unicode.CaseRanges"], apart := false, laid := [("unicode/utf8.acceptRanges", laid_unicode_utf8_acceptRanges), ("compositor/named.listed", laid_compositor_named_listed), ("unicode.CaseRanges", laid_unicode_CaseRanges), ("unicode/utf8.first", laid_unicode_utf8_first)], narrowed := true }
def BlockFencedUptoSaid : Prop := blockFencedUptoRow.holds Tryz.pinned (OpenSpec.upto blockFencedSpec)

/-- 'compositorlaw12.BlockRefs', WHERE WHAT IT READS IS OF BULK AT MOST 1048576: true; the input reads as it did. -/
def blockRefsUptoRow : OpenClaim := { program := "ytfgpephpkibbaaagreatdoor", sum := "8e49b657e59f1cb2c2cb476ab69fe738a5125744d01c708f8ffae653ca8d87fb", func := "compositor/compositorlaw12.BlockRefs", spec := "blockRefs", inPlace := ["internal/bytealg.IndexByteString", "internal/bytealg.IndexString", "internal/abi.NoEscape", "internal/bytealg.MakeNoZero"], unfollowed := true, recurses := true, named := ["unicode/utf8.first", "unicode/utf8.acceptRanges", "compositor/named.listed", "internal/bytealg.MaxLen", "unicode.CaseRanges"], apart := false, laid := [("unicode/utf8.acceptRanges", laid_unicode_utf8_acceptRanges), ("compositor/named.listed", laid_compositor_named_listed), ("unicode.CaseRanges", laid_unicode_CaseRanges), ("unicode/utf8.first", laid_unicode_utf8_first)], narrowed := true }
def BlockRefsUptoSaid : Prop := blockRefsUptoRow.holds Tryz.pinned (OpenSpec.upto blockRefsSpec)

end Rows
end Go.Proofs.YtfgpephpkibbaaaGreatDoor
