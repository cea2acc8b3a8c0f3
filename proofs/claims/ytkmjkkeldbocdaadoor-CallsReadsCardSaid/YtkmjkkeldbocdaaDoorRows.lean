/-
  NARROWER THAN 'FOR EVERY INPUT', by the rows' own cells (each row's printed sentence says how): CallsForms: laid · CallsReads: laid · CallsWrong: laid · CallsResults: laid · CallsOnly: laid · CallsRight: laid · CallsTwo: laid.
  DERIVED. THE GIVEN ROWS OF THIS SEAT. 7 by the template 'for every input the law returns true; each argument reads behind the call as it read before'; 0 by the template 'total and deterministic' (their statements: YtkmjkkeldbocdaaDoorTotals.lean).
  GIVEN WITH THE SEED: the statements are not yours to turn. If you find one false, say at which input.
  Laid BY PROGRAM, IN A SANDBOX (cutbox-rows.mjs): the forced cells as the released guide's own fill.sh prints them over the translation f9993b7860799af7… (all of the seat's roots in one cut). By AI agents, Wed Nov 11 2026. No macro, syntax, notation, axiom, sorry.
-/
import Derived.Test.YtkmjkkeldbocdaaDoorChecked
import GoSem.Claim
import GoSem.ClaimJoined
import GoSem.ClaimMapViews
import Derived.JoinedTies
import Derived.KernelRfl
namespace Go.Proofs.YtkmjkkeldbocdaaDoor
/- THE CELL 'sum', in the pinned program and in every row, IS THE sha256 OF THE DUMP (.gsa) THAT YtkmjkkeldbocdaaDoorProg.lean LOADS. Nothing in Lean hashes anything: it is a label: what it is worth is what the hold of that sum in a sandbox is worth. -/
noncomputable def Tryd.pinned : Pinned := { name := "ytkmjkkeldbocdaadoor", sum := "f9993b7860799af7876988ef638da74dcdd082373919cc53db580ea9b2e38164", checked := Tryd.checked }
namespace Rows
def none {H : Type} : Left H := { results := [], args := [] }

/- WHAT THE LISTED PACKAGE-LEVEL VARIABLES READ AS WHEN THE CALL BEGINS. Each datum BY PROGRAM (the guide's laid-datum.mjs) off the statement by which the dump's own 'gosem.cut.vars' lays the variable. In a bare row this is a premise. The card (YtkmjkkeldbocdaaDoorCards.lean) ties it to the program's text. -/
def laid_byre_calls_fields {H : Type} : DataW H := .agg [.lit (.string []), .lit (.string []), .lit (.string [112]), .lit (.string [112, 103, 99, 114]), .lit (.string [112, 103, 99]), .lit (.string [112, 103, 99, 114]), .lit (.string [112, 103, 99]), .lit (.string [112, 103, 99]), .lit (.string [112, 97, 115]), .lit (.string [112, 97, 98]), .lit (.string [115]), .lit (.string [104]), .lit (.string [104, 97, 115]), .lit (.string [104, 97, 98]), .lit (.string [112, 107, 109]), .lit (.string [112, 103, 99, 107, 109]), .lit (.string [112, 103]), .lit (.string [112, 103]), .lit (.string [112, 103, 99, 110]), .lit (.string [110]), .lit (.string [110]), .lit (.string [])]

/-- 'byrelaw19.CallsForms': WHATEVER THE INPUT: true; the input reads as it did. -/
def callsFormsSpec : ChangeSpec := { name := "callsForms", fn := fun _ => fun
  | [d1, d2] => { results := [.lit (.bool true)], args := [d1, d2] }
  | _ => none }
def callsFormsRow : OpenClaim := { program := "ytkmjkkeldbocdaadoor", sum := "f9993b7860799af7876988ef638da74dcdd082373919cc53db580ea9b2e38164", func := "byre/byrelaw19.CallsForms", spec := "callsForms", inPlace := ["internal/bytealg.IndexByteString", "internal/bytealg.IndexString"], unfollowed := true, recurses := true, named := ["byre/calls.fields", "internal/bytealg.MaxLen"], apart := false, laid := [("byre/calls.fields", laid_byre_calls_fields)] }
def CallsFormsSaid : Prop := callsFormsRow.holds Tryd.pinned (OpenSpec.ofChange callsFormsSpec)

/-- ITS FALSE NEIGHBOUR: 'it returns false'. Refute it at one input. -/
def callsFormsWrong : ChangeSpec := { name := "callsForms", fn := fun _ => fun
  | [d1, d2] => { results := [.lit (.bool false)], args := [d1, d2] }
  | _ => none }
def CallsFormsWrongFalsely : Prop := callsFormsRow.holds Tryd.pinned (OpenSpec.ofChange callsFormsWrong)

/-- 'byrelaw19.CallsReads': WHATEVER THE INPUT: true; the input reads as it did. -/
def callsReadsSpec : ChangeSpec := { name := "callsReads", fn := fun _ => fun
  | [d] => { results := [.lit (.bool true)], args := [d] }
  | _ => none }
def callsReadsRow : OpenClaim := { program := "ytkmjkkeldbocdaadoor", sum := "f9993b7860799af7876988ef638da74dcdd082373919cc53db580ea9b2e38164", func := "byre/byrelaw19.CallsReads", spec := "callsReads", inPlace := ["internal/bytealg.IndexByteString", "internal/bytealg.IndexString"], unfollowed := true, recurses := true, named := ["byre/calls.fields", "internal/bytealg.MaxLen"], apart := false, laid := [("byre/calls.fields", laid_byre_calls_fields)] }
def CallsReadsSaid : Prop := callsReadsRow.holds Tryd.pinned (OpenSpec.ofChange callsReadsSpec)

/-- ITS FALSE NEIGHBOUR: 'it returns false'. Refute it at one input. -/
def callsReadsWrong : ChangeSpec := { name := "callsReads", fn := fun _ => fun
  | [d] => { results := [.lit (.bool false)], args := [d] }
  | _ => none }
def CallsReadsWrongFalsely : Prop := callsReadsRow.holds Tryd.pinned (OpenSpec.ofChange callsReadsWrong)

/-- 'byrelaw19.CallsWrong': WHATEVER THE INPUT: true; the input reads as it did. -/
def callsWrongSpec : ChangeSpec := { name := "callsWrong", fn := fun _ => fun
  | [d1, d2] => { results := [.lit (.bool true)], args := [d1, d2] }
  | _ => none }
def callsWrongRow : OpenClaim := { program := "ytkmjkkeldbocdaadoor", sum := "f9993b7860799af7876988ef638da74dcdd082373919cc53db580ea9b2e38164", func := "byre/byrelaw19.CallsWrong", spec := "callsWrong", inPlace := ["internal/bytealg.IndexByteString", "internal/bytealg.IndexString"], unfollowed := true, recurses := true, named := ["byre/calls.fields", "internal/bytealg.MaxLen"], apart := false, laid := [("byre/calls.fields", laid_byre_calls_fields)] }
def CallsWrongSaid : Prop := callsWrongRow.holds Tryd.pinned (OpenSpec.ofChange callsWrongSpec)

/-- ITS FALSE NEIGHBOUR: 'it returns false'. Refute it at one input. -/
def callsWrongWrong : ChangeSpec := { name := "callsWrong", fn := fun _ => fun
  | [d1, d2] => { results := [.lit (.bool false)], args := [d1, d2] }
  | _ => none }
def CallsWrongWrongFalsely : Prop := callsWrongRow.holds Tryd.pinned (OpenSpec.ofChange callsWrongWrong)

/-- 'byrelaw19.CallsResults': WHATEVER THE INPUT: true; the input reads as it did. -/
def callsResultsSpec : ChangeSpec := { name := "callsResults", fn := fun _ => fun
  | [d1, d2] => { results := [.lit (.bool true)], args := [d1, d2] }
  | _ => none }
def callsResultsRow : OpenClaim := { program := "ytkmjkkeldbocdaadoor", sum := "f9993b7860799af7876988ef638da74dcdd082373919cc53db580ea9b2e38164", func := "byre/byrelaw19.CallsResults", spec := "callsResults", inPlace := ["internal/bytealg.IndexByteString", "internal/bytealg.IndexString"], unfollowed := true, recurses := true, named := ["byre/calls.fields", "internal/bytealg.MaxLen"], apart := false, laid := [("byre/calls.fields", laid_byre_calls_fields)] }
def CallsResultsSaid : Prop := callsResultsRow.holds Tryd.pinned (OpenSpec.ofChange callsResultsSpec)

/-- ITS FALSE NEIGHBOUR: 'it returns false'. Refute it at one input. -/
def callsResultsWrong : ChangeSpec := { name := "callsResults", fn := fun _ => fun
  | [d1, d2] => { results := [.lit (.bool false)], args := [d1, d2] }
  | _ => none }
def CallsResultsWrongFalsely : Prop := callsResultsRow.holds Tryd.pinned (OpenSpec.ofChange callsResultsWrong)

/-- 'byrelaw19.CallsOnly': WHATEVER THE INPUT: true; the input reads as it did. -/
def callsOnlySpec : ChangeSpec := { name := "callsOnly", fn := fun _ => fun
  | [d1, d2] => { results := [.lit (.bool true)], args := [d1, d2] }
  | _ => none }
def callsOnlyRow : OpenClaim := { program := "ytkmjkkeldbocdaadoor", sum := "f9993b7860799af7876988ef638da74dcdd082373919cc53db580ea9b2e38164", func := "byre/byrelaw19.CallsOnly", spec := "callsOnly", inPlace := ["internal/bytealg.IndexByteString", "internal/bytealg.IndexString"], unfollowed := true, recurses := true, named := ["byre/calls.fields", "internal/bytealg.MaxLen"], apart := false, laid := [("byre/calls.fields", laid_byre_calls_fields)] }
def CallsOnlySaid : Prop := callsOnlyRow.holds Tryd.pinned (OpenSpec.ofChange callsOnlySpec)

/-- ITS FALSE NEIGHBOUR: 'it returns false'. Refute it at one input. -/
def callsOnlyWrong : ChangeSpec := { name := "callsOnly", fn := fun _ => fun
  | [d1, d2] => { results := [.lit (.bool false)], args := [d1, d2] }
  | _ => none }
def CallsOnlyWrongFalsely : Prop := callsOnlyRow.holds Tryd.pinned (OpenSpec.ofChange callsOnlyWrong)

/-- 'byrelaw19.CallsRight': WHATEVER THE INPUT: true; the input reads as it did. -/
def callsRightSpec : ChangeSpec := { name := "callsRight", fn := fun _ => fun
  | [d1, d2, d3] => { results := [.lit (.bool true)], args := [d1, d2, d3] }
  | _ => none }
def callsRightRow : OpenClaim := { program := "ytkmjkkeldbocdaadoor", sum := "f9993b7860799af7876988ef638da74dcdd082373919cc53db580ea9b2e38164", func := "byre/byrelaw19.CallsRight", spec := "callsRight", inPlace := ["internal/bytealg.IndexByteString", "internal/bytealg.IndexString"], unfollowed := true, recurses := true, named := ["byre/calls.fields", "internal/bytealg.MaxLen"], apart := false, laid := [("byre/calls.fields", laid_byre_calls_fields)] }
def CallsRightSaid : Prop := callsRightRow.holds Tryd.pinned (OpenSpec.ofChange callsRightSpec)

/-- ITS FALSE NEIGHBOUR: 'it returns false'. Refute it at one input. -/
def callsRightWrong : ChangeSpec := { name := "callsRight", fn := fun _ => fun
  | [d1, d2, d3] => { results := [.lit (.bool false)], args := [d1, d2, d3] }
  | _ => none }
def CallsRightWrongFalsely : Prop := callsRightRow.holds Tryd.pinned (OpenSpec.ofChange callsRightWrong)

/-- 'byrelaw19.CallsTwo': WHATEVER THE INPUT: true; the input reads as it did. -/
def callsTwoSpec : ChangeSpec := { name := "callsTwo", fn := fun _ => fun
  | [d1, d2] => { results := [.lit (.bool true)], args := [d1, d2] }
  | _ => none }
def callsTwoRow : OpenClaim := { program := "ytkmjkkeldbocdaadoor", sum := "f9993b7860799af7876988ef638da74dcdd082373919cc53db580ea9b2e38164", func := "byre/byrelaw19.CallsTwo", spec := "callsTwo", inPlace := ["internal/bytealg.IndexByteString", "internal/bytealg.IndexString"], unfollowed := true, recurses := true, named := ["byre/calls.fields", "internal/bytealg.MaxLen"], apart := false, laid := [("byre/calls.fields", laid_byre_calls_fields)] }
def CallsTwoSaid : Prop := callsTwoRow.holds Tryd.pinned (OpenSpec.ofChange callsTwoSpec)

/-- ITS FALSE NEIGHBOUR: 'it returns false'. Refute it at one input. -/
def callsTwoWrong : ChangeSpec := { name := "callsTwo", fn := fun _ => fun
  | [d1, d2] => { results := [.lit (.bool false)], args := [d1, d2] }
  | _ => none }
def CallsTwoWrongFalsely : Prop := callsTwoRow.holds Tryd.pinned (OpenSpec.ofChange callsTwoWrong)

/- THE SECOND FORM. 'bulk': how many values and letters a reading holds, each counted each time it is reached (what is shared counts as often as it is met; a slice's spare places count too). A statement '..UptoSaid' is the law's where the arguments, and the package variables that the reading takes, are together of bulk at most 1048576: NARROWER than '..Said'. Prove '..Said' where nothing that the law and all that it calls make is longer than what came in: it says more and counts as full. Else prove '..UptoSaid'. A law counts once. -/
mutual
def uptoBulk {H : Type} : DataW H → Nat
  | .lit (.string bytes) => bytes.length + 1
  | .lit _ => 1
  | .nil => 1
  | .ptr d => uptoBulk d + 1
  | .slice elems spare => uptoBulkAll elems + uptoBulkAll spare + 1
  | .agg parts => uptoBulkAll parts + 1
  | .iface _ d => uptoBulk d + 1
  | .map entries => uptoBulkEntries entries + 1
  | .held _ => 1
def uptoBulkAll {H : Type} : List (DataW H) → Nat
  | [] => 0
  | d :: r => uptoBulk d + uptoBulkAll r
def uptoBulkEntries {H : Type} : List (Lit × DataW H) → Nat
  | [] => 0
  | x :: r => uptoBulkEntry x + uptoBulkEntries r
def uptoBulkEntry {H : Type} : Lit × DataW H → Nat
  | (.string bytes, d) => bytes.length + uptoBulk d + 1
  | (_, d) => uptoBulk d + 1
 end
def uptoSmall : (H : Type) → List (DataW H) → Bool := fun _ ds => decide (uptoBulkAll ds ≤ 1048576)
def OpenSpec.upto (s : _root_.Go.ChangeSpec) : _root_.Go.OpenSpec := { _root_.Go.OpenSpec.ofChange s with cond := some uptoSmall }

/-- 'byrelaw19.CallsForms', WHERE WHAT IT READS IS OF BULK AT MOST 1048576: true; the input reads as it did. -/
def callsFormsUptoRow : OpenClaim := { program := "ytkmjkkeldbocdaadoor", sum := "f9993b7860799af7876988ef638da74dcdd082373919cc53db580ea9b2e38164", func := "byre/byrelaw19.CallsForms", spec := "callsForms", inPlace := ["internal/bytealg.IndexByteString", "internal/bytealg.IndexString"], unfollowed := true, recurses := true, named := ["byre/calls.fields", "internal/bytealg.MaxLen"], apart := false, laid := [("byre/calls.fields", laid_byre_calls_fields)], narrowed := true }
def CallsFormsUptoSaid : Prop := callsFormsUptoRow.holds Tryd.pinned (OpenSpec.upto callsFormsSpec)

/-- 'byrelaw19.CallsReads', WHERE WHAT IT READS IS OF BULK AT MOST 1048576: true; the input reads as it did. -/
def callsReadsUptoRow : OpenClaim := { program := "ytkmjkkeldbocdaadoor", sum := "f9993b7860799af7876988ef638da74dcdd082373919cc53db580ea9b2e38164", func := "byre/byrelaw19.CallsReads", spec := "callsReads", inPlace := ["internal/bytealg.IndexByteString", "internal/bytealg.IndexString"], unfollowed := true, recurses := true, named := ["byre/calls.fields", "internal/bytealg.MaxLen"], apart := false, laid := [("byre/calls.fields", laid_byre_calls_fields)], narrowed := true }
def CallsReadsUptoSaid : Prop := callsReadsUptoRow.holds Tryd.pinned (OpenSpec.upto callsReadsSpec)

/-- 'byrelaw19.CallsWrong', WHERE WHAT IT READS IS OF BULK AT MOST 1048576: true; the input reads as it did. -/
def callsWrongUptoRow : OpenClaim := { program := "ytkmjkkeldbocdaadoor", sum := "f9993b7860799af7876988ef638da74dcdd082373919cc53db580ea9b2e38164", func := "byre/byrelaw19.CallsWrong", spec := "callsWrong", inPlace := ["internal/bytealg.IndexByteString", "internal/bytealg.IndexString"], unfollowed := true, recurses := true, named := ["byre/calls.fields", "internal/bytealg.MaxLen"], apart := false, laid := [("byre/calls.fields", laid_byre_calls_fields)], narrowed := true }
def CallsWrongUptoSaid : Prop := callsWrongUptoRow.holds Tryd.pinned (OpenSpec.upto callsWrongSpec)

/-- 'byrelaw19.CallsResults', WHERE WHAT IT READS IS OF BULK AT MOST 1048576: true; the input reads as it did. -/
def callsResultsUptoRow : OpenClaim := { program := "ytkmjkkeldbocdaadoor", sum := "f9993b7860799af7876988ef638da74dcdd082373919cc53db580ea9b2e38164", func := "byre/byrelaw19.CallsResults", spec := "callsResults", inPlace := ["internal/bytealg.IndexByteString", "internal/bytealg.IndexString"], unfollowed := true, recurses := true, named := ["byre/calls.fields", "internal/bytealg.MaxLen"], apart := false, laid := [("byre/calls.fields", laid_byre_calls_fields)], narrowed := true }
def CallsResultsUptoSaid : Prop := callsResultsUptoRow.holds Tryd.pinned (OpenSpec.upto callsResultsSpec)

/-- 'byrelaw19.CallsOnly', WHERE WHAT IT READS IS OF BULK AT MOST 1048576: true; the input reads as it did. -/
def callsOnlyUptoRow : OpenClaim := { program := "ytkmjkkeldbocdaadoor", sum := "f9993b7860799af7876988ef638da74dcdd082373919cc53db580ea9b2e38164", func := "byre/byrelaw19.CallsOnly", spec := "callsOnly", inPlace := ["internal/bytealg.IndexByteString", "internal/bytealg.IndexString"], unfollowed := true, recurses := true, named := ["byre/calls.fields", "internal/bytealg.MaxLen"], apart := false, laid := [("byre/calls.fields", laid_byre_calls_fields)], narrowed := true }
def CallsOnlyUptoSaid : Prop := callsOnlyUptoRow.holds Tryd.pinned (OpenSpec.upto callsOnlySpec)

/-- 'byrelaw19.CallsRight', WHERE WHAT IT READS IS OF BULK AT MOST 1048576: true; the input reads as it did. -/
def callsRightUptoRow : OpenClaim := { program := "ytkmjkkeldbocdaadoor", sum := "f9993b7860799af7876988ef638da74dcdd082373919cc53db580ea9b2e38164", func := "byre/byrelaw19.CallsRight", spec := "callsRight", inPlace := ["internal/bytealg.IndexByteString", "internal/bytealg.IndexString"], unfollowed := true, recurses := true, named := ["byre/calls.fields", "internal/bytealg.MaxLen"], apart := false, laid := [("byre/calls.fields", laid_byre_calls_fields)], narrowed := true }
def CallsRightUptoSaid : Prop := callsRightUptoRow.holds Tryd.pinned (OpenSpec.upto callsRightSpec)

/-- 'byrelaw19.CallsTwo', WHERE WHAT IT READS IS OF BULK AT MOST 1048576: true; the input reads as it did. -/
def callsTwoUptoRow : OpenClaim := { program := "ytkmjkkeldbocdaadoor", sum := "f9993b7860799af7876988ef638da74dcdd082373919cc53db580ea9b2e38164", func := "byre/byrelaw19.CallsTwo", spec := "callsTwo", inPlace := ["internal/bytealg.IndexByteString", "internal/bytealg.IndexString"], unfollowed := true, recurses := true, named := ["byre/calls.fields", "internal/bytealg.MaxLen"], apart := false, laid := [("byre/calls.fields", laid_byre_calls_fields)], narrowed := true }
def CallsTwoUptoSaid : Prop := callsTwoUptoRow.holds Tryd.pinned (OpenSpec.upto callsTwoSpec)

end Rows
end Go.Proofs.YtkmjkkeldbocdaaDoor
