/-
  NARROWER THAN 'FOR EVERY INPUT', by the rows' own cells (each row's printed sentence says how): HandlesMakes: laid · HandlesBack: laid · HandlesRise: laid · HandlesNext: laid.
  DERIVED. THE GIVEN ROWS OF THIS SEAT. 4 by the template 'for every input the law returns true; each argument reads behind the call as it read before'; 0 by the template 'total and deterministic' (their statements: YtljdmhiamonokaaDoorTotals.lean).
  GIVEN WITH THE SEED: the statements are not yours to turn. If you find one false, say at which input.
  Laid BY PROGRAM, IN A SANDBOX (cutbox-rows.mjs): the forced cells as the released guide's own fill.sh prints them over the translation bada04c2e00f976b… (all of the seat's roots in one cut). By AI agents, Wed Nov 11 2026. No macro, syntax, notation, axiom, sorry.
-/
import Derived.Test.YtljdmhiamonokaaDoorChecked
import GoSem.Claim
import GoSem.ClaimJoined
import GoSem.ClaimMapViews
import Derived.JoinedTies
import Derived.KernelRfl
namespace Go.Proofs.YtljdmhiamonokaaDoor
/- THE CELL 'sum', in the pinned program and in every row, IS THE sha256 OF THE DUMP (.gsa) THAT YtljdmhiamonokaaDoorProg.lean LOADS. Nothing in Lean hashes anything: it is a label: what it is worth is what the hold of that sum in a sandbox is worth. -/
noncomputable def Tryd.pinned : Pinned := { name := "ytljdmhiamonokaadoor", sum := "bada04c2e00f976ba3441592715d87bcc1c5a5b330395843e4d10e2b1ba61b2b", checked := Tryd.checked }
namespace Rows
def none {H : Type} : Left H := { results := [], args := [] }

/- WHAT THE LISTED PACKAGE-LEVEL VARIABLES READ AS WHEN THE CALL BEGINS. Each datum BY PROGRAM (the guide's laid-datum.mjs) off the statement by which the dump's own 'gosem.cut.vars' lays the variable. In a bare row this is a premise. The card (YtljdmhiamonokaaDoorCards.lean) ties it to the program's text. -/
def laid_byre_handles_begins {H : Type} : DataW H := .agg [.lit (.int .u64 0), .lit (.int .u64 5), .lit (.int .u64 15), .lit (.int .u64 64)]

/-- 'byrelaw12.HandlesMakes': WHATEVER THE INPUT: true; the input reads as it did. -/
def handlesMakesSpec : ChangeSpec := { name := "handlesMakes", fn := fun _ => fun
  | [d1, d2, d3] => { results := [.lit (.bool true)], args := [d1, d2, d3] }
  | _ => none }
def handlesMakesRow : OpenClaim := { program := "ytljdmhiamonokaadoor", sum := "bada04c2e00f976ba3441592715d87bcc1c5a5b330395843e4d10e2b1ba61b2b", func := "byre/byrelaw12.HandlesMakes", spec := "handlesMakes", named := ["byre/handles.begins"], apart := false, laid := [("byre/handles.begins", laid_byre_handles_begins)] }
def HandlesMakesSaid : Prop := handlesMakesRow.holds Tryd.pinned (OpenSpec.ofChange handlesMakesSpec)

/-- ITS FALSE NEIGHBOUR: 'it returns false'. Refute it at one input. -/
def handlesMakesWrong : ChangeSpec := { name := "handlesMakes", fn := fun _ => fun
  | [d1, d2, d3] => { results := [.lit (.bool false)], args := [d1, d2, d3] }
  | _ => none }
def HandlesMakesWrongFalsely : Prop := handlesMakesRow.holds Tryd.pinned (OpenSpec.ofChange handlesMakesWrong)

/-- 'byrelaw12.HandlesBack': WHATEVER THE INPUT: true; the input reads as it did. -/
def handlesBackSpec : ChangeSpec := { name := "handlesBack", fn := fun _ => fun
  | [d1, d2, d3] => { results := [.lit (.bool true)], args := [d1, d2, d3] }
  | _ => none }
def handlesBackRow : OpenClaim := { program := "ytljdmhiamonokaadoor", sum := "bada04c2e00f976ba3441592715d87bcc1c5a5b330395843e4d10e2b1ba61b2b", func := "byre/byrelaw12.HandlesBack", spec := "handlesBack", named := ["byre/handles.begins"], apart := false, laid := [("byre/handles.begins", laid_byre_handles_begins)] }
def HandlesBackSaid : Prop := handlesBackRow.holds Tryd.pinned (OpenSpec.ofChange handlesBackSpec)

/-- ITS FALSE NEIGHBOUR: 'it returns false'. Refute it at one input. -/
def handlesBackWrong : ChangeSpec := { name := "handlesBack", fn := fun _ => fun
  | [d1, d2, d3] => { results := [.lit (.bool false)], args := [d1, d2, d3] }
  | _ => none }
def HandlesBackWrongFalsely : Prop := handlesBackRow.holds Tryd.pinned (OpenSpec.ofChange handlesBackWrong)

/-- 'byrelaw12.HandlesRise': WHATEVER THE INPUT: true; the input reads as it did. -/
def handlesRiseSpec : ChangeSpec := { name := "handlesRise", fn := fun _ => fun
  | [d1, d2, d3, d4] => { results := [.lit (.bool true)], args := [d1, d2, d3, d4] }
  | _ => none }
def handlesRiseRow : OpenClaim := { program := "ytljdmhiamonokaadoor", sum := "bada04c2e00f976ba3441592715d87bcc1c5a5b330395843e4d10e2b1ba61b2b", func := "byre/byrelaw12.HandlesRise", spec := "handlesRise", named := ["byre/handles.begins"], apart := false, laid := [("byre/handles.begins", laid_byre_handles_begins)] }
def HandlesRiseSaid : Prop := handlesRiseRow.holds Tryd.pinned (OpenSpec.ofChange handlesRiseSpec)

/-- ITS FALSE NEIGHBOUR: 'it returns false'. Refute it at one input. -/
def handlesRiseWrong : ChangeSpec := { name := "handlesRise", fn := fun _ => fun
  | [d1, d2, d3, d4] => { results := [.lit (.bool false)], args := [d1, d2, d3, d4] }
  | _ => none }
def HandlesRiseWrongFalsely : Prop := handlesRiseRow.holds Tryd.pinned (OpenSpec.ofChange handlesRiseWrong)

/-- 'byrelaw12.HandlesNext': WHATEVER THE INPUT: true; the input reads as it did. -/
def handlesNextSpec : ChangeSpec := { name := "handlesNext", fn := fun _ => fun
  | [d1, d2] => { results := [.lit (.bool true)], args := [d1, d2] }
  | _ => none }
def handlesNextRow : OpenClaim := { program := "ytljdmhiamonokaadoor", sum := "bada04c2e00f976ba3441592715d87bcc1c5a5b330395843e4d10e2b1ba61b2b", func := "byre/byrelaw12.HandlesNext", spec := "handlesNext", named := ["byre/handles.begins"], apart := false, laid := [("byre/handles.begins", laid_byre_handles_begins)] }
def HandlesNextSaid : Prop := handlesNextRow.holds Tryd.pinned (OpenSpec.ofChange handlesNextSpec)

/-- ITS FALSE NEIGHBOUR: 'it returns false'. Refute it at one input. -/
def handlesNextWrong : ChangeSpec := { name := "handlesNext", fn := fun _ => fun
  | [d1, d2] => { results := [.lit (.bool false)], args := [d1, d2] }
  | _ => none }
def HandlesNextWrongFalsely : Prop := handlesNextRow.holds Tryd.pinned (OpenSpec.ofChange handlesNextWrong)

/- THE SECOND FORM. 'bulk': how many values and letters a reading holds, each counted each time it is reached (what is shared counts as often as it is met; a slice's spare places count too). A statement '..UptoSaid' is the law's where the arguments, and the package variables that the reading takes, are together of bulk at most 1048576: NARROWER than '..Said'. Prove '..Said' where nothing that the law and all that it calls make is longer than what came in: it says more and counts as full. Else prove '..UptoSaid'. A law counts once. -/
mutual
def uptoBulk {H : Type} : DataW H → Nat
  | .lit (.string bytes) => bytes.length + 1
  | .lit _ => 1
  | .nil => 1
  | .ptr d => uptoBulk d + 1
  | .slice elems spare => uptoBulkAll elems + uptoBulkAll spare + 1
  | .agg parts => uptoBulkAll parts + 1
  | .iface _ d => uptoBulk d + 1
  | .map entries => uptoBulkEntries entries + 1
  | .held _ => 1
def uptoBulkAll {H : Type} : List (DataW H) → Nat
  | [] => 0
  | d :: r => uptoBulk d + uptoBulkAll r
def uptoBulkEntries {H : Type} : List (Lit × DataW H) → Nat
  | [] => 0
  | x :: r => uptoBulkEntry x + uptoBulkEntries r
def uptoBulkEntry {H : Type} : Lit × DataW H → Nat
  | (.string bytes, d) => bytes.length + uptoBulk d + 1
  | (_, d) => uptoBulk d + 1
 end
def uptoSmall : (H : Type) → List (DataW H) → Bool := fun _ ds => decide (uptoBulkAll ds ≤ 1048576)
def OpenSpec.upto (s : _root_.Go.ChangeSpec) : _root_.Go.OpenSpec := { _root_.Go.OpenSpec.ofChange s with cond := some uptoSmall }

/-- 'byrelaw12.HandlesMakes', WHERE WHAT IT READS IS OF BULK AT MOST 1048576: true; the input reads as it did. -/
def handlesMakesUptoRow : OpenClaim := { program := "ytljdmhiamonokaadoor", sum := "bada04c2e00f976ba3441592715d87bcc1c5a5b330395843e4d10e2b1ba61b2b", func := "byre/byrelaw12.HandlesMakes", spec := "handlesMakes", named := ["byre/handles.begins"], apart := false, laid := [("byre/handles.begins", laid_byre_handles_begins)], narrowed := true }
def HandlesMakesUptoSaid : Prop := handlesMakesUptoRow.holds Tryd.pinned (OpenSpec.upto handlesMakesSpec)

/-- 'byrelaw12.HandlesBack', WHERE WHAT IT READS IS OF BULK AT MOST 1048576: true; the input reads as it did. -/
def handlesBackUptoRow : OpenClaim := { program := "ytljdmhiamonokaadoor", sum := "bada04c2e00f976ba3441592715d87bcc1c5a5b330395843e4d10e2b1ba61b2b", func := "byre/byrelaw12.HandlesBack", spec := "handlesBack", named := ["byre/handles.begins"], apart := false, laid := [("byre/handles.begins", laid_byre_handles_begins)], narrowed := true }
def HandlesBackUptoSaid : Prop := handlesBackUptoRow.holds Tryd.pinned (OpenSpec.upto handlesBackSpec)

/-- 'byrelaw12.HandlesRise', WHERE WHAT IT READS IS OF BULK AT MOST 1048576: true; the input reads as it did. -/
def handlesRiseUptoRow : OpenClaim := { program := "ytljdmhiamonokaadoor", sum := "bada04c2e00f976ba3441592715d87bcc1c5a5b330395843e4d10e2b1ba61b2b", func := "byre/byrelaw12.HandlesRise", spec := "handlesRise", named := ["byre/handles.begins"], apart := false, laid := [("byre/handles.begins", laid_byre_handles_begins)], narrowed := true }
def HandlesRiseUptoSaid : Prop := handlesRiseUptoRow.holds Tryd.pinned (OpenSpec.upto handlesRiseSpec)

/-- 'byrelaw12.HandlesNext', WHERE WHAT IT READS IS OF BULK AT MOST 1048576: true; the input reads as it did. -/
def handlesNextUptoRow : OpenClaim := { program := "ytljdmhiamonokaadoor", sum := "bada04c2e00f976ba3441592715d87bcc1c5a5b330395843e4d10e2b1ba61b2b", func := "byre/byrelaw12.HandlesNext", spec := "handlesNext", named := ["byre/handles.begins"], apart := false, laid := [("byre/handles.begins", laid_byre_handles_begins)], narrowed := true }
def HandlesNextUptoSaid : Prop := handlesNextUptoRow.holds Tryd.pinned (OpenSpec.upto handlesNextSpec)

end Rows
end Go.Proofs.YtljdmhiamonokaaDoor
