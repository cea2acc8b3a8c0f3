/-
  No cell of these rows narrows 'for every input' (looked for: loops, veiled, ifaces, maps, wideKeys, modest, calm, conditions, laid).
  DERIVED. THE GIVEN ROWS OF THIS SEAT. 6 by the template 'for every input the law returns true; each argument reads behind the call as it read before'; 0 by the template 'total and deterministic' (their statements: YthnkbipdlepbaaaTotals.lean).
  GIVEN WITH THE SEED: the statements are not yours to turn. If you find one false, say at which input.
  Laid BY PROGRAM, IN A SANDBOX (cutbox-rows.mjs): the forced cells as the released guide's own fill.sh prints them over the translation addbe4cec0e6563c… (all of the seat's roots in one cut). By AI agents, Wed Nov 11 2026. No macro, syntax, notation, axiom, sorry.
-/
import Derived.Test.YthnkbipdlepbaaaChecked
import GoSem.Claim
import GoSem.ClaimJoined
import GoSem.ClaimMapViews
import Derived.JoinedTies
import Derived.KernelRfl
namespace Go.Proofs.Ythnkbipdlepbaaa
/- THE CELL 'sum', in the pinned program and in every row, IS THE sha256 OF THE DUMP (.gsa) THAT YthnkbipdlepbaaaProg.lean LOADS. Nothing in Lean hashes anything: it is a label: what it is worth is what the hold of that sum in a sandbox is worth. -/
noncomputable def Try.pinned : Pinned := { name := "ythnkbipdlepbaaa", sum := "addbe4cec0e6563c466ae79385af43a03e03b99a4406c0028a968503f4c10374", checked := Try.checked }
namespace Rows
def none {H : Type} : Left H := { results := [], args := [] }

/-- 'byrelaw13.AreasPlays': WHATEVER THE INPUT: true; the input reads as it did. -/
def areasPlaysSpec : ChangeSpec := { name := "areasPlays", fn := fun _ => fun
  | [d] => { results := [.lit (.bool true)], args := [d] }
  | _ => none }
def areasPlaysRow : OpenClaim := { program := "ythnkbipdlepbaaa", sum := "addbe4cec0e6563c466ae79385af43a03e03b99a4406c0028a968503f4c10374", func := "byre/byrelaw13.AreasPlays", spec := "areasPlays", unfollowed := true, recurses := true, apart := false }
def AreasPlaysSaid : Prop := areasPlaysRow.holds Try.pinned (OpenSpec.ofChange areasPlaysSpec)

/-- ITS FALSE NEIGHBOUR: 'it returns false'. Refute it at one input. -/
def areasPlaysWrong : ChangeSpec := { name := "areasPlays", fn := fun _ => fun
  | [d] => { results := [.lit (.bool false)], args := [d] }
  | _ => none }
def AreasPlaysWrongFalsely : Prop := areasPlaysRow.holds Try.pinned (OpenSpec.ofChange areasPlaysWrong)

/-- 'byrelaw13.AreasNone': WHATEVER THE INPUT: true; the input reads as it did. -/
def areasNoneSpec : ChangeSpec := { name := "areasNone", fn := fun _ => fun
  | [d] => { results := [.lit (.bool true)], args := [d] }
  | _ => none }
def areasNoneRow : OpenClaim := { program := "ythnkbipdlepbaaa", sum := "addbe4cec0e6563c466ae79385af43a03e03b99a4406c0028a968503f4c10374", func := "byre/byrelaw13.AreasNone", spec := "areasNone", unfollowed := true, recurses := true, apart := false }
def AreasNoneSaid : Prop := areasNoneRow.holds Try.pinned (OpenSpec.ofChange areasNoneSpec)

/-- ITS FALSE NEIGHBOUR: 'it returns false'. Refute it at one input. -/
def areasNoneWrong : ChangeSpec := { name := "areasNone", fn := fun _ => fun
  | [d] => { results := [.lit (.bool false)], args := [d] }
  | _ => none }
def AreasNoneWrongFalsely : Prop := areasNoneRow.holds Try.pinned (OpenSpec.ofChange areasNoneWrong)

/-- 'byrelaw13.AreasRuns': WHATEVER THE INPUT: true; the input reads as it did. -/
def areasRunsSpec : ChangeSpec := { name := "areasRuns", fn := fun _ => fun
  | [d] => { results := [.lit (.bool true)], args := [d] }
  | _ => none }
def areasRunsRow : OpenClaim := { program := "ythnkbipdlepbaaa", sum := "addbe4cec0e6563c466ae79385af43a03e03b99a4406c0028a968503f4c10374", func := "byre/byrelaw13.AreasRuns", spec := "areasRuns", unfollowed := true, recurses := true, apart := false }
def AreasRunsSaid : Prop := areasRunsRow.holds Try.pinned (OpenSpec.ofChange areasRunsSpec)

/-- ITS FALSE NEIGHBOUR: 'it returns false'. Refute it at one input. -/
def areasRunsWrong : ChangeSpec := { name := "areasRuns", fn := fun _ => fun
  | [d] => { results := [.lit (.bool false)], args := [d] }
  | _ => none }
def AreasRunsWrongFalsely : Prop := areasRunsRow.holds Try.pinned (OpenSpec.ofChange areasRunsWrong)

/-- 'byrelaw13.AreasBack': WHATEVER THE INPUT: true; the input reads as it did. -/
def areasBackSpec : ChangeSpec := { name := "areasBack", fn := fun _ => fun
  | [d1, d2, d3, d4] => { results := [.lit (.bool true)], args := [d1, d2, d3, d4] }
  | _ => none }
def areasBackRow : OpenClaim := { program := "ythnkbipdlepbaaa", sum := "addbe4cec0e6563c466ae79385af43a03e03b99a4406c0028a968503f4c10374", func := "byre/byrelaw13.AreasBack", spec := "areasBack", unfollowed := true, recurses := true, apart := false }
def AreasBackSaid : Prop := areasBackRow.holds Try.pinned (OpenSpec.ofChange areasBackSpec)

/-- ITS FALSE NEIGHBOUR: 'it returns false'. Refute it at one input. -/
def areasBackWrong : ChangeSpec := { name := "areasBack", fn := fun _ => fun
  | [d1, d2, d3, d4] => { results := [.lit (.bool false)], args := [d1, d2, d3, d4] }
  | _ => none }
def AreasBackWrongFalsely : Prop := areasBackRow.holds Try.pinned (OpenSpec.ofChange areasBackWrong)

/-- 'byrelaw13.AreasEither': WHATEVER THE INPUT: true; the input reads as it did. -/
def areasEitherSpec : ChangeSpec := { name := "areasEither", fn := fun _ => fun
  | [d1, d2, d3] => { results := [.lit (.bool true)], args := [d1, d2, d3] }
  | _ => none }
def areasEitherRow : OpenClaim := { program := "ythnkbipdlepbaaa", sum := "addbe4cec0e6563c466ae79385af43a03e03b99a4406c0028a968503f4c10374", func := "byre/byrelaw13.AreasEither", spec := "areasEither", unfollowed := true, recurses := true, apart := false }
def AreasEitherSaid : Prop := areasEitherRow.holds Try.pinned (OpenSpec.ofChange areasEitherSpec)

/-- ITS FALSE NEIGHBOUR: 'it returns false'. Refute it at one input. -/
def areasEitherWrong : ChangeSpec := { name := "areasEither", fn := fun _ => fun
  | [d1, d2, d3] => { results := [.lit (.bool false)], args := [d1, d2, d3] }
  | _ => none }
def AreasEitherWrongFalsely : Prop := areasEitherRow.holds Try.pinned (OpenSpec.ofChange areasEitherWrong)

/-- 'byrelaw13.AreasHole': WHATEVER THE INPUT: true; the input reads as it did. -/
def areasHoleSpec : ChangeSpec := { name := "areasHole", fn := fun _ => fun
  | [d1, d2, d3, d4, d5, d6] => { results := [.lit (.bool true)], args := [d1, d2, d3, d4, d5, d6] }
  | _ => none }
def areasHoleRow : OpenClaim := { program := "ythnkbipdlepbaaa", sum := "addbe4cec0e6563c466ae79385af43a03e03b99a4406c0028a968503f4c10374", func := "byre/byrelaw13.AreasHole", spec := "areasHole", unfollowed := true, recurses := true, apart := false }
def AreasHoleSaid : Prop := areasHoleRow.holds Try.pinned (OpenSpec.ofChange areasHoleSpec)

/-- ITS FALSE NEIGHBOUR: 'it returns false'. Refute it at one input. -/
def areasHoleWrong : ChangeSpec := { name := "areasHole", fn := fun _ => fun
  | [d1, d2, d3, d4, d5, d6] => { results := [.lit (.bool false)], args := [d1, d2, d3, d4, d5, d6] }
  | _ => none }
def AreasHoleWrongFalsely : Prop := areasHoleRow.holds Try.pinned (OpenSpec.ofChange areasHoleWrong)

/- THE SECOND FORM. 'bulk': how many values and letters a reading holds, each counted each time it is reached (what is shared counts as often as it is met; a slice's spare places count too). A statement '..UptoSaid' is the law's where the arguments, and the package variables that the reading takes, are together of bulk at most 1048576: NARROWER than '..Said'. Prove '..Said' where nothing that the law and all that it calls make is longer than what came in: it says more and counts as full. Else prove '..UptoSaid'. A law counts once. -/
mutual
def uptoBulk {H : Type} : DataW H → Nat
  | .lit (.string bytes) => bytes.length + 1
  | .lit _ => 1
  | .nil => 1
  | .ptr d => uptoBulk d + 1
  | .slice elems spare => uptoBulkAll elems + uptoBulkAll spare + 1
  | .agg parts => uptoBulkAll parts + 1
  | .iface _ d => uptoBulk d + 1
  | .map entries => uptoBulkEntries entries + 1
  | .held _ => 1
def uptoBulkAll {H : Type} : List (DataW H) → Nat
  | [] => 0
  | d :: r => uptoBulk d + uptoBulkAll r
def uptoBulkEntries {H : Type} : List (Lit × DataW H) → Nat
  | [] => 0
  | x :: r => uptoBulkEntry x + uptoBulkEntries r
def uptoBulkEntry {H : Type} : Lit × DataW H → Nat
  | (.string bytes, d) => bytes.length + uptoBulk d + 1
  | (_, d) => uptoBulk d + 1
 end
def uptoSmall : (H : Type) → List (DataW H) → Bool := fun _ ds => decide (uptoBulkAll ds ≤ 1048576)
def OpenSpec.upto (s : _root_.Go.ChangeSpec) : _root_.Go.OpenSpec := { _root_.Go.OpenSpec.ofChange s with cond := some uptoSmall }

/-- 'byrelaw13.AreasPlays', WHERE WHAT IT READS IS OF BULK AT MOST 1048576: true; the input reads as it did. -/
def areasPlaysUptoRow : OpenClaim := { program := "ythnkbipdlepbaaa", sum := "addbe4cec0e6563c466ae79385af43a03e03b99a4406c0028a968503f4c10374", func := "byre/byrelaw13.AreasPlays", spec := "areasPlays", unfollowed := true, recurses := true, apart := false, narrowed := true }
def AreasPlaysUptoSaid : Prop := areasPlaysUptoRow.holds Try.pinned (OpenSpec.upto areasPlaysSpec)

/-- 'byrelaw13.AreasNone', WHERE WHAT IT READS IS OF BULK AT MOST 1048576: true; the input reads as it did. -/
def areasNoneUptoRow : OpenClaim := { program := "ythnkbipdlepbaaa", sum := "addbe4cec0e6563c466ae79385af43a03e03b99a4406c0028a968503f4c10374", func := "byre/byrelaw13.AreasNone", spec := "areasNone", unfollowed := true, recurses := true, apart := false, narrowed := true }
def AreasNoneUptoSaid : Prop := areasNoneUptoRow.holds Try.pinned (OpenSpec.upto areasNoneSpec)

/-- 'byrelaw13.AreasRuns', WHERE WHAT IT READS IS OF BULK AT MOST 1048576: true; the input reads as it did. -/
def areasRunsUptoRow : OpenClaim := { program := "ythnkbipdlepbaaa", sum := "addbe4cec0e6563c466ae79385af43a03e03b99a4406c0028a968503f4c10374", func := "byre/byrelaw13.AreasRuns", spec := "areasRuns", unfollowed := true, recurses := true, apart := false, narrowed := true }
def AreasRunsUptoSaid : Prop := areasRunsUptoRow.holds Try.pinned (OpenSpec.upto areasRunsSpec)

/-- 'byrelaw13.AreasBack', WHERE WHAT IT READS IS OF BULK AT MOST 1048576: true; the input reads as it did. -/
def areasBackUptoRow : OpenClaim := { program := "ythnkbipdlepbaaa", sum := "addbe4cec0e6563c466ae79385af43a03e03b99a4406c0028a968503f4c10374", func := "byre/byrelaw13.AreasBack", spec := "areasBack", unfollowed := true, recurses := true, apart := false, narrowed := true }
def AreasBackUptoSaid : Prop := areasBackUptoRow.holds Try.pinned (OpenSpec.upto areasBackSpec)

/-- 'byrelaw13.AreasEither', WHERE WHAT IT READS IS OF BULK AT MOST 1048576: true; the input reads as it did. -/
def areasEitherUptoRow : OpenClaim := { program := "ythnkbipdlepbaaa", sum := "addbe4cec0e6563c466ae79385af43a03e03b99a4406c0028a968503f4c10374", func := "byre/byrelaw13.AreasEither", spec := "areasEither", unfollowed := true, recurses := true, apart := false, narrowed := true }
def AreasEitherUptoSaid : Prop := areasEitherUptoRow.holds Try.pinned (OpenSpec.upto areasEitherSpec)

/-- 'byrelaw13.AreasHole', WHERE WHAT IT READS IS OF BULK AT MOST 1048576: true; the input reads as it did. -/
def areasHoleUptoRow : OpenClaim := { program := "ythnkbipdlepbaaa", sum := "addbe4cec0e6563c466ae79385af43a03e03b99a4406c0028a968503f4c10374", func := "byre/byrelaw13.AreasHole", spec := "areasHole", unfollowed := true, recurses := true, apart := false, narrowed := true }
def AreasHoleUptoSaid : Prop := areasHoleUptoRow.holds Try.pinned (OpenSpec.upto areasHoleSpec)

end Rows
end Go.Proofs.Ythnkbipdlepbaaa
