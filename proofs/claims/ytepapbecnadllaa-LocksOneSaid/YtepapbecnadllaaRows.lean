/-
  No cell of these rows narrows 'for every input' (looked for: loops, veiled, ifaces, maps, wideKeys, modest, calm, conditions, laid).
  DERIVED. THE GIVEN ROWS OF THIS SEAT. 6 by the template 'for every input the law returns true; each argument reads behind the call as it read before'; 0 by the template 'total and deterministic' (their statements: YtepapbecnadllaaTotals.lean).
  GIVEN WITH THE SEED: the statements are not yours to turn. If you find one false, say at which input.
  Laid BY PROGRAM, IN A SANDBOX (cutbox-rows.mjs): the forced cells as the released guide's own fill.sh prints them over the translation 7bc32292c08c6769… (all of the seat's roots in one cut). By AI agents, Wed Nov 11 2026. No macro, syntax, notation, axiom, sorry.
-/
import Derived.Test.YtepapbecnadllaaChecked
import GoSem.Claim
import GoSem.ClaimJoined
import GoSem.ClaimMapViews
import Derived.JoinedTies
import Derived.KernelRfl
namespace Go.Proofs.Ytepapbecnadllaa
/- THE CELL 'sum', in the pinned program and in every row, IS THE sha256 OF THE DUMP (.gsa) THAT YtepapbecnadllaaProg.lean LOADS. Nothing in Lean hashes anything: it is a label: what it is worth is what the hold of that sum in a sandbox is worth. -/
noncomputable def Try.pinned : Pinned := { name := "ytepapbecnadllaa", sum := "7bc32292c08c6769a819d66d87e08fc018b1f75cdbca3cd290d1f645361dfdc6", checked := Try.checked }
namespace Rows
def none {H : Type} : Left H := { results := [], args := [] }

/-- 'byrelaw05.LocksPlays': WHATEVER THE INPUT: true; the input reads as it did. -/
def locksPlaysSpec : ChangeSpec := { name := "locksPlays", fn := fun _ => fun
  | [d1, d2] => { results := [.lit (.bool true)], args := [d1, d2] }
  | _ => none }
def locksPlaysRow : OpenClaim := { program := "ytepapbecnadllaa", sum := "7bc32292c08c6769a819d66d87e08fc018b1f75cdbca3cd290d1f645361dfdc6", func := "byre/byrelaw05.LocksPlays", spec := "locksPlays", apart := false }
def LocksPlaysSaid : Prop := locksPlaysRow.holds Try.pinned (OpenSpec.ofChange locksPlaysSpec)

/-- ITS FALSE NEIGHBOUR: 'it returns false'. Refute it at one input. -/
def locksPlaysWrong : ChangeSpec := { name := "locksPlays", fn := fun _ => fun
  | [d1, d2] => { results := [.lit (.bool false)], args := [d1, d2] }
  | _ => none }
def LocksPlaysWrongFalsely : Prop := locksPlaysRow.holds Try.pinned (OpenSpec.ofChange locksPlaysWrong)

/-- 'byrelaw05.LocksCircle': WHATEVER THE INPUT: true; the input reads as it did. -/
def locksCircleSpec : ChangeSpec := { name := "locksCircle", fn := fun _ => fun
  | [d1, d2] => { results := [.lit (.bool true)], args := [d1, d2] }
  | _ => none }
def locksCircleRow : OpenClaim := { program := "ytepapbecnadllaa", sum := "7bc32292c08c6769a819d66d87e08fc018b1f75cdbca3cd290d1f645361dfdc6", func := "byre/byrelaw05.LocksCircle", spec := "locksCircle", apart := false }
def LocksCircleSaid : Prop := locksCircleRow.holds Try.pinned (OpenSpec.ofChange locksCircleSpec)

/-- ITS FALSE NEIGHBOUR: 'it returns false'. Refute it at one input. -/
def locksCircleWrong : ChangeSpec := { name := "locksCircle", fn := fun _ => fun
  | [d1, d2] => { results := [.lit (.bool false)], args := [d1, d2] }
  | _ => none }
def LocksCircleWrongFalsely : Prop := locksCircleRow.holds Try.pinned (OpenSpec.ofChange locksCircleWrong)

/-- 'byrelaw05.LocksOne': WHATEVER THE INPUT: true; the input reads as it did. -/
def locksOneSpec : ChangeSpec := { name := "locksOne", fn := fun _ => fun
  | [d1, d2, d3, d4] => { results := [.lit (.bool true)], args := [d1, d2, d3, d4] }
  | _ => none }
def locksOneRow : OpenClaim := { program := "ytepapbecnadllaa", sum := "7bc32292c08c6769a819d66d87e08fc018b1f75cdbca3cd290d1f645361dfdc6", func := "byre/byrelaw05.LocksOne", spec := "locksOne", apart := false }
def LocksOneSaid : Prop := locksOneRow.holds Try.pinned (OpenSpec.ofChange locksOneSpec)

/-- ITS FALSE NEIGHBOUR: 'it returns false'. Refute it at one input. -/
def locksOneWrong : ChangeSpec := { name := "locksOne", fn := fun _ => fun
  | [d1, d2, d3, d4] => { results := [.lit (.bool false)], args := [d1, d2, d3, d4] }
  | _ => none }
def LocksOneWrongFalsely : Prop := locksOneRow.holds Try.pinned (OpenSpec.ofChange locksOneWrong)

/-- 'byrelaw05.LocksNone': WHATEVER THE INPUT: true; the input reads as it did. -/
def locksNoneSpec : ChangeSpec := { name := "locksNone", fn := fun _ => fun
  | [d1, d2] => { results := [.lit (.bool true)], args := [d1, d2] }
  | _ => none }
def locksNoneRow : OpenClaim := { program := "ytepapbecnadllaa", sum := "7bc32292c08c6769a819d66d87e08fc018b1f75cdbca3cd290d1f645361dfdc6", func := "byre/byrelaw05.LocksNone", spec := "locksNone", apart := false }
def LocksNoneSaid : Prop := locksNoneRow.holds Try.pinned (OpenSpec.ofChange locksNoneSpec)

/-- ITS FALSE NEIGHBOUR: 'it returns false'. Refute it at one input. -/
def locksNoneWrong : ChangeSpec := { name := "locksNone", fn := fun _ => fun
  | [d1, d2] => { results := [.lit (.bool false)], args := [d1, d2] }
  | _ => none }
def LocksNoneWrongFalsely : Prop := locksNoneRow.holds Try.pinned (OpenSpec.ofChange locksNoneWrong)

/-- 'byrelaw05.LocksRise': WHATEVER THE INPUT: true; the input reads as it did. -/
def locksRiseSpec : ChangeSpec := { name := "locksRise", fn := fun _ => fun
  | [d1, d2, d3, d4] => { results := [.lit (.bool true)], args := [d1, d2, d3, d4] }
  | _ => none }
def locksRiseRow : OpenClaim := { program := "ytepapbecnadllaa", sum := "7bc32292c08c6769a819d66d87e08fc018b1f75cdbca3cd290d1f645361dfdc6", func := "byre/byrelaw05.LocksRise", spec := "locksRise", apart := false }
def LocksRiseSaid : Prop := locksRiseRow.holds Try.pinned (OpenSpec.ofChange locksRiseSpec)

/-- ITS FALSE NEIGHBOUR: 'it returns false'. Refute it at one input. -/
def locksRiseWrong : ChangeSpec := { name := "locksRise", fn := fun _ => fun
  | [d1, d2, d3, d4] => { results := [.lit (.bool false)], args := [d1, d2, d3, d4] }
  | _ => none }
def LocksRiseWrongFalsely : Prop := locksRiseRow.holds Try.pinned (OpenSpec.ofChange locksRiseWrong)

/-- 'byrelaw05.LocksApart': WHATEVER THE INPUT: true; the input reads as it did. -/
def locksApartSpec : ChangeSpec := { name := "locksApart", fn := fun _ => fun
  | [d1, d2, d3, d4] => { results := [.lit (.bool true)], args := [d1, d2, d3, d4] }
  | _ => none }
def locksApartRow : OpenClaim := { program := "ytepapbecnadllaa", sum := "7bc32292c08c6769a819d66d87e08fc018b1f75cdbca3cd290d1f645361dfdc6", func := "byre/byrelaw05.LocksApart", spec := "locksApart", unfollowed := true, recurses := true, apart := false }
def LocksApartSaid : Prop := locksApartRow.holds Try.pinned (OpenSpec.ofChange locksApartSpec)

/-- ITS FALSE NEIGHBOUR: 'it returns false'. Refute it at one input. -/
def locksApartWrong : ChangeSpec := { name := "locksApart", fn := fun _ => fun
  | [d1, d2, d3, d4] => { results := [.lit (.bool false)], args := [d1, d2, d3, d4] }
  | _ => none }
def LocksApartWrongFalsely : Prop := locksApartRow.holds Try.pinned (OpenSpec.ofChange locksApartWrong)

/- THE SECOND FORM. 'bulk': how many values and letters a reading holds, each counted each time it is reached (what is shared counts as often as it is met; a slice's spare places count too). A statement '..UptoSaid' is the law's where the arguments, and the package variables that the reading takes, are together of bulk at most 1048576: NARROWER than '..Said'. Prove '..Said' where nothing that the law and all that it calls make is longer than what came in: it says more and counts as full. Else prove '..UptoSaid'. A law counts once. -/
mutual
def uptoBulk {H : Type} : DataW H → Nat
  | .lit (.string bytes) => bytes.length + 1
  | .lit _ => 1
  | .nil => 1
  | .ptr d => uptoBulk d + 1
  | .slice elems spare => uptoBulkAll elems + uptoBulkAll spare + 1
  | .agg parts => uptoBulkAll parts + 1
  | .iface _ d => uptoBulk d + 1
  | .map entries => uptoBulkEntries entries + 1
  | .held _ => 1
def uptoBulkAll {H : Type} : List (DataW H) → Nat
  | [] => 0
  | d :: r => uptoBulk d + uptoBulkAll r
def uptoBulkEntries {H : Type} : List (Lit × DataW H) → Nat
  | [] => 0
  | x :: r => uptoBulkEntry x + uptoBulkEntries r
def uptoBulkEntry {H : Type} : Lit × DataW H → Nat
  | (.string bytes, d) => bytes.length + uptoBulk d + 1
  | (_, d) => uptoBulk d + 1
 end
def uptoSmall : (H : Type) → List (DataW H) → Bool := fun _ ds => decide (uptoBulkAll ds ≤ 1048576)
def OpenSpec.upto (s : _root_.Go.ChangeSpec) : _root_.Go.OpenSpec := { _root_.Go.OpenSpec.ofChange s with cond := some uptoSmall }

/-- 'byrelaw05.LocksPlays', WHERE WHAT IT READS IS OF BULK AT MOST 1048576: true; the input reads as it did. -/
def locksPlaysUptoRow : OpenClaim := { program := "ytepapbecnadllaa", sum := "7bc32292c08c6769a819d66d87e08fc018b1f75cdbca3cd290d1f645361dfdc6", func := "byre/byrelaw05.LocksPlays", spec := "locksPlays", apart := false, narrowed := true }
def LocksPlaysUptoSaid : Prop := locksPlaysUptoRow.holds Try.pinned (OpenSpec.upto locksPlaysSpec)

/-- 'byrelaw05.LocksCircle', WHERE WHAT IT READS IS OF BULK AT MOST 1048576: true; the input reads as it did. -/
def locksCircleUptoRow : OpenClaim := { program := "ytepapbecnadllaa", sum := "7bc32292c08c6769a819d66d87e08fc018b1f75cdbca3cd290d1f645361dfdc6", func := "byre/byrelaw05.LocksCircle", spec := "locksCircle", apart := false, narrowed := true }
def LocksCircleUptoSaid : Prop := locksCircleUptoRow.holds Try.pinned (OpenSpec.upto locksCircleSpec)

/-- 'byrelaw05.LocksOne', WHERE WHAT IT READS IS OF BULK AT MOST 1048576: true; the input reads as it did. -/
def locksOneUptoRow : OpenClaim := { program := "ytepapbecnadllaa", sum := "7bc32292c08c6769a819d66d87e08fc018b1f75cdbca3cd290d1f645361dfdc6", func := "byre/byrelaw05.LocksOne", spec := "locksOne", apart := false, narrowed := true }
def LocksOneUptoSaid : Prop := locksOneUptoRow.holds Try.pinned (OpenSpec.upto locksOneSpec)

/-- 'byrelaw05.LocksNone', WHERE WHAT IT READS IS OF BULK AT MOST 1048576: true; the input reads as it did. -/
def locksNoneUptoRow : OpenClaim := { program := "ytepapbecnadllaa", sum := "7bc32292c08c6769a819d66d87e08fc018b1f75cdbca3cd290d1f645361dfdc6", func := "byre/byrelaw05.LocksNone", spec := "locksNone", apart := false, narrowed := true }
def LocksNoneUptoSaid : Prop := locksNoneUptoRow.holds Try.pinned (OpenSpec.upto locksNoneSpec)

/-- 'byrelaw05.LocksRise', WHERE WHAT IT READS IS OF BULK AT MOST 1048576: true; the input reads as it did. -/
def locksRiseUptoRow : OpenClaim := { program := "ytepapbecnadllaa", sum := "7bc32292c08c6769a819d66d87e08fc018b1f75cdbca3cd290d1f645361dfdc6", func := "byre/byrelaw05.LocksRise", spec := "locksRise", apart := false, narrowed := true }
def LocksRiseUptoSaid : Prop := locksRiseUptoRow.holds Try.pinned (OpenSpec.upto locksRiseSpec)

/-- 'byrelaw05.LocksApart', WHERE WHAT IT READS IS OF BULK AT MOST 1048576: true; the input reads as it did. -/
def locksApartUptoRow : OpenClaim := { program := "ytepapbecnadllaa", sum := "7bc32292c08c6769a819d66d87e08fc018b1f75cdbca3cd290d1f645361dfdc6", func := "byre/byrelaw05.LocksApart", spec := "locksApart", unfollowed := true, recurses := true, apart := false, narrowed := true }
def LocksApartUptoSaid : Prop := locksApartUptoRow.holds Try.pinned (OpenSpec.upto locksApartSpec)

end Rows
end Go.Proofs.Ytepapbecnadllaa
