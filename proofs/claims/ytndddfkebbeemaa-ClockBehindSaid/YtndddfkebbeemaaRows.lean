/-
  No cell of these rows narrows 'for every input' (looked for: loops, veiled, ifaces, maps, wideKeys, modest, calm, conditions, laid).
  DERIVED. THE GIVEN ROWS OF THIS SEAT. 6 by the template 'for every input the law returns true; each argument reads behind the call as it read before'; 0 by the template 'total and deterministic' (their statements: YtndddfkebbeemaaTotals.lean).
  GIVEN WITH THE SEED: the statements are not yours to turn. If you find one false, say at which input.
  Laid BY PROGRAM, IN A SANDBOX (cutbox-rows.mjs): the forced cells as the released guide's own fill.sh prints them over the translation 3288ffb499c3fe0f… (all of the seat's roots in one cut). By AI agents, Wed Nov 11 2026. No macro, syntax, notation, axiom, sorry.
-/
import Derived.Test.YtndddfkebbeemaaChecked
import GoSem.Claim
import GoSem.ClaimJoined
import GoSem.ClaimMapViews
import Derived.JoinedTies
import Derived.KernelRfl
namespace Go.Proofs.Ytndddfkebbeemaa
/- THE CELL 'sum', in the pinned program and in every row, IS THE sha256 OF THE DUMP (.gsa) THAT YtndddfkebbeemaaProg.lean LOADS. Nothing in Lean hashes anything: it is a label: what it is worth is what the hold of that sum in a sandbox is worth. -/
noncomputable def Try.pinned : Pinned := { name := "ytndddfkebbeemaa", sum := "3288ffb499c3fe0f384e640352fc3b91e8d3aa2276dd9699927fe16d7d7900f4", checked := Try.checked }
namespace Rows
def none {H : Type} : Left H := { results := [], args := [] }

/-- 'byrelaw17.ClockPlays': WHATEVER THE INPUT: true; the input reads as it did. -/
def clockPlaysSpec : ChangeSpec := { name := "clockPlays", fn := fun _ => fun
  | [d1, d2] => { results := [.lit (.bool true)], args := [d1, d2] }
  | _ => none }
def clockPlaysRow : OpenClaim := { program := "ytndddfkebbeemaa", sum := "3288ffb499c3fe0f384e640352fc3b91e8d3aa2276dd9699927fe16d7d7900f4", func := "byre/byrelaw17.ClockPlays", spec := "clockPlays", inPlace := ["maps.clone"], unfollowed := true, recurses := true, apart := false }
def ClockPlaysSaid : Prop := clockPlaysRow.holds Try.pinned (OpenSpec.ofChange clockPlaysSpec)

/-- ITS FALSE NEIGHBOUR: 'it returns false'. Refute it at one input. -/
def clockPlaysWrong : ChangeSpec := { name := "clockPlays", fn := fun _ => fun
  | [d1, d2] => { results := [.lit (.bool false)], args := [d1, d2] }
  | _ => none }
def ClockPlaysWrongFalsely : Prop := clockPlaysRow.holds Try.pinned (OpenSpec.ofChange clockPlaysWrong)

/-- 'byrelaw17.ClockTouched': WHATEVER THE INPUT: true; the input reads as it did. -/
def clockTouchedSpec : ChangeSpec := { name := "clockTouched", fn := fun _ => fun
  | [d1, d2] => { results := [.lit (.bool true)], args := [d1, d2] }
  | _ => none }
def clockTouchedRow : OpenClaim := { program := "ytndddfkebbeemaa", sum := "3288ffb499c3fe0f384e640352fc3b91e8d3aa2276dd9699927fe16d7d7900f4", func := "byre/byrelaw17.ClockTouched", spec := "clockTouched", unfollowed := true, recurses := true, apart := false }
def ClockTouchedSaid : Prop := clockTouchedRow.holds Try.pinned (OpenSpec.ofChange clockTouchedSpec)

/-- ITS FALSE NEIGHBOUR: 'it returns false'. Refute it at one input. -/
def clockTouchedWrong : ChangeSpec := { name := "clockTouched", fn := fun _ => fun
  | [d1, d2] => { results := [.lit (.bool false)], args := [d1, d2] }
  | _ => none }
def ClockTouchedWrongFalsely : Prop := clockTouchedRow.holds Try.pinned (OpenSpec.ofChange clockTouchedWrong)

/-- 'byrelaw17.ClockRounds': WHATEVER THE INPUT: true; the input reads as it did. -/
def clockRoundsSpec : ChangeSpec := { name := "clockRounds", fn := fun _ => fun
  | [d] => { results := [.lit (.bool true)], args := [d] }
  | _ => none }
def clockRoundsRow : OpenClaim := { program := "ytndddfkebbeemaa", sum := "3288ffb499c3fe0f384e640352fc3b91e8d3aa2276dd9699927fe16d7d7900f4", func := "byre/byrelaw17.ClockRounds", spec := "clockRounds", unfollowed := true, recurses := true, apart := false }
def ClockRoundsSaid : Prop := clockRoundsRow.holds Try.pinned (OpenSpec.ofChange clockRoundsSpec)

/-- ITS FALSE NEIGHBOUR: 'it returns false'. Refute it at one input. -/
def clockRoundsWrong : ChangeSpec := { name := "clockRounds", fn := fun _ => fun
  | [d] => { results := [.lit (.bool false)], args := [d] }
  | _ => none }
def ClockRoundsWrongFalsely : Prop := clockRoundsRow.holds Try.pinned (OpenSpec.ofChange clockRoundsWrong)

/-- 'byrelaw17.ClockNone': WHATEVER THE INPUT: true; the input reads as it did. -/
def clockNoneSpec : ChangeSpec := { name := "clockNone", fn := fun _ => fun
  | [d] => { results := [.lit (.bool true)], args := [d] }
  | _ => none }
def clockNoneRow : OpenClaim := { program := "ytndddfkebbeemaa", sum := "3288ffb499c3fe0f384e640352fc3b91e8d3aa2276dd9699927fe16d7d7900f4", func := "byre/byrelaw17.ClockNone", spec := "clockNone", inPlace := ["maps.clone"], unfollowed := true, recurses := true, apart := false }
def ClockNoneSaid : Prop := clockNoneRow.holds Try.pinned (OpenSpec.ofChange clockNoneSpec)

/-- ITS FALSE NEIGHBOUR: 'it returns false'. Refute it at one input. -/
def clockNoneWrong : ChangeSpec := { name := "clockNone", fn := fun _ => fun
  | [d] => { results := [.lit (.bool false)], args := [d] }
  | _ => none }
def ClockNoneWrongFalsely : Prop := clockNoneRow.holds Try.pinned (OpenSpec.ofChange clockNoneWrong)

/-- 'byrelaw17.ClockNew': WHATEVER THE INPUT: true; the input reads as it did. -/
def clockNewSpec : ChangeSpec := { name := "clockNew", fn := fun _ => fun
  | [d1, d2, d3] => { results := [.lit (.bool true)], args := [d1, d2, d3] }
  | _ => none }
def clockNewRow : OpenClaim := { program := "ytndddfkebbeemaa", sum := "3288ffb499c3fe0f384e640352fc3b91e8d3aa2276dd9699927fe16d7d7900f4", func := "byre/byrelaw17.ClockNew", spec := "clockNew", inPlace := ["maps.clone"], unfollowed := true, recurses := true, apart := false }
def ClockNewSaid : Prop := clockNewRow.holds Try.pinned (OpenSpec.ofChange clockNewSpec)

/-- ITS FALSE NEIGHBOUR: 'it returns false'. Refute it at one input. -/
def clockNewWrong : ChangeSpec := { name := "clockNew", fn := fun _ => fun
  | [d1, d2, d3] => { results := [.lit (.bool false)], args := [d1, d2, d3] }
  | _ => none }
def ClockNewWrongFalsely : Prop := clockNewRow.holds Try.pinned (OpenSpec.ofChange clockNewWrong)

/-- 'byrelaw17.ClockBehind': WHATEVER THE INPUT: true; the input reads as it did. -/
def clockBehindSpec : ChangeSpec := { name := "clockBehind", fn := fun _ => fun
  | [d] => { results := [.lit (.bool true)], args := [d] }
  | _ => none }
def clockBehindRow : OpenClaim := { program := "ytndddfkebbeemaa", sum := "3288ffb499c3fe0f384e640352fc3b91e8d3aa2276dd9699927fe16d7d7900f4", func := "byre/byrelaw17.ClockBehind", spec := "clockBehind", unfollowed := true, recurses := true, apart := false }
def ClockBehindSaid : Prop := clockBehindRow.holds Try.pinned (OpenSpec.ofChange clockBehindSpec)

/-- ITS FALSE NEIGHBOUR: 'it returns false'. Refute it at one input. -/
def clockBehindWrong : ChangeSpec := { name := "clockBehind", fn := fun _ => fun
  | [d] => { results := [.lit (.bool false)], args := [d] }
  | _ => none }
def ClockBehindWrongFalsely : Prop := clockBehindRow.holds Try.pinned (OpenSpec.ofChange clockBehindWrong)

/- THE SECOND FORM. 'bulk': how many values and letters a reading holds, each counted each time it is reached (what is shared counts as often as it is met; a slice's spare places count too). A statement '..UptoSaid' is the law's where the arguments, and the package variables that the reading takes, are together of bulk at most 1048576: NARROWER than '..Said'. Prove '..Said' where nothing that the law and all that it calls make is longer than what came in: it says more and counts as full. Else prove '..UptoSaid'. A law counts once. -/
mutual
def uptoBulk {H : Type} : DataW H → Nat
  | .lit (.string bytes) => bytes.length + 1
  | .lit _ => 1
  | .nil => 1
  | .ptr d => uptoBulk d + 1
  | .slice elems spare => uptoBulkAll elems + uptoBulkAll spare + 1
  | .agg parts => uptoBulkAll parts + 1
  | .iface _ d => uptoBulk d + 1
  | .map entries => uptoBulkEntries entries + 1
  | .held _ => 1
def uptoBulkAll {H : Type} : List (DataW H) → Nat
  | [] => 0
  | d :: r => uptoBulk d + uptoBulkAll r
def uptoBulkEntries {H : Type} : List (Lit × DataW H) → Nat
  | [] => 0
  | x :: r => uptoBulkEntry x + uptoBulkEntries r
def uptoBulkEntry {H : Type} : Lit × DataW H → Nat
  | (.string bytes, d) => bytes.length + uptoBulk d + 1
  | (_, d) => uptoBulk d + 1
 end
def uptoSmall : (H : Type) → List (DataW H) → Bool := fun _ ds => decide (uptoBulkAll ds ≤ 1048576)
def OpenSpec.upto (s : _root_.Go.ChangeSpec) : _root_.Go.OpenSpec := { _root_.Go.OpenSpec.ofChange s with cond := some uptoSmall }

/-- 'byrelaw17.ClockPlays', WHERE WHAT IT READS IS OF BULK AT MOST 1048576: true; the input reads as it did. -/
def clockPlaysUptoRow : OpenClaim := { program := "ytndddfkebbeemaa", sum := "3288ffb499c3fe0f384e640352fc3b91e8d3aa2276dd9699927fe16d7d7900f4", func := "byre/byrelaw17.ClockPlays", spec := "clockPlays", inPlace := ["maps.clone"], unfollowed := true, recurses := true, apart := false, narrowed := true }
def ClockPlaysUptoSaid : Prop := clockPlaysUptoRow.holds Try.pinned (OpenSpec.upto clockPlaysSpec)

/-- 'byrelaw17.ClockTouched', WHERE WHAT IT READS IS OF BULK AT MOST 1048576: true; the input reads as it did. -/
def clockTouchedUptoRow : OpenClaim := { program := "ytndddfkebbeemaa", sum := "3288ffb499c3fe0f384e640352fc3b91e8d3aa2276dd9699927fe16d7d7900f4", func := "byre/byrelaw17.ClockTouched", spec := "clockTouched", unfollowed := true, recurses := true, apart := false, narrowed := true }
def ClockTouchedUptoSaid : Prop := clockTouchedUptoRow.holds Try.pinned (OpenSpec.upto clockTouchedSpec)

/-- 'byrelaw17.ClockRounds', WHERE WHAT IT READS IS OF BULK AT MOST 1048576: true; the input reads as it did. -/
def clockRoundsUptoRow : OpenClaim := { program := "ytndddfkebbeemaa", sum := "3288ffb499c3fe0f384e640352fc3b91e8d3aa2276dd9699927fe16d7d7900f4", func := "byre/byrelaw17.ClockRounds", spec := "clockRounds", unfollowed := true, recurses := true, apart := false, narrowed := true }
def ClockRoundsUptoSaid : Prop := clockRoundsUptoRow.holds Try.pinned (OpenSpec.upto clockRoundsSpec)

/-- 'byrelaw17.ClockNone', WHERE WHAT IT READS IS OF BULK AT MOST 1048576: true; the input reads as it did. -/
def clockNoneUptoRow : OpenClaim := { program := "ytndddfkebbeemaa", sum := "3288ffb499c3fe0f384e640352fc3b91e8d3aa2276dd9699927fe16d7d7900f4", func := "byre/byrelaw17.ClockNone", spec := "clockNone", inPlace := ["maps.clone"], unfollowed := true, recurses := true, apart := false, narrowed := true }
def ClockNoneUptoSaid : Prop := clockNoneUptoRow.holds Try.pinned (OpenSpec.upto clockNoneSpec)

/-- 'byrelaw17.ClockNew', WHERE WHAT IT READS IS OF BULK AT MOST 1048576: true; the input reads as it did. -/
def clockNewUptoRow : OpenClaim := { program := "ytndddfkebbeemaa", sum := "3288ffb499c3fe0f384e640352fc3b91e8d3aa2276dd9699927fe16d7d7900f4", func := "byre/byrelaw17.ClockNew", spec := "clockNew", inPlace := ["maps.clone"], unfollowed := true, recurses := true, apart := false, narrowed := true }
def ClockNewUptoSaid : Prop := clockNewUptoRow.holds Try.pinned (OpenSpec.upto clockNewSpec)

/-- 'byrelaw17.ClockBehind', WHERE WHAT IT READS IS OF BULK AT MOST 1048576: true; the input reads as it did. -/
def clockBehindUptoRow : OpenClaim := { program := "ytndddfkebbeemaa", sum := "3288ffb499c3fe0f384e640352fc3b91e8d3aa2276dd9699927fe16d7d7900f4", func := "byre/byrelaw17.ClockBehind", spec := "clockBehind", unfollowed := true, recurses := true, apart := false, narrowed := true }
def ClockBehindUptoSaid : Prop := clockBehindUptoRow.holds Try.pinned (OpenSpec.upto clockBehindSpec)

end Rows
end Go.Proofs.Ytndddfkebbeemaa
