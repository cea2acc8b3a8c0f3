/-
  No cell of these rows narrows 'for every input' (looked for: loops, veiled, ifaces, maps, wideKeys, modest, calm, conditions, laid).
  DERIVED. THE GIVEN ROWS OF THIS SEAT. 5 by the template 'for every input the law returns true; each argument reads behind the call as it read before'; 0 by the template 'total and deterministic' (their statements: YtjjcbbnnilafdaaTotals.lean).
  GIVEN WITH THE SEED: the statements are not yours to turn. If you find one false, say at which input.
  Laid BY PROGRAM, IN A SANDBOX (cutbox-rows.mjs): the forced cells as the released guide's own fill.sh prints them over the translation 6dad9a4cb0e82ff6… (all of the seat's roots in one cut). By AI agents, Wed Nov 11 2026. No macro, syntax, notation, axiom, sorry.
-/
import Derived.Test.YtjjcbbnnilafdaaChecked
import GoSem.Claim
import GoSem.ClaimJoined
import GoSem.ClaimMapViews
import Derived.JoinedTies
import Derived.KernelRfl
namespace Go.Proofs.Ytjjcbbnnilafdaa
/- THE CELL 'sum', in the pinned program and in every row, IS THE sha256 OF THE DUMP (.gsa) THAT YtjjcbbnnilafdaaProg.lean LOADS. Nothing in Lean hashes anything: it is a label: what it is worth is what the hold of that sum in a sandbox is worth. -/
noncomputable def Try.pinned : Pinned := { name := "ytjjcbbnnilafdaa", sum := "6dad9a4cb0e82ff610cb28bfdca9ce5064687effbcf37e27646db44ffe65f346", checked := Try.checked }
namespace Rows
def none {H : Type} : Left H := { results := [], args := [] }

/-- 'byrelaw15.RmapPlays': WHATEVER THE INPUT: true; the input reads as it did. -/
def rmapPlaysSpec : ChangeSpec := { name := "rmapPlays", fn := fun _ => fun
  | [d1, d2, d3] => { results := [.lit (.bool true)], args := [d1, d2, d3] }
  | _ => none }
def rmapPlaysRow : OpenClaim := { program := "ytjjcbbnnilafdaa", sum := "6dad9a4cb0e82ff610cb28bfdca9ce5064687effbcf37e27646db44ffe65f346", func := "byre/byrelaw15.RmapPlays", spec := "rmapPlays", inPlace := ["maps.clone"], unfollowed := true, recurses := true, plainKeys := false, apart := false }
def RmapPlaysSaid : Prop := rmapPlaysRow.holds Try.pinned (OpenSpec.ofChange rmapPlaysSpec)

/-- ITS FALSE NEIGHBOUR: 'it returns false'. Refute it at one input. -/
def rmapPlaysWrong : ChangeSpec := { name := "rmapPlays", fn := fun _ => fun
  | [d1, d2, d3] => { results := [.lit (.bool false)], args := [d1, d2, d3] }
  | _ => none }
def RmapPlaysWrongFalsely : Prop := rmapPlaysRow.holds Try.pinned (OpenSpec.ofChange rmapPlaysWrong)

/-- 'byrelaw15.RmapOne': WHATEVER THE INPUT: true; the input reads as it did. -/
def rmapOneSpec : ChangeSpec := { name := "rmapOne", fn := fun _ => fun
  | [d1, d2] => { results := [.lit (.bool true)], args := [d1, d2] }
  | _ => none }
def rmapOneRow : OpenClaim := { program := "ytjjcbbnnilafdaa", sum := "6dad9a4cb0e82ff610cb28bfdca9ce5064687effbcf37e27646db44ffe65f346", func := "byre/byrelaw15.RmapOne", spec := "rmapOne", unfollowed := true, recurses := true, plainKeys := false, apart := false }
def RmapOneSaid : Prop := rmapOneRow.holds Try.pinned (OpenSpec.ofChange rmapOneSpec)

/-- ITS FALSE NEIGHBOUR: 'it returns false'. Refute it at one input. -/
def rmapOneWrong : ChangeSpec := { name := "rmapOne", fn := fun _ => fun
  | [d1, d2] => { results := [.lit (.bool false)], args := [d1, d2] }
  | _ => none }
def RmapOneWrongFalsely : Prop := rmapOneRow.holds Try.pinned (OpenSpec.ofChange rmapOneWrong)

/-- 'byrelaw15.RmapNone': WHATEVER THE INPUT: true; the input reads as it did. -/
def rmapNoneSpec : ChangeSpec := { name := "rmapNone", fn := fun _ => fun
  | [d1, d2, d3] => { results := [.lit (.bool true)], args := [d1, d2, d3] }
  | _ => none }
def rmapNoneRow : OpenClaim := { program := "ytjjcbbnnilafdaa", sum := "6dad9a4cb0e82ff610cb28bfdca9ce5064687effbcf37e27646db44ffe65f346", func := "byre/byrelaw15.RmapNone", spec := "rmapNone", inPlace := ["maps.clone"], unfollowed := true, recurses := true, plainKeys := false, apart := false }
def RmapNoneSaid : Prop := rmapNoneRow.holds Try.pinned (OpenSpec.ofChange rmapNoneSpec)

/-- ITS FALSE NEIGHBOUR: 'it returns false'. Refute it at one input. -/
def rmapNoneWrong : ChangeSpec := { name := "rmapNone", fn := fun _ => fun
  | [d1, d2, d3] => { results := [.lit (.bool false)], args := [d1, d2, d3] }
  | _ => none }
def RmapNoneWrongFalsely : Prop := rmapNoneRow.holds Try.pinned (OpenSpec.ofChange rmapNoneWrong)

/-- 'byrelaw15.RmapOrder': WHATEVER THE INPUT: true; the input reads as it did. -/
def rmapOrderSpec : ChangeSpec := { name := "rmapOrder", fn := fun _ => fun
  | [d1, d2] => { results := [.lit (.bool true)], args := [d1, d2] }
  | _ => none }
def rmapOrderRow : OpenClaim := { program := "ytjjcbbnnilafdaa", sum := "6dad9a4cb0e82ff610cb28bfdca9ce5064687effbcf37e27646db44ffe65f346", func := "byre/byrelaw15.RmapOrder", spec := "rmapOrder", plainKeys := false, apart := false }
def RmapOrderSaid : Prop := rmapOrderRow.holds Try.pinned (OpenSpec.ofChange rmapOrderSpec)

/-- ITS FALSE NEIGHBOUR: 'it returns false'. Refute it at one input. -/
def rmapOrderWrong : ChangeSpec := { name := "rmapOrder", fn := fun _ => fun
  | [d1, d2] => { results := [.lit (.bool false)], args := [d1, d2] }
  | _ => none }
def RmapOrderWrongFalsely : Prop := rmapOrderRow.holds Try.pinned (OpenSpec.ofChange rmapOrderWrong)

/-- 'byrelaw15.RmapFill': WHATEVER THE INPUT: true; the input reads as it did. -/
def rmapFillSpec : ChangeSpec := { name := "rmapFill", fn := fun _ => fun
  | [d1, d2, d3] => { results := [.lit (.bool true)], args := [d1, d2, d3] }
  | _ => none }
def rmapFillRow : OpenClaim := { program := "ytjjcbbnnilafdaa", sum := "6dad9a4cb0e82ff610cb28bfdca9ce5064687effbcf37e27646db44ffe65f346", func := "byre/byrelaw15.RmapFill", spec := "rmapFill", unfollowed := true, recurses := true, plainKeys := false, apart := false }
def RmapFillSaid : Prop := rmapFillRow.holds Try.pinned (OpenSpec.ofChange rmapFillSpec)

/-- ITS FALSE NEIGHBOUR: 'it returns false'. Refute it at one input. -/
def rmapFillWrong : ChangeSpec := { name := "rmapFill", fn := fun _ => fun
  | [d1, d2, d3] => { results := [.lit (.bool false)], args := [d1, d2, d3] }
  | _ => none }
def RmapFillWrongFalsely : Prop := rmapFillRow.holds Try.pinned (OpenSpec.ofChange rmapFillWrong)

/- THE SECOND FORM. 'bulk': how many values and letters a reading holds, each counted each time it is reached (what is shared counts as often as it is met; a slice's spare places count too). A statement '..UptoSaid' is the law's where the arguments, and the package variables that the reading takes, are together of bulk at most 1048576: NARROWER than '..Said'. Prove '..Said' where nothing that the law and all that it calls make is longer than what came in: it says more and counts as full. Else prove '..UptoSaid'. A law counts once. -/
mutual
def uptoBulk {H : Type} : DataW H → Nat
  | .lit (.string bytes) => bytes.length + 1
  | .lit _ => 1
  | .nil => 1
  | .ptr d => uptoBulk d + 1
  | .slice elems spare => uptoBulkAll elems + uptoBulkAll spare + 1
  | .agg parts => uptoBulkAll parts + 1
  | .iface _ d => uptoBulk d + 1
  | .map entries => uptoBulkEntries entries + 1
  | .held _ => 1
def uptoBulkAll {H : Type} : List (DataW H) → Nat
  | [] => 0
  | d :: r => uptoBulk d + uptoBulkAll r
def uptoBulkEntries {H : Type} : List (Lit × DataW H) → Nat
  | [] => 0
  | x :: r => uptoBulkEntry x + uptoBulkEntries r
def uptoBulkEntry {H : Type} : Lit × DataW H → Nat
  | (.string bytes, d) => bytes.length + uptoBulk d + 1
  | (_, d) => uptoBulk d + 1
 end
def uptoSmall : (H : Type) → List (DataW H) → Bool := fun _ ds => decide (uptoBulkAll ds ≤ 1048576)
def OpenSpec.upto (s : _root_.Go.ChangeSpec) : _root_.Go.OpenSpec := { _root_.Go.OpenSpec.ofChange s with cond := some uptoSmall }

/-- 'byrelaw15.RmapPlays', WHERE WHAT IT READS IS OF BULK AT MOST 1048576: true; the input reads as it did. -/
def rmapPlaysUptoRow : OpenClaim := { program := "ytjjcbbnnilafdaa", sum := "6dad9a4cb0e82ff610cb28bfdca9ce5064687effbcf37e27646db44ffe65f346", func := "byre/byrelaw15.RmapPlays", spec := "rmapPlays", inPlace := ["maps.clone"], unfollowed := true, recurses := true, plainKeys := false, apart := false, narrowed := true }
def RmapPlaysUptoSaid : Prop := rmapPlaysUptoRow.holds Try.pinned (OpenSpec.upto rmapPlaysSpec)

/-- 'byrelaw15.RmapOne', WHERE WHAT IT READS IS OF BULK AT MOST 1048576: true; the input reads as it did. -/
def rmapOneUptoRow : OpenClaim := { program := "ytjjcbbnnilafdaa", sum := "6dad9a4cb0e82ff610cb28bfdca9ce5064687effbcf37e27646db44ffe65f346", func := "byre/byrelaw15.RmapOne", spec := "rmapOne", unfollowed := true, recurses := true, plainKeys := false, apart := false, narrowed := true }
def RmapOneUptoSaid : Prop := rmapOneUptoRow.holds Try.pinned (OpenSpec.upto rmapOneSpec)

/-- 'byrelaw15.RmapNone', WHERE WHAT IT READS IS OF BULK AT MOST 1048576: true; the input reads as it did. -/
def rmapNoneUptoRow : OpenClaim := { program := "ytjjcbbnnilafdaa", sum := "6dad9a4cb0e82ff610cb28bfdca9ce5064687effbcf37e27646db44ffe65f346", func := "byre/byrelaw15.RmapNone", spec := "rmapNone", inPlace := ["maps.clone"], unfollowed := true, recurses := true, plainKeys := false, apart := false, narrowed := true }
def RmapNoneUptoSaid : Prop := rmapNoneUptoRow.holds Try.pinned (OpenSpec.upto rmapNoneSpec)

/-- 'byrelaw15.RmapOrder', WHERE WHAT IT READS IS OF BULK AT MOST 1048576: true; the input reads as it did. -/
def rmapOrderUptoRow : OpenClaim := { program := "ytjjcbbnnilafdaa", sum := "6dad9a4cb0e82ff610cb28bfdca9ce5064687effbcf37e27646db44ffe65f346", func := "byre/byrelaw15.RmapOrder", spec := "rmapOrder", plainKeys := false, apart := false, narrowed := true }
def RmapOrderUptoSaid : Prop := rmapOrderUptoRow.holds Try.pinned (OpenSpec.upto rmapOrderSpec)

/-- 'byrelaw15.RmapFill', WHERE WHAT IT READS IS OF BULK AT MOST 1048576: true; the input reads as it did. -/
def rmapFillUptoRow : OpenClaim := { program := "ytjjcbbnnilafdaa", sum := "6dad9a4cb0e82ff610cb28bfdca9ce5064687effbcf37e27646db44ffe65f346", func := "byre/byrelaw15.RmapFill", spec := "rmapFill", unfollowed := true, recurses := true, plainKeys := false, apart := false, narrowed := true }
def RmapFillUptoSaid : Prop := rmapFillUptoRow.holds Try.pinned (OpenSpec.upto rmapFillSpec)

end Rows
end Go.Proofs.Ytjjcbbnnilafdaa
