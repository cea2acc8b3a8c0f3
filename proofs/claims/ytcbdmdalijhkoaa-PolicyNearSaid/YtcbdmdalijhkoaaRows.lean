/-
  No cell of these rows narrows 'for every input' (looked for: loops, veiled, ifaces, maps, wideKeys, modest, calm, conditions, laid).
  DERIVED. THE GIVEN ROWS OF THIS SEAT. 3 by the template 'for every input the law returns true; each argument reads behind the call as it read before'; 0 by the template 'total and deterministic' (their statements: YtcbdmdalijhkoaaTotals.lean).
  GIVEN WITH THE SEED: the statements are not yours to turn. If you find one false, say at which input.
  Laid BY PROGRAM, IN A SANDBOX (cutbox-rows.mjs): the forced cells as the released guide's own fill.sh prints them over the translation 763b982ce5069cc9… (all of the seat's roots in one cut). By AI agents, Wed Nov 11 2026. No macro, syntax, notation, axiom, sorry.
-/
import Derived.Test.YtcbdmdalijhkoaaChecked
import GoSem.Claim
import GoSem.ClaimJoined
import GoSem.ClaimMapViews
import Derived.JoinedTies
import Derived.KernelRfl
namespace Go.Proofs.Ytcbdmdalijhkoaa
/- THE CELL 'sum', in the pinned program and in every row, IS THE sha256 OF THE DUMP (.gsa) THAT YtcbdmdalijhkoaaProg.lean LOADS. Nothing in Lean hashes anything: it is a label: what it is worth is what the hold of that sum in a sandbox is worth. -/
noncomputable def Try.pinned : Pinned := { name := "ytcbdmdalijhkoaa", sum := "763b982ce5069cc93df5e70b3559652bc09fa925492aeb0c34c38ca5e5dad500", checked := Try.checked }
namespace Rows
def none {H : Type} : Left H := { results := [], args := [] }

/-- 'byrelaw18.PolicyOrders': WHATEVER THE INPUT: true; the input reads as it did. -/
def policyOrdersSpec : ChangeSpec := { name := "policyOrders", fn := fun _ => fun
  | [d1, d2, d3, d4] => { results := [.lit (.bool true)], args := [d1, d2, d3, d4] }
  | _ => none }
def policyOrdersRow : OpenClaim := { program := "ytcbdmdalijhkoaa", sum := "763b982ce5069cc93df5e70b3559652bc09fa925492aeb0c34c38ca5e5dad500", func := "byre/byrelaw18.PolicyOrders", spec := "policyOrders", unfollowed := true, recurses := true, apart := false }
def PolicyOrdersSaid : Prop := policyOrdersRow.holds Try.pinned (OpenSpec.ofChange policyOrdersSpec)

/-- ITS FALSE NEIGHBOUR: 'it returns false'. Refute it at one input. -/
def policyOrdersWrong : ChangeSpec := { name := "policyOrders", fn := fun _ => fun
  | [d1, d2, d3, d4] => { results := [.lit (.bool false)], args := [d1, d2, d3, d4] }
  | _ => none }
def PolicyOrdersWrongFalsely : Prop := policyOrdersRow.holds Try.pinned (OpenSpec.ofChange policyOrdersWrong)

/-- 'byrelaw18.PolicyEach': WHATEVER THE INPUT: true; the input reads as it did. -/
def policyEachSpec : ChangeSpec := { name := "policyEach", fn := fun _ => fun
  | [d1, d2, d3, d4] => { results := [.lit (.bool true)], args := [d1, d2, d3, d4] }
  | _ => none }
def policyEachRow : OpenClaim := { program := "ytcbdmdalijhkoaa", sum := "763b982ce5069cc93df5e70b3559652bc09fa925492aeb0c34c38ca5e5dad500", func := "byre/byrelaw18.PolicyEach", spec := "policyEach", unfollowed := true, recurses := true, apart := false }
def PolicyEachSaid : Prop := policyEachRow.holds Try.pinned (OpenSpec.ofChange policyEachSpec)

/-- ITS FALSE NEIGHBOUR: 'it returns false'. Refute it at one input. -/
def policyEachWrong : ChangeSpec := { name := "policyEach", fn := fun _ => fun
  | [d1, d2, d3, d4] => { results := [.lit (.bool false)], args := [d1, d2, d3, d4] }
  | _ => none }
def PolicyEachWrongFalsely : Prop := policyEachRow.holds Try.pinned (OpenSpec.ofChange policyEachWrong)

/-- 'byrelaw18.PolicyNear': WHATEVER THE INPUT: true; the input reads as it did. -/
def policyNearSpec : ChangeSpec := { name := "policyNear", fn := fun _ => fun
  | [d1, d2, d3, d4] => { results := [.lit (.bool true)], args := [d1, d2, d3, d4] }
  | _ => none }
def policyNearRow : OpenClaim := { program := "ytcbdmdalijhkoaa", sum := "763b982ce5069cc93df5e70b3559652bc09fa925492aeb0c34c38ca5e5dad500", func := "byre/byrelaw18.PolicyNear", spec := "policyNear", unfollowed := true, recurses := true, apart := false }
def PolicyNearSaid : Prop := policyNearRow.holds Try.pinned (OpenSpec.ofChange policyNearSpec)

/-- ITS FALSE NEIGHBOUR: 'it returns false'. Refute it at one input. -/
def policyNearWrong : ChangeSpec := { name := "policyNear", fn := fun _ => fun
  | [d1, d2, d3, d4] => { results := [.lit (.bool false)], args := [d1, d2, d3, d4] }
  | _ => none }
def PolicyNearWrongFalsely : Prop := policyNearRow.holds Try.pinned (OpenSpec.ofChange policyNearWrong)

/- THE SECOND FORM. 'bulk': how many values and letters a reading holds, each counted each time it is reached (what is shared counts as often as it is met; a slice's spare places count too). A statement '..UptoSaid' is the law's where the arguments, and the package variables that the reading takes, are together of bulk at most 1048576: NARROWER than '..Said'. Prove '..Said' where nothing that the law and all that it calls make is longer than what came in: it says more and counts as full. Else prove '..UptoSaid'. A law counts once. -/
mutual
def uptoBulk {H : Type} : DataW H → Nat
  | .lit (.string bytes) => bytes.length + 1
  | .lit _ => 1
  | .nil => 1
  | .ptr d => uptoBulk d + 1
  | .slice elems spare => uptoBulkAll elems + uptoBulkAll spare + 1
  | .agg parts => uptoBulkAll parts + 1
  | .iface _ d => uptoBulk d + 1
  | .map entries => uptoBulkEntries entries + 1
  | .held _ => 1
def uptoBulkAll {H : Type} : List (DataW H) → Nat
  | [] => 0
  | d :: r => uptoBulk d + uptoBulkAll r
def uptoBulkEntries {H : Type} : List (Lit × DataW H) → Nat
  | [] => 0
  | x :: r => uptoBulkEntry x + uptoBulkEntries r
def uptoBulkEntry {H : Type} : Lit × DataW H → Nat
  | (.string bytes, d) => bytes.length + uptoBulk d + 1
  | (_, d) => uptoBulk d + 1
 end
def uptoSmall : (H : Type) → List (DataW H) → Bool := fun _ ds => decide (uptoBulkAll ds ≤ 1048576)
def OpenSpec.upto (s : _root_.Go.ChangeSpec) : _root_.Go.OpenSpec := { _root_.Go.OpenSpec.ofChange s with cond := some uptoSmall }

/-- 'byrelaw18.PolicyOrders', WHERE WHAT IT READS IS OF BULK AT MOST 1048576: true; the input reads as it did. -/
def policyOrdersUptoRow : OpenClaim := { program := "ytcbdmdalijhkoaa", sum := "763b982ce5069cc93df5e70b3559652bc09fa925492aeb0c34c38ca5e5dad500", func := "byre/byrelaw18.PolicyOrders", spec := "policyOrders", unfollowed := true, recurses := true, apart := false, narrowed := true }
def PolicyOrdersUptoSaid : Prop := policyOrdersUptoRow.holds Try.pinned (OpenSpec.upto policyOrdersSpec)

/-- 'byrelaw18.PolicyEach', WHERE WHAT IT READS IS OF BULK AT MOST 1048576: true; the input reads as it did. -/
def policyEachUptoRow : OpenClaim := { program := "ytcbdmdalijhkoaa", sum := "763b982ce5069cc93df5e70b3559652bc09fa925492aeb0c34c38ca5e5dad500", func := "byre/byrelaw18.PolicyEach", spec := "policyEach", unfollowed := true, recurses := true, apart := false, narrowed := true }
def PolicyEachUptoSaid : Prop := policyEachUptoRow.holds Try.pinned (OpenSpec.upto policyEachSpec)

/-- 'byrelaw18.PolicyNear', WHERE WHAT IT READS IS OF BULK AT MOST 1048576: true; the input reads as it did. -/
def policyNearUptoRow : OpenClaim := { program := "ytcbdmdalijhkoaa", sum := "763b982ce5069cc93df5e70b3559652bc09fa925492aeb0c34c38ca5e5dad500", func := "byre/byrelaw18.PolicyNear", spec := "policyNear", unfollowed := true, recurses := true, apart := false, narrowed := true }
def PolicyNearUptoSaid : Prop := policyNearUptoRow.holds Try.pinned (OpenSpec.upto policyNearSpec)

end Rows
end Go.Proofs.Ytcbdmdalijhkoaa
