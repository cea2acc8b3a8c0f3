/-
  No cell of these rows narrows 'for every input' (looked for: loops, veiled, ifaces, maps, wideKeys, modest, calm, conditions, laid).
  DERIVED. THE GIVEN ROWS OF THIS SEAT. 5 by the template 'for every input the law returns true; each argument reads behind the call as it read before'; 0 by the template 'total and deterministic' (their statements: YtdpnmjlapgldgaaTotals.lean).
  GIVEN WITH THE SEED: the statements are not yours to turn. If you find one false, say at which input.
  Laid BY PROGRAM, IN A SANDBOX (cutbox-rows.mjs): the forced cells as the released guide's own fill.sh prints them over the translation 5a7d3d1564f58473… (all of the seat's roots in one cut). By AI agents, Wed Nov 11 2026. No macro, syntax, notation, axiom, sorry.
-/
import Derived.Test.YtdpnmjlapgldgaaChecked
import GoSem.Claim
import GoSem.ClaimJoined
import GoSem.ClaimMapViews
import Derived.JoinedTies
import Derived.KernelRfl
namespace Go.Proofs.Ytdpnmjlapgldgaa
/- THE CELL 'sum', in the pinned program and in every row, IS THE sha256 OF THE DUMP (.gsa) THAT YtdpnmjlapgldgaaProg.lean LOADS. Nothing in Lean hashes anything: it is a label: what it is worth is what the hold of that sum in a sandbox is worth. -/
noncomputable def Try.pinned : Pinned := { name := "ytdpnmjlapgldgaa", sum := "5a7d3d1564f58473c450cb5cadd8c4a62085902b77f60577d26a03d9d90a750a", checked := Try.checked }
namespace Rows
def none {H : Type} : Left H := { results := [], args := [] }

/-- 'byrelaw07.ZonesPlays': WHATEVER THE INPUT: true; the input reads as it did. -/
def zonesPlaysSpec : ChangeSpec := { name := "zonesPlays", fn := fun _ => fun
  | [d1, d2] => { results := [.lit (.bool true)], args := [d1, d2] }
  | _ => none }
def zonesPlaysRow : OpenClaim := { program := "ytdpnmjlapgldgaa", sum := "5a7d3d1564f58473c450cb5cadd8c4a62085902b77f60577d26a03d9d90a750a", func := "byre/byrelaw07.ZonesPlays", spec := "zonesPlays", inPlace := ["maps.clone"], unfollowed := true, recurses := true, apart := false }
def ZonesPlaysSaid : Prop := zonesPlaysRow.holds Try.pinned (OpenSpec.ofChange zonesPlaysSpec)

/-- ITS FALSE NEIGHBOUR: 'it returns false'. Refute it at one input. -/
def zonesPlaysWrong : ChangeSpec := { name := "zonesPlays", fn := fun _ => fun
  | [d1, d2] => { results := [.lit (.bool false)], args := [d1, d2] }
  | _ => none }
def ZonesPlaysWrongFalsely : Prop := zonesPlaysRow.holds Try.pinned (OpenSpec.ofChange zonesPlaysWrong)

/-- 'byrelaw07.ZonesNone': WHATEVER THE INPUT: true; the input reads as it did. -/
def zonesNoneSpec : ChangeSpec := { name := "zonesNone", fn := fun _ => fun
  | [d] => { results := [.lit (.bool true)], args := [d] }
  | _ => none }
def zonesNoneRow : OpenClaim := { program := "ytdpnmjlapgldgaa", sum := "5a7d3d1564f58473c450cb5cadd8c4a62085902b77f60577d26a03d9d90a750a", func := "byre/byrelaw07.ZonesNone", spec := "zonesNone", inPlace := ["maps.clone"], unfollowed := true, recurses := true, apart := false }
def ZonesNoneSaid : Prop := zonesNoneRow.holds Try.pinned (OpenSpec.ofChange zonesNoneSpec)

/-- ITS FALSE NEIGHBOUR: 'it returns false'. Refute it at one input. -/
def zonesNoneWrong : ChangeSpec := { name := "zonesNone", fn := fun _ => fun
  | [d] => { results := [.lit (.bool false)], args := [d] }
  | _ => none }
def ZonesNoneWrongFalsely : Prop := zonesNoneRow.holds Try.pinned (OpenSpec.ofChange zonesNoneWrong)

/-- 'byrelaw07.ZonesAll': WHATEVER THE INPUT: true; the input reads as it did. -/
def zonesAllSpec : ChangeSpec := { name := "zonesAll", fn := fun _ => fun
  | [d1, d2, d3, d4] => { results := [.lit (.bool true)], args := [d1, d2, d3, d4] }
  | _ => none }
def zonesAllRow : OpenClaim := { program := "ytdpnmjlapgldgaa", sum := "5a7d3d1564f58473c450cb5cadd8c4a62085902b77f60577d26a03d9d90a750a", func := "byre/byrelaw07.ZonesAll", spec := "zonesAll", unfollowed := true, recurses := true, apart := false }
def ZonesAllSaid : Prop := zonesAllRow.holds Try.pinned (OpenSpec.ofChange zonesAllSpec)

/-- ITS FALSE NEIGHBOUR: 'it returns false'. Refute it at one input. -/
def zonesAllWrong : ChangeSpec := { name := "zonesAll", fn := fun _ => fun
  | [d1, d2, d3, d4] => { results := [.lit (.bool false)], args := [d1, d2, d3, d4] }
  | _ => none }
def ZonesAllWrongFalsely : Prop := zonesAllRow.holds Try.pinned (OpenSpec.ofChange zonesAllWrong)

/-- 'byrelaw07.ZonesFirst': WHATEVER THE INPUT: true; the input reads as it did. -/
def zonesFirstSpec : ChangeSpec := { name := "zonesFirst", fn := fun _ => fun
  | [d1, d2, d3, d4, d5] => { results := [.lit (.bool true)], args := [d1, d2, d3, d4, d5] }
  | _ => none }
def zonesFirstRow : OpenClaim := { program := "ytdpnmjlapgldgaa", sum := "5a7d3d1564f58473c450cb5cadd8c4a62085902b77f60577d26a03d9d90a750a", func := "byre/byrelaw07.ZonesFirst", spec := "zonesFirst", unfollowed := true, recurses := true, apart := false }
def ZonesFirstSaid : Prop := zonesFirstRow.holds Try.pinned (OpenSpec.ofChange zonesFirstSpec)

/-- ITS FALSE NEIGHBOUR: 'it returns false'. Refute it at one input. -/
def zonesFirstWrong : ChangeSpec := { name := "zonesFirst", fn := fun _ => fun
  | [d1, d2, d3, d4, d5] => { results := [.lit (.bool false)], args := [d1, d2, d3, d4, d5] }
  | _ => none }
def ZonesFirstWrongFalsely : Prop := zonesFirstRow.holds Try.pinned (OpenSpec.ofChange zonesFirstWrong)

/-- 'byrelaw07.ZonesStates': WHATEVER THE INPUT: true; the input reads as it did. -/
def zonesStatesSpec : ChangeSpec := { name := "zonesStates", fn := fun _ => fun
  | [d1, d2] => { results := [.lit (.bool true)], args := [d1, d2] }
  | _ => none }
def zonesStatesRow : OpenClaim := { program := "ytdpnmjlapgldgaa", sum := "5a7d3d1564f58473c450cb5cadd8c4a62085902b77f60577d26a03d9d90a750a", func := "byre/byrelaw07.ZonesStates", spec := "zonesStates", unfollowed := true, recurses := true, apart := false }
def ZonesStatesSaid : Prop := zonesStatesRow.holds Try.pinned (OpenSpec.ofChange zonesStatesSpec)

/-- ITS FALSE NEIGHBOUR: 'it returns false'. Refute it at one input. -/
def zonesStatesWrong : ChangeSpec := { name := "zonesStates", fn := fun _ => fun
  | [d1, d2] => { results := [.lit (.bool false)], args := [d1, d2] }
  | _ => none }
def ZonesStatesWrongFalsely : Prop := zonesStatesRow.holds Try.pinned (OpenSpec.ofChange zonesStatesWrong)

/- THE SECOND FORM. 'bulk': how many values and letters a reading holds, each counted each time it is reached (what is shared counts as often as it is met; a slice's spare places count too). A statement '..UptoSaid' is the law's where the arguments, and the package variables that the reading takes, are together of bulk at most 1048576: NARROWER than '..Said'. Prove '..Said' where nothing that the law and all that it calls make is longer than what came in: it says more and counts as full. Else prove '..UptoSaid'. A law counts once. -/
mutual
def uptoBulk {H : Type} : DataW H → Nat
  | .lit (.string bytes) => bytes.length + 1
  | .lit _ => 1
  | .nil => 1
  | .ptr d => uptoBulk d + 1
  | .slice elems spare => uptoBulkAll elems + uptoBulkAll spare + 1
  | .agg parts => uptoBulkAll parts + 1
  | .iface _ d => uptoBulk d + 1
  | .map entries => uptoBulkEntries entries + 1
  | .held _ => 1
def uptoBulkAll {H : Type} : List (DataW H) → Nat
  | [] => 0
  | d :: r => uptoBulk d + uptoBulkAll r
def uptoBulkEntries {H : Type} : List (Lit × DataW H) → Nat
  | [] => 0
  | x :: r => uptoBulkEntry x + uptoBulkEntries r
def uptoBulkEntry {H : Type} : Lit × DataW H → Nat
  | (.string bytes, d) => bytes.length + uptoBulk d + 1
  | (_, d) => uptoBulk d + 1
 end
def uptoSmall : (H : Type) → List (DataW H) → Bool := fun _ ds => decide (uptoBulkAll ds ≤ 1048576)
def OpenSpec.upto (s : _root_.Go.ChangeSpec) : _root_.Go.OpenSpec := { _root_.Go.OpenSpec.ofChange s with cond := some uptoSmall }

/-- 'byrelaw07.ZonesPlays', WHERE WHAT IT READS IS OF BULK AT MOST 1048576: true; the input reads as it did. -/
def zonesPlaysUptoRow : OpenClaim := { program := "ytdpnmjlapgldgaa", sum := "5a7d3d1564f58473c450cb5cadd8c4a62085902b77f60577d26a03d9d90a750a", func := "byre/byrelaw07.ZonesPlays", spec := "zonesPlays", inPlace := ["maps.clone"], unfollowed := true, recurses := true, apart := false, narrowed := true }
def ZonesPlaysUptoSaid : Prop := zonesPlaysUptoRow.holds Try.pinned (OpenSpec.upto zonesPlaysSpec)

/-- 'byrelaw07.ZonesNone', WHERE WHAT IT READS IS OF BULK AT MOST 1048576: true; the input reads as it did. -/
def zonesNoneUptoRow : OpenClaim := { program := "ytdpnmjlapgldgaa", sum := "5a7d3d1564f58473c450cb5cadd8c4a62085902b77f60577d26a03d9d90a750a", func := "byre/byrelaw07.ZonesNone", spec := "zonesNone", inPlace := ["maps.clone"], unfollowed := true, recurses := true, apart := false, narrowed := true }
def ZonesNoneUptoSaid : Prop := zonesNoneUptoRow.holds Try.pinned (OpenSpec.upto zonesNoneSpec)

/-- 'byrelaw07.ZonesAll', WHERE WHAT IT READS IS OF BULK AT MOST 1048576: true; the input reads as it did. -/
def zonesAllUptoRow : OpenClaim := { program := "ytdpnmjlapgldgaa", sum := "5a7d3d1564f58473c450cb5cadd8c4a62085902b77f60577d26a03d9d90a750a", func := "byre/byrelaw07.ZonesAll", spec := "zonesAll", unfollowed := true, recurses := true, apart := false, narrowed := true }
def ZonesAllUptoSaid : Prop := zonesAllUptoRow.holds Try.pinned (OpenSpec.upto zonesAllSpec)

/-- 'byrelaw07.ZonesFirst', WHERE WHAT IT READS IS OF BULK AT MOST 1048576: true; the input reads as it did. -/
def zonesFirstUptoRow : OpenClaim := { program := "ytdpnmjlapgldgaa", sum := "5a7d3d1564f58473c450cb5cadd8c4a62085902b77f60577d26a03d9d90a750a", func := "byre/byrelaw07.ZonesFirst", spec := "zonesFirst", unfollowed := true, recurses := true, apart := false, narrowed := true }
def ZonesFirstUptoSaid : Prop := zonesFirstUptoRow.holds Try.pinned (OpenSpec.upto zonesFirstSpec)

/-- 'byrelaw07.ZonesStates', WHERE WHAT IT READS IS OF BULK AT MOST 1048576: true; the input reads as it did. -/
def zonesStatesUptoRow : OpenClaim := { program := "ytdpnmjlapgldgaa", sum := "5a7d3d1564f58473c450cb5cadd8c4a62085902b77f60577d26a03d9d90a750a", func := "byre/byrelaw07.ZonesStates", spec := "zonesStates", unfollowed := true, recurses := true, apart := false, narrowed := true }
def ZonesStatesUptoSaid : Prop := zonesStatesUptoRow.holds Try.pinned (OpenSpec.upto zonesStatesSpec)

end Rows
end Go.Proofs.Ytdpnmjlapgldgaa
