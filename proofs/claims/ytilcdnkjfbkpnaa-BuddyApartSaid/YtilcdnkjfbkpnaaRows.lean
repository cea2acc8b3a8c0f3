/-
  No cell of these rows narrows 'for every input' (looked for: loops, veiled, ifaces, maps, wideKeys, modest, calm, conditions, laid).
  DERIVED. THE GIVEN ROWS OF THIS SEAT. 6 by the template 'for every input the law returns true; each argument reads behind the call as it read before'; 0 by the template 'total and deterministic' (their statements: YtilcdnkjfbkpnaaTotals.lean).
  GIVEN WITH THE SEED: the statements are not yours to turn. If you find one false, say at which input.
  Laid BY PROGRAM, IN A SANDBOX (cutbox-rows.mjs): the forced cells as the released guide's own fill.sh prints them over the translation 60c2d5cbad8cfc1a… (all of the seat's roots in one cut). By AI agents, Wed Nov 11 2026. No macro, syntax, notation, axiom, sorry.
-/
import Derived.Test.YtilcdnkjfbkpnaaChecked
import GoSem.Claim
import GoSem.ClaimJoined
import GoSem.ClaimMapViews
import Derived.JoinedTies
import Derived.KernelRfl
namespace Go.Proofs.Ytilcdnkjfbkpnaa
/- THE CELL 'sum', in the pinned program and in every row, IS THE sha256 OF THE DUMP (.gsa) THAT YtilcdnkjfbkpnaaProg.lean LOADS. Nothing in Lean hashes anything: it is a label: what it is worth is what the hold of that sum in a sandbox is worth. -/
noncomputable def Try.pinned : Pinned := { name := "ytilcdnkjfbkpnaa", sum := "60c2d5cbad8cfc1a265fab65a353233513741d81aeb82125291140edd160ec51", checked := Try.checked }
namespace Rows
def none {H : Type} : Left H := { results := [], args := [] }

/-- 'byrelaw06.BuddyPlays': WHATEVER THE INPUT: true; the input reads as it did. -/
def buddyPlaysSpec : ChangeSpec := { name := "buddyPlays", fn := fun _ => fun
  | [d1, d2] => { results := [.lit (.bool true)], args := [d1, d2] }
  | _ => none }
def buddyPlaysRow : OpenClaim := { program := "ytilcdnkjfbkpnaa", sum := "60c2d5cbad8cfc1a265fab65a353233513741d81aeb82125291140edd160ec51", func := "byre/byrelaw06.BuddyPlays", spec := "buddyPlays", inPlace := ["maps.clone"], unfollowed := true, recurses := true, plainKeys := false, apart := false }
def BuddyPlaysSaid : Prop := buddyPlaysRow.holds Try.pinned (OpenSpec.ofChange buddyPlaysSpec)

/-- ITS FALSE NEIGHBOUR: 'it returns false'. Refute it at one input. -/
def buddyPlaysWrong : ChangeSpec := { name := "buddyPlays", fn := fun _ => fun
  | [d1, d2] => { results := [.lit (.bool false)], args := [d1, d2] }
  | _ => none }
def BuddyPlaysWrongFalsely : Prop := buddyPlaysRow.holds Try.pinned (OpenSpec.ofChange buddyPlaysWrong)

/-- 'byrelaw06.BuddyNone': WHATEVER THE INPUT: true; the input reads as it did. -/
def buddyNoneSpec : ChangeSpec := { name := "buddyNone", fn := fun _ => fun
  | [d] => { results := [.lit (.bool true)], args := [d] }
  | _ => none }
def buddyNoneRow : OpenClaim := { program := "ytilcdnkjfbkpnaa", sum := "60c2d5cbad8cfc1a265fab65a353233513741d81aeb82125291140edd160ec51", func := "byre/byrelaw06.BuddyNone", spec := "buddyNone", inPlace := ["maps.clone"], unfollowed := true, recurses := true, plainKeys := false, apart := false }
def BuddyNoneSaid : Prop := buddyNoneRow.holds Try.pinned (OpenSpec.ofChange buddyNoneSpec)

/-- ITS FALSE NEIGHBOUR: 'it returns false'. Refute it at one input. -/
def buddyNoneWrong : ChangeSpec := { name := "buddyNone", fn := fun _ => fun
  | [d] => { results := [.lit (.bool false)], args := [d] }
  | _ => none }
def BuddyNoneWrongFalsely : Prop := buddyNoneRow.holds Try.pinned (OpenSpec.ofChange buddyNoneWrong)

/-- 'byrelaw06.BuddyApart': WHATEVER THE INPUT: true; the input reads as it did. -/
def buddyApartSpec : ChangeSpec := { name := "buddyApart", fn := fun _ => fun
  | [d1, d2] => { results := [.lit (.bool true)], args := [d1, d2] }
  | _ => none }
def buddyApartRow : OpenClaim := { program := "ytilcdnkjfbkpnaa", sum := "60c2d5cbad8cfc1a265fab65a353233513741d81aeb82125291140edd160ec51", func := "byre/byrelaw06.BuddyApart", spec := "buddyApart", unfollowed := true, recurses := true, plainKeys := false, apart := false }
def BuddyApartSaid : Prop := buddyApartRow.holds Try.pinned (OpenSpec.ofChange buddyApartSpec)

/-- ITS FALSE NEIGHBOUR: 'it returns false'. Refute it at one input. -/
def buddyApartWrong : ChangeSpec := { name := "buddyApart", fn := fun _ => fun
  | [d1, d2] => { results := [.lit (.bool false)], args := [d1, d2] }
  | _ => none }
def BuddyApartWrongFalsely : Prop := buddyApartRow.holds Try.pinned (OpenSpec.ofChange buddyApartWrong)

/-- 'byrelaw06.BuddyBack': WHATEVER THE INPUT: true; the input reads as it did. -/
def buddyBackSpec : ChangeSpec := { name := "buddyBack", fn := fun _ => fun
  | [d1, d2, d3, d4] => { results := [.lit (.bool true)], args := [d1, d2, d3, d4] }
  | _ => none }
def buddyBackRow : OpenClaim := { program := "ytilcdnkjfbkpnaa", sum := "60c2d5cbad8cfc1a265fab65a353233513741d81aeb82125291140edd160ec51", func := "byre/byrelaw06.BuddyBack", spec := "buddyBack", unfollowed := true, recurses := true, plainKeys := false, apart := false }
def BuddyBackSaid : Prop := buddyBackRow.holds Try.pinned (OpenSpec.ofChange buddyBackSpec)

/-- ITS FALSE NEIGHBOUR: 'it returns false'. Refute it at one input. -/
def buddyBackWrong : ChangeSpec := { name := "buddyBack", fn := fun _ => fun
  | [d1, d2, d3, d4] => { results := [.lit (.bool false)], args := [d1, d2, d3, d4] }
  | _ => none }
def BuddyBackWrongFalsely : Prop := buddyBackRow.holds Try.pinned (OpenSpec.ofChange buddyBackWrong)

/-- 'byrelaw06.BuddyMost': WHATEVER THE INPUT: true; the input reads as it did. -/
def buddyMostSpec : ChangeSpec := { name := "buddyMost", fn := fun _ => fun
  | [d1, d2] => { results := [.lit (.bool true)], args := [d1, d2] }
  | _ => none }
def buddyMostRow : OpenClaim := { program := "ytilcdnkjfbkpnaa", sum := "60c2d5cbad8cfc1a265fab65a353233513741d81aeb82125291140edd160ec51", func := "byre/byrelaw06.BuddyMost", spec := "buddyMost", inPlace := ["maps.clone"], unfollowed := true, recurses := true, plainKeys := false, apart := false }
def BuddyMostSaid : Prop := buddyMostRow.holds Try.pinned (OpenSpec.ofChange buddyMostSpec)

/-- ITS FALSE NEIGHBOUR: 'it returns false'. Refute it at one input. -/
def buddyMostWrong : ChangeSpec := { name := "buddyMost", fn := fun _ => fun
  | [d1, d2] => { results := [.lit (.bool false)], args := [d1, d2] }
  | _ => none }
def BuddyMostWrongFalsely : Prop := buddyMostRow.holds Try.pinned (OpenSpec.ofChange buddyMostWrong)

/-- 'byrelaw06.BuddyPowers': WHATEVER THE INPUT: true; the input reads as it did. -/
def buddyPowersSpec : ChangeSpec := { name := "buddyPowers", fn := fun _ => fun
  | [d1, d2] => { results := [.lit (.bool true)], args := [d1, d2] }
  | _ => none }
def buddyPowersRow : OpenClaim := { program := "ytilcdnkjfbkpnaa", sum := "60c2d5cbad8cfc1a265fab65a353233513741d81aeb82125291140edd160ec51", func := "byre/byrelaw06.BuddyPowers", spec := "buddyPowers", unfollowed := true, recurses := true, plainKeys := false, apart := false }
def BuddyPowersSaid : Prop := buddyPowersRow.holds Try.pinned (OpenSpec.ofChange buddyPowersSpec)

/-- ITS FALSE NEIGHBOUR: 'it returns false'. Refute it at one input. -/
def buddyPowersWrong : ChangeSpec := { name := "buddyPowers", fn := fun _ => fun
  | [d1, d2] => { results := [.lit (.bool false)], args := [d1, d2] }
  | _ => none }
def BuddyPowersWrongFalsely : Prop := buddyPowersRow.holds Try.pinned (OpenSpec.ofChange buddyPowersWrong)

/- THE SECOND FORM. 'bulk': how many values and letters a reading holds, each counted each time it is reached (what is shared counts as often as it is met; a slice's spare places count too). A statement '..UptoSaid' is the law's where the arguments, and the package variables that the reading takes, are together of bulk at most 1048576: NARROWER than '..Said'. Prove '..Said' where nothing that the law and all that it calls make is longer than what came in: it says more and counts as full. Else prove '..UptoSaid'. A law counts once. -/
mutual
def uptoBulk {H : Type} : DataW H → Nat
  | .lit (.string bytes) => bytes.length + 1
  | .lit _ => 1
  | .nil => 1
  | .ptr d => uptoBulk d + 1
  | .slice elems spare => uptoBulkAll elems + uptoBulkAll spare + 1
  | .agg parts => uptoBulkAll parts + 1
  | .iface _ d => uptoBulk d + 1
  | .map entries => uptoBulkEntries entries + 1
  | .held _ => 1
def uptoBulkAll {H : Type} : List (DataW H) → Nat
  | [] => 0
  | d :: r => uptoBulk d + uptoBulkAll r
def uptoBulkEntries {H : Type} : List (Lit × DataW H) → Nat
  | [] => 0
  | x :: r => uptoBulkEntry x + uptoBulkEntries r
def uptoBulkEntry {H : Type} : Lit × DataW H → Nat
  | (.string bytes, d) => bytes.length + uptoBulk d + 1
  | (_, d) => uptoBulk d + 1
 end
def uptoSmall : (H : Type) → List (DataW H) → Bool := fun _ ds => decide (uptoBulkAll ds ≤ 1048576)
def OpenSpec.upto (s : _root_.Go.ChangeSpec) : _root_.Go.OpenSpec := { _root_.Go.OpenSpec.ofChange s with cond := some uptoSmall }

/-- 'byrelaw06.BuddyPlays', WHERE WHAT IT READS IS OF BULK AT MOST 1048576: true; the input reads as it did. -/
def buddyPlaysUptoRow : OpenClaim := { program := "ytilcdnkjfbkpnaa", sum := "60c2d5cbad8cfc1a265fab65a353233513741d81aeb82125291140edd160ec51", func := "byre/byrelaw06.BuddyPlays", spec := "buddyPlays", inPlace := ["maps.clone"], unfollowed := true, recurses := true, plainKeys := false, apart := false, narrowed := true }
def BuddyPlaysUptoSaid : Prop := buddyPlaysUptoRow.holds Try.pinned (OpenSpec.upto buddyPlaysSpec)

/-- 'byrelaw06.BuddyNone', WHERE WHAT IT READS IS OF BULK AT MOST 1048576: true; the input reads as it did. -/
def buddyNoneUptoRow : OpenClaim := { program := "ytilcdnkjfbkpnaa", sum := "60c2d5cbad8cfc1a265fab65a353233513741d81aeb82125291140edd160ec51", func := "byre/byrelaw06.BuddyNone", spec := "buddyNone", inPlace := ["maps.clone"], unfollowed := true, recurses := true, plainKeys := false, apart := false, narrowed := true }
def BuddyNoneUptoSaid : Prop := buddyNoneUptoRow.holds Try.pinned (OpenSpec.upto buddyNoneSpec)

/-- 'byrelaw06.BuddyApart', WHERE WHAT IT READS IS OF BULK AT MOST 1048576: true; the input reads as it did. -/
def buddyApartUptoRow : OpenClaim := { program := "ytilcdnkjfbkpnaa", sum := "60c2d5cbad8cfc1a265fab65a353233513741d81aeb82125291140edd160ec51", func := "byre/byrelaw06.BuddyApart", spec := "buddyApart", unfollowed := true, recurses := true, plainKeys := false, apart := false, narrowed := true }
def BuddyApartUptoSaid : Prop := buddyApartUptoRow.holds Try.pinned (OpenSpec.upto buddyApartSpec)

/-- 'byrelaw06.BuddyBack', WHERE WHAT IT READS IS OF BULK AT MOST 1048576: true; the input reads as it did. -/
def buddyBackUptoRow : OpenClaim := { program := "ytilcdnkjfbkpnaa", sum := "60c2d5cbad8cfc1a265fab65a353233513741d81aeb82125291140edd160ec51", func := "byre/byrelaw06.BuddyBack", spec := "buddyBack", unfollowed := true, recurses := true, plainKeys := false, apart := false, narrowed := true }
def BuddyBackUptoSaid : Prop := buddyBackUptoRow.holds Try.pinned (OpenSpec.upto buddyBackSpec)

/-- 'byrelaw06.BuddyMost', WHERE WHAT IT READS IS OF BULK AT MOST 1048576: true; the input reads as it did. -/
def buddyMostUptoRow : OpenClaim := { program := "ytilcdnkjfbkpnaa", sum := "60c2d5cbad8cfc1a265fab65a353233513741d81aeb82125291140edd160ec51", func := "byre/byrelaw06.BuddyMost", spec := "buddyMost", inPlace := ["maps.clone"], unfollowed := true, recurses := true, plainKeys := false, apart := false, narrowed := true }
def BuddyMostUptoSaid : Prop := buddyMostUptoRow.holds Try.pinned (OpenSpec.upto buddyMostSpec)

/-- 'byrelaw06.BuddyPowers', WHERE WHAT IT READS IS OF BULK AT MOST 1048576: true; the input reads as it did. -/
def buddyPowersUptoRow : OpenClaim := { program := "ytilcdnkjfbkpnaa", sum := "60c2d5cbad8cfc1a265fab65a353233513741d81aeb82125291140edd160ec51", func := "byre/byrelaw06.BuddyPowers", spec := "buddyPowers", unfollowed := true, recurses := true, plainKeys := false, apart := false, narrowed := true }
def BuddyPowersUptoSaid : Prop := buddyPowersUptoRow.holds Try.pinned (OpenSpec.upto buddyPowersSpec)

end Rows
end Go.Proofs.Ytilcdnkjfbkpnaa
