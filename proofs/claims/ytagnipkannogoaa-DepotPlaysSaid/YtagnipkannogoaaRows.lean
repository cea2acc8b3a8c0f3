/-
  No cell of these rows narrows 'for every input' (looked for: loops, veiled, ifaces, maps, wideKeys, modest, calm, conditions, laid).
  DERIVED. THE GIVEN ROWS OF THIS SEAT. 5 by the template 'for every input the law returns true; each argument reads behind the call as it read before'; 0 by the template 'total and deterministic' (their statements: YtagnipkannogoaaTotals.lean).
  GIVEN WITH THE SEED: the statements are not yours to turn. If you find one false, say at which input.
  Laid BY PROGRAM, IN A SANDBOX (cutbox-rows.mjs): the forced cells as the released guide's own fill.sh prints them over the translation 65fcb0ff10e98241… (all of the seat's roots in one cut). By AI agents, Wed Nov 11 2026. No macro, syntax, notation, axiom, sorry.
-/
import Derived.Test.YtagnipkannogoaaChecked
import GoSem.Claim
import GoSem.ClaimJoined
import GoSem.ClaimMapViews
import Derived.JoinedTies
import Derived.KernelRfl
namespace Go.Proofs.Ytagnipkannogoaa
/- THE CELL 'sum', in the pinned program and in every row, IS THE sha256 OF THE DUMP (.gsa) THAT YtagnipkannogoaaProg.lean LOADS. Nothing in Lean hashes anything: it is a label: what it is worth is what the hold of that sum in a sandbox is worth. -/
noncomputable def Try.pinned : Pinned := { name := "ytagnipkannogoaa", sum := "65fcb0ff10e98241ff1b90e252a98dfc79ee2e8ea5e66f9047d36f0b7b9165b7", checked := Try.checked }
namespace Rows
def none {H : Type} : Left H := { results := [], args := [] }

/-- 'byrelaw11.DepotPlays': WHATEVER THE INPUT: true; the input reads as it did. -/
def depotPlaysSpec : ChangeSpec := { name := "depotPlays", fn := fun _ => fun
  | [d1, d2] => { results := [.lit (.bool true)], args := [d1, d2] }
  | _ => none }
def depotPlaysRow : OpenClaim := { program := "ytagnipkannogoaa", sum := "65fcb0ff10e98241ff1b90e252a98dfc79ee2e8ea5e66f9047d36f0b7b9165b7", func := "byre/byrelaw11.DepotPlays", spec := "depotPlays", apart := false }
def DepotPlaysSaid : Prop := depotPlaysRow.holds Try.pinned (OpenSpec.ofChange depotPlaysSpec)

/-- ITS FALSE NEIGHBOUR: 'it returns false'. Refute it at one input. -/
def depotPlaysWrong : ChangeSpec := { name := "depotPlays", fn := fun _ => fun
  | [d1, d2] => { results := [.lit (.bool false)], args := [d1, d2] }
  | _ => none }
def DepotPlaysWrongFalsely : Prop := depotPlaysRow.holds Try.pinned (OpenSpec.ofChange depotPlaysWrong)

/-- 'byrelaw11.DepotKeeps': WHATEVER THE INPUT: true; the input reads as it did. -/
def depotKeepsSpec : ChangeSpec := { name := "depotKeeps", fn := fun _ => fun
  | [d1, d2] => { results := [.lit (.bool true)], args := [d1, d2] }
  | _ => none }
def depotKeepsRow : OpenClaim := { program := "ytagnipkannogoaa", sum := "65fcb0ff10e98241ff1b90e252a98dfc79ee2e8ea5e66f9047d36f0b7b9165b7", func := "byre/byrelaw11.DepotKeeps", spec := "depotKeeps", unfollowed := true, recurses := true, apart := false }
def DepotKeepsSaid : Prop := depotKeepsRow.holds Try.pinned (OpenSpec.ofChange depotKeepsSpec)

/-- ITS FALSE NEIGHBOUR: 'it returns false'. Refute it at one input. -/
def depotKeepsWrong : ChangeSpec := { name := "depotKeeps", fn := fun _ => fun
  | [d1, d2] => { results := [.lit (.bool false)], args := [d1, d2] }
  | _ => none }
def DepotKeepsWrongFalsely : Prop := depotKeepsRow.holds Try.pinned (OpenSpec.ofChange depotKeepsWrong)

/-- 'byrelaw11.DepotNone': WHATEVER THE INPUT: true; the input reads as it did. -/
def depotNoneSpec : ChangeSpec := { name := "depotNone", fn := fun _ => fun
  | [d1, d2] => { results := [.lit (.bool true)], args := [d1, d2] }
  | _ => none }
def depotNoneRow : OpenClaim := { program := "ytagnipkannogoaa", sum := "65fcb0ff10e98241ff1b90e252a98dfc79ee2e8ea5e66f9047d36f0b7b9165b7", func := "byre/byrelaw11.DepotNone", spec := "depotNone", apart := false }
def DepotNoneSaid : Prop := depotNoneRow.holds Try.pinned (OpenSpec.ofChange depotNoneSpec)

/-- ITS FALSE NEIGHBOUR: 'it returns false'. Refute it at one input. -/
def depotNoneWrong : ChangeSpec := { name := "depotNone", fn := fun _ => fun
  | [d1, d2] => { results := [.lit (.bool false)], args := [d1, d2] }
  | _ => none }
def DepotNoneWrongFalsely : Prop := depotNoneRow.holds Try.pinned (OpenSpec.ofChange depotNoneWrong)

/-- 'byrelaw11.DepotTurns': WHATEVER THE INPUT: true; the input reads as it did. -/
def depotTurnsSpec : ChangeSpec := { name := "depotTurns", fn := fun _ => fun
  | [d1, d2, d3, d4] => { results := [.lit (.bool true)], args := [d1, d2, d3, d4] }
  | _ => none }
def depotTurnsRow : OpenClaim := { program := "ytagnipkannogoaa", sum := "65fcb0ff10e98241ff1b90e252a98dfc79ee2e8ea5e66f9047d36f0b7b9165b7", func := "byre/byrelaw11.DepotTurns", spec := "depotTurns", apart := false }
def DepotTurnsSaid : Prop := depotTurnsRow.holds Try.pinned (OpenSpec.ofChange depotTurnsSpec)

/-- ITS FALSE NEIGHBOUR: 'it returns false'. Refute it at one input. -/
def depotTurnsWrong : ChangeSpec := { name := "depotTurns", fn := fun _ => fun
  | [d1, d2, d3, d4] => { results := [.lit (.bool false)], args := [d1, d2, d3, d4] }
  | _ => none }
def DepotTurnsWrongFalsely : Prop := depotTurnsRow.holds Try.pinned (OpenSpec.ofChange depotTurnsWrong)

/-- 'byrelaw11.DepotFull': WHATEVER THE INPUT: true; the input reads as it did. -/
def depotFullSpec : ChangeSpec := { name := "depotFull", fn := fun _ => fun
  | [d] => { results := [.lit (.bool true)], args := [d] }
  | _ => none }
def depotFullRow : OpenClaim := { program := "ytagnipkannogoaa", sum := "65fcb0ff10e98241ff1b90e252a98dfc79ee2e8ea5e66f9047d36f0b7b9165b7", func := "byre/byrelaw11.DepotFull", spec := "depotFull", apart := false }
def DepotFullSaid : Prop := depotFullRow.holds Try.pinned (OpenSpec.ofChange depotFullSpec)

/-- ITS FALSE NEIGHBOUR: 'it returns false'. Refute it at one input. -/
def depotFullWrong : ChangeSpec := { name := "depotFull", fn := fun _ => fun
  | [d] => { results := [.lit (.bool false)], args := [d] }
  | _ => none }
def DepotFullWrongFalsely : Prop := depotFullRow.holds Try.pinned (OpenSpec.ofChange depotFullWrong)

/- THE SECOND FORM. 'bulk': how many values and letters a reading holds, each counted each time it is reached (what is shared counts as often as it is met; a slice's spare places count too). A statement '..UptoSaid' is the law's where the arguments, and the package variables that the reading takes, are together of bulk at most 1048576: NARROWER than '..Said'. Prove '..Said' where nothing that the law and all that it calls make is longer than what came in: it says more and counts as full. Else prove '..UptoSaid'. A law counts once. -/
mutual
def uptoBulk {H : Type} : DataW H → Nat
  | .lit (.string bytes) => bytes.length + 1
  | .lit _ => 1
  | .nil => 1
  | .ptr d => uptoBulk d + 1
  | .slice elems spare => uptoBulkAll elems + uptoBulkAll spare + 1
  | .agg parts => uptoBulkAll parts + 1
  | .iface _ d => uptoBulk d + 1
  | .map entries => uptoBulkEntries entries + 1
  | .held _ => 1
def uptoBulkAll {H : Type} : List (DataW H) → Nat
  | [] => 0
  | d :: r => uptoBulk d + uptoBulkAll r
def uptoBulkEntries {H : Type} : List (Lit × DataW H) → Nat
  | [] => 0
  | x :: r => uptoBulkEntry x + uptoBulkEntries r
def uptoBulkEntry {H : Type} : Lit × DataW H → Nat
  | (.string bytes, d) => bytes.length + uptoBulk d + 1
  | (_, d) => uptoBulk d + 1
 end
def uptoSmall : (H : Type) → List (DataW H) → Bool := fun _ ds => decide (uptoBulkAll ds ≤ 1048576)
def OpenSpec.upto (s : _root_.Go.ChangeSpec) : _root_.Go.OpenSpec := { _root_.Go.OpenSpec.ofChange s with cond := some uptoSmall }

/-- 'byrelaw11.DepotPlays', WHERE WHAT IT READS IS OF BULK AT MOST 1048576: true; the input reads as it did. -/
def depotPlaysUptoRow : OpenClaim := { program := "ytagnipkannogoaa", sum := "65fcb0ff10e98241ff1b90e252a98dfc79ee2e8ea5e66f9047d36f0b7b9165b7", func := "byre/byrelaw11.DepotPlays", spec := "depotPlays", apart := false, narrowed := true }
def DepotPlaysUptoSaid : Prop := depotPlaysUptoRow.holds Try.pinned (OpenSpec.upto depotPlaysSpec)

/-- 'byrelaw11.DepotKeeps', WHERE WHAT IT READS IS OF BULK AT MOST 1048576: true; the input reads as it did. -/
def depotKeepsUptoRow : OpenClaim := { program := "ytagnipkannogoaa", sum := "65fcb0ff10e98241ff1b90e252a98dfc79ee2e8ea5e66f9047d36f0b7b9165b7", func := "byre/byrelaw11.DepotKeeps", spec := "depotKeeps", unfollowed := true, recurses := true, apart := false, narrowed := true }
def DepotKeepsUptoSaid : Prop := depotKeepsUptoRow.holds Try.pinned (OpenSpec.upto depotKeepsSpec)

/-- 'byrelaw11.DepotNone', WHERE WHAT IT READS IS OF BULK AT MOST 1048576: true; the input reads as it did. -/
def depotNoneUptoRow : OpenClaim := { program := "ytagnipkannogoaa", sum := "65fcb0ff10e98241ff1b90e252a98dfc79ee2e8ea5e66f9047d36f0b7b9165b7", func := "byre/byrelaw11.DepotNone", spec := "depotNone", apart := false, narrowed := true }
def DepotNoneUptoSaid : Prop := depotNoneUptoRow.holds Try.pinned (OpenSpec.upto depotNoneSpec)

/-- 'byrelaw11.DepotTurns', WHERE WHAT IT READS IS OF BULK AT MOST 1048576: true; the input reads as it did. -/
def depotTurnsUptoRow : OpenClaim := { program := "ytagnipkannogoaa", sum := "65fcb0ff10e98241ff1b90e252a98dfc79ee2e8ea5e66f9047d36f0b7b9165b7", func := "byre/byrelaw11.DepotTurns", spec := "depotTurns", apart := false, narrowed := true }
def DepotTurnsUptoSaid : Prop := depotTurnsUptoRow.holds Try.pinned (OpenSpec.upto depotTurnsSpec)

/-- 'byrelaw11.DepotFull', WHERE WHAT IT READS IS OF BULK AT MOST 1048576: true; the input reads as it did. -/
def depotFullUptoRow : OpenClaim := { program := "ytagnipkannogoaa", sum := "65fcb0ff10e98241ff1b90e252a98dfc79ee2e8ea5e66f9047d36f0b7b9165b7", func := "byre/byrelaw11.DepotFull", spec := "depotFull", apart := false, narrowed := true }
def DepotFullUptoSaid : Prop := depotFullUptoRow.holds Try.pinned (OpenSpec.upto depotFullSpec)

end Rows
end Go.Proofs.Ytagnipkannogoaa
