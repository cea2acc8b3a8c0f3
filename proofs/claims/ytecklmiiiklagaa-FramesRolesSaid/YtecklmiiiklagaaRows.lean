/-
  No cell of these rows narrows 'for every input' (looked for: loops, veiled, ifaces, maps, wideKeys, modest, calm, conditions, laid).
  DERIVED. THE GIVEN ROWS OF THIS SEAT. 5 by the template 'for every input the law returns true; each argument reads behind the call as it read before'; 0 by the template 'total and deterministic' (their statements: YtecklmiiiklagaaTotals.lean).
  GIVEN WITH THE SEED: the statements are not yours to turn. If you find one false, say at which input.
  Laid BY PROGRAM, IN A SANDBOX (cutbox-rows.mjs): the forced cells as the released guide's own fill.sh prints them over the translation 692e649d69598875… (all of the seat's roots in one cut). By AI agents, Wed Nov 11 2026. No macro, syntax, notation, axiom, sorry.
-/
import Derived.Test.YtecklmiiiklagaaChecked
import GoSem.Claim
import GoSem.ClaimJoined
import GoSem.ClaimMapViews
import Derived.JoinedTies
import Derived.KernelRfl
namespace Go.Proofs.Ytecklmiiiklagaa
/- THE CELL 'sum', in the pinned program and in every row, IS THE sha256 OF THE DUMP (.gsa) THAT YtecklmiiiklagaaProg.lean LOADS. Nothing in Lean hashes anything: it is a label: what it is worth is what the hold of that sum in a sandbox is worth. -/
noncomputable def Try.pinned : Pinned := { name := "ytecklmiiiklagaa", sum := "692e649d695988758029e792e76c3e77b6415d523687aaafb412c2296fdea7bb", checked := Try.checked }
namespace Rows
def none {H : Type} : Left H := { results := [], args := [] }

/-- 'byrelaw03.FramesNone': WHATEVER THE INPUT: true; the input reads as it did. -/
def framesNoneSpec : ChangeSpec := { name := "framesNone", fn := fun _ => fun
  | [d] => { results := [.lit (.bool true)], args := [d] }
  | _ => none }
def framesNoneRow : OpenClaim := { program := "ytecklmiiiklagaa", sum := "692e649d695988758029e792e76c3e77b6415d523687aaafb412c2296fdea7bb", func := "byre/byrelaw03.FramesNone", spec := "framesNone", apart := false }
def FramesNoneSaid : Prop := framesNoneRow.holds Try.pinned (OpenSpec.ofChange framesNoneSpec)

/-- ITS FALSE NEIGHBOUR: 'it returns false'. Refute it at one input. -/
def framesNoneWrong : ChangeSpec := { name := "framesNone", fn := fun _ => fun
  | [d] => { results := [.lit (.bool false)], args := [d] }
  | _ => none }
def FramesNoneWrongFalsely : Prop := framesNoneRow.holds Try.pinned (OpenSpec.ofChange framesNoneWrong)

/-- 'byrelaw03.FramesWords': WHATEVER THE INPUT: true; the input reads as it did. -/
def framesWordsSpec : ChangeSpec := { name := "framesWords", fn := fun _ => fun
  | [d1, d2, d3, d4] => { results := [.lit (.bool true)], args := [d1, d2, d3, d4] }
  | _ => none }
def framesWordsRow : OpenClaim := { program := "ytecklmiiiklagaa", sum := "692e649d695988758029e792e76c3e77b6415d523687aaafb412c2296fdea7bb", func := "byre/byrelaw03.FramesWords", spec := "framesWords", apart := false }
def FramesWordsSaid : Prop := framesWordsRow.holds Try.pinned (OpenSpec.ofChange framesWordsSpec)

/-- ITS FALSE NEIGHBOUR: 'it returns false'. Refute it at one input. -/
def framesWordsWrong : ChangeSpec := { name := "framesWords", fn := fun _ => fun
  | [d1, d2, d3, d4] => { results := [.lit (.bool false)], args := [d1, d2, d3, d4] }
  | _ => none }
def FramesWordsWrongFalsely : Prop := framesWordsRow.holds Try.pinned (OpenSpec.ofChange framesWordsWrong)

/-- 'byrelaw03.FramesRoles': WHATEVER THE INPUT: true; the input reads as it did. -/
def framesRolesSpec : ChangeSpec := { name := "framesRoles", fn := fun _ => fun
  | [d1, d2] => { results := [.lit (.bool true)], args := [d1, d2] }
  | _ => none }
def framesRolesRow : OpenClaim := { program := "ytecklmiiiklagaa", sum := "692e649d695988758029e792e76c3e77b6415d523687aaafb412c2296fdea7bb", func := "byre/byrelaw03.FramesRoles", spec := "framesRoles", apart := false }
def FramesRolesSaid : Prop := framesRolesRow.holds Try.pinned (OpenSpec.ofChange framesRolesSpec)

/-- ITS FALSE NEIGHBOUR: 'it returns false'. Refute it at one input. -/
def framesRolesWrong : ChangeSpec := { name := "framesRoles", fn := fun _ => fun
  | [d1, d2] => { results := [.lit (.bool false)], args := [d1, d2] }
  | _ => none }
def FramesRolesWrongFalsely : Prop := framesRolesRow.holds Try.pinned (OpenSpec.ofChange framesRolesWrong)

/-- 'byrelaw03.FramesMoves': WHATEVER THE INPUT: true; the input reads as it did. -/
def framesMovesSpec : ChangeSpec := { name := "framesMoves", fn := fun _ => fun
  | [d1, d2, d3, d4, d5] => { results := [.lit (.bool true)], args := [d1, d2, d3, d4, d5] }
  | _ => none }
def framesMovesRow : OpenClaim := { program := "ytecklmiiiklagaa", sum := "692e649d695988758029e792e76c3e77b6415d523687aaafb412c2296fdea7bb", func := "byre/byrelaw03.FramesMoves", spec := "framesMoves", apart := false }
def FramesMovesSaid : Prop := framesMovesRow.holds Try.pinned (OpenSpec.ofChange framesMovesSpec)

/-- ITS FALSE NEIGHBOUR: 'it returns false'. Refute it at one input. -/
def framesMovesWrong : ChangeSpec := { name := "framesMoves", fn := fun _ => fun
  | [d1, d2, d3, d4, d5] => { results := [.lit (.bool false)], args := [d1, d2, d3, d4, d5] }
  | _ => none }
def FramesMovesWrongFalsely : Prop := framesMovesRow.holds Try.pinned (OpenSpec.ofChange framesMovesWrong)

/-- 'byrelaw03.FramesCopies': WHATEVER THE INPUT: true; the input reads as it did. -/
def framesCopiesSpec : ChangeSpec := { name := "framesCopies", fn := fun _ => fun
  | [d1, d2, d3, d4] => { results := [.lit (.bool true)], args := [d1, d2, d3, d4] }
  | _ => none }
def framesCopiesRow : OpenClaim := { program := "ytecklmiiiklagaa", sum := "692e649d695988758029e792e76c3e77b6415d523687aaafb412c2296fdea7bb", func := "byre/byrelaw03.FramesCopies", spec := "framesCopies", apart := false }
def FramesCopiesSaid : Prop := framesCopiesRow.holds Try.pinned (OpenSpec.ofChange framesCopiesSpec)

/-- ITS FALSE NEIGHBOUR: 'it returns false'. Refute it at one input. -/
def framesCopiesWrong : ChangeSpec := { name := "framesCopies", fn := fun _ => fun
  | [d1, d2, d3, d4] => { results := [.lit (.bool false)], args := [d1, d2, d3, d4] }
  | _ => none }
def FramesCopiesWrongFalsely : Prop := framesCopiesRow.holds Try.pinned (OpenSpec.ofChange framesCopiesWrong)

/- THE SECOND FORM. 'bulk': how many values and letters a reading holds, each counted each time it is reached (what is shared counts as often as it is met; a slice's spare places count too). A statement '..UptoSaid' is the law's where the arguments, and the package variables that the reading takes, are together of bulk at most 1048576: NARROWER than '..Said'. Prove '..Said' where nothing that the law and all that it calls make is longer than what came in: it says more and counts as full. Else prove '..UptoSaid'. A law counts once. -/
mutual
def uptoBulk {H : Type} : DataW H → Nat
  | .lit (.string bytes) => bytes.length + 1
  | .lit _ => 1
  | .nil => 1
  | .ptr d => uptoBulk d + 1
  | .slice elems spare => uptoBulkAll elems + uptoBulkAll spare + 1
  | .agg parts => uptoBulkAll parts + 1
  | .iface _ d => uptoBulk d + 1
  | .map entries => uptoBulkEntries entries + 1
  | .held _ => 1
def uptoBulkAll {H : Type} : List (DataW H) → Nat
  | [] => 0
  | d :: r => uptoBulk d + uptoBulkAll r
def uptoBulkEntries {H : Type} : List (Lit × DataW H) → Nat
  | [] => 0
  | x :: r => uptoBulkEntry x + uptoBulkEntries r
def uptoBulkEntry {H : Type} : Lit × DataW H → Nat
  | (.string bytes, d) => bytes.length + uptoBulk d + 1
  | (_, d) => uptoBulk d + 1
 end
def uptoSmall : (H : Type) → List (DataW H) → Bool := fun _ ds => decide (uptoBulkAll ds ≤ 1048576)
def OpenSpec.upto (s : _root_.Go.ChangeSpec) : _root_.Go.OpenSpec := { _root_.Go.OpenSpec.ofChange s with cond := some uptoSmall }

/-- 'byrelaw03.FramesNone', WHERE WHAT IT READS IS OF BULK AT MOST 1048576: true; the input reads as it did. -/
def framesNoneUptoRow : OpenClaim := { program := "ytecklmiiiklagaa", sum := "692e649d695988758029e792e76c3e77b6415d523687aaafb412c2296fdea7bb", func := "byre/byrelaw03.FramesNone", spec := "framesNone", apart := false, narrowed := true }
def FramesNoneUptoSaid : Prop := framesNoneUptoRow.holds Try.pinned (OpenSpec.upto framesNoneSpec)

/-- 'byrelaw03.FramesWords', WHERE WHAT IT READS IS OF BULK AT MOST 1048576: true; the input reads as it did. -/
def framesWordsUptoRow : OpenClaim := { program := "ytecklmiiiklagaa", sum := "692e649d695988758029e792e76c3e77b6415d523687aaafb412c2296fdea7bb", func := "byre/byrelaw03.FramesWords", spec := "framesWords", apart := false, narrowed := true }
def FramesWordsUptoSaid : Prop := framesWordsUptoRow.holds Try.pinned (OpenSpec.upto framesWordsSpec)

/-- 'byrelaw03.FramesRoles', WHERE WHAT IT READS IS OF BULK AT MOST 1048576: true; the input reads as it did. -/
def framesRolesUptoRow : OpenClaim := { program := "ytecklmiiiklagaa", sum := "692e649d695988758029e792e76c3e77b6415d523687aaafb412c2296fdea7bb", func := "byre/byrelaw03.FramesRoles", spec := "framesRoles", apart := false, narrowed := true }
def FramesRolesUptoSaid : Prop := framesRolesUptoRow.holds Try.pinned (OpenSpec.upto framesRolesSpec)

/-- 'byrelaw03.FramesMoves', WHERE WHAT IT READS IS OF BULK AT MOST 1048576: true; the input reads as it did. -/
def framesMovesUptoRow : OpenClaim := { program := "ytecklmiiiklagaa", sum := "692e649d695988758029e792e76c3e77b6415d523687aaafb412c2296fdea7bb", func := "byre/byrelaw03.FramesMoves", spec := "framesMoves", apart := false, narrowed := true }
def FramesMovesUptoSaid : Prop := framesMovesUptoRow.holds Try.pinned (OpenSpec.upto framesMovesSpec)

/-- 'byrelaw03.FramesCopies', WHERE WHAT IT READS IS OF BULK AT MOST 1048576: true; the input reads as it did. -/
def framesCopiesUptoRow : OpenClaim := { program := "ytecklmiiiklagaa", sum := "692e649d695988758029e792e76c3e77b6415d523687aaafb412c2296fdea7bb", func := "byre/byrelaw03.FramesCopies", spec := "framesCopies", apart := false, narrowed := true }
def FramesCopiesUptoSaid : Prop := framesCopiesUptoRow.holds Try.pinned (OpenSpec.upto framesCopiesSpec)

end Rows
end Go.Proofs.Ytecklmiiiklagaa
