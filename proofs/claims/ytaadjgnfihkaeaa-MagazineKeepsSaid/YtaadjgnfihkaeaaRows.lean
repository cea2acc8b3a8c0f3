/-
  No cell of these rows narrows 'for every input' (looked for: loops, veiled, ifaces, maps, wideKeys, modest, calm, conditions, laid).
  DERIVED. THE GIVEN ROWS OF THIS SEAT. 5 by the template 'for every input the law returns true; each argument reads behind the call as it read before'; 0 by the template 'total and deterministic' (their statements: YtaadjgnfihkaeaaTotals.lean).
  GIVEN WITH THE SEED: the statements are not yours to turn. If you find one false, say at which input.
  Laid BY PROGRAM, IN A SANDBOX (cutbox-rows.mjs): the forced cells as the released guide's own fill.sh prints them over the translation d8784c48b62f48cb… (all of the seat's roots in one cut). By AI agents, Wed Nov 11 2026. No macro, syntax, notation, axiom, sorry.
-/
import Derived.Test.YtaadjgnfihkaeaaChecked
import GoSem.Claim
import GoSem.ClaimJoined
import GoSem.ClaimMapViews
import Derived.JoinedTies
import Derived.KernelRfl
namespace Go.Proofs.Ytaadjgnfihkaeaa
/- THE CELL 'sum', in the pinned program and in every row, IS THE sha256 OF THE DUMP (.gsa) THAT YtaadjgnfihkaeaaProg.lean LOADS. Nothing in Lean hashes anything: it is a label: what it is worth is what the hold of that sum in a sandbox is worth. -/
noncomputable def Try.pinned : Pinned := { name := "ytaadjgnfihkaeaa", sum := "d8784c48b62f48cbc34fef890c14e0aff8143c5872641ed180c460d698001cdd", checked := Try.checked }
namespace Rows
def none {H : Type} : Left H := { results := [], args := [] }

/-- 'byrelaw10.MagazinePlays': WHATEVER THE INPUT: true; the input reads as it did. -/
def magazinePlaysSpec : ChangeSpec := { name := "magazinePlays", fn := fun _ => fun
  | [d1, d2] => { results := [.lit (.bool true)], args := [d1, d2] }
  | _ => none }
def magazinePlaysRow : OpenClaim := { program := "ytaadjgnfihkaeaa", sum := "d8784c48b62f48cbc34fef890c14e0aff8143c5872641ed180c460d698001cdd", func := "byre/byrelaw10.MagazinePlays", spec := "magazinePlays", apart := false }
def MagazinePlaysSaid : Prop := magazinePlaysRow.holds Try.pinned (OpenSpec.ofChange magazinePlaysSpec)

/-- ITS FALSE NEIGHBOUR: 'it returns false'. Refute it at one input. -/
def magazinePlaysWrong : ChangeSpec := { name := "magazinePlays", fn := fun _ => fun
  | [d1, d2] => { results := [.lit (.bool false)], args := [d1, d2] }
  | _ => none }
def MagazinePlaysWrongFalsely : Prop := magazinePlaysRow.holds Try.pinned (OpenSpec.ofChange magazinePlaysWrong)

/-- 'byrelaw10.MagazineKeeps': WHATEVER THE INPUT: true; the input reads as it did. -/
def magazineKeepsSpec : ChangeSpec := { name := "magazineKeeps", fn := fun _ => fun
  | [d1, d2] => { results := [.lit (.bool true)], args := [d1, d2] }
  | _ => none }
def magazineKeepsRow : OpenClaim := { program := "ytaadjgnfihkaeaa", sum := "d8784c48b62f48cbc34fef890c14e0aff8143c5872641ed180c460d698001cdd", func := "byre/byrelaw10.MagazineKeeps", spec := "magazineKeeps", apart := false }
def MagazineKeepsSaid : Prop := magazineKeepsRow.holds Try.pinned (OpenSpec.ofChange magazineKeepsSpec)

/-- ITS FALSE NEIGHBOUR: 'it returns false'. Refute it at one input. -/
def magazineKeepsWrong : ChangeSpec := { name := "magazineKeeps", fn := fun _ => fun
  | [d1, d2] => { results := [.lit (.bool false)], args := [d1, d2] }
  | _ => none }
def MagazineKeepsWrongFalsely : Prop := magazineKeepsRow.holds Try.pinned (OpenSpec.ofChange magazineKeepsWrong)

/-- 'byrelaw10.MagazineTurns': WHATEVER THE INPUT: true; the input reads as it did. -/
def magazineTurnsSpec : ChangeSpec := { name := "magazineTurns", fn := fun _ => fun
  | [d1, d2, d3] => { results := [.lit (.bool true)], args := [d1, d2, d3] }
  | _ => none }
def magazineTurnsRow : OpenClaim := { program := "ytaadjgnfihkaeaa", sum := "d8784c48b62f48cbc34fef890c14e0aff8143c5872641ed180c460d698001cdd", func := "byre/byrelaw10.MagazineTurns", spec := "magazineTurns", apart := false }
def MagazineTurnsSaid : Prop := magazineTurnsRow.holds Try.pinned (OpenSpec.ofChange magazineTurnsSpec)

/-- ITS FALSE NEIGHBOUR: 'it returns false'. Refute it at one input. -/
def magazineTurnsWrong : ChangeSpec := { name := "magazineTurns", fn := fun _ => fun
  | [d1, d2, d3] => { results := [.lit (.bool false)], args := [d1, d2, d3] }
  | _ => none }
def MagazineTurnsWrongFalsely : Prop := magazineTurnsRow.holds Try.pinned (OpenSpec.ofChange magazineTurnsWrong)

/-- 'byrelaw10.MagazineNone': WHATEVER THE INPUT: true; the input reads as it did. -/
def magazineNoneSpec : ChangeSpec := { name := "magazineNone", fn := fun _ => fun
  | [d] => { results := [.lit (.bool true)], args := [d] }
  | _ => none }
def magazineNoneRow : OpenClaim := { program := "ytaadjgnfihkaeaa", sum := "d8784c48b62f48cbc34fef890c14e0aff8143c5872641ed180c460d698001cdd", func := "byre/byrelaw10.MagazineNone", spec := "magazineNone", apart := false }
def MagazineNoneSaid : Prop := magazineNoneRow.holds Try.pinned (OpenSpec.ofChange magazineNoneSpec)

/-- ITS FALSE NEIGHBOUR: 'it returns false'. Refute it at one input. -/
def magazineNoneWrong : ChangeSpec := { name := "magazineNone", fn := fun _ => fun
  | [d] => { results := [.lit (.bool false)], args := [d] }
  | _ => none }
def MagazineNoneWrongFalsely : Prop := magazineNoneRow.holds Try.pinned (OpenSpec.ofChange magazineNoneWrong)

/-- 'byrelaw10.MagazineLast': WHATEVER THE INPUT: true; the input reads as it did. -/
def magazineLastSpec : ChangeSpec := { name := "magazineLast", fn := fun _ => fun
  | [d1, d2] => { results := [.lit (.bool true)], args := [d1, d2] }
  | _ => none }
def magazineLastRow : OpenClaim := { program := "ytaadjgnfihkaeaa", sum := "d8784c48b62f48cbc34fef890c14e0aff8143c5872641ed180c460d698001cdd", func := "byre/byrelaw10.MagazineLast", spec := "magazineLast", apart := false }
def MagazineLastSaid : Prop := magazineLastRow.holds Try.pinned (OpenSpec.ofChange magazineLastSpec)

/-- ITS FALSE NEIGHBOUR: 'it returns false'. Refute it at one input. -/
def magazineLastWrong : ChangeSpec := { name := "magazineLast", fn := fun _ => fun
  | [d1, d2] => { results := [.lit (.bool false)], args := [d1, d2] }
  | _ => none }
def MagazineLastWrongFalsely : Prop := magazineLastRow.holds Try.pinned (OpenSpec.ofChange magazineLastWrong)

/- THE SECOND FORM. 'bulk': how many values and letters a reading holds, each counted each time it is reached (what is shared counts as often as it is met; a slice's spare places count too). A statement '..UptoSaid' is the law's where the arguments, and the package variables that the reading takes, are together of bulk at most 1048576: NARROWER than '..Said'. Prove '..Said' where nothing that the law and all that it calls make is longer than what came in: it says more and counts as full. Else prove '..UptoSaid'. A law counts once. -/
mutual
def uptoBulk {H : Type} : DataW H → Nat
  | .lit (.string bytes) => bytes.length + 1
  | .lit _ => 1
  | .nil => 1
  | .ptr d => uptoBulk d + 1
  | .slice elems spare => uptoBulkAll elems + uptoBulkAll spare + 1
  | .agg parts => uptoBulkAll parts + 1
  | .iface _ d => uptoBulk d + 1
  | .map entries => uptoBulkEntries entries + 1
  | .held _ => 1
def uptoBulkAll {H : Type} : List (DataW H) → Nat
  | [] => 0
  | d :: r => uptoBulk d + uptoBulkAll r
def uptoBulkEntries {H : Type} : List (Lit × DataW H) → Nat
  | [] => 0
  | x :: r => uptoBulkEntry x + uptoBulkEntries r
def uptoBulkEntry {H : Type} : Lit × DataW H → Nat
  | (.string bytes, d) => bytes.length + uptoBulk d + 1
  | (_, d) => uptoBulk d + 1
 end
def uptoSmall : (H : Type) → List (DataW H) → Bool := fun _ ds => decide (uptoBulkAll ds ≤ 1048576)
def OpenSpec.upto (s : _root_.Go.ChangeSpec) : _root_.Go.OpenSpec := { _root_.Go.OpenSpec.ofChange s with cond := some uptoSmall }

/-- 'byrelaw10.MagazinePlays', WHERE WHAT IT READS IS OF BULK AT MOST 1048576: true; the input reads as it did. -/
def magazinePlaysUptoRow : OpenClaim := { program := "ytaadjgnfihkaeaa", sum := "d8784c48b62f48cbc34fef890c14e0aff8143c5872641ed180c460d698001cdd", func := "byre/byrelaw10.MagazinePlays", spec := "magazinePlays", apart := false, narrowed := true }
def MagazinePlaysUptoSaid : Prop := magazinePlaysUptoRow.holds Try.pinned (OpenSpec.upto magazinePlaysSpec)

/-- 'byrelaw10.MagazineKeeps', WHERE WHAT IT READS IS OF BULK AT MOST 1048576: true; the input reads as it did. -/
def magazineKeepsUptoRow : OpenClaim := { program := "ytaadjgnfihkaeaa", sum := "d8784c48b62f48cbc34fef890c14e0aff8143c5872641ed180c460d698001cdd", func := "byre/byrelaw10.MagazineKeeps", spec := "magazineKeeps", apart := false, narrowed := true }
def MagazineKeepsUptoSaid : Prop := magazineKeepsUptoRow.holds Try.pinned (OpenSpec.upto magazineKeepsSpec)

/-- 'byrelaw10.MagazineTurns', WHERE WHAT IT READS IS OF BULK AT MOST 1048576: true; the input reads as it did. -/
def magazineTurnsUptoRow : OpenClaim := { program := "ytaadjgnfihkaeaa", sum := "d8784c48b62f48cbc34fef890c14e0aff8143c5872641ed180c460d698001cdd", func := "byre/byrelaw10.MagazineTurns", spec := "magazineTurns", apart := false, narrowed := true }
def MagazineTurnsUptoSaid : Prop := magazineTurnsUptoRow.holds Try.pinned (OpenSpec.upto magazineTurnsSpec)

/-- 'byrelaw10.MagazineNone', WHERE WHAT IT READS IS OF BULK AT MOST 1048576: true; the input reads as it did. -/
def magazineNoneUptoRow : OpenClaim := { program := "ytaadjgnfihkaeaa", sum := "d8784c48b62f48cbc34fef890c14e0aff8143c5872641ed180c460d698001cdd", func := "byre/byrelaw10.MagazineNone", spec := "magazineNone", apart := false, narrowed := true }
def MagazineNoneUptoSaid : Prop := magazineNoneUptoRow.holds Try.pinned (OpenSpec.upto magazineNoneSpec)

/-- 'byrelaw10.MagazineLast', WHERE WHAT IT READS IS OF BULK AT MOST 1048576: true; the input reads as it did. -/
def magazineLastUptoRow : OpenClaim := { program := "ytaadjgnfihkaeaa", sum := "d8784c48b62f48cbc34fef890c14e0aff8143c5872641ed180c460d698001cdd", func := "byre/byrelaw10.MagazineLast", spec := "magazineLast", apart := false, narrowed := true }
def MagazineLastUptoSaid : Prop := magazineLastUptoRow.holds Try.pinned (OpenSpec.upto magazineLastSpec)

end Rows
end Go.Proofs.Ytaadjgnfihkaeaa
