/-
  DERIVED. GIVEN WITH THE SEED: THE CARDS: each row of YtljdmhiamonokaaDoorRows.lean that lists a variable, with what it lists TIED to the program's text (the seventh form; the later family's looks); each row that meets fmt, with fmt's text TOLD by the authors' own Lean function (tested against real Go, not proved from fmt's source: count such statements apart). THE CARD IS WHAT COUNTS. Prove the row's statement (the work); the ties are given (YtljdmhiamonokaaDoorTie.lean); close each card by the builder's one call (the guide's Derived/Test/ToyasCard.lean, 'card_holds'). Laid BY PROGRAM, IN A SANDBOX (cutbox-door.mjs). By AI agents, Wed Nov 11 2026. No macro, syntax, notation, axiom, sorry.
-/
import Derived.Test.YtljdmhiamonokaaDoorRows
import GoSem.ClaimSeven
namespace Go.Proofs.YtljdmhiamonokaaDoor
namespace Rows

/-- THE TIED CARD OF 'byrelaw12.HandlesMakes'. -/
def handlesMakesCard : Claim7 := { stood := { row := handlesMakesRow, standIns := [], harness := (true, "6e3b9112d0f0ea30bbcb545a522698b1a9b29726df9b975296e87f6da894fb86"), looks := false }, kinds := [], alts := [], laidByText := true, laidKinds := [.data], laidTests := true, laidLooks := .later }
def HandlesMakesCardSaid : Prop := Claim7.holds Tryd.pinned (.plain (OpenSpec.ofChange handlesMakesSpec)) handlesMakesCard

/-- THE TIED CARD OF 'byrelaw12.HandlesBack'. -/
def handlesBackCard : Claim7 := { stood := { row := handlesBackRow, standIns := [], harness := (true, "6e3b9112d0f0ea30bbcb545a522698b1a9b29726df9b975296e87f6da894fb86"), looks := false }, kinds := [], alts := [], laidByText := true, laidKinds := [.data], laidTests := true, laidLooks := .later }
def HandlesBackCardSaid : Prop := Claim7.holds Tryd.pinned (.plain (OpenSpec.ofChange handlesBackSpec)) handlesBackCard

/-- THE TIED CARD OF 'byrelaw12.HandlesRise'. -/
def handlesRiseCard : Claim7 := { stood := { row := handlesRiseRow, standIns := [], harness := (true, "6e3b9112d0f0ea30bbcb545a522698b1a9b29726df9b975296e87f6da894fb86"), looks := false }, kinds := [], alts := [], laidByText := true, laidKinds := [.data], laidTests := true, laidLooks := .later }
def HandlesRiseCardSaid : Prop := Claim7.holds Tryd.pinned (.plain (OpenSpec.ofChange handlesRiseSpec)) handlesRiseCard

/-- THE TIED CARD OF 'byrelaw12.HandlesNext'. -/
def handlesNextCard : Claim7 := { stood := { row := handlesNextRow, standIns := [], harness := (true, "6e3b9112d0f0ea30bbcb545a522698b1a9b29726df9b975296e87f6da894fb86"), looks := false }, kinds := [], alts := [], laidByText := true, laidKinds := [.data], laidTests := true, laidLooks := .later }
def HandlesNextCardSaid : Prop := Claim7.holds Tryd.pinned (.plain (OpenSpec.ofChange handlesNextSpec)) handlesNextCard

/-- THE SECOND FORM's CARD OF 'byrelaw12.HandlesMakes'. -/
def handlesMakesUptoCard : Claim7 := { stood := { row := handlesMakesUptoRow, standIns := [], harness := (true, "6e3b9112d0f0ea30bbcb545a522698b1a9b29726df9b975296e87f6da894fb86"), looks := false }, kinds := [], alts := [], laidByText := true, laidKinds := [.data], laidTests := true, laidLooks := .later }
def HandlesMakesUptoCardSaid : Prop := Claim7.holds Tryd.pinned (.plain (OpenSpec.upto handlesMakesSpec)) handlesMakesUptoCard

/-- THE SECOND FORM's CARD OF 'byrelaw12.HandlesBack'. -/
def handlesBackUptoCard : Claim7 := { stood := { row := handlesBackUptoRow, standIns := [], harness := (true, "6e3b9112d0f0ea30bbcb545a522698b1a9b29726df9b975296e87f6da894fb86"), looks := false }, kinds := [], alts := [], laidByText := true, laidKinds := [.data], laidTests := true, laidLooks := .later }
def HandlesBackUptoCardSaid : Prop := Claim7.holds Tryd.pinned (.plain (OpenSpec.upto handlesBackSpec)) handlesBackUptoCard

/-- THE SECOND FORM's CARD OF 'byrelaw12.HandlesRise'. -/
def handlesRiseUptoCard : Claim7 := { stood := { row := handlesRiseUptoRow, standIns := [], harness := (true, "6e3b9112d0f0ea30bbcb545a522698b1a9b29726df9b975296e87f6da894fb86"), looks := false }, kinds := [], alts := [], laidByText := true, laidKinds := [.data], laidTests := true, laidLooks := .later }
def HandlesRiseUptoCardSaid : Prop := Claim7.holds Tryd.pinned (.plain (OpenSpec.upto handlesRiseSpec)) handlesRiseUptoCard

/-- THE SECOND FORM's CARD OF 'byrelaw12.HandlesNext'. -/
def handlesNextUptoCard : Claim7 := { stood := { row := handlesNextUptoRow, standIns := [], harness := (true, "6e3b9112d0f0ea30bbcb545a522698b1a9b29726df9b975296e87f6da894fb86"), looks := false }, kinds := [], alts := [], laidByText := true, laidKinds := [.data], laidTests := true, laidLooks := .later }
def HandlesNextUptoCardSaid : Prop := Claim7.holds Tryd.pinned (.plain (OpenSpec.upto handlesNextSpec)) handlesNextUptoCard
end Rows
end Go.Proofs.YtljdmhiamonokaaDoor
