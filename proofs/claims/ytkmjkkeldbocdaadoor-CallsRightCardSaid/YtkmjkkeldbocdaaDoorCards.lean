/-
  DERIVED. GIVEN WITH THE SEED: THE CARDS: each row of YtkmjkkeldbocdaaDoorRows.lean that lists a variable, with what it lists TIED to the program's text (the seventh form; the later family's looks); each row that meets fmt, with fmt's text TOLD by the authors' own Lean function (tested against real Go, not proved from fmt's source: count such statements apart). THE CARD IS WHAT COUNTS. Prove the row's statement (the work); the ties are given (YtkmjkkeldbocdaaDoorTie.lean); close each card by the builder's one call (the guide's Derived/Test/ToyasCard.lean, 'card_holds'). Laid BY PROGRAM, IN A SANDBOX (cutbox-door.mjs). By AI agents, Wed Nov 11 2026. No macro, syntax, notation, axiom, sorry.
-/
import Derived.Test.YtkmjkkeldbocdaaDoorRows
import GoSem.ClaimSeven
namespace Go.Proofs.YtkmjkkeldbocdaaDoor
namespace Rows

/-- THE TIED CARD OF 'byrelaw19.CallsForms'. -/
def callsFormsCard : Claim7 := { stood := { row := callsFormsRow, standIns := [], harness := (true, "58843b7d39b31d51cabe00380a85bc7cebc517d373fff45d64eadeb814f235ab"), looks := false }, kinds := [], alts := [], laidByText := true, laidKinds := [.data], laidTests := true, laidLooks := .later }
def CallsFormsCardSaid : Prop := Claim7.holds Tryd.pinned (.plain (OpenSpec.ofChange callsFormsSpec)) callsFormsCard

/-- THE TIED CARD OF 'byrelaw19.CallsReads'. -/
def callsReadsCard : Claim7 := { stood := { row := callsReadsRow, standIns := [], harness := (true, "58843b7d39b31d51cabe00380a85bc7cebc517d373fff45d64eadeb814f235ab"), looks := false }, kinds := [], alts := [], laidByText := true, laidKinds := [.data], laidTests := true, laidLooks := .later }
def CallsReadsCardSaid : Prop := Claim7.holds Tryd.pinned (.plain (OpenSpec.ofChange callsReadsSpec)) callsReadsCard

/-- THE TIED CARD OF 'byrelaw19.CallsWrong'. -/
def callsWrongCard : Claim7 := { stood := { row := callsWrongRow, standIns := [], harness := (true, "58843b7d39b31d51cabe00380a85bc7cebc517d373fff45d64eadeb814f235ab"), looks := false }, kinds := [], alts := [], laidByText := true, laidKinds := [.data], laidTests := true, laidLooks := .later }
def CallsWrongCardSaid : Prop := Claim7.holds Tryd.pinned (.plain (OpenSpec.ofChange callsWrongSpec)) callsWrongCard

/-- THE TIED CARD OF 'byrelaw19.CallsResults'. -/
def callsResultsCard : Claim7 := { stood := { row := callsResultsRow, standIns := [], harness := (true, "58843b7d39b31d51cabe00380a85bc7cebc517d373fff45d64eadeb814f235ab"), looks := false }, kinds := [], alts := [], laidByText := true, laidKinds := [.data], laidTests := true, laidLooks := .later }
def CallsResultsCardSaid : Prop := Claim7.holds Tryd.pinned (.plain (OpenSpec.ofChange callsResultsSpec)) callsResultsCard

/-- THE TIED CARD OF 'byrelaw19.CallsOnly'. -/
def callsOnlyCard : Claim7 := { stood := { row := callsOnlyRow, standIns := [], harness := (true, "58843b7d39b31d51cabe00380a85bc7cebc517d373fff45d64eadeb814f235ab"), looks := false }, kinds := [], alts := [], laidByText := true, laidKinds := [.data], laidTests := true, laidLooks := .later }
def CallsOnlyCardSaid : Prop := Claim7.holds Tryd.pinned (.plain (OpenSpec.ofChange callsOnlySpec)) callsOnlyCard

/-- THE TIED CARD OF 'byrelaw19.CallsRight'. -/
def callsRightCard : Claim7 := { stood := { row := callsRightRow, standIns := [], harness := (true, "58843b7d39b31d51cabe00380a85bc7cebc517d373fff45d64eadeb814f235ab"), looks := false }, kinds := [], alts := [], laidByText := true, laidKinds := [.data], laidTests := true, laidLooks := .later }
def CallsRightCardSaid : Prop := Claim7.holds Tryd.pinned (.plain (OpenSpec.ofChange callsRightSpec)) callsRightCard

/-- THE TIED CARD OF 'byrelaw19.CallsTwo'. -/
def callsTwoCard : Claim7 := { stood := { row := callsTwoRow, standIns := [], harness := (true, "58843b7d39b31d51cabe00380a85bc7cebc517d373fff45d64eadeb814f235ab"), looks := false }, kinds := [], alts := [], laidByText := true, laidKinds := [.data], laidTests := true, laidLooks := .later }
def CallsTwoCardSaid : Prop := Claim7.holds Tryd.pinned (.plain (OpenSpec.ofChange callsTwoSpec)) callsTwoCard

/-- THE SECOND FORM's CARD OF 'byrelaw19.CallsForms'. -/
def callsFormsUptoCard : Claim7 := { stood := { row := callsFormsUptoRow, standIns := [], harness := (true, "58843b7d39b31d51cabe00380a85bc7cebc517d373fff45d64eadeb814f235ab"), looks := false }, kinds := [], alts := [], laidByText := true, laidKinds := [.data], laidTests := true, laidLooks := .later }
def CallsFormsUptoCardSaid : Prop := Claim7.holds Tryd.pinned (.plain (OpenSpec.upto callsFormsSpec)) callsFormsUptoCard

/-- THE SECOND FORM's CARD OF 'byrelaw19.CallsReads'. -/
def callsReadsUptoCard : Claim7 := { stood := { row := callsReadsUptoRow, standIns := [], harness := (true, "58843b7d39b31d51cabe00380a85bc7cebc517d373fff45d64eadeb814f235ab"), looks := false }, kinds := [], alts := [], laidByText := true, laidKinds := [.data], laidTests := true, laidLooks := .later }
def CallsReadsUptoCardSaid : Prop := Claim7.holds Tryd.pinned (.plain (OpenSpec.upto callsReadsSpec)) callsReadsUptoCard

/-- THE SECOND FORM's CARD OF 'byrelaw19.CallsWrong'. -/
def callsWrongUptoCard : Claim7 := { stood := { row := callsWrongUptoRow, standIns := [], harness := (true, "58843b7d39b31d51cabe00380a85bc7cebc517d373fff45d64eadeb814f235ab"), looks := false }, kinds := [], alts := [], laidByText := true, laidKinds := [.data], laidTests := true, laidLooks := .later }
def CallsWrongUptoCardSaid : Prop := Claim7.holds Tryd.pinned (.plain (OpenSpec.upto callsWrongSpec)) callsWrongUptoCard

/-- THE SECOND FORM's CARD OF 'byrelaw19.CallsResults'. -/
def callsResultsUptoCard : Claim7 := { stood := { row := callsResultsUptoRow, standIns := [], harness := (true, "58843b7d39b31d51cabe00380a85bc7cebc517d373fff45d64eadeb814f235ab"), looks := false }, kinds := [], alts := [], laidByText := true, laidKinds := [.data], laidTests := true, laidLooks := .later }
def CallsResultsUptoCardSaid : Prop := Claim7.holds Tryd.pinned (.plain (OpenSpec.upto callsResultsSpec)) callsResultsUptoCard

/-- THE SECOND FORM's CARD OF 'byrelaw19.CallsOnly'. -/
def callsOnlyUptoCard : Claim7 := { stood := { row := callsOnlyUptoRow, standIns := [], harness := (true, "58843b7d39b31d51cabe00380a85bc7cebc517d373fff45d64eadeb814f235ab"), looks := false }, kinds := [], alts := [], laidByText := true, laidKinds := [.data], laidTests := true, laidLooks := .later }
def CallsOnlyUptoCardSaid : Prop := Claim7.holds Tryd.pinned (.plain (OpenSpec.upto callsOnlySpec)) callsOnlyUptoCard

/-- THE SECOND FORM's CARD OF 'byrelaw19.CallsRight'. -/
def callsRightUptoCard : Claim7 := { stood := { row := callsRightUptoRow, standIns := [], harness := (true, "58843b7d39b31d51cabe00380a85bc7cebc517d373fff45d64eadeb814f235ab"), looks := false }, kinds := [], alts := [], laidByText := true, laidKinds := [.data], laidTests := true, laidLooks := .later }
def CallsRightUptoCardSaid : Prop := Claim7.holds Tryd.pinned (.plain (OpenSpec.upto callsRightSpec)) callsRightUptoCard

/-- THE SECOND FORM's CARD OF 'byrelaw19.CallsTwo'. -/
def callsTwoUptoCard : Claim7 := { stood := { row := callsTwoUptoRow, standIns := [], harness := (true, "58843b7d39b31d51cabe00380a85bc7cebc517d373fff45d64eadeb814f235ab"), looks := false }, kinds := [], alts := [], laidByText := true, laidKinds := [.data], laidTests := true, laidLooks := .later }
def CallsTwoUptoCardSaid : Prop := Claim7.holds Tryd.pinned (.plain (OpenSpec.upto callsTwoSpec)) callsTwoUptoCard
end Rows
end Go.Proofs.YtkmjkkeldbocdaaDoor
