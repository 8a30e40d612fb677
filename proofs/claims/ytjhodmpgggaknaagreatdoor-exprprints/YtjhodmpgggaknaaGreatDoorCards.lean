/-
  DERIVED. GIVEN WITH THE SEED: THE CARDS: each row of YtjhodmpgggaknaaGreatDoorRows.lean that lists a variable, with what it lists TIED to the program's text (the seventh form; the later family's looks); each row that meets fmt, with fmt's text TOLD by the authors' own Lean function (tested against real Go, not proved from fmt's source: count such statements apart). THE CARD IS WHAT COUNTS. Prove the row's statement (the work); the ties are given (YtjhodmpgggaknaaGreatDoorTie.lean); close each card by the builder's one call (the guide's Derived/Test/ToyasCard.lean, 'card_holds'). Laid BY PROGRAM, IN A SANDBOX (cutbox-door.mjs). By AI agents, Wed Nov 11 2026. No macro, syntax, notation, axiom, sorry.
-/
import Derived.Test.YtjhodmpgggaknaaGreatDoorRows
import GoSem.ClaimSeven
namespace Go.Proofs.YtjhodmpgggaknaaGreatDoor
namespace Rows

/-- THE TIED CARD OF 'tocsinlaw10.ExprReads'. -/
def exprReadsCard : Claim7 := { stood := { row := exprReadsRow, standIns := [], harness := (true, "0de5c6bda23e0a8c6fc41c4f9c256532d3b8c8c7ac968135fcbd1891ac288ff9"), looks := true }, kinds := [], alts := [], laidByText := true, laidKinds := [.data, .data, .data, .data, .sentinel, .sentinel, .data, .pinned], laidTests := true, laidLooks := .later }
def ExprReadsCardSaid : Prop := Claim7.holds Tryz.pinned (.plain (OpenSpec.ofChange exprReadsSpec)) exprReadsCard

/-- THE TIED CARD OF 'tocsinlaw10.ExprPrints'. -/
def exprPrintsCard : Claim7 := { stood := { row := exprPrintsRow, standIns := [], harness := (true, "0de5c6bda23e0a8c6fc41c4f9c256532d3b8c8c7ac968135fcbd1891ac288ff9"), looks := true }, kinds := [], alts := [], laidByText := true, laidKinds := [.data, .data, .data, .data, .data, .pinned], laidTests := true, laidLooks := .later }
def ExprPrintsCardSaid : Prop := Claim7.holds Tryz.pinned (.plain (OpenSpec.ofChange exprPrintsSpec)) exprPrintsCard

/-- THE TIED CARD OF 'tocsinlaw10.ExprFrom'. -/
def exprFromCard : Claim7 := { stood := { row := exprFromRow, standIns := [], harness := (true, "0de5c6bda23e0a8c6fc41c4f9c256532d3b8c8c7ac968135fcbd1891ac288ff9"), looks := true }, kinds := [], alts := [], laidByText := true, laidKinds := [.data, .data, .data, .data, .sentinel, .sentinel, .data, .pinned], laidTests := true, laidLooks := .later }
def ExprFromCardSaid : Prop := Claim7.holds Tryz.pinned (.plain (OpenSpec.ofChange exprFromSpec)) exprFromCard

/-- THE TIED CARD OF 'tocsinlaw10.ExprBack'. -/
def exprBackCard : Claim7 := { stood := { row := exprBackRow, standIns := [], harness := (true, "0de5c6bda23e0a8c6fc41c4f9c256532d3b8c8c7ac968135fcbd1891ac288ff9"), looks := true }, kinds := [], alts := [], laidByText := true, laidKinds := [.data, .data, .data, .data, .sentinel, .sentinel, .data, .pinned], laidTests := true, laidLooks := .later }
def ExprBackCardSaid : Prop := Claim7.holds Tryz.pinned (.plain (OpenSpec.ofChange exprBackSpec)) exprBackCard

/-- THE TIED CARD OF 'tocsinlaw10.ExprPairs'. -/
def exprPairsCard : Claim7 := { stood := { row := exprPairsRow, standIns := [], harness := (true, "0de5c6bda23e0a8c6fc41c4f9c256532d3b8c8c7ac968135fcbd1891ac288ff9"), looks := true }, kinds := [], alts := [], laidByText := true, laidKinds := [.data, .data, .data, .data, .sentinel, .sentinel, .data, .pinned], laidTests := true, laidLooks := .later }
def ExprPairsCardSaid : Prop := Claim7.holds Tryz.pinned (.plain (OpenSpec.ofChange exprPairsSpec)) exprPairsCard

/-- THE TIED CARD OF 'tocsinlaw10.ExprWhole'. -/
def exprWholeCard : Claim7 := { stood := { row := exprWholeRow, standIns := [], harness := (true, "0de5c6bda23e0a8c6fc41c4f9c256532d3b8c8c7ac968135fcbd1891ac288ff9"), looks := true }, kinds := [], alts := [], laidByText := true, laidKinds := [.data, .data, .data, .data, .sentinel, .sentinel, .data, .pinned], laidTests := true, laidLooks := .later }
def ExprWholeCardSaid : Prop := Claim7.holds Tryz.pinned (.plain (OpenSpec.ofChange exprWholeSpec)) exprWholeCard

/-- THE SECOND FORM's CARD OF 'tocsinlaw10.ExprReads'. -/
def exprReadsUptoCard : Claim7 := { stood := { row := exprReadsUptoRow, standIns := [], harness := (true, "0de5c6bda23e0a8c6fc41c4f9c256532d3b8c8c7ac968135fcbd1891ac288ff9"), looks := true }, kinds := [], alts := [], laidByText := true, laidKinds := [.data, .data, .data, .data, .sentinel, .sentinel, .data, .pinned], laidTests := true, laidLooks := .later }
def ExprReadsUptoCardSaid : Prop := Claim7.holds Tryz.pinned (.plain (OpenSpec.upto exprReadsSpec)) exprReadsUptoCard

/-- THE SECOND FORM's CARD OF 'tocsinlaw10.ExprPrints'. -/
def exprPrintsUptoCard : Claim7 := { stood := { row := exprPrintsUptoRow, standIns := [], harness := (true, "0de5c6bda23e0a8c6fc41c4f9c256532d3b8c8c7ac968135fcbd1891ac288ff9"), looks := true }, kinds := [], alts := [], laidByText := true, laidKinds := [.data, .data, .data, .data, .data, .pinned], laidTests := true, laidLooks := .later }
def ExprPrintsUptoCardSaid : Prop := Claim7.holds Tryz.pinned (.plain (OpenSpec.upto exprPrintsSpec)) exprPrintsUptoCard

/-- THE SECOND FORM's CARD OF 'tocsinlaw10.ExprFrom'. -/
def exprFromUptoCard : Claim7 := { stood := { row := exprFromUptoRow, standIns := [], harness := (true, "0de5c6bda23e0a8c6fc41c4f9c256532d3b8c8c7ac968135fcbd1891ac288ff9"), looks := true }, kinds := [], alts := [], laidByText := true, laidKinds := [.data, .data, .data, .data, .sentinel, .sentinel, .data, .pinned], laidTests := true, laidLooks := .later }
def ExprFromUptoCardSaid : Prop := Claim7.holds Tryz.pinned (.plain (OpenSpec.upto exprFromSpec)) exprFromUptoCard

/-- THE SECOND FORM's CARD OF 'tocsinlaw10.ExprBack'. -/
def exprBackUptoCard : Claim7 := { stood := { row := exprBackUptoRow, standIns := [], harness := (true, "0de5c6bda23e0a8c6fc41c4f9c256532d3b8c8c7ac968135fcbd1891ac288ff9"), looks := true }, kinds := [], alts := [], laidByText := true, laidKinds := [.data, .data, .data, .data, .sentinel, .sentinel, .data, .pinned], laidTests := true, laidLooks := .later }
def ExprBackUptoCardSaid : Prop := Claim7.holds Tryz.pinned (.plain (OpenSpec.upto exprBackSpec)) exprBackUptoCard

/-- THE SECOND FORM's CARD OF 'tocsinlaw10.ExprPairs'. -/
def exprPairsUptoCard : Claim7 := { stood := { row := exprPairsUptoRow, standIns := [], harness := (true, "0de5c6bda23e0a8c6fc41c4f9c256532d3b8c8c7ac968135fcbd1891ac288ff9"), looks := true }, kinds := [], alts := [], laidByText := true, laidKinds := [.data, .data, .data, .data, .sentinel, .sentinel, .data, .pinned], laidTests := true, laidLooks := .later }
def ExprPairsUptoCardSaid : Prop := Claim7.holds Tryz.pinned (.plain (OpenSpec.upto exprPairsSpec)) exprPairsUptoCard

/-- THE SECOND FORM's CARD OF 'tocsinlaw10.ExprWhole'. -/
def exprWholeUptoCard : Claim7 := { stood := { row := exprWholeUptoRow, standIns := [], harness := (true, "0de5c6bda23e0a8c6fc41c4f9c256532d3b8c8c7ac968135fcbd1891ac288ff9"), looks := true }, kinds := [], alts := [], laidByText := true, laidKinds := [.data, .data, .data, .data, .sentinel, .sentinel, .data, .pinned], laidTests := true, laidLooks := .later }
def ExprWholeUptoCardSaid : Prop := Claim7.holds Tryz.pinned (.plain (OpenSpec.upto exprWholeSpec)) exprWholeUptoCard
end Rows
end Go.Proofs.YtjhodmpgggaknaaGreatDoor
