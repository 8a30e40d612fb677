/-
  DERIVED. GIVEN WITH THE SEED: THE CARDS: each row of YtjhodmpgggaknabGreatDoorRows.lean that lists a variable, with what it lists TIED to the program's text (the seventh form; the later family's looks); each row that meets fmt, with fmt's text TOLD by the authors' own Lean function (tested against real Go, not proved from fmt's source: count such statements apart). THE CARD IS WHAT COUNTS. Prove the row's statement (the work); the ties are given (YtjhodmpgggaknabGreatDoorTie.lean); close each card by the builder's one call (the guide's Derived/Test/ToyasCard.lean, 'card_holds'). Laid BY PROGRAM, IN A SANDBOX (cutbox-door.mjs). By AI agents, Wed Nov 11 2026. No macro, syntax, notation, axiom, sorry.
-/
import Derived.Test.YtjhodmpgggaknabGreatDoorRows
import GoSem.ClaimSeven
namespace Go.Proofs.YtjhodmpgggaknabGreatDoor
namespace Rows

/-- THE TIED CARD OF 'tocsinlaw10.ExprCounts'. -/
def exprCountsCard : Claim7 := { stood := { row := exprCountsRow, standIns := [], harness := (true, "707e8336eb61095b10cbf6105f85c2175716be4bc322fd64d5fd654a9abdafbf"), looks := true }, kinds := [], alts := [], laidByText := true, laidKinds := [.data, .data, .data, .data, .sentinel, .sentinel, .data, .pinned], laidTests := true, laidLooks := .later }
def ExprCountsCardSaid : Prop := Claim7.holds Tryz.pinned (.plain (OpenSpec.ofChange exprCountsSpec)) exprCountsCard

/-- THE TIED CARD OF 'tocsinlaw10.ExprRound'. -/
def exprRoundCard : Claim7 := { stood := { row := exprRoundRow, standIns := [], harness := (true, "707e8336eb61095b10cbf6105f85c2175716be4bc322fd64d5fd654a9abdafbf"), looks := true }, kinds := [], alts := [], laidByText := true, laidKinds := [.data, .data, .data, .data, .sentinel, .sentinel, .data, .pinned], laidTests := true, laidLooks := .later }
def ExprRoundCardSaid : Prop := Claim7.holds Tryz.pinned (.plain (OpenSpec.ofChange exprRoundSpec)) exprRoundCard

/-- THE TIED CARD OF 'tocsinlaw10.ExprBegins'. -/
def exprBeginsCard : Claim7 := { stood := { row := exprBeginsRow, standIns := [], harness := (true, "707e8336eb61095b10cbf6105f85c2175716be4bc322fd64d5fd654a9abdafbf"), looks := true }, kinds := [], alts := [], laidByText := true, laidKinds := [.data, .data, .data, .data, .sentinel, .sentinel, .data, .pinned], laidTests := true, laidLooks := .later }
def ExprBeginsCardSaid : Prop := Claim7.holds Tryz.pinned (.plain (OpenSpec.ofChange exprBeginsSpec)) exprBeginsCard

/-- THE SECOND FORM's CARD OF 'tocsinlaw10.ExprCounts'. -/
def exprCountsUptoCard : Claim7 := { stood := { row := exprCountsUptoRow, standIns := [], harness := (true, "707e8336eb61095b10cbf6105f85c2175716be4bc322fd64d5fd654a9abdafbf"), looks := true }, kinds := [], alts := [], laidByText := true, laidKinds := [.data, .data, .data, .data, .sentinel, .sentinel, .data, .pinned], laidTests := true, laidLooks := .later }
def ExprCountsUptoCardSaid : Prop := Claim7.holds Tryz.pinned (.plain (OpenSpec.upto exprCountsSpec)) exprCountsUptoCard

/-- THE SECOND FORM's CARD OF 'tocsinlaw10.ExprRound'. -/
def exprRoundUptoCard : Claim7 := { stood := { row := exprRoundUptoRow, standIns := [], harness := (true, "707e8336eb61095b10cbf6105f85c2175716be4bc322fd64d5fd654a9abdafbf"), looks := true }, kinds := [], alts := [], laidByText := true, laidKinds := [.data, .data, .data, .data, .sentinel, .sentinel, .data, .pinned], laidTests := true, laidLooks := .later }
def ExprRoundUptoCardSaid : Prop := Claim7.holds Tryz.pinned (.plain (OpenSpec.upto exprRoundSpec)) exprRoundUptoCard

/-- THE SECOND FORM's CARD OF 'tocsinlaw10.ExprBegins'. -/
def exprBeginsUptoCard : Claim7 := { stood := { row := exprBeginsUptoRow, standIns := [], harness := (true, "707e8336eb61095b10cbf6105f85c2175716be4bc322fd64d5fd654a9abdafbf"), looks := true }, kinds := [], alts := [], laidByText := true, laidKinds := [.data, .data, .data, .data, .sentinel, .sentinel, .data, .pinned], laidTests := true, laidLooks := .later }
def ExprBeginsUptoCardSaid : Prop := Claim7.holds Tryz.pinned (.plain (OpenSpec.upto exprBeginsSpec)) exprBeginsUptoCard
end Rows
end Go.Proofs.YtjhodmpgggaknabGreatDoor
