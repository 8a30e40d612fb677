/-
  DERIVED. GIVEN WITH THE SEED: THE CARDS: each row of YtihgikekkgoddaaGreatDoorRows.lean that lists a variable, with what it lists TIED to the program's text (the seventh form; the later family's looks); each row that meets fmt, with fmt's text TOLD by the authors' own Lean function (tested against real Go, not proved from fmt's source: count such statements apart). THE CARD IS WHAT COUNTS. Prove the row's statement (the work); the ties are given (YtihgikekkgoddaaGreatDoorTie.lean); close each card by the builder's one call (the guide's Derived/Test/ToyasCard.lean, 'card_holds'). Laid BY PROGRAM, IN A SANDBOX (cutbox-door.mjs). By AI agents, Wed Nov 11 2026. No macro, syntax, notation, axiom, sorry.
-/
import Derived.Test.YtihgikekkgoddaaGreatDoorRows
import GoSem.ClaimSeven
namespace Go.Proofs.YtihgikekkgoddaaGreatDoor
namespace Rows

/-- THE TIED CARD OF 'tocsinlaw05.LogNil'. -/
def logNilCard : Claim7 := { stood := { row := logNilRow, standIns := [], harness := (true, "d8b339da18daa2bff2dff0bda783c0d07e8f8c45f014850193bb572acd9f1d13"), looks := true }, kinds := [], alts := [], laidByText := true, laidKinds := [.data, .data, .data, .sentinel, .sentinel], laidTests := true, laidLooks := .later }
def LogNilCardSaid : Prop := Claim7.holds Tryz.pinned (.plain (OpenSpec.ofChange logNilSpec)) logNilCard

/-- THE TIED CARD OF 'tocsinlaw05.LogRecovers'. -/
def logRecoversCard : Claim7 := { stood := { row := logRecoversRow, standIns := [], harness := (true, "d8b339da18daa2bff2dff0bda783c0d07e8f8c45f014850193bb572acd9f1d13"), looks := true }, kinds := [], alts := [], laidByText := true, laidKinds := [.data, .data, .data, .sentinel, .sentinel], laidTests := true, laidLooks := .later }
def LogRecoversCardSaid : Prop := Claim7.holds Tryz.pinned (.plain (OpenSpec.ofChange logRecoversSpec)) logRecoversCard

/-- THE TIED CARD OF 'tocsinlaw05.LogBack'. -/
def logBackCard : Claim7 := { stood := { row := logBackRow, standIns := [], harness := (true, "d8b339da18daa2bff2dff0bda783c0d07e8f8c45f014850193bb572acd9f1d13"), looks := true }, kinds := [], alts := [], laidByText := true, laidKinds := [.data, .data, .data, .sentinel, .sentinel], laidTests := true, laidLooks := .later }
def LogBackCardSaid : Prop := Claim7.holds Tryz.pinned (.plain (OpenSpec.ofChange logBackSpec)) logBackCard

/-- THE TIED CARD OF 'tocsinlaw05.LogSynced'. -/
def logSyncedCard : Claim7 := { stood := { row := logSyncedRow, standIns := [], harness := (true, "d8b339da18daa2bff2dff0bda783c0d07e8f8c45f014850193bb572acd9f1d13"), looks := true }, kinds := [], alts := [], laidByText := true, laidKinds := [.data, .data, .data, .sentinel, .sentinel], laidTests := true, laidLooks := .later }
def LogSyncedCardSaid : Prop := Claim7.holds Tryz.pinned (.plain (OpenSpec.ofChange logSyncedSpec)) logSyncedCard

/-- THE SECOND FORM's CARD OF 'tocsinlaw05.LogNil'. -/
def logNilUptoCard : Claim7 := { stood := { row := logNilUptoRow, standIns := [], harness := (true, "d8b339da18daa2bff2dff0bda783c0d07e8f8c45f014850193bb572acd9f1d13"), looks := true }, kinds := [], alts := [], laidByText := true, laidKinds := [.data, .data, .data, .sentinel, .sentinel], laidTests := true, laidLooks := .later }
def LogNilUptoCardSaid : Prop := Claim7.holds Tryz.pinned (.plain (OpenSpec.upto logNilSpec)) logNilUptoCard

/-- THE SECOND FORM's CARD OF 'tocsinlaw05.LogRecovers'. -/
def logRecoversUptoCard : Claim7 := { stood := { row := logRecoversUptoRow, standIns := [], harness := (true, "d8b339da18daa2bff2dff0bda783c0d07e8f8c45f014850193bb572acd9f1d13"), looks := true }, kinds := [], alts := [], laidByText := true, laidKinds := [.data, .data, .data, .sentinel, .sentinel], laidTests := true, laidLooks := .later }
def LogRecoversUptoCardSaid : Prop := Claim7.holds Tryz.pinned (.plain (OpenSpec.upto logRecoversSpec)) logRecoversUptoCard

/-- THE SECOND FORM's CARD OF 'tocsinlaw05.LogBack'. -/
def logBackUptoCard : Claim7 := { stood := { row := logBackUptoRow, standIns := [], harness := (true, "d8b339da18daa2bff2dff0bda783c0d07e8f8c45f014850193bb572acd9f1d13"), looks := true }, kinds := [], alts := [], laidByText := true, laidKinds := [.data, .data, .data, .sentinel, .sentinel], laidTests := true, laidLooks := .later }
def LogBackUptoCardSaid : Prop := Claim7.holds Tryz.pinned (.plain (OpenSpec.upto logBackSpec)) logBackUptoCard

/-- THE SECOND FORM's CARD OF 'tocsinlaw05.LogSynced'. -/
def logSyncedUptoCard : Claim7 := { stood := { row := logSyncedUptoRow, standIns := [], harness := (true, "d8b339da18daa2bff2dff0bda783c0d07e8f8c45f014850193bb572acd9f1d13"), looks := true }, kinds := [], alts := [], laidByText := true, laidKinds := [.data, .data, .data, .sentinel, .sentinel], laidTests := true, laidLooks := .later }
def LogSyncedUptoCardSaid : Prop := Claim7.holds Tryz.pinned (.plain (OpenSpec.upto logSyncedSpec)) logSyncedUptoCard
end Rows
end Go.Proofs.YtihgikekkgoddaaGreatDoor
