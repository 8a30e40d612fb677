/-
  DERIVED. GIVEN WITH THE SEED: THE CARDS: each row of YtdiflalllajagabDoorRows.lean that lists a variable, with what it lists TIED to the program's text (the seventh form; the later family's looks); each row that meets fmt, with fmt's text TOLD by the authors' own Lean function (tested against real Go, not proved from fmt's source: count such statements apart). THE CARD IS WHAT COUNTS. Prove the row's statement (the work); the ties are given (YtdiflalllajagabDoorTie.lean); close each card by the builder's one call (the guide's Derived/Test/ToyasCard.lean, 'card_holds'). Laid BY PROGRAM, IN A SANDBOX (cutbox-door.mjs). By AI agents, Wed Nov 11 2026. No macro, syntax, notation, axiom, sorry.
-/
import Derived.Test.YtdiflalllajagabDoorRows
import GoSem.ClaimSeven
namespace Go.Proofs.YtdiflalllajagabDoor
namespace Rows

/-- THE TIED CARD OF 'tocsinlaw01.FixedEqual'. -/
def fixedEqualCard : Claim7 := { stood := { row := fixedEqualRow, standIns := [], harness := (true, "8065065f0a1bd10e60757bd21c9227da07d98b50f16e10f43d69137a89b9d475"), looks := false }, kinds := [], alts := [], laidByText := true, laidKinds := [.data, .data, .data, .data, .pinned], laidTests := true, laidLooks := .later }
def FixedEqualCardSaid : Prop := Claim7.holds Tryd.pinned (.plain (OpenSpec.ofChange fixedEqualSpec)) fixedEqualCard

/-- THE TIED CARD OF 'tocsinlaw01.FixedSigns'. -/
def fixedSignsCard : Claim7 := { stood := { row := fixedSignsRow, standIns := [], harness := (true, "8065065f0a1bd10e60757bd21c9227da07d98b50f16e10f43d69137a89b9d475"), looks := false }, kinds := [], alts := [], laidByText := true, laidKinds := [.data, .data, .data, .data, .pinned], laidTests := true, laidLooks := .later }
def FixedSignsCardSaid : Prop := Claim7.holds Tryd.pinned (.plain (OpenSpec.ofChange fixedSignsSpec)) fixedSignsCard

/-- THE TIED CARD OF 'tocsinlaw01.FixedNoughts'. -/
def fixedNoughtsCard : Claim7 := { stood := { row := fixedNoughtsRow, standIns := [], harness := (true, "8065065f0a1bd10e60757bd21c9227da07d98b50f16e10f43d69137a89b9d475"), looks := false }, kinds := [], alts := [], laidByText := true, laidKinds := [.data, .data, .data, .data, .pinned], laidTests := true, laidLooks := .later }
def FixedNoughtsCardSaid : Prop := Claim7.holds Tryd.pinned (.plain (OpenSpec.ofChange fixedNoughtsSpec)) fixedNoughtsCard

/-- THE SECOND FORM's CARD OF 'tocsinlaw01.FixedEqual'. -/
def fixedEqualUptoCard : Claim7 := { stood := { row := fixedEqualUptoRow, standIns := [], harness := (true, "8065065f0a1bd10e60757bd21c9227da07d98b50f16e10f43d69137a89b9d475"), looks := false }, kinds := [], alts := [], laidByText := true, laidKinds := [.data, .data, .data, .data, .pinned], laidTests := true, laidLooks := .later }
def FixedEqualUptoCardSaid : Prop := Claim7.holds Tryd.pinned (.plain (OpenSpec.upto fixedEqualSpec)) fixedEqualUptoCard

/-- THE SECOND FORM's CARD OF 'tocsinlaw01.FixedSigns'. -/
def fixedSignsUptoCard : Claim7 := { stood := { row := fixedSignsUptoRow, standIns := [], harness := (true, "8065065f0a1bd10e60757bd21c9227da07d98b50f16e10f43d69137a89b9d475"), looks := false }, kinds := [], alts := [], laidByText := true, laidKinds := [.data, .data, .data, .data, .pinned], laidTests := true, laidLooks := .later }
def FixedSignsUptoCardSaid : Prop := Claim7.holds Tryd.pinned (.plain (OpenSpec.upto fixedSignsSpec)) fixedSignsUptoCard

/-- THE SECOND FORM's CARD OF 'tocsinlaw01.FixedNoughts'. -/
def fixedNoughtsUptoCard : Claim7 := { stood := { row := fixedNoughtsUptoRow, standIns := [], harness := (true, "8065065f0a1bd10e60757bd21c9227da07d98b50f16e10f43d69137a89b9d475"), looks := false }, kinds := [], alts := [], laidByText := true, laidKinds := [.data, .data, .data, .data, .pinned], laidTests := true, laidLooks := .later }
def FixedNoughtsUptoCardSaid : Prop := Claim7.holds Tryd.pinned (.plain (OpenSpec.upto fixedNoughtsSpec)) fixedNoughtsUptoCard
end Rows
end Go.Proofs.YtdiflalllajagabDoor
