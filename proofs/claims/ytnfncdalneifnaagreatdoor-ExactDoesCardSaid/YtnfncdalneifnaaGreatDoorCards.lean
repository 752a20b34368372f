/-
  DERIVED. GIVEN WITH THE SEED: THE CARDS: each row of YtnfncdalneifnaaGreatDoorRows.lean that lists a variable, with what it lists TIED to the program's text (the seventh form; the later family's looks); each row that meets fmt, with fmt's text TOLD by the authors' own Lean function (tested against real Go, not proved from fmt's source: count such statements apart). THE CARD IS WHAT COUNTS. Prove the row's statement (the work); the ties are given (YtnfncdalneifnaaGreatDoorTie.lean); close each card by the builder's one call (the guide's Derived/Test/ToyasCard.lean, 'card_holds'). Laid BY PROGRAM, IN A SANDBOX (cutbox-door.mjs). By AI agents, Wed Nov 11 2026. No macro, syntax, notation, axiom, sorry.
-/
import Derived.Test.YtnfncdalneifnaaGreatDoorRows
import GoSem.ClaimSeven
namespace Go.Proofs.YtnfncdalneifnaaGreatDoor
namespace Rows

/-- THE TIED CARD OF 'tesseractlaw01.ExactDoes'. -/
def exactDoesCard : Claim7 := { stood := { row := exactDoesRow, standIns := [], harness := (true, "3b8c350f5aba89802818380dcc75116d0290c0bf0317b6051eb02233a9bb8362"), looks := true }, kinds := [], alts := [], laidByText := true, laidKinds := [.data, .data, .data, .data, .sentinel, .sentinel, .pinned], laidTests := true, laidLooks := .later }
def ExactDoesCardSaid : Prop := Claim7.holds Tryz.pinned (.plain (OpenSpec.ofChange exactDoesSpec)) exactDoesCard

/-- THE SECOND FORM's CARD OF 'tesseractlaw01.ExactDoes'. -/
def exactDoesUptoCard : Claim7 := { stood := { row := exactDoesUptoRow, standIns := [], harness := (true, "3b8c350f5aba89802818380dcc75116d0290c0bf0317b6051eb02233a9bb8362"), looks := true }, kinds := [], alts := [], laidByText := true, laidKinds := [.data, .data, .data, .data, .sentinel, .sentinel, .pinned], laidTests := true, laidLooks := .later }
def ExactDoesUptoCardSaid : Prop := Claim7.holds Tryz.pinned (.plain (OpenSpec.upto exactDoesSpec)) exactDoesUptoCard
end Rows
end Go.Proofs.YtnfncdalneifnaaGreatDoor
