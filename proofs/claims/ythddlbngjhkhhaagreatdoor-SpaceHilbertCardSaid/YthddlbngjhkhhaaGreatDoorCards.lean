/-
  DERIVED. GIVEN WITH THE SEED: THE CARDS: each row of YthddlbngjhkhhaaGreatDoorRows.lean that lists a variable, with what it lists TIED to the program's text (the seventh form; the later family's looks); each row that meets fmt, with fmt's text TOLD by the authors' own Lean function (tested against real Go, not proved from fmt's source: count such statements apart). THE CARD IS WHAT COUNTS. Prove the row's statement (the work); the ties are given (YthddlbngjhkhhaaGreatDoorTie.lean); close each card by the builder's one call (the guide's Derived/Test/ToyasCard.lean, 'card_holds'). Laid BY PROGRAM, IN A SANDBOX (cutbox-door.mjs). By AI agents, Wed Nov 11 2026. No macro, syntax, notation, axiom, sorry.
-/
import Derived.Test.YthddlbngjhkhhaaGreatDoorRows
import GoSem.ClaimSeven
namespace Go.Proofs.YthddlbngjhkhhaaGreatDoor
namespace Rows

/-- THE TIED CARD OF 'tesseractlaw02.SpaceHilbert'. -/
def spaceHilbertCard : Claim7 := { stood := { row := spaceHilbertRow, standIns := [], harness := (true, "9a64dda1ea62c0f77a3c830ab2fa42d364530ba1fdee616898c297f8eb9a784d"), looks := false }, kinds := [], alts := [], laidByText := true, laidKinds := [.data, .data, .data, .data, .data, .pinned], laidTests := true, laidLooks := .later }
def SpaceHilbertCardSaid : Prop := Claim7.holds Tryz.pinned (.plain (OpenSpec.ofChange spaceHilbertSpec)) spaceHilbertCard

/-- THE SECOND FORM's CARD OF 'tesseractlaw02.SpaceHilbert'. -/
def spaceHilbertUptoCard : Claim7 := { stood := { row := spaceHilbertUptoRow, standIns := [], harness := (true, "9a64dda1ea62c0f77a3c830ab2fa42d364530ba1fdee616898c297f8eb9a784d"), looks := false }, kinds := [], alts := [], laidByText := true, laidKinds := [.data, .data, .data, .data, .data, .pinned], laidTests := true, laidLooks := .later }
def SpaceHilbertUptoCardSaid : Prop := Claim7.holds Tryz.pinned (.plain (OpenSpec.upto spaceHilbertSpec)) spaceHilbertUptoCard
end Rows
end Go.Proofs.YthddlbngjhkhhaaGreatDoor
