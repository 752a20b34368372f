/-
  DERIVED. GIVEN WITH THE SEED: THE CARDS: each row of YtogmbehomilalaaGreatDoorRows.lean that lists a variable, with what it lists TIED to the program's text (the seventh form; the later family's looks); each row that meets fmt, with fmt's text TOLD by the authors' own Lean function (tested against real Go, not proved from fmt's source: count such statements apart). THE CARD IS WHAT COUNTS. Prove the row's statement (the work); the ties are given (YtogmbehomilalaaGreatDoorTie.lean); close each card by the builder's one call (the guide's Derived/Test/ToyasCard.lean, 'card_holds'). Laid BY PROGRAM, IN A SANDBOX (cutbox-door.mjs). By AI agents, Wed Nov 11 2026. No macro, syntax, notation, axiom, sorry.
-/
import Derived.Test.YtogmbehomilalaaGreatDoorRows
import GoSem.ClaimSeven
namespace Go.Proofs.YtogmbehomilalaaGreatDoor
namespace Rows

/-- THE TIED CARD OF 'tesseractlaw02.SpaceMake'. -/
def spaceMakeCard : Claim7 := { stood := { row := spaceMakeRow, standIns := [], harness := (true, "c4a96ebd5362ae79ba9b06229f927f68b9429704db8114a94eaf2d3e8b85fad5"), looks := false }, kinds := [], alts := [], laidByText := true, laidKinds := [.data, .data, .data, .data, .data, .pinned], laidTests := true, laidLooks := .later }
def SpaceMakeCardSaid : Prop := Claim7.holds Tryz.pinned (.plain (OpenSpec.ofChange spaceMakeSpec)) spaceMakeCard

/-- THE TIED CARD OF 'tesseractlaw02.SpaceOrder'. -/
def spaceOrderCard : Claim7 := { stood := { row := spaceOrderRow, standIns := [], harness := (true, "c4a96ebd5362ae79ba9b06229f927f68b9429704db8114a94eaf2d3e8b85fad5"), looks := false }, kinds := [], alts := [], laidByText := true, laidKinds := [.data, .data, .data, .data, .data, .pinned], laidTests := true, laidLooks := .later }
def SpaceOrderCardSaid : Prop := Claim7.holds Tryz.pinned (.plain (OpenSpec.ofChange spaceOrderSpec)) spaceOrderCard

/-- THE SECOND FORM's CARD OF 'tesseractlaw02.SpaceMake'. -/
def spaceMakeUptoCard : Claim7 := { stood := { row := spaceMakeUptoRow, standIns := [], harness := (true, "c4a96ebd5362ae79ba9b06229f927f68b9429704db8114a94eaf2d3e8b85fad5"), looks := false }, kinds := [], alts := [], laidByText := true, laidKinds := [.data, .data, .data, .data, .data, .pinned], laidTests := true, laidLooks := .later }
def SpaceMakeUptoCardSaid : Prop := Claim7.holds Tryz.pinned (.plain (OpenSpec.upto spaceMakeSpec)) spaceMakeUptoCard

/-- THE SECOND FORM's CARD OF 'tesseractlaw02.SpaceOrder'. -/
def spaceOrderUptoCard : Claim7 := { stood := { row := spaceOrderUptoRow, standIns := [], harness := (true, "c4a96ebd5362ae79ba9b06229f927f68b9429704db8114a94eaf2d3e8b85fad5"), looks := false }, kinds := [], alts := [], laidByText := true, laidKinds := [.data, .data, .data, .data, .data, .pinned], laidTests := true, laidLooks := .later }
def SpaceOrderUptoCardSaid : Prop := Claim7.holds Tryz.pinned (.plain (OpenSpec.upto spaceOrderSpec)) spaceOrderUptoCard
end Rows
end Go.Proofs.YtogmbehomilalaaGreatDoor
